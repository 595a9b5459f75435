/-
  A key is read back: what the reader makes of a list's key is the list. Lists and numbers alone: no walk.
-/
import Derived.Test.YtgjcienechfapaaDoorAll
namespace Go.Proofs.YtgjcienechfapaaDoor
open Go.RowKit

theorem beNat_upper (u : Nat) (hu : u < 18446744073709551616) : ∀ k, k ≤ 8 → beNat (upper u k) = u / 2 ^ (8 * (8 - k))
  | 0, _ => by
    simp only [upper, Nat.sub_zero]
    rw [Nat.div_eq_of_lt (by simpa using hu)]
    rfl
  | k + 1, hk => by
    simp only [upper]
    rw [beNat_snoc, beNat_upper u hu k (by omega), show 8 - k = (7 - k) + 1 from by omega, show 8 - (k + 1) = 7 - k from by omega]
    have e : u / 2 ^ (8 * (7 - k + 1)) = u / 2 ^ (8 * (7 - k)) / 256 := by
      rw [Nat.div_div_eq_div_mul, show 8 * (7 - k + 1) = 8 * (7 - k) + 8 from by omega, Nat.pow_add]
    rw [e]
    simp only [byteAt, UInt8.toNat_ofNat']
    omega

theorem beNat_upper8 (u : Nat) (hu : u < 18446744073709551616) : beNat (upper u 8) = u := by
  have := beNat_upper u hu 8 (by omega)
  simpa using this

theorem unlift_num (n : Int) (h1 : -4611686018427387904 ≤ n) (h2 : n ≤ 4611686018427387904) : unlift (beNat (upper (n + 4611686018427387904).toNat 8)) = n := by
  rw [beNat_upper8 _ (by omega)]
  unfold unlift
  split <;> omega

theorem take_left8 (a b : List UInt8) (h : a.length = 8) : (a ++ b).take 8 = a ∧ (a ++ b).drop 8 = b := by
  constructor
  · rw [← h]; exact List.take_left
  · rw [← h]; exact List.drop_left

theorem decT_back (t : List UInt8) : ∀ (acc rest : List UInt8), acc.length + t.length ≤ 256 → decT acc (textKey t ++ rest) = some (acc ++ t, rest) := by
  induction hn : t.length using Nat.strongRecOn generalizing t with
  | _ n ih =>
    intro acc rest hl
    have hfar : ¬ 256 < acc.length := by omega
    by_cases h7 : 7 ≤ t.length
    · rw [textKey_long h7]
      have hlen : 8 ≤ (t.take 7 ++ 8 :: textKey (t.drop 7) ++ rest).length := by simp; omega
      have hg : (t.take 7 ++ 8 :: textKey (t.drop 7) ++ rest)[7] = 8 := by
        rw [List.getElem_append_left (by simp; omega), List.getElem_append_right (by simp; omega)]
        simp [h7]
      rw [decT_on hfar hlen hg]
      have e1 : (t.take 7 ++ 8 :: textKey (t.drop 7) ++ rest).take 7 = t.take 7 := by
        rw [List.append_assoc, List.take_append_of_le_length (by simp; omega), List.take_take, Nat.min_self]
      have e2 : (t.take 7 ++ 8 :: textKey (t.drop 7) ++ rest).drop 8 = textKey (t.drop 7) ++ rest := by
        have : (t.take 7 ++ 8 :: textKey (t.drop 7) ++ rest) = (t.take 7 ++ [8]) ++ (textKey (t.drop 7) ++ rest) := by simp
        rw [this]
        exact List.drop_left' (by simp; omega)
      rw [e1, e2, ih (t.drop 7).length (by simp; omega) (t.drop 7) rfl _ _ (by simp; omega)]
      rw [List.append_assoc, List.take_append_drop]
    · have h7' : t.length < 7 := by omega
      rw [textKey_short h7']
      have hL : (t ++ List.replicate (7 - t.length) (0 : UInt8)).length = 7 := by simp; omega
      have hlen : 8 ≤ (t ++ List.replicate (7 - t.length) 0 ++ [UInt8.ofNat t.length] ++ rest).length := by simp; omega
      have hg : (t ++ List.replicate (7 - t.length) 0 ++ [UInt8.ofNat t.length] ++ rest)[7] = UInt8.ofNat t.length := by
        rw [List.getElem_append_left (by simp; omega), List.getElem_append_right (by omega)]
        simp [hL]
      have hm : (UInt8.ofNat t.length).toNat = t.length := by simp; omega
      rw [decT_end hfar hlen (by rw [hg, hm]; exact h7'), hg, hm]
      have e1 : (t ++ List.replicate (7 - t.length) 0 ++ [UInt8.ofNat t.length] ++ rest).take 7 = t ++ List.replicate (7 - t.length) 0 := by
        rw [List.append_assoc]
        rw [List.take_append_of_le_length (by omega), List.take_of_length_le (by omega)]
      have e2 : (t ++ List.replicate (7 - t.length) 0 ++ [UInt8.ofNat t.length] ++ rest).take t.length = t := by
        rw [List.append_assoc, List.append_assoc]
        exact List.take_left
      have e3 : (t ++ List.replicate (7 - t.length) 0 ++ [UInt8.ofNat t.length] ++ rest).drop 8 = rest := List.drop_left' (by simp; omega)
      rw [e1, e2, e3, List.drop_left]
      simp

theorem V.eq_num {v : V} (h : v.kind = 1) (ht : v.text.toList = []) (hr : v.re = 0) (hi : v.im = 0) : V.mkNum v.num = v := by
  obtain ⟨k, n, t, r, i⟩ := v
  simp only at *
  subst h hr hi
  rw [show t = ⟨#[]⟩ from toList_inj (by rw [ht, ByteArray.toList_eq])]
  rfl
theorem V.eq_text {v : V} (h : v.kind = 2) (hn : v.num = 0) (hr : v.re = 0) (hi : v.im = 0) : V.mkText ⟨v.text.toList.toArray⟩ = v := by
  obtain ⟨k, n, t, r, i⟩ := v
  simp only at *
  subst h hn hr hi
  rw [show (⟨t.toList.toArray⟩ : ByteArray) = t from toList_inj (by rw [ByteArray.toList_eq])]
  rfl
theorem V.eq_point {v : V} (h : v.kind = 3) (hn : v.num = 0) (ht : v.text.toList = []) : V.mkPoint v.re v.im = v := by
  obtain ⟨k, n, t, r, i⟩ := v
  simp only at *
  subst h hn
  rw [show t = ⟨#[]⟩ from toList_inj (by rw [ht, ByteArray.toList_eq])]
  rfl

theorem decV_back (v : V) (hv : v.check = 0) (rest : List UInt8) : decV (v.key ++ rest) = some (v, rest) := by
  have hp := V.parts hv
  have hraw : ∀ c r, V.key v ++ rest = c :: r → raw c r = some (v, rest) → decV (v.key ++ rest) = some (v, rest) := by
    intro c r e hr
    rw [e]
    simp only [decV, hr, hv, if_true]
  rcases hp with ⟨k1, t1, r1, i1, n1, n1'⟩ | ⟨k1, n1, r1, i1⟩ | ⟨k1, n1, t1, r1, r1', i1, i1'⟩
  · have hk : v.key = 1 :: upper (v.num + 4611686018427387904).toNat 8 := by unfold V.key; rw [k1]; rfl
    refine hraw 1 (upper (v.num + 4611686018427387904).toNat 8 ++ rest) (by rw [hk]; rfl) ?_
    have hl := take_left8 (upper (v.num + 4611686018427387904).toNat 8) rest (upper_length _ _)
    simp only [raw, if_true]
    rw [if_pos (by simp [upper_length]), hl.1, hl.2, unlift_num _ (by omega) (by omega), V.eq_num k1 t1 r1 i1]
  · have hk : v.key = 2 :: textKey v.text.toList := by unfold V.key; rw [k1]; rfl
    refine hraw 2 (textKey v.text.toList ++ rest) (by rw [hk]; rfl) ?_
    have hs := (V.fits_of hv).2 k1
    have hd := decT_back v.text.toList [] rest (by simp [toList_length]; exact hs)
    simp only [raw]
    rw [if_neg (by decide), if_pos trivial, hd]
    simp only [List.nil_append]
    rw [V.eq_text k1 n1 r1 i1]
  · have hk : v.key = 3 :: (upper (v.re + 4611686018427387904).toNat 8 ++ upper (v.im + 4611686018427387904).toNat 8) := by unfold V.key; rw [k1]; rfl
    refine hraw 3 (upper (v.re + 4611686018427387904).toNat 8 ++ (upper (v.im + 4611686018427387904).toNat 8 ++ rest)) (by rw [hk]; simp) ?_
    have hl := take_left8 (upper (v.re + 4611686018427387904).toNat 8) (upper (v.im + 4611686018427387904).toNat 8 ++ rest) (upper_length _ _)
    have hl2 := take_left8 (upper (v.im + 4611686018427387904).toNat 8) rest (upper_length _ _)
    simp only [raw]
    rw [if_neg (by decide), if_neg (by decide), if_pos trivial, if_pos (by simp [upper_length]; omega), hl.1, hl.2, hl2.1, show (16 : Nat) = 8 + 8 from rfl, ← List.drop_drop, hl.2, hl2.2, unlift_num _ (by omega) (by omega), unlift_num _ (by omega) (by omega), V.eq_point k1 n1 t1]

theorem decAll_back (l : List V) : ∀ (acc : List V), (∀ v ∈ l, v.check = 0) → acc.length + l.length ≤ 16 → decAll acc (keyBytes l) = some (acc ++ l) := by
  induction l with
  | nil => intro acc _ _; simp [keyBytes, decAll_nil]
  | cons x l ih =>
    intro acc hok hlen
    have e : keyBytes (x :: l) = x.key ++ keyBytes l := by simp [keyBytes]
    rw [e, decAll_some (by simp [V.key]) (decV_back x (hok x (by simp)) (keyBytes l)) (by simp at hlen; omega), ih _ (fun v hv => hok v (by simp [hv])) (by simp at hlen ⊢; omega)]
    simp

end Go.Proofs.YtgjcienechfapaaDoor
