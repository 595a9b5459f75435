/-
  The loose reader of a key, as a function of lists, and that it reads what the strict one takes. No walk.
-/
import Derived.Test.YtgjcienechfapaaDoorBack
namespace Go.Proofs.YtgjcienechfapaaDoor
open Go.RowKit

/-- The number of eight bytes, out of its range one that may not be. -/
def eightOf (u : Nat) : Int := if u < 2305843009213693952 ∨ 6917529027641081856 < u then 1152921504606846976 else (u : Int) - 4611686018427387904

/-- A text's groups, read loosely. -/
def looseT (acc s : List UInt8) : Option (List UInt8 × List UInt8) :=
  if h : s.length < 8 then none
  else if s[7]'(by omega) = 8 then looseT (acc ++ s.take 7) (s.drop 8)
  else some (acc ++ s.take (if (s[7]'(by omega)).toNat < 7 then (s[7]'(by omega)).toNat else 7), s.drop 8)
termination_by s.length
decreasing_by simp; omega

theorem looseT_short {acc s : List UInt8} (hs : s.length < 8) : looseT acc s = none := by
  rw [looseT]; simp [hs]
theorem looseT_on {acc s : List UInt8} (hs : 8 ≤ s.length) (h8 : s[7] = 8) : looseT acc s = looseT (acc ++ s.take 7) (s.drop 8) := by
  rw [looseT]; simp [Nat.not_lt.2 hs, h8]
theorem looseT_end {acc s : List UInt8} (hs : 8 ≤ s.length) (h8 : s[7] ≠ 8) : looseT acc s = some (acc ++ s.take (if s[7].toNat < 7 then s[7].toNat else 7), s.drop 8) := by
  rw [looseT]; simp [Nat.not_lt.2 hs, h8]

/-- What the strict reader takes is a text's key, and the loose one reads it alike. -/
theorem decT_sound {acc s t rest : List UInt8} (h : decT acc s = some (t, rest)) : ∃ x, t = acc ++ x ∧ s = textKey x ++ rest ∧ looseT acc s = some (t, rest) := by
  induction hn : s.length using Nat.strongRecOn generalizing acc s with
  | _ n ih =>
    by_cases hf : 256 < acc.length
    · rw [decT_far hf] at h; cases h
    by_cases hs : s.length < 8
    · rw [decT_short hf hs] at h; cases h
    have hs8 : 8 ≤ s.length := by omega
    by_cases h8 : s[7] = 8
    · rw [decT_on hf hs8 h8] at h
      obtain ⟨x, hx, hk, hl⟩ := ih (s.drop 8).length (by simp; omega) h rfl
      refine ⟨s.take 7 ++ x, by rw [hx, List.append_assoc], ?_, by rw [looseT_on hs8 h8]; exact hl⟩
      have h7 : (s.take 7).length = 7 := by simp; omega
      rw [textKey_long (by simp; omega)]
      have e1 : (s.take 7 ++ x).take 7 = s.take 7 := by rw [List.take_append_of_le_length (by omega), List.take_of_length_le (by omega)]
      have e2 : (s.take 7 ++ x).drop 7 = x := List.drop_left' h7
      rw [e1, e2]
      have e3 : s = s.take 7 ++ s[7] :: s.drop 8 := by
        have := (List.take_append_drop 7 s).symm
        rwa [List.drop_eq_getElem_cons (by omega)] at this
      rw [List.append_assoc, List.cons_append, ← hk, ← h8]
      exact e3
    · by_cases h7 : s[7].toNat < 7
      · rw [decT_end hf hs8 h7] at h
        split at h
        · rename_i hz
          simp only [Option.some.injEq, Prod.mk.injEq] at h
          obtain ⟨rfl, rfl⟩ := h
          refine ⟨s.take s[7].toNat, rfl, ?_, by rw [looseT_end hs8 h8, if_pos h7]⟩
          have hl : (s.take s[7].toNat).length = s[7].toNat := by simp; omega
          rw [textKey_short (by omega), hl]
          have e3 : s = s.take 7 ++ s[7] :: s.drop 8 := by
            have := (List.take_append_drop 7 s).symm
            rwa [List.drop_eq_getElem_cons (by omega)] at this
          have e4 : s.take 7 = s.take s[7].toNat ++ List.replicate (7 - s[7].toNat) 0 := by
            have := (List.take_append_drop s[7].toNat (s.take 7)).symm
            rw [List.take_take, Nat.min_eq_left (by omega)] at this
            rw [this]
            congr 1
            refine List.eq_replicate_iff.2 ⟨by simp; omega, fun b hb => ?_⟩
            have := List.all_eq_true.1 hz b hb
            simpa using this
          have e5 : UInt8.ofNat s[7].toNat = s[7] := by simp
          rw [e5, ← e4, List.append_assoc]
          exact e3
        · cases h
      · rw [decT_mark hf hs8 h8 (by omega)] at h; cases h

theorem upper_beNat : ∀ (k : Nat) (l : List UInt8), k ≤ 8 → l.length = 8 → upper (beNat l) k = l.take k
  | 0, _, _, _ => by simp [upper]
  | k + 1, l, hk, hl => by
    simp only [upper]
    rw [upper_beNat k l (by omega) hl, List.take_succ_eq_append_getElem (by omega)]
    congr 2
    have key : ∀ (r : List UInt8) (q : List UInt8), beNat (q ++ r) = beNat q * 256 ^ r.length + beNat r := by
      intro r
      induction hr : r.length generalizing r with
      | zero => intro q; rw [List.eq_nil_of_length_eq_zero hr]; simp [beNat]
      | succ n ih =>
        intro q
        rcases List.eq_nil_or_concat r with rfl | ⟨r', b, rfl⟩
        · simp at hr
        · rw [List.concat_eq_append] at *
          have hr' : r'.length = n := by simpa using hr
          rw [← List.append_assoc, beNat_snoc, beNat_snoc, ih r' hr', Nat.pow_succ, Nat.add_mul, Nat.mul_assoc]
          omega
    have hsplit := key (l.drop (k + 1)) (l.take (k + 1))
    rw [List.take_append_drop] at hsplit
    have hlen : (l.drop (k + 1)).length = 7 - k := by simp; omega
    have hlow := beNat_lt (l.drop (k + 1))
    rw [hlen] at hsplit hlow
    rw [List.take_succ_eq_append_getElem (by omega), beNat_snoc] at hsplit
    unfold byteAt
    have hp : 2 ^ (8 * (7 - k)) = 256 ^ (7 - k) := by rw [Nat.pow_mul]
    rw [hp, hsplit, Nat.add_comm, Nat.mul_comm, Nat.add_mul_div_left _ _ (Nat.pow_pos (by decide)), Nat.div_eq_of_lt hlow]
    apply UInt8.toNat_inj.1
    have hb : l[k].toNat < 256 := UInt8.toNat_lt _
    simp

theorem upper_take8 {r : List UInt8} (h : 8 ≤ r.length) : upper (beNat (r.take 8)) 8 = r.take 8 := by
  have hl : (r.take 8).length = 8 := by simp; omega
  rw [upper_beNat 8 _ (by omega) hl, List.take_of_length_le (by omega)]

/-- A small number that eight bytes read as: the bytes are its own, and the loose reader reads it alike. -/
theorem small_num {r : List UInt8} (h : 8 ≤ r.length) (h1 : -9007199254740992 ≤ unlift (beNat (r.take 8))) (h2 : unlift (beNat (r.take 8)) ≤ 9007199254740992) :
    upper (unlift (beNat (r.take 8)) + 4611686018427387904).toNat 8 = r.take 8 ∧ eightOf (beNat (r.take 8)) = unlift (beNat (r.take 8)) := by
  have hu := upper_take8 h
  have hlt : beNat (r.take 8) < 18446744073709551616 := by
    have := beNat_lt (r.take 8)
    rw [List.length_take, Nat.min_eq_left h] at this
    exact this
  generalize beNat (r.take 8) = u at *
  by_cases hb : u < 13835058055282163712
  · have e : unlift u = (u : Int) - 4611686018427387904 := by unfold unlift; rw [if_pos hb]
    rw [e] at h1 h2 ⊢
    refine ⟨?_, ?_⟩
    · rw [show ((u : Int) - 4611686018427387904 + 4611686018427387904).toNat = u from by omega]
      exact hu
    · unfold eightOf
      rw [if_neg (by omega)]
  · have e : unlift u = (u : Int) - 23058430092136939520 := by unfold unlift; rw [if_neg hb]
    rw [e] at h1
    omega

/-- The value that a key begins with, read loosely. -/
def looseV : List UInt8 → Option (V × List UInt8)
  | [] => none
  | c :: r =>
    if c = 1 ∧ 8 ≤ r.length then some (V.mkNum (eightOf (beNat (r.take 8))), r.drop 8)
    else if c = 3 ∧ 16 ≤ r.length then some (V.mkPoint (eightOf (beNat (r.take 8))) (eightOf (beNat ((r.drop 8).take 8))), r.drop 16)
    else if c = 2 then (match looseT [] r with | some (t, rest) => some (V.mkText ⟨t.toArray⟩, rest) | none => none)
    else none

theorem decV_sound {s rest : List UInt8} {v : V} (h : decV s = some (v, rest)) : v.check = 0 ∧ s = v.key ++ rest ∧ looseV s = some (v, rest) := by
  cases s with
  | nil => cases h
  | cons c r =>
    simp only [decV] at h
    cases hr : raw c r with
    | none => rw [hr] at h; cases h
    | some p =>
      obtain ⟨v', rest'⟩ := p
      rw [hr] at h
      simp only at h
      split at h
      · rename_i hck
        simp only [Option.some.injEq, Prod.mk.injEq] at h
        obtain ⟨rfl, rfl⟩ := h
        refine ⟨hck, ?_⟩
        have hp := V.parts hck
        unfold raw at hr
        split at hr
        · rename_i hc
          subst hc
          split at hr
          · rename_i h8
            simp only [Option.some.injEq, Prod.mk.injEq] at hr
            obtain ⟨rfl, rfl⟩ := hr
            simp only [V.mkNum] at hp
            have hs := small_num h8 (by omega) (by omega)
            refine ⟨?_, ?_⟩
            · simp only [V.key, V.mkNum]
              simp only [if_true]
              rw [hs.1]
              simp
            · simp only [looseV, h8, and_self, if_true]
              rw [hs.2]
          · cases hr
        · split at hr
          · rename_i hc
            subst hc
            cases hd : decT [] r with
            | none => rw [hd] at hr; cases hr
            | some p =>
              obtain ⟨t, rest2⟩ := p
              rw [hd] at hr
              simp only [Option.some.injEq, Prod.mk.injEq] at hr
              obtain ⟨rfl, rfl⟩ := hr
              obtain ⟨x, hx, hk, hl⟩ := decT_sound hd
              simp only [List.nil_append] at hx
              subst hx
              refine ⟨?_, ?_⟩
              · simp only [V.key, V.mkText]
                rw [if_neg (by decide), if_pos trivial, hk]
                simp [ByteArray.toList_eq]
              · simp [looseV, hl]
          · split at hr
            · rename_i hc
              subst hc
              split at hr
              · rename_i h16
                simp only [Option.some.injEq, Prod.mk.injEq] at hr
                obtain ⟨rfl, rfl⟩ := hr
                simp only [V.mkPoint] at hp
                have hs := small_num (r := r) (by omega) (by omega) (by omega)
                have hs2 := small_num (r := r.drop 8) (by simp; omega) (by omega) (by omega)
                refine ⟨?_, ?_⟩
                · have hk : (V.mkPoint (unlift (beNat (r.take 8))) (unlift (beNat ((r.drop 8).take 8)))).key = 3 :: (upper (unlift (beNat (r.take 8)) + 4611686018427387904).toNat 8 ++ upper (unlift (beNat ((r.drop 8).take 8)) + 4611686018427387904).toNat 8) := rfl
                  rw [hk, hs.1, hs2.1]
                  have : r = r.take 8 ++ ((r.drop 8).take 8 ++ r.drop 16) := by
                    rw [show (16 : Nat) = 8 + 8 from rfl, ← List.drop_drop, List.take_append_drop, List.take_append_drop]
                  rw [List.cons_append, List.append_assoc, ← this]
                · simp only [looseV]
                  rw [if_neg (fun h => by cases h.1), if_pos ⟨trivial, h16⟩, hs.2, hs2.2]
              · cases hr
            · cases hr
      · cases h

theorem looseT_shorter {acc s t rest : List UInt8} (h : looseT acc s = some (t, rest)) : rest.length + 8 ≤ s.length := by
  induction hn : s.length using Nat.strongRecOn generalizing acc s with
  | _ n ih =>
    by_cases hs : s.length < 8
    · rw [looseT_short hs] at h; cases h
    have hs8 : 8 ≤ s.length := by omega
    by_cases h8 : s[7] = 8
    · rw [looseT_on hs8 h8] at h
      have := ih (s.drop 8).length (by simp; omega) h rfl
      simp at this
      omega
    · rw [looseT_end hs8 h8] at h
      simp only [Option.some.injEq, Prod.mk.injEq] at h
      rw [← h.2]
      simp
      omega

theorem looseV_nine {s rest : List UInt8} {v : V} (h : looseV s = some (v, rest)) : rest.length + 9 ≤ s.length := by
  cases s with
  | nil => cases h
  | cons c r =>
    simp only [looseV] at h
    split at h
    · simp only [Option.some.injEq, Prod.mk.injEq] at h
      rw [← h.2]
      simp
      omega
    · split at h
      · simp only [Option.some.injEq, Prod.mk.injEq] at h
        rw [← h.2]
        simp
        omega
      · split at h
        · cases hd : looseT [] r with
          | none => rw [hd] at h; cases h
          | some p =>
            obtain ⟨t, rest2⟩ := p
            rw [hd] at h
            simp only [Option.some.injEq, Prod.mk.injEq] at h
            rw [← h.2]
            have := looseT_shorter hd
            simp
            omega
        · cases h
theorem looseV_shorter {s rest : List UInt8} {v : V} (h : looseV s = some (v, rest)) : rest.length < s.length := by
  have := looseV_nine h
  omega

/-- The list of a key, read loosely, behind the values that have been read. -/
def looseAll (acc : List V) (s : List UInt8) : Option (List V) :=
  if s = [] then some acc
  else match _h : looseV s with
    | none => none
    | some (v, rest) => looseAll (acc ++ [v]) rest
termination_by s.length
decreasing_by exact looseV_shorter (by assumption)

theorem looseAll_nil (acc : List V) : looseAll acc [] = some acc := by rw [looseAll]; simp
theorem looseAll_none {acc : List V} {s : List UInt8} (hs : s ≠ []) (h : looseV s = none) : looseAll acc s = none := by
  rw [looseAll, if_neg hs]
  split
  · rfl
  · rename_i h'; rw [h] at h'; cases h'
theorem looseAll_some {acc : List V} {s rest : List UInt8} {v : V} (hs : s ≠ []) (h : looseV s = some (v, rest)) : looseAll acc s = looseAll (acc ++ [v]) rest := by
  rw [looseAll, if_neg hs]
  split
  · rename_i h'; rw [h] at h'; cases h'
  · rename_i h'
    rw [h] at h'
    simp only [Option.some.injEq, Prod.mk.injEq] at h'
    rw [← h'.1, ← h'.2]

/-- What the strict reader takes is a list's key, and the loose one reads it alike. -/
theorem decAll_sound {acc l : List V} {s : List UInt8} (h : decAll acc s = some l) (hacc : acc.length ≤ 16) :
    ∃ x, l = acc ++ x ∧ (∀ v ∈ x, v.check = 0) ∧ l.length ≤ 16 ∧ s = keyBytes x ∧ looseAll acc s = some l := by
  induction hn : s.length using Nat.strongRecOn generalizing acc s with
  | _ n ih =>
    by_cases hs : s = []
    · subst hs
      rw [decAll_nil] at h
      simp only [Option.some.injEq] at h
      subst h
      exact ⟨[], by simp, by simp, hacc, rfl, looseAll_nil _⟩
    · cases hd : decV s with
      | none => rw [decAll_none hs hd] at h; cases h
      | some p =>
        obtain ⟨v, rest⟩ := p
        by_cases h16 : acc.length = 16
        · rw [decAll_full hs h16] at h; cases h
        · rw [decAll_some hs hd h16] at h
          obtain ⟨hck, hk, hl⟩ := decV_sound hd
          have hsh := decV_shorter hd
          obtain ⟨x, hx, hok, hlen, hkey, hlo⟩ := ih rest.length (by omega) h (by simp; omega) rfl
          refine ⟨v :: x, by rw [hx]; simp, ?_, hlen, ?_, by rw [looseAll_some hs hl]; exact hlo⟩
          · intro y hy
            rcases List.mem_cons.1 hy with rfl | hy
            · exact hck
            · exact hok y hy
          · rw [hk, hkey]
            simp [keyBytes]

/-- The loose reading of a key that holds: the list is its key's. -/
theorem loose_ok {l : List V} {s : List UInt8} (hf : firstBad l = 0) (hlen : l.length ≤ 16) (hk : keyBytes l = s) : decAll [] s = some l := by
  rw [← hk, decAll_back l [] (firstBad_ok hf) (by simpa using hlen)]
  rfl

theorem firstBad_of {l : List V} (h : ∀ v ∈ l, v.check = 0) : firstBad l = 0 := by
  induction l with
  | nil => rfl
  | cons v l ih =>
    simp only [firstBad]
    rw [if_pos (h v (by simp)), ih (fun x hx => h x (by simp [hx]))]

end Go.Proofs.YtgjcienechfapaaDoor
