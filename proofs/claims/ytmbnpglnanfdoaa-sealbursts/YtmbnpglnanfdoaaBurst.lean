/-
  Bursts, in plain lists: a record of which bits within 24 in a row are turned, in its head or behind it, is none.
-/
import Derived.Test.YtmbnpglnanfdoaaSealed
namespace Go.Proofs.Ytmbnpglnanfdoaa

/-- Which bits are turned. -/
def hit (k i Pt j : Nat) : Bool := decide (k ≤ j) && decide (j < k + i) && Pt.testBit (j - k)

/-- Bits turned, from place lo on. -/
def hits (k i Pt lo n : Nat) : List Bool := (List.range n).map fun j => hit k i Pt (lo + j)

theorem hits_form (k i Pt lo n : Nat) (h1 : lo ≤ k) (h2 : k + i ≤ lo + n) : hits k i Pt lo n = List.replicate (k - lo) false ++ (List.range i).map (fun j => Pt.testBit j) ++ List.replicate (lo + n - k - i) false := by
  apply List.ext_getElem
  · simp [hits]
    omega
  · intro j hj hj'
    have hjn : j < n := by simpa [hits] using hj
    simp only [hits, List.getElem_map, List.getElem_range, hit]
    by_cases c1 : j < k - lo
    · rw [List.getElem_append_left (by simp; omega), List.getElem_append_left (by simpa using c1)]
      have : ¬ k ≤ lo + j := by omega
      simp [this]
    · by_cases c2 : j < k - lo + i
      · rw [List.getElem_append_left (by simp; omega), List.getElem_append_right (by simpa using c1)]
        have e1 : k ≤ lo + j := by omega
        have e2 : lo + j < k + i := by omega
        simp only [e1, e2, decide_true, Bool.true_and, List.length_replicate, List.getElem_map, List.getElem_range]
        congr 1
        omega
      · rw [List.getElem_append_right (by simp; omega)]
        have e2 : ¬ lo + j < k + i := by omega
        simp [e2]

theorem bitsL_take8 (l : List UInt8) (n : Nat) : bitsL (l.take n) = (bitsL l).take (8 * n) := by
  have h : bitsL l = bitsL (l.take n) ++ bitsL (l.drop n) := by rw [← bitsL_append, List.take_append_drop]
  by_cases hn : n ≤ l.length
  · have hlen : (bitsL (l.take n)).length = 8 * n := by rw [bitsL_length]; simp; omega
    rw [h, ← hlen, List.take_left]
  · rw [List.take_of_length_le (by omega), List.take_of_length_le (by rw [bitsL_length]; omega)]

theorem bitsL_drop8 (l : List UInt8) (n : Nat) (hn : n ≤ l.length) : bitsL (l.drop n) = (bitsL l).drop (8 * n) := by
  have h : bitsL l = bitsL (l.take n) ++ bitsL (l.drop n) := by rw [← bitsL_append, List.take_append_drop]
  have hlen : (bitsL (l.take n)).length = 8 * n := by rw [bitsL_length]; simp; omega
  rw [h, ← hlen, List.drop_left]

/-- M is L with the bits of a burst turned. -/
def Turned (L M : List UInt8) (k i Pt : Nat) : Prop := M.length = L.length ∧ bitsL M = List.zipWith (· ^^ ·) (bitsL L) (hits k i Pt 0 (8 * L.length))

theorem hits_take (k i Pt n m : Nat) (h : n ≤ m) : (hits k i Pt 0 m).take n = hits k i Pt 0 n := by
  unfold hits
  rw [← List.map_take, List.take_range, Nat.min_eq_left h]

theorem hits_drop (k i Pt n m : Nat) : (hits k i Pt 0 m).drop n = hits k i Pt n (m - n) := by
  apply List.ext_getElem
  · simp [hits]
  · intro j hj hj'
    simp [hits]

theorem run_head (l : List UInt8) : run start (bitsL ((record l).take 6)) = 0 := by
  have e : (record l).take 6 = three l.length ++ three (sum (three l.length)) := by simp [record, three]
  rw [e, sealed_iff _ _ (three_length _), num3_three _ (sum_lt _)]

theorem run_tail (l : List UInt8) : run start (bitsL ((record l).drop 6)) = 0 := by
  have e : (record l).drop 6 = l ++ three (sum l) := by simp [record, three]
  rw [e, sealed_iff _ _ (three_length _), num3_three _ (sum_lt _)]

theorem burst_first (l M : List UInt8) (k i Pt : Nat) (hl : l.length ≤ 16384) (hT : Turned (record l) M k i Pt) (hi : i ≤ 24) (ht : ∃ j, j < i ∧ Pt.testBit j = true)
    (hr : k + i ≤ 48 ∨ 48 ≤ k ∧ k + i ≤ 8 * (record l).length) : (first M).2.2 ≠ 0 := by
  obtain ⟨hlen, hbits⟩ := hT
  have hrl := record_length l
  have hp : true ∈ (List.range i).map (fun j => Pt.testBit j) := by
    obtain ⟨j, h1, h2⟩ := ht
    exact List.mem_map.2 ⟨j, by simpa using h1, h2⟩
  have hpl : ((List.range i).map (fun j => Pt.testBit j)).length ≤ 24 := by simpa using hi
  rcases hr with hr | ⟨hk, hr⟩
  · have hne : run start (bitsL (M.take 6)) ≠ 0 := by
      rw [bitsL_take8, hbits, List.take_zipWith, ← bitsL_take8, hits_take _ _ _ _ _ (by omega)]
      exact burst_seen (run_head l) (hits_form k i Pt 0 48 (by omega) (by omega)) (by rw [bitsL_length]; simp [hits]; omega) hpl hp
    have hs : ¬ sum (M.take 3) = num3 (M.drop 3) := by
      intro he
      apply hne
      have h6 : (M.take 6).length = 6 := by simp; omega
      rw [← sealed_reg _ (by omega), h6, List.take_take, List.drop_take, num3_take _ _ (by omega)]
      exact he
    have hL : lengthOf M = (0, 6) := by
      unfold lengthOf
      rw [if_neg (by omega), if_pos hs]
    unfold first
    rw [hL]
    simp
  · have h6 : M.take 6 = (record l).take 6 := by
      have e : bitsL (M.take 6) = bitsL ((record l).take 6) := by
        rw [bitsL_take8, hbits, List.take_zipWith, ← bitsL_take8, hits_take _ _ _ _ _ (by omega)]
        apply List.ext_getElem
        · rw [List.length_zipWith, bitsL_length]
          simp [hits]
          omega
        · intro j hj hj'
          have hj48 : j < 48 := by
            rw [bitsL_length] at hj'
            simp at hj'
            omega
          have : ¬ k ≤ j := by omega
          simp [hits, hit, this]
      apply List.ext_getElem
      · simp
        omega
      · intro q hq hq'
        have hq6 : q < 6 := by simp at hq; omega
        apply UInt8.toNat_inj.1
        apply Nat.eq_of_testBit_eq
        intro b
        by_cases hb : b < 8
        · have g1 := bitsL_get (M.take 6) (8 * q + (7 - b)) (by omega)
          have g2 := bitsL_get ((record l).take 6) (8 * q + (7 - b)) (by omega)
          have d1 : (8 * q + (7 - b)) / 8 = q := by omega
          have d2 : 7 - (8 * q + (7 - b)) % 8 = b := by omega
          simp only [d1, d2] at g1 g2
          rw [← g1, ← g2]
          simp only [e]
        · have t1 : ∀ c : UInt8, c.toNat.testBit b = false := fun c => Nat.testBit_lt_two_pow (Nat.lt_of_lt_of_le c.toNat_lt (Nat.pow_le_pow_right (by decide) (by omega)))
          rw [t1, t1]
    have hne : run start (bitsL (M.drop 6)) ≠ 0 := by
      rw [bitsL_drop8 _ _ (by omega), hbits, List.drop_zipWith, ← bitsL_drop8 _ _ (by omega), hits_drop]
      exact burst_seen (run_tail l) (hits_form k i Pt 48 (8 * (record l).length - 48) hk (by omega)) (by rw [bitsL_length]; simp [hits]; omega) hpl hp
    have hL : lengthOf M = (l.length, 0) := by
      have hM : M = three l.length ++ three (sum (three l.length)) ++ M.drop 6 := by
        have e : (record l).take 6 = three l.length ++ three (sum (three l.length)) := by simp [record, three]
        rw [← e, ← h6, List.take_append_drop]
      rw [hM]
      exact lengthOf_record l _ hl
    have hs : ¬ sum ((M.drop 6).take l.length) = num3 (M.drop (6 + l.length)) := by
      intro he
      apply hne
      have hd : (M.drop 6).length = l.length + 3 := by simp; omega
      rw [← sealed_reg _ (by omega), hd, Nat.add_sub_cancel, List.drop_drop]
      exact he
    unfold first
    rw [hL]
    simp only [ne_eq, not_true, if_false]
    rw [if_neg (by omega), if_pos hs]
    simp

/-- One bit more. -/
def flip (c : UInt8) (e : Nat) : UInt8 := UInt8.ofNat (c.toNat ^^^ 2 ^ e)

theorem flip_toNat (c : UInt8) (e : Nat) (he : e < 8) : (flip c e).toNat = c.toNat ^^^ 2 ^ e := by
  unfold flip
  have h2 : 2 ^ e < 2 ^ 8 := Nat.pow_lt_pow_right (by decide) he
  have := Nat.xor_lt_two_pow (n := 8) c.toNat_lt h2
  rw [UInt8.toNat_ofNat', Nat.mod_eq_of_lt this]

theorem turned_none (L : List UInt8) (k Pt : Nat) : Turned L L k 0 Pt := by
  refine ⟨rfl, ?_⟩
  apply List.ext_getElem
  · rw [List.length_zipWith, bitsL_length]
    simp [hits]
  · intro j hj hj'
    have : ¬ (k ≤ 0 + j ∧ 0 + j < k + 0) := by omega
    have h2 : (decide (k ≤ 0 + j) && decide (0 + j < k + 0)) = false := by
      cases hd : (decide (k ≤ 0 + j) && decide (0 + j < k + 0))
      · rfl
      · simp at hd
        omega
    simp only [List.getElem_zipWith, hits, List.getElem_map, List.getElem_range, hit, h2, Bool.false_and, Bool.xor_false]

theorem turned_skip {L M : List UInt8} {k i Pt : Nat} (h : Turned L M k i Pt) (hb : Pt.testBit i = false) : Turned L M k (i + 1) Pt := by
  refine ⟨h.1, ?_⟩
  rw [h.2]
  congr 1
  unfold hits
  apply List.map_congr_left
  intro j _
  unfold hit
  rw [Nat.zero_add]
  by_cases h1 : j < k + i
  · have h2 : j < k + (i + 1) := by omega
    simp [h1, h2]
  · by_cases h2 : j < k + (i + 1)
    · have h3 : j - k = i := by omega
      rw [h3, hb]
      simp
    · simp [h1, h2]

theorem turned_hit {L M : List UInt8} {k i Pt : Nat} (h : Turned L M k i Pt) (hb : Pt.testBit i = true) (hlt : k + i < 8 * L.length) :
    Turned L (M.set ((k + i) / 8) (flip (M.getD ((k + i) / 8) 0) (7 - (k + i) % 8))) k (i + 1) Pt := by
  have hlen := h.1
  refine ⟨by simp [hlen], ?_⟩
  apply List.ext_getElem
  · rw [List.length_zipWith, bitsL_length, bitsL_length]
    simp [hits, hlen]
  · intro j hj hj'
    have hj8 : j < 8 * M.length := by
      rw [bitsL_length] at hj
      simpa using hj
    have hold : (bitsL M)[j]'(by rw [bitsL_length]; exact hj8) = ((bitsL L)[j]'(by rw [bitsL_length, ← hlen]; exact hj8) ^^ hit k i Pt j) := by
      have := h.2
      simp only [this, List.getElem_zipWith, hits, List.getElem_map, List.getElem_range, Nat.zero_add]
    rw [bitsL_get _ _ (by simpa using hj8)]
    rw [bitsL_get _ _ hj8] at hold
    simp only [List.getElem_zipWith, hits, List.getElem_map, List.getElem_range, Nat.zero_add]
    have hq : (k + i) / 8 < M.length := by omega
    by_cases hjq : (k + i) / 8 = j / 8
    · have hs : (M.set ((k + i) / 8) (flip (M.getD ((k + i) / 8) 0) (7 - (k + i) % 8)))[j / 8]'(by simp; omega) = flip M[j / 8] (7 - (k + i) % 8) := by
        simp only [hjq, List.getElem_set_self]
        have hj2 : j / 8 < M.length := by omega
        simp [List.getD, hj2]
      rw [hs, flip_toNat _ _ (by omega), Nat.testBit_xor, Nat.testBit_two_pow, hold]
      by_cases hjm : j = k + i
      · have e1 : 7 - (k + i) % 8 = 7 - j % 8 := by rw [hjm]
        have e2 : hit k i Pt j = false := by
          have : ¬ j < k + i := by omega
          simp [hit, this]
        have e3 : hit k (i + 1) Pt j = true := by
          have h1 : k ≤ j := by omega
          have h2 : j < k + (i + 1) := by omega
          have h3 : j - k = i := by omega
          simp [hit, h1, h2, h3, hb]
        rw [e1, e2, e3]
        simp
      · have e1 : ¬ 7 - (k + i) % 8 = 7 - j % 8 := by omega
        have e2 : hit k (i + 1) Pt j = hit k i Pt j := by
          have : (j < k + (i + 1)) ↔ (j < k + i) := by omega
          simp [hit, this]
        rw [e2]
        simp [e1]
    · have hs : (M.set ((k + i) / 8) (flip (M.getD ((k + i) / 8) 0) (7 - (k + i) % 8)))[j / 8]'(by simp; omega) = M[j / 8] := by
        rw [List.getElem_set_ne hjq]
      have e2 : hit k (i + 1) Pt j = hit k i Pt j := by
        have : (j < k + (i + 1)) ↔ (j < k + i) := by omega
        simp [hit, this]
      rw [hs, hold, e2]

end Go.Proofs.Ytmbnpglnanfdoaa
