/-
  Records in plain lists of bytes: the sum, a sealed record, the first record of a row, all of a row; a cut row; a burst.
-/
import Derived.Test.YtmbnpglnanfdoaaCrc
namespace Go.Proofs.Ytmbnpglnanfdoaa

def bitsOf (c : UInt8) : List Bool := [c.toNat.testBit 7, c.toNat.testBit 6, c.toNat.testBit 5, c.toNat.testBit 4, c.toNat.testBit 3, c.toNat.testBit 2, c.toNat.testBit 1, c.toNat.testBit 0]
def bitsL (l : List UInt8) : List Bool := l.flatMap bitsOf
def start : Nat := 11994318
def sum (l : List UInt8) : Nat := run start (bitsL l)

theorem bitsL_append (a b : List UInt8) : bitsL (a ++ b) = bitsL a ++ bitsL b := by simp [bitsL]

theorem bitsL_length (l : List UInt8) : (bitsL l).length = 8 * l.length := by
  induction l with
  | nil => rfl
  | cons c l ih =>
    show (bitsOf c ++ bitsL l).length = _
    rw [List.length_append, ih]
    simp [bitsOf]
    omega

theorem bitsL_get (l : List UInt8) (j : Nat) (h : j < 8 * l.length) : (bitsL l)[j]'(by rw [bitsL_length]; exact h) = (l[j / 8]'(by omega)).toNat.testBit (7 - j % 8) := by
  induction l generalizing j with
  | nil => simp at h
  | cons c l ih =>
    have e : bitsL (c :: l) = bitsOf c ++ bitsL l := rfl
    have hl : (bitsOf c).length = 8 := rfl
    simp only [e]
    by_cases hj : j < 8
    · rw [List.getElem_append_left (by rw [hl]; exact hj)]
      have h0 : j / 8 = 0 := by omega
      have h1 : j % 8 = j := by omega
      simp only [h0, h1, List.getElem_cons_zero]
      match j, hj with
      | 0, _ => rfl
      | 1, _ => rfl
      | 2, _ => rfl
      | 3, _ => rfl
      | 4, _ => rfl
      | 5, _ => rfl
      | 6, _ => rfl
      | 7, _ => rfl
    · have h8 : j - 8 < 8 * l.length := by simp at h; omega
      rw [List.getElem_append_right (by rw [hl]; omega)]
      simp only [hl]
      rw [ih (j - 8) h8]
      have h0 : j / 8 = (j - 8) / 8 + 1 := by omega
      have h1 : j % 8 = (j - 8) % 8 := by omega
      simp only [h0, h1, List.getElem_cons_succ]

theorem num_byte (c : UInt8) : num (bitsOf c) = c.toNat * 65536 := by
  have h : ∀ n : Fin 256, num (bitsOf (UInt8.ofNat n.val)) = n.val * 65536 := by decide +kernel
  have := h ⟨c.toNat, c.toNat_lt⟩
  simpa using this

theorem run_byte (r : Nat) (c : UInt8) : run r (bitsOf c) = steps 8 (r ^^^ c.toNat * 65536) := by
  rw [run_num (bitsOf c) (by simp [bitsOf]), num_byte]
  rfl

theorem sum_lt (l : List UInt8) : sum l < 16777216 := run_lt (by decide) _

theorem xor_add (a b i : Nat) (h : b < 2 ^ i) : 2 ^ i * a ^^^ b = 2 ^ i * a + b := by
  apply Nat.eq_of_testBit_eq
  intro j
  rw [Nat.testBit_xor, Nat.testBit_two_pow_mul_add a h, Nat.testBit_two_pow_mul]
  by_cases hj : j < i
  · have hd : decide (i ≤ j) = false := by simp; omega
    rw [hd]
    simp [hj]
  · have hd : decide (i ≤ j) = true := by simp; omega
    rw [if_neg hj, hd, Nat.testBit_lt_two_pow (Nat.lt_of_lt_of_le h (Nat.pow_le_pow_right (by decide) (by omega)))]
    simp

def num3 (l : List UInt8) : Nat := (l.getD 0 0).toNat * 65536 + (l.getD 1 0).toNat * 256 + (l.getD 2 0).toNat

theorem num3_lt (l : List UInt8) : num3 l < 16777216 := by
  have h0 := (l.getD 0 0).toNat_lt
  have h1 := (l.getD 1 0).toNat_lt
  have h2 := (l.getD 2 0).toNat_lt
  unfold num3
  omega

theorem num3_take (l : List UInt8) (n : Nat) (h : 3 ≤ n) : num3 (l.take n) = num3 l := by
  unfold num3
  rw [List.getD_eq_getElem?_getD, List.getD_eq_getElem?_getD, List.getD_eq_getElem?_getD, List.getD_eq_getElem?_getD, List.getD_eq_getElem?_getD, List.getD_eq_getElem?_getD,
    List.getElem?_take_of_lt (by omega), List.getElem?_take_of_lt (by omega), List.getElem?_take_of_lt (by omega)]

theorem num3_append (l m : List UInt8) (h : 3 ≤ l.length) : num3 (l ++ m) = num3 l := by
  have := num3_take (l ++ m) l.length h
  rw [List.take_left] at this
  exact this.symm

theorem run_three (r : Nat) (a b c : UInt8) : run r (bitsL [a, b, c]) = steps 24 (r ^^^ num3 [a, b, c]) := by
  have ha := a.toNat_lt
  have hb := b.toNat_lt
  have hc := c.toNat_lt
  have e : bitsL [a, b, c] = bitsOf a ++ (bitsOf b ++ bitsOf c) := by simp [bitsL]
  have e3 : num3 [a, b, c] = a.toNat * 65536 ^^^ (b.toNat * 256 ^^^ c.toNat) := by
    have h1 := xor_add b.toNat c.toNat 8 hc
    have h2 := xor_add a.toNat (b.toNat * 256 + c.toNat) 16 (by omega)
    rw [show b.toNat * 256 = 2 ^ 8 * b.toNat by omega, h1, show 2 ^ 8 * b.toNat = b.toNat * 256 by omega, show a.toNat * 65536 = 2 ^ 16 * a.toNat by omega, h2]
    simp [num3]
    omega
  have hb8 : steps 8 (b.toNat * 256) = b.toNat * 65536 := by rw [steps8_small (by omega)]; omega
  have hc8 : steps 16 c.toNat = c.toNat * 65536 := by rw [steps_add 8 8, steps8_small (y := c.toNat) (by omega), steps8_small (by omega)]; omega
  rw [e, run_append, run_append, run_byte, run_byte, run_byte, e3, show (24 : Nat) = 8 + (8 + 8) from rfl, steps_add, steps_add]
  congr 1
  rw [← hc8, show (16 : Nat) = 8 + 8 from rfl, steps_add, ← steps_xor, ← hb8, ← steps_xor, ← steps_xor, Nat.xor_assoc, Nat.xor_assoc]

theorem len3 {m : List UInt8} (h : m.length = 3) : ∃ a b c, m = [a, b, c] := by
  match m, h with
  | [a, b, c], _ => exact ⟨a, b, c, rfl⟩

/-- A row of bytes ends with the sum of what stands ahead just if the register over all of it ends at nought. -/
theorem sealed_iff (d m : List UInt8) (h : m.length = 3) : run start (bitsL (d ++ m)) = 0 ↔ sum d = num3 m := by
  obtain ⟨a, b, c, rfl⟩ := len3 h
  rw [bitsL_append, run_append, run_three]
  have hlt := xor_lt (sum_lt d) (num3_lt [a, b, c])
  constructor
  · intro hz
    have := steps_ker hlt hz
    have h2 := congrArg (· ^^^ num3 [a, b, c]) this
    simpa [Nat.xor_assoc] using h2
  · intro he
    show steps 24 (sum d ^^^ num3 [a, b, c]) = 0
    rw [he, Nat.xor_self, steps_zero]

def three (n : Nat) : List UInt8 := [UInt8.ofNat (n / 65536), UInt8.ofNat (n / 256), UInt8.ofNat n]

theorem three_length (n : Nat) : (three n).length = 3 := rfl

theorem num3_three (n : Nat) (h : n < 16777216) : num3 (three n) = n := by
  simp [num3, three]
  omega

def record (b : List UInt8) : List UInt8 := three b.length ++ three (sum (three b.length)) ++ b ++ three (sum b)

theorem record_length (b : List UInt8) : (record b).length = b.length + 9 := by
  simp [record, three_length]
  omega

/-- What the head says, and why it can't. -/
def lengthOf (b : List UInt8) : Nat × Int :=
  if b.length < 6 then (0, 5) else if sum (b.take 3) ≠ num3 (b.drop 3) then (0, 6) else if 16384 < num3 b then (0, 5) else (num3 b, 0)

/-- The first record of a row, how many bytes it took, or why there is none. -/
def first (b : List UInt8) : List UInt8 × Nat × Int :=
  if (lengthOf b).2 ≠ 0 then ([], 0, (lengthOf b).2)
  else if b.length < (lengthOf b).1 + 9 then ([], 0, 5)
  else if sum ((b.drop 6).take (lengthOf b).1) ≠ num3 (b.drop (6 + (lengthOf b).1)) then ([], 0, 6)
  else ((b.drop 6).take (lengthOf b).1, (lengthOf b).1 + 9, 0)

theorem first_ok {b : List UInt8} (h : (first b).2.2 = 0) : 9 ≤ (first b).2.1 ∧ (first b).2.1 ≤ b.length := by
  unfold first at h ⊢
  by_cases h1 : (lengthOf b).2 ≠ 0
  · rw [if_pos h1] at h
    exact absurd h h1
  · rw [if_neg h1] at h ⊢
    by_cases h2 : b.length < (lengthOf b).1 + 9
    · rw [if_pos h2] at h
      exact absurd h (by simp)
    · rw [if_neg h2] at h ⊢
      by_cases h3 : sum ((b.drop 6).take (lengthOf b).1) ≠ num3 (b.drop (6 + (lengthOf b).1))
      · rw [if_pos h3] at h
        exact absurd h (by simp)
      · rw [if_neg h3]
        simp
        omega

/-- All records of a row, and how many bytes they took. -/
def rows (b : List UInt8) : List (List UInt8) × Nat :=
  if _h : (first b).2.2 = 0 then ((first b).1 :: (rows (b.drop (first b).2.1)).1, (first b).2.1 + (rows (b.drop (first b).2.1)).2) else ([], 0)
termination_by b.length
decreasing_by all_goals (have := first_ok _h; simp; omega)

theorem rows_some {b : List UInt8} (h : (first b).2.2 = 0) : rows b = ((first b).1 :: (rows (b.drop (first b).2.1)).1, (first b).2.1 + (rows (b.drop (first b).2.1)).2) := by
  rw [rows, dif_pos h]
theorem rows_none {b : List UInt8} (h : (first b).2.2 ≠ 0) : rows b = ([], 0) := by
  rw [rows, dif_neg h]

theorem lengthOf_record (b t : List UInt8) (h : b.length ≤ 16384) : lengthOf (three b.length ++ three (sum (three b.length)) ++ t) = (b.length, 0) := by
  have hs := sum_lt (three b.length)
  unfold lengthOf
  have e1 : (three b.length ++ three (sum (three b.length)) ++ t).take 3 = three b.length := by simp [three]
  have e2 : num3 ((three b.length ++ three (sum (three b.length)) ++ t).drop 3) = sum (three b.length) := by
    have : (three b.length ++ three (sum (three b.length)) ++ t).drop 3 = three (sum (three b.length)) ++ t := by simp [three]
    rw [this, num3_append _ _ (by simp [three]), num3_three _ hs]
  have e3 : num3 (three b.length ++ three (sum (three b.length)) ++ t) = b.length := by
    rw [List.append_assoc, num3_append _ _ (by simp [three]), num3_three _ (by omega)]
  rw [if_neg (by simp [three]), e1, e2, if_neg (by simp), e3, if_neg (by omega)]

theorem first_record (b t : List UInt8) (h : b.length ≤ 16384) : first (record b ++ t) = (b, b.length + 9, 0) := by
  have e : record b ++ t = three b.length ++ three (sum (three b.length)) ++ (b ++ three (sum b) ++ t) := by simp [record]
  have hl := lengthOf_record b (b ++ three (sum b) ++ t) h
  have hs := sum_lt b
  rw [e]
  unfold first
  rw [hl]
  have e6 : (three b.length ++ three (sum (three b.length)) ++ (b ++ three (sum b) ++ t)).drop 6 = b ++ three (sum b) ++ t := by simp [three]
  have e7 : (three b.length ++ three (sum (three b.length)) ++ (b ++ three (sum b) ++ t)).drop (6 + b.length) = three (sum b) ++ t := by
    rw [← List.drop_drop, e6]
    simp
  simp only [e6, e7]
  rw [if_neg (by simp), if_neg (by simp [three])]
  have e8 : (b ++ three (sum b) ++ t).take b.length = b := by simp
  rw [e8, num3_append _ _ (by simp [three]), num3_three _ hs, if_neg (by simp)]

/-- A record that is cut is none. -/
theorem first_cut (b t : List UInt8) (n : Nat) (h : b.length ≤ 16384) (hn : n < b.length + 9) : (first ((record b ++ t).take n)).2.2 ≠ 0 := by
  by_cases h6 : n < 6
  · have : lengthOf ((record b ++ t).take n) = (0, 5) := by
      unfold lengthOf
      rw [if_pos (by simp; omega)]
    unfold first
    rw [this]
    simp
  · have e : (record b ++ t).take n = three b.length ++ three (sum (three b.length)) ++ (b ++ three (sum b) ++ t).take (n - 6) := by
      have e0 : record b ++ t = (three b.length ++ three (sum (three b.length))) ++ (b ++ three (sum b) ++ t) := by simp [record]
      rw [e0, List.take_append]
      congr 1
      · apply List.take_of_length_le
        simp [three]
        omega
    have hl := lengthOf_record b ((b ++ three (sum b) ++ t).take (n - 6)) h
    rw [e]
    unfold first
    rw [hl]
    simp only [ne_eq, not_true, if_false]
    rw [if_pos]
    · simp
    · simp [three]
      omega

def recs (l : List (List UInt8)) : List UInt8 := l.flatMap record

theorem rows_recs (l : List (List UInt8)) (h : ∀ b ∈ l, b.length ≤ 16384) : rows (recs l) = (l, (recs l).length) := by
  induction l with
  | nil =>
    have : (first (recs [])).2.2 ≠ 0 := by simp [recs, first, lengthOf]
    rw [rows_none this]
    rfl
  | cons b l ih =>
    have e : recs (b :: l) = record b ++ recs l := rfl
    have hf := first_record b (recs l) (h b (by simp))
    rw [e, rows_some (by rw [hf]), hf]
    have hd : (record b ++ recs l).drop (b.length + 9) = recs l := by
      rw [← record_length b]
      exact List.drop_left
    simp only [hd]
    rw [ih fun x hx => h x (by simp [hx]), List.length_append, record_length]

/-- How many of the records stand whole in a row's first n bytes. -/
def whole : List (List UInt8) → Nat → Nat
  | [], _ => 0
  | b :: l, n => if b.length + 9 ≤ n then whole l (n - (b.length + 9)) + 1 else 0

theorem rows_cut (l : List (List UInt8)) (n : Nat) (h : ∀ b ∈ l, b.length ≤ 16384) : (rows ((recs l).take n)).1 = l.take (whole l n) := by
  induction l generalizing n with
  | nil =>
    have : (first ((recs []).take n)).2.2 ≠ 0 := by simp [recs, first, lengthOf]
    rw [rows_none this]
    simp
  | cons b l ih =>
    have e : recs (b :: l) = record b ++ recs l := rfl
    unfold whole
    by_cases hn : b.length + 9 ≤ n
    · rw [if_pos hn]
      have e1 : (record b ++ recs l).take n = record b ++ (recs l).take (n - (b.length + 9)) := by
        rw [List.take_append, record_length]
        congr 1
        apply List.take_of_length_le
        rw [record_length]
        exact hn
      have hf := first_record b ((recs l).take (n - (b.length + 9))) (h b (by simp))
      rw [e, e1, rows_some (by rw [hf]), hf]
      have hd : (record b ++ (recs l).take (n - (b.length + 9))).drop (b.length + 9) = (recs l).take (n - (b.length + 9)) := by
        rw [← record_length b]
        exact List.drop_left
      simp only [hd]
      rw [ih _ fun x hx => h x (by simp [hx])]
      simp
    · rw [if_neg hn, e, rows_none (first_cut b (recs l) n (h b (by simp)) (by omega))]
      simp

end Go.Proofs.Ytmbnpglnanfdoaa
