/-
  Records, sums and rows of layer 5: numbers, sums, sealed records, rows, by contracts.
-/
import Derived.Test.YtelkkpomehgcjaaGreatSums
import Derived.Laws.BitsLemmas
import Derived.Test.YtelkkpomehgcjaaGreatByts
import Derived.Laws.MakeOwn
import Derived.Lib.SlBytesConst
import Derived.Lib.SlBytesRow
import Derived.Laws.BytesString
namespace Go.Proofs.YtelkkpomehgcjaaGreat

/-- The register with no bit laid on. -/
def crcStep (x : Nat) : Nat := (2 * x) % 16777216 ^^^ (if x.testBit 23 then 8801531 else 0)

def top (b : Bool) : Nat := if b then 8388608 else 0

/-- The register with a bit more. -/
def bitOn (r : Nat) (b : Bool) : Nat := crcStep (r ^^^ top b)

def run (r : Nat) (bs : List Bool) : Nat := bs.foldl bitOn r

theorem xor_lt {a b : Nat} (ha : a < 16777216) (hb : b < 16777216) : a ^^^ b < 16777216 := Nat.xor_lt_two_pow (n := 24) ha hb

theorem step_lt (x : Nat) : crcStep x < 16777216 := by
  unfold crcStep
  apply xor_lt
  · omega
  · split <;> omega

theorem xor_left (a b c : Nat) : a ^^^ (b ^^^ c) = b ^^^ (a ^^^ c) := by rw [← Nat.xor_assoc, Nat.xor_comm a, Nat.xor_assoc]
theorem xor_self_left (a b : Nat) : a ^^^ (a ^^^ b) = b := by rw [← Nat.xor_assoc, Nat.xor_self, Nat.zero_xor]

theorem step_xor (x y : Nat) : crcStep (x ^^^ y) = crcStep x ^^^ crcStep y := by
  unfold crcStep
  have h : (2 * (x ^^^ y)) % 16777216 = (2 * x) % 16777216 ^^^ (2 * y) % 16777216 := by
    have e : 2 * (x ^^^ y) = 2 * x ^^^ 2 * y := by
      have := Nat.shiftLeft_xor_distrib (a := x) (b := y) (i := 1)
      simpa [Nat.shiftLeft_eq, Nat.mul_comm] using this
    rw [e]
    exact Nat.xor_mod_two_pow (n := 24)
  rw [h, Nat.testBit_xor]
  generalize (2 * x) % 16777216 = X
  generalize (2 * y) % 16777216 = Y
  cases x.testBit 23 <;> cases y.testBit 23 <;> simp only [Bool.xor_false, Bool.xor_self, Bool.xor_true, Bool.not_false, Bool.false_eq_true, if_true, if_false, Nat.xor_zero]
  · rw [Nat.xor_assoc]
  · rw [Nat.xor_assoc, Nat.xor_assoc, Nat.xor_comm Y]
  · rw [Nat.xor_assoc, xor_left 8801531 Y, Nat.xor_self, Nat.xor_zero]

theorem step_small {y : Nat} (h : y < 8388608) : crcStep y = 2 * y := by
  unfold crcStep
  rw [Nat.testBit_lt_two_pow (i := 23) h]
  simp
  omega

theorem step_zero : crcStep 0 = 0 := by decide

theorem step_ker {x : Nat} (hx : x < 16777216) (h : crcStep x = 0) : x = 0 := by
  unfold crcStep at h
  by_cases hb : x.testBit 23
  · simp only [hb, if_true] at h
    have h0 : ((2 * x) % 16777216 ^^^ 8801531).testBit 0 = false := by rw [h]; rfl
    rw [Nat.testBit_xor, Nat.testBit_zero, Nat.testBit_zero] at h0
    have : (2 * x) % 16777216 % 2 = 0 := by omega
    simp [this] at h0
  · have hlt : x < 8388608 := by
      by_cases hl : x < 8388608
      · exact hl
      · exfalso
        apply hb
        rw [Nat.testBit_eq_decide_div_mod_eq]
        simp
        omega
    simp only [hb] at h
    simp at h
    omega

def steps : Nat → Nat → Nat
  | 0, x => x
  | n + 1, x => steps n (crcStep x)

theorem steps_add (m n x : Nat) : steps (m + n) x = steps n (steps m x) := by
  induction m generalizing x with
  | zero => simp [steps]
  | succ m ih => rw [Nat.add_right_comm]; exact ih (crcStep x)

theorem steps_xor (n x y : Nat) : steps n (x ^^^ y) = steps n x ^^^ steps n y := by
  induction n generalizing x y with
  | zero => rfl
  | succ n ih => simp only [steps, step_xor, ih]

theorem steps_zero (n : Nat) : steps n 0 = 0 := by
  induction n with
  | zero => rfl
  | succ n ih => simp only [steps, step_zero, ih]

theorem steps_lt {n x : Nat} (hx : x < 16777216) : steps n x < 16777216 := by
  induction n generalizing x with
  | zero => exact hx
  | succ n ih => exact ih (step_lt x)

theorem steps_ker {n x : Nat} (hx : x < 16777216) (h : steps n x = 0) : x = 0 := by
  induction n generalizing x with
  | zero => exact h
  | succ n ih => exact step_ker hx (ih (step_lt x) h)

theorem steps8_small {y : Nat} (h : y < 65536) : steps 8 y = 256 * y := by
  simp only [steps]
  rw [step_small (y := y) (by omega), step_small (y := 2 * y) (by omega), step_small (y := 2 * (2 * y)) (by omega), step_small (y := 2 * (2 * (2 * y))) (by omega),
    step_small (y := 2 * (2 * (2 * (2 * y)))) (by omega), step_small (y := 2 * (2 * (2 * (2 * (2 * y))))) (by omega), step_small (y := 2 * (2 * (2 * (2 * (2 * (2 * y)))))) (by omega), step_small (y := 2 * (2 * (2 * (2 * (2 * (2 * (2 * y))))))) (by omega)]
  omega

/-- Bits as the register's highest ones. -/
def num : List Bool → Nat
  | [] => 0
  | b :: bs => top b ^^^ num bs / 2

theorem top_lt (b : Bool) : top b < 16777216 := by unfold top; split <;> omega

theorem num_lt (bs : List Bool) : num bs < 16777216 := by
  induction bs with
  | nil => decide
  | cons b bs ih => exact xor_lt (top_lt b) (by omega)

theorem num_low (bs : List Bool) (n : Nat) (h : bs.length + n = 24) : num bs % 2 ^ n = 0 := by
  induction bs generalizing n with
  | nil => simp [num]
  | cons b bs ih =>
    have hlen : bs.length + (n + 1) = 24 := by simp at h; omega
    have h1 := ih (n + 1) hlen
    have h2 : num bs / 2 % 2 ^ n = 0 := by
      have := Nat.dvd_of_mod_eq_zero h1
      obtain ⟨q, hq⟩ := this
      rw [hq, Nat.pow_succ, Nat.mul_assoc, Nat.mul_left_comm, Nat.mul_div_cancel_left _ (by decide)]
      exact Nat.mul_mod_right _ _
    unfold num
    rw [Nat.xor_mod_two_pow, h2, Nat.xor_zero]
    cases b
    · simp [top]
    · have hn : n ≤ 23 := by simp at h; omega
      have : (8388608 : Nat) = 2 ^ n * 2 ^ (23 - n) := by rw [← Nat.pow_add, show n + (23 - n) = 23 by omega]
      simp only [top, if_true]
      rw [this]
      exact Nat.mul_mod_right _ _

theorem num_even {bs : List Bool} (h : bs.length < 24) : num bs % 2 = 0 := by
  have := num_low bs (24 - bs.length) (by omega)
  have hd : (2 : Nat) ∣ 2 ^ (24 - bs.length) := ⟨2 ^ (23 - bs.length), by rw [← Nat.pow_succ']; congr 1; omega⟩
  exact Nat.mod_eq_zero_of_dvd (Nat.dvd_trans hd (Nat.dvd_of_mod_eq_zero this))

theorem run_num (bs : List Bool) (h : bs.length ≤ 24) (r : Nat) : run r bs = steps bs.length (r ^^^ num bs) := by
  induction bs generalizing r with
  | nil => simp [run, steps, num]
  | cons b bs ih =>
    have hl : bs.length < 24 := by simp at h; omega
    have he := num_even hl
    have hlt := num_lt bs
    have e : crcStep (num bs / 2) = num bs := by rw [step_small (by omega)]; omega
    show run (bitOn r b) bs = steps bs.length (crcStep (r ^^^ num (b :: bs)))
    rw [ih (by omega)]
    congr 1
    show bitOn r b ^^^ num bs = crcStep (r ^^^ (top b ^^^ num bs / 2))
    unfold bitOn
    rw [← Nat.xor_assoc, step_xor (r ^^^ top b), e]

theorem num_none {bs : List Bool} (h : bs.length ≤ 24) (hz : num bs = 0) : ∀ b ∈ bs, b = false := by
  induction bs with
  | nil => simp
  | cons b bs ih =>
    have hl : bs.length < 24 := by simp at h; omega
    have he := num_even hl
    have hlt := num_lt bs
    unfold num at hz
    have e : top b = num bs / 2 := by
      have := congrArg (· ^^^ num bs / 2) hz
      simpa [Nat.xor_assoc] using this
    cases b
    · simp [top] at e
      intro x hx
      rcases List.mem_cons.1 hx with rfl | hx
      · rfl
      · exact ih (by omega) (by omega) x hx
    · simp [top] at e
      omega

theorem run_append (r : Nat) (a b : List Bool) : run r (a ++ b) = run (run r a) b := by simp [run]

theorem bitOn_lt (r : Nat) (b : Bool) : bitOn r b < 16777216 := step_lt _

theorem run_lt {r : Nat} (hr : r < 16777216) (bs : List Bool) : run r bs < 16777216 := by
  induction bs generalizing r with
  | nil => exact hr
  | cons b bs ih => exact ih (bitOn_lt r b)

theorem run_none (r n : Nat) : run r (List.replicate n false) = steps n r := by
  induction n generalizing r with
  | zero => rfl
  | succ n ih =>
    show run (bitOn r false) (List.replicate n false) = steps n (crcStep r)
    rw [ih]
    simp [bitOn, top]

theorem top_xor (x y : Bool) : top (x ^^ y) = top x ^^^ top y := by cases x <;> cases y <;> decide

theorem bitOn_xor (a b : Nat) (x y : Bool) : bitOn (a ^^^ b) (x ^^ y) = bitOn a x ^^^ bitOn b y := by
  unfold bitOn
  rw [top_xor, ← step_xor]
  congr 1
  rw [Nat.xor_assoc, Nat.xor_assoc]
  congr 1
  rw [← Nat.xor_assoc, ← Nat.xor_assoc, Nat.xor_comm b]

theorem run_xor : ∀ (l m : List Bool) (a b : Nat), l.length = m.length → run (a ^^^ b) (List.zipWith (· ^^ ·) l m) = run a l ^^^ run b m
  | [], [], _, _, _ => rfl
  | x :: l, y :: m, a, b, h => by
    show run (bitOn (a ^^^ b) (x ^^ y)) (List.zipWith (· ^^ ·) l m) = run (bitOn a x) l ^^^ run (bitOn b y) m
    rw [bitOn_xor]
    exact run_xor l m _ _ (by simpa using h)
  | [], _ :: _, _, _, h => by simp at h
  | _ :: _, [], _, _, h => by simp at h

/-- A burst alone is never nought. -/
theorem run_burst (a c : Nat) (p : List Bool) (hp : p.length ≤ 24) (ht : true ∈ p) : run 0 (List.replicate a false ++ p ++ List.replicate c false) ≠ 0 := by
  rw [run_append, run_append, run_none, run_none 0, steps_zero, run_num p hp, Nat.zero_xor]
  intro h
  have h1 := steps_ker (steps_lt (num_lt p)) h
  have h2 := steps_ker (num_lt p) h1
  have := num_none hp h2 true ht
  cases this

theorem burst_seen {l e : List Bool} {s a c : Nat} {p : List Bool} (hl : run s l = 0) (he : e = List.replicate a false ++ p ++ List.replicate c false) (hlen : l.length = e.length) (hp : p.length ≤ 24) (ht : true ∈ p) :
    run s (List.zipWith (· ^^ ·) l e) ≠ 0 := by
  have h := run_xor l e s 0 hlen
  rw [Nat.xor_zero, hl, Nat.zero_xor] at h
  rw [h, he]
  exact run_burst a c p hp ht

end Go.Proofs.YtelkkpomehgcjaaGreat

namespace Go.Proofs.YtelkkpomehgcjaaGreat

def bitsOf (c : UInt8) : List Bool := [c.toNat.testBit 7, c.toNat.testBit 6, c.toNat.testBit 5, c.toNat.testBit 4, c.toNat.testBit 3, c.toNat.testBit 2, c.toNat.testBit 1, c.toNat.testBit 0]
def bitsL (l : List UInt8) : List Bool := l.flatMap bitsOf
def start : Nat := 11994318
def sum (l : List UInt8) : Nat := run start (bitsL l)

theorem bitsL_append (a b : List UInt8) : bitsL (a ++ b) = bitsL a ++ bitsL b := by simp [bitsL]

theorem bitsL_length (l : List UInt8) : (bitsL l).length = 8 * l.length := by
  induction l with
  | nil => rfl
  | cons c l ih =>
    show (bitsOf c ++ bitsL l).length = _
    rw [List.length_append, ih]
    simp [bitsOf]
    omega

theorem bitsL_get (l : List UInt8) (j : Nat) (h : j < 8 * l.length) : (bitsL l)[j]'(by rw [bitsL_length]; exact h) = (l[j / 8]'(by omega)).toNat.testBit (7 - j % 8) := by
  induction l generalizing j with
  | nil => simp at h
  | cons c l ih =>
    have e : bitsL (c :: l) = bitsOf c ++ bitsL l := rfl
    have hl : (bitsOf c).length = 8 := rfl
    simp only [e]
    by_cases hj : j < 8
    · rw [List.getElem_append_left (by rw [hl]; exact hj)]
      have h0 : j / 8 = 0 := by omega
      have h1 : j % 8 = j := by omega
      simp only [h0, h1, List.getElem_cons_zero]
      match j, hj with
      | 0, _ => rfl
      | 1, _ => rfl
      | 2, _ => rfl
      | 3, _ => rfl
      | 4, _ => rfl
      | 5, _ => rfl
      | 6, _ => rfl
      | 7, _ => rfl
    · have h8 : j - 8 < 8 * l.length := by simp at h; omega
      rw [List.getElem_append_right (by rw [hl]; omega)]
      simp only [hl]
      rw [ih (j - 8) h8]
      have h0 : j / 8 = (j - 8) / 8 + 1 := by omega
      have h1 : j % 8 = (j - 8) % 8 := by omega
      simp only [h0, h1, List.getElem_cons_succ]

theorem num_byte (c : UInt8) : num (bitsOf c) = c.toNat * 65536 := by
  have h : ∀ n : Fin 256, num (bitsOf (UInt8.ofNat n.val)) = n.val * 65536 := by decide +kernel
  have := h ⟨c.toNat, c.toNat_lt⟩
  simpa using this

theorem run_byte (r : Nat) (c : UInt8) : run r (bitsOf c) = steps 8 (r ^^^ c.toNat * 65536) := by
  rw [run_num (bitsOf c) (by simp [bitsOf]), num_byte]
  rfl

theorem sum_lt (l : List UInt8) : sum l < 16777216 := run_lt (by decide) _

theorem xor_add (a b i : Nat) (h : b < 2 ^ i) : 2 ^ i * a ^^^ b = 2 ^ i * a + b := by
  apply Nat.eq_of_testBit_eq
  intro j
  rw [Nat.testBit_xor, Nat.testBit_two_pow_mul_add a h, Nat.testBit_two_pow_mul]
  by_cases hj : j < i
  · have hd : decide (i ≤ j) = false := by simp; omega
    rw [hd]
    simp [hj]
  · have hd : decide (i ≤ j) = true := by simp; omega
    rw [if_neg hj, hd, Nat.testBit_lt_two_pow (Nat.lt_of_lt_of_le h (Nat.pow_le_pow_right (by decide) (by omega)))]
    simp

def num3 (l : List UInt8) : Nat := (l.getD 0 0).toNat * 65536 + (l.getD 1 0).toNat * 256 + (l.getD 2 0).toNat

theorem num3_lt (l : List UInt8) : num3 l < 16777216 := by
  have h0 := (l.getD 0 0).toNat_lt
  have h1 := (l.getD 1 0).toNat_lt
  have h2 := (l.getD 2 0).toNat_lt
  unfold num3
  omega

theorem num3_take (l : List UInt8) (n : Nat) (h : 3 ≤ n) : num3 (l.take n) = num3 l := by
  unfold num3
  rw [List.getD_eq_getElem?_getD, List.getD_eq_getElem?_getD, List.getD_eq_getElem?_getD, List.getD_eq_getElem?_getD, List.getD_eq_getElem?_getD, List.getD_eq_getElem?_getD,
    List.getElem?_take_of_lt (by omega), List.getElem?_take_of_lt (by omega), List.getElem?_take_of_lt (by omega)]

theorem num3_append (l m : List UInt8) (h : 3 ≤ l.length) : num3 (l ++ m) = num3 l := by
  have := num3_take (l ++ m) l.length h
  rw [List.take_left] at this
  exact this.symm

theorem run_three (r : Nat) (a b c : UInt8) : run r (bitsL [a, b, c]) = steps 24 (r ^^^ num3 [a, b, c]) := by
  have ha := a.toNat_lt
  have hb := b.toNat_lt
  have hc := c.toNat_lt
  have e : bitsL [a, b, c] = bitsOf a ++ (bitsOf b ++ bitsOf c) := by simp [bitsL]
  have e3 : num3 [a, b, c] = a.toNat * 65536 ^^^ (b.toNat * 256 ^^^ c.toNat) := by
    have h1 := xor_add b.toNat c.toNat 8 hc
    have h2 := xor_add a.toNat (b.toNat * 256 + c.toNat) 16 (by omega)
    rw [show b.toNat * 256 = 2 ^ 8 * b.toNat by omega, h1, show 2 ^ 8 * b.toNat = b.toNat * 256 by omega, show a.toNat * 65536 = 2 ^ 16 * a.toNat by omega, h2]
    simp [num3]
    omega
  have hb8 : steps 8 (b.toNat * 256) = b.toNat * 65536 := by rw [steps8_small (by omega)]; omega
  have hc8 : steps 16 c.toNat = c.toNat * 65536 := by rw [steps_add 8 8, steps8_small (y := c.toNat) (by omega), steps8_small (by omega)]; omega
  rw [e, run_append, run_append, run_byte, run_byte, run_byte, e3, show (24 : Nat) = 8 + (8 + 8) from rfl, steps_add, steps_add]
  congr 1
  rw [← hc8, show (16 : Nat) = 8 + 8 from rfl, steps_add, ← steps_xor, ← hb8, ← steps_xor, ← steps_xor, Nat.xor_assoc, Nat.xor_assoc]

theorem len3 {m : List UInt8} (h : m.length = 3) : ∃ a b c, m = [a, b, c] := by
  match m, h with
  | [a, b, c], _ => exact ⟨a, b, c, rfl⟩

/-- A row of bytes ends with the sum of what stands ahead just if the register over all of it ends at nought. -/
theorem sealed_iff (d m : List UInt8) (h : m.length = 3) : run start (bitsL (d ++ m)) = 0 ↔ sum d = num3 m := by
  obtain ⟨a, b, c, rfl⟩ := len3 h
  rw [bitsL_append, run_append, run_three]
  have hlt := xor_lt (sum_lt d) (num3_lt [a, b, c])
  constructor
  · intro hz
    have := steps_ker hlt hz
    have h2 := congrArg (· ^^^ num3 [a, b, c]) this
    simpa [Nat.xor_assoc] using h2
  · intro he
    show steps 24 (sum d ^^^ num3 [a, b, c]) = 0
    rw [he, Nat.xor_self, steps_zero]

def three (n : Nat) : List UInt8 := [UInt8.ofNat (n / 65536), UInt8.ofNat (n / 256), UInt8.ofNat n]

theorem three_length (n : Nat) : (three n).length = 3 := rfl

theorem num3_three (n : Nat) (h : n < 16777216) : num3 (three n) = n := by
  simp [num3, three]
  omega

def record (b : List UInt8) : List UInt8 := three b.length ++ three (sum (three b.length)) ++ b ++ three (sum b)

theorem record_length (b : List UInt8) : (record b).length = b.length + 9 := by
  simp [record, three_length]
  omega

/-- What the head says, and why it can't. -/
def lengthOf (b : List UInt8) : Nat × Int :=
  if b.length < 6 then (0, 5) else if sum (b.take 3) ≠ num3 (b.drop 3) then (0, 6) else if 16384 < num3 b then (0, 5) else (num3 b, 0)

/-- The first record of a row, how many bytes it took, or why there is none. -/
def first (b : List UInt8) : List UInt8 × Nat × Int :=
  if (lengthOf b).2 ≠ 0 then ([], 0, (lengthOf b).2)
  else if b.length < (lengthOf b).1 + 9 then ([], 0, 5)
  else if sum ((b.drop 6).take (lengthOf b).1) ≠ num3 (b.drop (6 + (lengthOf b).1)) then ([], 0, 6)
  else ((b.drop 6).take (lengthOf b).1, (lengthOf b).1 + 9, 0)

theorem first_ok {b : List UInt8} (h : (first b).2.2 = 0) : 9 ≤ (first b).2.1 ∧ (first b).2.1 ≤ b.length := by
  unfold first at h ⊢
  by_cases h1 : (lengthOf b).2 ≠ 0
  · rw [if_pos h1] at h
    exact absurd h h1
  · rw [if_neg h1] at h ⊢
    by_cases h2 : b.length < (lengthOf b).1 + 9
    · rw [if_pos h2] at h
      exact absurd h (by simp)
    · rw [if_neg h2] at h ⊢
      by_cases h3 : sum ((b.drop 6).take (lengthOf b).1) ≠ num3 (b.drop (6 + (lengthOf b).1))
      · rw [if_pos h3] at h
        exact absurd h (by simp)
      · rw [if_neg h3]
        simp
        omega

/-- All records of a row, and how many bytes they took. -/
def rows (b : List UInt8) : List (List UInt8) × Nat :=
  if _h : (first b).2.2 = 0 then ((first b).1 :: (rows (b.drop (first b).2.1)).1, (first b).2.1 + (rows (b.drop (first b).2.1)).2) else ([], 0)
termination_by b.length
decreasing_by all_goals (have := first_ok _h; simp; omega)

theorem rows_some {b : List UInt8} (h : (first b).2.2 = 0) : rows b = ((first b).1 :: (rows (b.drop (first b).2.1)).1, (first b).2.1 + (rows (b.drop (first b).2.1)).2) := by
  rw [rows, dif_pos h]
theorem rows_stop {b : List UInt8} (h : (first b).2.2 ≠ 0) : rows b = ([], 0) := by
  rw [rows, dif_neg h]

theorem lengthOf_record (b t : List UInt8) (h : b.length ≤ 16384) : lengthOf (three b.length ++ three (sum (three b.length)) ++ t) = (b.length, 0) := by
  have hs := sum_lt (three b.length)
  unfold lengthOf
  have e1 : (three b.length ++ three (sum (three b.length)) ++ t).take 3 = three b.length := by simp [three]
  have e2 : num3 ((three b.length ++ three (sum (three b.length)) ++ t).drop 3) = sum (three b.length) := by
    have : (three b.length ++ three (sum (three b.length)) ++ t).drop 3 = three (sum (three b.length)) ++ t := by simp [three]
    rw [this, num3_append _ _ (by simp [three]), num3_three _ hs]
  have e3 : num3 (three b.length ++ three (sum (three b.length)) ++ t) = b.length := by
    rw [List.append_assoc, num3_append _ _ (by simp [three]), num3_three _ (by omega)]
  rw [if_neg (by simp [three]), e1, e2, if_neg (by simp), e3, if_neg (by omega)]

theorem first_record (b t : List UInt8) (h : b.length ≤ 16384) : first (record b ++ t) = (b, b.length + 9, 0) := by
  have e : record b ++ t = three b.length ++ three (sum (three b.length)) ++ (b ++ three (sum b) ++ t) := by simp [record]
  have hl := lengthOf_record b (b ++ three (sum b) ++ t) h
  have hs := sum_lt b
  rw [e]
  unfold first
  rw [hl]
  have e6 : (three b.length ++ three (sum (three b.length)) ++ (b ++ three (sum b) ++ t)).drop 6 = b ++ three (sum b) ++ t := by simp [three]
  have e7 : (three b.length ++ three (sum (three b.length)) ++ (b ++ three (sum b) ++ t)).drop (6 + b.length) = three (sum b) ++ t := by
    rw [← List.drop_drop, e6]
    simp
  simp only [e6, e7]
  rw [if_neg (by simp), if_neg (by simp [three])]
  have e8 : (b ++ three (sum b) ++ t).take b.length = b := by simp
  rw [e8, num3_append _ _ (by simp [three]), num3_three _ hs, if_neg (by simp)]

/-- A record that is cut is none. -/
theorem first_cut (b t : List UInt8) (n : Nat) (h : b.length ≤ 16384) (hn : n < b.length + 9) : (first ((record b ++ t).take n)).2.2 ≠ 0 := by
  by_cases h6 : n < 6
  · have : lengthOf ((record b ++ t).take n) = (0, 5) := by
      unfold lengthOf
      rw [if_pos (by simp; omega)]
    unfold first
    rw [this]
    simp
  · have e : (record b ++ t).take n = three b.length ++ three (sum (three b.length)) ++ (b ++ three (sum b) ++ t).take (n - 6) := by
      have e0 : record b ++ t = (three b.length ++ three (sum (three b.length))) ++ (b ++ three (sum b) ++ t) := by simp [record]
      rw [e0, List.take_append]
      congr 1
      · apply List.take_of_length_le
        simp [three]
        omega
    have hl := lengthOf_record b ((b ++ three (sum b) ++ t).take (n - 6)) h
    rw [e]
    unfold first
    rw [hl]
    simp only [ne_eq, not_true, if_false]
    rw [if_pos]
    · simp
    · simp [three]
      omega

def recs (l : List (List UInt8)) : List UInt8 := l.flatMap record

theorem rows_recs (l : List (List UInt8)) (h : ∀ b ∈ l, b.length ≤ 16384) : rows (recs l) = (l, (recs l).length) := by
  induction l with
  | nil =>
    have : (first (recs [])).2.2 ≠ 0 := by simp [recs, first, lengthOf]
    rw [rows_stop this]
    rfl
  | cons b l ih =>
    have e : recs (b :: l) = record b ++ recs l := rfl
    have hf := first_record b (recs l) (h b (by simp))
    rw [e, rows_some (by rw [hf]), hf]
    have hd : (record b ++ recs l).drop (b.length + 9) = recs l := by
      rw [← record_length b]
      exact List.drop_left
    simp only [hd]
    rw [ih fun x hx => h x (by simp [hx]), List.length_append, record_length]

/-- How many of the records stand whole in a row's first n bytes. -/
def whole : List (List UInt8) → Nat → Nat
  | [], _ => 0
  | b :: l, n => if b.length + 9 ≤ n then whole l (n - (b.length + 9)) + 1 else 0

theorem rows_cut (l : List (List UInt8)) (n : Nat) (h : ∀ b ∈ l, b.length ≤ 16384) : (rows ((recs l).take n)).1 = l.take (whole l n) := by
  induction l generalizing n with
  | nil =>
    have : (first ((recs []).take n)).2.2 ≠ 0 := by simp [recs, first, lengthOf]
    rw [rows_stop this]
    simp
  | cons b l ih =>
    have e : recs (b :: l) = record b ++ recs l := rfl
    unfold whole
    by_cases hn : b.length + 9 ≤ n
    · rw [if_pos hn]
      have e1 : (record b ++ recs l).take n = record b ++ (recs l).take (n - (b.length + 9)) := by
        rw [List.take_append, record_length]
        congr 1
        apply List.take_of_length_le
        rw [record_length]
        exact hn
      have hf := first_record b ((recs l).take (n - (b.length + 9))) (h b (by simp))
      rw [e, e1, rows_some (by rw [hf]), hf]
      have hd : (record b ++ (recs l).take (n - (b.length + 9))).drop (b.length + 9) = (recs l).take (n - (b.length + 9)) := by
        rw [← record_length b]
        exact List.drop_left
      simp only [hd]
      rw [ih _ fun x hx => h x (by simp [hx])]
      simp
    · rw [if_neg hn, e, rows_stop (first_cut b (recs l) n (h b (by simp)) (by omega))]
      simp

end Go.Proofs.YtelkkpomehgcjaaGreat

namespace Go.Proofs.YtelkkpomehgcjaaGreat
open Go.RowKit
attribute [local go_sem] cell?_more frozen?_more setCell_more size_more tape_more drew_more drewN_more more_drew more_drewN more_more one_out plus_out plus_end lt_one le_p2 le_p3 le_p4 le_p5 le_p6 le_p7 le_p8 le_p9 le_p10 le_p11 le_p12 le_p13 le_p14 le_p15 le_p16 le_p17 le_p18 le_p19 le_p20 le_p21 le_p22 le_p23 le_p24 le_q0 le_q1 lt_q1 le_q2 lt_q2 le_q3 lt_q3 le_q4 lt_q4 le_q5 lt_q5 le_q6 lt_q6 le_q7 lt_q7 le_q8 lt_q8 le_q9 lt_q9 le_q10 lt_q10 le_q11 lt_q11 le_q12 lt_q12 le_q13 lt_q13 le_q14 lt_q14 le_q15 lt_q15 le_q16 lt_q16 le_q17 lt_q17 le_q18 lt_q18 le_q19 lt_q19 le_q20 lt_q20 le_q21 lt_q21 le_q22 lt_q22 le_q23 lt_q23 le_q24 lt_q24

theorem wraps32 (n : Int) (h₀ : 0 ≤ n) (h₁ : n < 2 ^ 32) : IntKind.u32.wrap n = n := by rw [IntKind.wrap_u32]; omega

theorem xor32 (a b : Nat) (ha : a < 4294967296) (hb : b < 4294967296) : bits .xor .u32 (a : Int) (b : Int) = ((a ^^^ b : Nat) : Int) := by
  show IntKind.u32.wrap ((BitVec.ofInt 32 (a : Int) ^^^ BitVec.ofInt 32 (b : Int)).toNat : Int) = _
  have h := Nat.xor_lt_two_pow (n := 32) ha hb
  have e : (BitVec.ofInt 32 (a : Int) ^^^ BitVec.ofInt 32 (b : Int)).toNat = a ^^^ b := by
    rw [BitVec.toNat_xor, BitVec.ofInt_natCast, BitVec.ofInt_natCast, BitVec.toNat_ofNat, BitVec.toNat_ofNat, Nat.mod_eq_of_lt ha, Nat.mod_eq_of_lt hb]
  rw [e]
  exact wraps32 _ (by omega) (by exact_mod_cast h)

theorem and32 (a b : Nat) (ha : a < 4294967296) (hb : b < 4294967296) : bits .and .u32 (a : Int) (b : Int) = ((a &&& b : Nat) : Int) :=
  (bits_nat .u32 32 (by decide) wraps32 a b ha hb).1

theorem and_top (x : Nat) (hx : x < 16777216) : bits .and .u32 (x : Int) 8388608 = if x.testBit 23 then 8388608 else 0 := by
  have h := and32 x 8388608 (by omega) (by decide)
  have e : x &&& 8388608 = if x.testBit 23 then 8388608 else 0 := by
    apply Nat.eq_of_testBit_eq
    intro j
    rw [Nat.testBit_and, show (8388608 : Nat) = 2 ^ 23 from rfl, Nat.testBit_two_pow]
    by_cases hj : 23 = j
    · subst hj
      cases hb : x.testBit 23
      · simp
      · rw [if_pos rfl]
        decide
    · cases hb : x.testBit 23
      · simp [hj]
      · rw [if_pos rfl, Nat.testBit_two_pow]
        simp [hj]
  rw [e] at h
  rw [show (8388608 : Int) = ((8388608 : Nat) : Int) from rfl, h]
  split <;> rfl

theorem and_full (x : Nat) (hx : x < 4294967296) : bits .and .u32 (x : Int) 16777215 = ((x % 16777216 : Nat) : Int) := by
  have h := and32 x 16777215 hx (by decide)
  rw [show (16777215 : Int) = ((16777215 : Nat) : Int) from rfl, h]
  have := Nat.and_two_pow_sub_one_eq_mod x 24
  simp at this
  rw [this]

theorem steps_succ (k x : Nat) : steps (k + 1) x = crcStep (steps k x) := by rw [steps_add k 1]; rfl

theorem turn_any (r c : Nat) (hr : r < 16777216) (hc : c < 256) (w : World) :
    Calls Tryz.prog 108 #[.int .u32 r, .int .u8 c] w fun e w' => e = .returned (.int .u32 (steps 8 (r ^^^ c * 65536) : Nat)) ∧ w' = w := by
  have hx : r ^^^ c * 65536 < 16777216 := xor_lt hr (by omega)
  have h0 : bits .xor .u32 (r : Int) ((c : Int) * 65536) = ((r ^^^ c * 65536 : Nat) : Int) := by
    rw [show ((c : Int) * 65536) = ((c * 65536 : Nat) : Int) by omega]
    exact xor32 r (c * 65536) (by omega) (by omega)
  go_enter Tryz.func108, Tryz.ntmps108
  go_wp2
  go_loopw [0, 11] (fun v i wr => ∃ k : Nat, k ≤ 8 ∧ i = .int .i64 k ∧ v = .int .u32 (steps k (r ^^^ c * 65536) : Nat) ∧ wr = w) (fun _ i _ => (8 - intOf i).toNat)
  case atStart => exact ⟨0, by omega, rfl, rfl, rfl⟩
  case round =>
    obtain ⟨k, hk, rfl, rfl, rfl⟩ := hrel
    have hs : steps k (r ^^^ c * 65536) < 16777216 := steps_lt hx
    by_cases h8 : k = 8
    · subst h8
      go_wp2
      go_ret
      exact ⟨rfl, rfl⟩
    have hk8 : k < 8 := by omega
    have e := steps_succ k (r ^^^ c * 65536)
    generalize steps k (r ^^^ c * 65536) = x at *
    have ht := and_top x hs
    have hs2 : crcStep x = 2 * x % 16777216 ^^^ (if x.testBit 23 then 8801531 else 0) := rfl
    obtain ⟨y, hy⟩ : ∃ y, y = 2 * x % 16777216 := ⟨_, rfl⟩
    have hf : bits .and .u32 ((x : Int) * 2) 16777215 = (y : Int) := by
      rw [hy, show ((x : Int) * 2) = ((2 * x : Nat) : Int) by omega]
      exact and_full _ (by omega)
    have hp : bits .xor .u32 (y : Int) 8801531 = ((y ^^^ 8801531 : Nat) : Int) := xor32 _ 8801531 (by omega) (by omega)
    rw [← hy] at hs2
    clear hy
    by_cases hb : x.testBit 23
    · rw [if_pos hb] at ht hs2
      go_wp2
      · go_roundw
        case rel => exact ⟨k + 1, by omega, by go_num, by rw [e, hs2], trivial⟩
        case measure => simp [intOf]; omega
    · rw [if_neg hb] at ht hs2
      rw [Nat.xor_zero] at hs2
      go_wp2
      · go_roundw
        case rel => exact ⟨k + 1, by omega, by go_num, by rw [e, hs2], trivial⟩
        case measure => simp [intOf]; omega

end Go.Proofs.YtelkkpomehgcjaaGreat

namespace Go.Proofs.YtelkkpomehgcjaaGreat
open Go.RowKit
attribute [local go_sem] cell?_more frozen?_more setCell_more size_more tape_more drew_more drewN_more more_drew more_drewN more_more one_out plus_out plus_end lt_one le_p2 le_p3 le_p4 le_p5 le_p6 le_p7 le_p8 le_p9 le_p10 le_p11 le_p12 le_p13 le_p14 le_p15 le_p16 le_p17 le_p18 le_p19 le_p20 le_p21 le_p22 le_p23 le_p24 le_q0 le_q1 lt_q1 le_q2 lt_q2 le_q3 lt_q3 le_q4 lt_q4 le_q5 lt_q5 le_q6 lt_q6 le_q7 lt_q7 le_q8 lt_q8 le_q9 lt_q9 le_q10 lt_q10 le_q11 lt_q11 le_q12 lt_q12 le_q13 lt_q13 le_q14 lt_q14 le_q15 lt_q15 le_q16 lt_q16 le_q17 lt_q17 le_q18 lt_q18 le_q19 lt_q19 le_q20 lt_q20 le_q21 lt_q21 le_q22 lt_q22 le_q23 lt_q23 le_q24 lt_q24

theorem bitsL_take (l : List UInt8) (k : Nat) (h : k < l.length) : bitsL (l.take (k + 1)) = bitsL (l.take k) ++ bitsOf l[k] := by
  rw [List.take_succ_eq_append_getElem h, bitsL_append]
  rfl

theorem sum_any (v : Value) (l : List UInt8) (w : World) (h : Byt w v l) (hlen : l.length ≤ 1000000) :
    Calls Tryz.prog 101 #[v] w fun e w' => e = .returned (.int .u32 (sum l : Nat)) ∧ w' = w := by
  obtain ⟨ao, cap, rfl, hcap, h⟩ := h.open
  rcases h with rfl | ⟨b, off, rfl, hb, hl⟩
  · go_enter Tryz.func101, Tryz.ntmps101
    go_wp2
    go_loopw [3, 8] (fun s i wr => i = .int .i64 0 ∧ s = .int .u32 11994318 ∧ wr = w) (fun _ _ _ => 0)
    case atStart => exact ⟨rfl, rfl, rfl⟩
    case round =>
      obtain ⟨rfl, rfl, rfl⟩ := hrel
      go_wp2
      go_ret
      exact ⟨rfl, rfl⟩
  · go_enter Tryz.func101, Tryz.ntmps101
    go_wp2
    go_loopw [3, 8] (fun s i wr => ∃ k : Nat, k ≤ l.length ∧ i = .int .i64 k ∧ s = .int .u32 (run start (bitsL (l.take k)) : Nat) ∧ wr = w) (fun _ i _ => (l.length - intOf i).toNat)
    case atStart => exact ⟨0, by omega, rfl, rfl, rfl⟩
    case round =>
      obtain ⟨k, hk, rfl, rfl, rfl⟩ := hrel
      by_cases hlt : k < l.length
      · have hc := hl k hlt
        have hr : run start (bitsL (l.take k)) < 16777216 := sum_lt _
        have hn : run start (bitsL (l.take (k + 1))) = run (run start (bitsL (l.take k))) (bitsOf l[k]) := by rw [bitsL_take l k hlt, run_append]
        rw [run_byte] at hn
        have hb8 := l[k].toNat_lt
        generalize run start (bitsL (l.take k)) = r at *
        generalize l[k].toNat = c at *
        go_wp2_with (go_at_call 108; refine (turn_any r c hr hb8 _).mono ?_; rintro e w1 ⟨rfl, rfl⟩)
        go_roundw
        case rel => exact ⟨k + 1, by omega, by go_num, by rw [hn], trivial⟩
        case measure => simp [intOf]; omega
      · have hk' : k = l.length := by omega
        subst hk'
        rw [List.take_length]
        go_wp2
        go_ret
        exact ⟨rfl, rfl⟩

/-- The reference's crcStep. -/
theorem bitOn_ref (r : Nat) (b : Bool) (hr : r < 16777216) : bitOn r b = if r / 8388608 = b.toNat then r % 8388608 * 2 else r % 8388608 * 2 ^^^ 8801531 := by
  have e : (2 * (r ^^^ top b)) % 16777216 = r % 8388608 * 2 := by
    have h1 : (r ^^^ top b) % 8388608 = r % 8388608 := by
      have := Nat.xor_mod_two_pow (a := r) (b := top b) (n := 23)
      rw [show (8388608 : Nat) = 2 ^ 23 from rfl, this]
      cases b <;> simp [top]
    omega
  have hd : r.testBit 23 = decide (r / 8388608 = 1) := by
    rw [Nat.testBit_eq_decide_div_mod_eq]
    have : r / 8388608 % 2 = r / 8388608 := by omega
    simp [this]
  have ht : (r ^^^ top b).testBit 23 = (decide (r / 8388608 = 1) ^^ b) := by
    rw [Nat.testBit_xor, hd]
    congr 1
    cases b <;> decide
  unfold bitOn crcStep
  rw [e, ht]
  have h01 : r / 8388608 = 0 ∨ r / 8388608 = 1 := by omega
  rcases h01 with h0 | h0 <;> rw [h0] <;> cases b <;> simp

theorem bit_shift (c : UInt8) (i : Nat) : c.toNat / 2 ^ i % 2 = (c.toNat.testBit i).toNat := by
  rw [Nat.testBit_eq_decide_div_mod_eq]
  have h2 : c.toNat / 2 ^ i % 2 = 0 ∨ c.toNat / 2 ^ i % 2 = 1 := by omega
  rcases h2 with h | h <;> simp [h]

theorem cast_bit (c m : Nat) : ((c : Int) / 2 ^ m).tmod 2 = ((c / 2 ^ m % 2 : Nat) : Int) := by
  have e : (c : Int) / 2 ^ m = ((c / 2 ^ m : Nat) : Int) := by push_cast; rfl
  rw [e, Int.tmod_eq_emod_of_nonneg (Int.natCast_nonneg _)]
  rfl

theorem cast_top (r : Nat) : (r : Int) / 8388608 = ((r / 8388608 : Nat) : Int) := rfl

theorem run_take (l : List Bool) (k r : Nat) (h : k < l.length) : run r (l.take (k + 1)) = bitOn (run r (l.take k)) l[k] := by
  rw [List.take_succ_eq_append_getElem h, run_append]
  rfl

theorem refSum_any (v : Value) (l : List UInt8) (w : World) (h : Byt w v l) (hlen : l.length ≤ 1000000) :
    Calls Tryz.prog 74 #[v] w fun e w' => e = .returned (.int .u32 (sum l : Nat)) ∧ w' = w := by
  obtain ⟨ao, cap, rfl, hcap, h⟩ := h.open
  rcases h with rfl | ⟨b, off, rfl, hb, hl⟩
  · go_enter Tryz.func74, Tryz.ntmps74
    go_wp2
    go_loopw [3, 4] (fun s i wr => i = .int .i64 0 ∧ s = .int .u32 11994318 ∧ wr = w) (fun _ _ _ => 0)
    case atStart => exact ⟨rfl, rfl, rfl⟩
    case round =>
      obtain ⟨rfl, rfl, rfl⟩ := hrel
      go_wp2
      go_ret
      exact ⟨rfl, rfl⟩
  · have hbl := bitsL_length l
    go_enter Tryz.func74, Tryz.ntmps74
    go_wp2
    go_loopw [3, 4] (fun s i wr => ∃ k : Nat, k ≤ 8 * l.length ∧ i = .int .i64 k ∧ s = .int .u32 (run start ((bitsL l).take k) : Nat) ∧ wr = w) (fun _ i _ => (8 * l.length - intOf i).toNat)
    case atStart => exact ⟨0, by omega, rfl, rfl, rfl⟩
    case round =>
      obtain ⟨k, hk, rfl, rfl, rfl⟩ := hrel
      by_cases hlt : k < 8 * l.length
      · have hc := hl (k / 8) (by omega)
        have hr : run start ((bitsL l).take k) < 16777216 := run_lt (by decide) _
        have hn := run_take (bitsL l) k start (by omega)
        rw [bitsL_get l k hlt, bitOn_ref _ _ hr, ← bit_shift] at hn
        have hb8 := l[k / 8].toNat_lt
        generalize run start ((bitsL l).take k) = r at *
        generalize l[k / 8].toNat = c at *
        go_wp2
        · rename_i hne
          rw [cast_bit, cast_top] at hne
          have hne' : r / 8388608 ≠ c / 2 ^ (7 - k % 8) % 2 := by
            intro he
            rw [he] at hne
            simp at hne
          rw [if_neg hne'] at hn
          go_roundw
          case rel => exact ⟨k + 1, by omega, by go_num, by rw [hn, ← xor32 _ 8801531 (by omega) (by omega)]; rfl, trivial⟩
          case measure => simp [intOf]; omega
        · rename_i hne
          rw [cast_bit, cast_top] at hne
          have hne' : r / 8388608 = c / 2 ^ (7 - k % 8) % 2 := by
            simp only [bne_eq_false_iff_eq] at hne
            exact Int.ofNat_inj.1 hne
          rw [if_pos hne'] at hn
          go_roundw
          case rel => exact ⟨k + 1, by omega, by go_num, by rw [hn]; rfl, trivial⟩
          case measure => simp [intOf]; omega
      · have hk' : k = 8 * l.length := by omega
        subst hk'
        rw [← hbl, List.take_length]
        go_wp2
        go_ret
        exact ⟨rfl, rfl⟩

end Go.Proofs.YtelkkpomehgcjaaGreat

namespace Go.Proofs.YtelkkpomehgcjaaGreat
open Go.RowKit
attribute [local go_sem] cell?_more frozen?_more setCell_more size_more tape_more drew_more drewN_more more_drew more_drewN more_more one_out plus_out plus_end lt_one le_p2 le_p3 le_p4 le_p5 le_p6 le_p7 le_p8 le_p9 le_p10 le_p11 le_p12 le_p13 le_p14 le_p15 le_p16 le_p17 le_p18 le_p19 le_p20 le_p21 le_p22 le_p23 le_p24 le_q0 le_q1 lt_q1 le_q2 lt_q2 le_q3 lt_q3 le_q4 lt_q4 le_q5 lt_q5 le_q6 lt_q6 le_q7 lt_q7 le_q8 lt_q8 le_q9 lt_q9 le_q10 lt_q10 le_q11 lt_q11 le_q12 lt_q12 le_q13 lt_q13 le_q14 lt_q14 le_q15 lt_q15 le_q16 lt_q16 le_q17 lt_q17 le_q18 lt_q18 le_q19 lt_q19 le_q20 lt_q20 le_q21 lt_q21 le_q22 lt_q22 le_q23 lt_q23 le_q24 lt_q24

theorem num3_of {l : List UInt8} (h : 3 ≤ l.length) : num3 l = l[0].toNat * 65536 + l[1].toNat * 256 + l[2].toNat := by
  match l, h with
  | a :: b :: c :: r, _ => rfl

theorem number_any (v : Value) (l : List UInt8) (w : World) (h : Byt w v l) (h3 : 3 ≤ l.length) :
    Calls Tryz.prog 120 #[v] w fun e w' => e = .returned (.int .u32 (num3 l : Nat)) ∧ Adds w w' := by
  obtain ⟨ao, cap, rfl, hcap, h⟩ := h.open
  rcases h with rfl | ⟨b, off, rfl, hb, hl⟩
  · simp at h3
  rw [num3_of h3]
  have c0 := hl 0 (by omega)
  have c1 := hl 1 (by omega)
  have c2 := hl 2 (by omega)
  rw [Nat.add_zero] at c0
  have a0 := l[0].toNat_lt
  have a1 := l[1].toNat_lt
  have a2 := l[2].toNat_lt
  generalize l[0].toNat = x at *
  generalize l[1].toNat = y at *
  generalize l[2].toNat = z at *
  have h1 : bits .or .u32 ((x : Int) * 65536) ((y : Int) * 256) = (x : Int) * 65536 + (y : Int) * 256 :=
    bits_join .u32 32 (by decide) wraps32 16 _ _ (by omega) (by omega) (by omega) (by omega) (by omega) (by omega)
  have h2 : bits .or .u32 ((x : Int) * 65536 + (y : Int) * 256) (z : Int) = (x : Int) * 65536 + (y : Int) * 256 + (z : Int) :=
    bits_join .u32 32 (by decide) wraps32 8 _ _ (by omega) (by omega) (by omega) (by omega) (by omega) (by omega)
  go_enter Tryz.func120, Tryz.ntmps120
  go_wp2
  go_quiet (fail)
  go_wp2
  go_ret
  refine ⟨?_, ?_⟩
  · rfl
  repeat (first | with_reducible exact Adds.refl _ | with_reducible refine Adds.alloc ?_ _ | with_reducible refine Adds.more ?_ _ _ | with_reducible refine Adds.drew ?_ | with_reducible refine Adds.drewN ?_ _)

theorem refNumber_any (v : Value) (l : List UInt8) (w : World) (h : Byt w v l) (h3 : 3 ≤ l.length) :
    Calls Tryz.prog 99 #[v] w fun e w' => e = .returned (.int .i64 (num3 l : Nat)) ∧ Adds w w' := by
  obtain ⟨ao, cap, rfl, hcap, h⟩ := h.open
  rcases h with rfl | ⟨b, off, rfl, hb, hl⟩
  · simp at h3
  rw [num3_of h3]
  have c0 := hl 0 (by omega)
  have c1 := hl 1 (by omega)
  have c2 := hl 2 (by omega)
  rw [Nat.add_zero] at c0
  have a0 := l[0].toNat_lt
  have a1 := l[1].toNat_lt
  have a2 := l[2].toNat_lt
  generalize l[0].toNat = x at *
  generalize l[1].toNat = y at *
  generalize l[2].toNat = z at *
  go_enter Tryz.func99, Tryz.ntmps99
  go_wp2
  go_quiet (fail)
  go_wp2
  go_ret
  refine ⟨?_, ?_⟩
  · rfl
  repeat (first | with_reducible exact Adds.refl _ | with_reducible refine Adds.alloc ?_ _ | with_reducible refine Adds.more ?_ _ _ | with_reducible refine Adds.drew ?_ | with_reducible refine Adds.drewN ?_ _)

theorem byt_new {w : World} {xs : List Value} {l : List UInt8} {T : TypeId} {k n : Nat} (hk : k = w.heap.size) (hx : xs = cellsB l) (hn : n = l.length) : Byt (w.alloc (.cells xs.toArray T)) (.slice (some ⟨k, 0, none⟩) n n) l := by
  subst hk hx hn
  refine ⟨_, l.length, by rw [cellsB_length], by rw [cellsB_length]; exact Nat.le_refl _, .inr ⟨w.heap.size, 0, rfl, by simp, ?_⟩⟩
  intro j hj
  simp [hj]

theorem three_any (n : Nat) (w : World) (hn : n < 4294967296) :
    Calls Tryz.prog 73 #[.int .u32 n] w fun e w' => ∃ v, e = .returned v ∧ Adds w w' ∧ Byt w' v (three n) := by
  go_enter Tryz.func73, Tryz.ntmps73
  go_wp2
  go_ret
  refine ⟨_, rfl, ?_, ?_⟩
  · repeat (first | with_reducible exact Adds.refl _ | with_reducible refine Adds.alloc ?_ _ | with_reducible refine Adds.more ?_ _ _ | with_reducible refine Adds.drew ?_ | with_reducible refine Adds.drewN ?_ _)
  · refine byt_new rfl ?_ rfl
    simp [three, cellsB]

theorem byt_app {ops : Array Oper} {rest : List Oper} {o : Oper} {a : Act} {w : World} {Q : Exit → Act → World → Prop} (hgd : o.guard = none) (s x : Operand) (ho : o.op = .call { callee := .builtin .append, args := #[s, x], argTypes := #[40, 40] })
    {B : Nat} {v : Value} {l : List UInt8} {W0 : World} (h : OwnV B 5 v (cellsB l) W0 w) (hs : a.eval s = v) {x' : Value} {m : List UInt8} (hg : Byt w x' m) (hx : a.eval x = x') (hlen : l.length + m.length ≤ 1000000)
    (hk : ∀ v' w', OwnV B 5 v' (cellsB (l ++ m)) W0 w' → wpList Tryz.prog ops Q rest (a.put o.dst v') w') : wpList Tryz.prog ops Q (o :: rest) a w := by
  obtain ⟨v', w', hr, h2, _⟩ := ownV_append Tryz.underlying40 Tryz.info5 rfl (by decide) w B o.type v (cellsB l) W0 h x' (cellsB m) hg (cellsB_one m) (by rw [cellsB_length, cellsB_length]; exact hlen)
  exact Lib.wpList_append_run w hgd s x 40 40 ho v x' hs hx v' w' hr (hk v' w' (by rw [cellsB_append]; exact h2))

theorem put_any (B : Nat) (v : Value) (l : List UInt8) (W0 w : World) (n : Nat) (hl : l.length ≤ 100000) (h : OwnV B 5 v (cellsB l) W0 w) :
    Calls Tryz.prog 100 #[v, .int .u32 n] w fun e w' => ∃ v', e = .returned v' ∧ OwnV B 5 v' (cellsB (l ++ three n)) W0 w' := by
  go_enter Tryz.func100, Tryz.ntmps100
  go_wp2_with (at_builtin; refine byt_app rfl (.tmp 5) (.tmp 14) rfl (h.alloc _) rfl (byt_new (l := three n) rfl (by simp [three, cellsB]) rfl) rfl (by rw [three_length]; omega) ?_; intro v1 w1 h1)
  go_ret
  exact ⟨v1, rfl, h1⟩

end Go.Proofs.YtelkkpomehgcjaaGreat

namespace Go.Proofs.YtelkkpomehgcjaaGreat
open Go.RowKit
attribute [local go_sem] cell?_more frozen?_more setCell_more size_more tape_more drew_more drewN_more more_drew more_drewN more_more one_out plus_out plus_end lt_one le_p2 le_p3 le_p4 le_p5 le_p6 le_p7 le_p8 le_p9 le_p10 le_p11 le_p12 le_p13 le_p14 le_p15 le_p16 le_p17 le_p18 le_p19 le_p20 le_p21 le_p22 le_p23 le_p24 le_q0 le_q1 lt_q1 le_q2 lt_q2 le_q3 lt_q3 le_q4 lt_q4 le_q5 lt_q5 le_q6 lt_q6 le_q7 lt_q7 le_q8 lt_q8 le_q9 lt_q9 le_q10 lt_q10 le_q11 lt_q11 le_q12 lt_q12 le_q13 lt_q13 le_q14 lt_q14 le_q15 lt_q15 le_q16 lt_q16 le_q17 lt_q17 le_q18 lt_q18 le_q19 lt_q19 le_q20 lt_q20 le_q21 lt_q21 le_q22 lt_q22 le_q23 lt_q23 le_q24 lt_q24

theorem Byt.take {w : World} {ao : Option Addr} {cap hi n : Nat} {l : List UInt8} (h : Byt w (.slice ao n cap) l) (h2 : hi ≤ l.length) : Byt w (.slice ao hi cap) (l.take hi) := by
  have := h.cut (lo := 0) (hi := hi) (by omega) h2
  rw [List.drop_zero, Nat.sub_zero, Nat.sub_zero] at this
  have e : ao.map (·.add 0) = ao := by cases ao <;> simp [Addr.add]
  rw [e] at this
  simpa using this

theorem Byt.plus {w : World} {v : Value} {l : List UInt8} (h : Byt w v l) (p : Plus) : Byt (addTo w p) v l := h.adds ⟨p.os, p.draws, rfl⟩

theorem Calls.plus_of {P : Program} {f : FuncId} {args : Array Value} {w : World} {p : Plus} {v : Value}
    (h : Calls P f args (addTo w p) fun e w' => e = .returned v ∧ w' = addTo w p) : Calls P f args (addTo w p) fun e w'' => e = .returned v ∧ ∃ p : Plus, w'' = addTo w p :=
  h.mono fun _ _ ⟨he, hw⟩ => ⟨he, p, hw⟩

theorem beq_cast (a b : Nat) : ((a : Int) == (b : Int)) = decide (a = b) := by
  by_cases h : a = b
  · subst h
    simp
  · have : ¬ ((a : Int) = (b : Int)) := by omega
    rw [decide_eq_false h]
    simpa using this

theorem sealed_any (v : Value) (l : List UInt8) (w : World) (h : Byt w v l) (h3 : 3 ≤ l.length) (hlen : l.length ≤ 1000000) :
    Calls Tryz.prog 107 #[v] w fun e w' => e = .returned (.bool (decide (sum (l.take (l.length - 3)) = num3 (l.drop (l.length - 3))))) ∧ Adds w w' := by
  have h' := h
  obtain ⟨ao, cap, rfl, hcap, _⟩ := h.open
  have hA := h'.take (hi := l.length - 3) (by omega)
  have hB := h'.cut (lo := l.length - 3) (hi := l.length) (by omega) (by omega)
  rw [List.take_length, if_neg (by omega)] at hB
  generalize hS : sum (l.take (l.length - 3)) = S
  generalize hM : num3 (l.drop (l.length - 3)) = M
  have k1 : ∀ p, Calls Tryz.prog 101 #[.slice ao (l.length - 3) cap] (addTo w p) fun e w'' => e = .returned (.int .u32 (S : Nat)) ∧ ∃ p : Plus, w'' = addTo w p := fun p => by
    rw [← hS]
    exact Calls.plus_of (sum_any _ _ _ (hA.plus _) (by simp; omega))
  have k2 : ∀ p, Calls Tryz.prog 120 #[.slice (ao.map (·.add (l.length - 3))) (l.length - (l.length - 3)) (cap - (l.length - 3))] (addTo w p) fun e w'' => e = .returned (.int .u32 (M : Nat)) ∧ ∃ p : Plus, w'' = addTo w p := fun p => by
    rw [← hM]
    exact Calls.adds_of (number_any _ _ _ (hB.plus _) (by simp; omega))
  go_enter Tryz.func107, Tryz.ntmps107
  go_wp2
  refine wp_region_adds (by kernel_rfl) (by kernel_rfl) ?_
  repeat (go_big_quiet_step ((first | (go_at_call 101; exact k1 _) | (go_at_call 120; exact k2 _))))
  refine wpQuiet_nil ?_
  rintro _ ⟨pl, rfl⟩
  unfold addTo
  go_wp2
  go_ret
  refine ⟨?_, ?_⟩
  · show Ending.returned (.bool ((S : Int) == (M : Int))) = _
    rw [beq_cast]
  repeat (first | with_reducible exact Adds.refl _ | with_reducible refine Adds.alloc ?_ _ | with_reducible refine Adds.more ?_ _ _ | with_reducible refine Adds.drew ?_ | with_reducible refine Adds.drewN ?_ _)

/-- .. as the register tells it. -/
theorem sealed_reg (l : List UInt8) (h3 : 3 ≤ l.length) : (sum (l.take (l.length - 3)) = num3 (l.drop (l.length - 3))) ↔ run start (bitsL l) = 0 := by
  rw [← sealed_iff _ _ (by simp; omega), List.take_append_drop]

theorem length_any (v : Value) (l : List UInt8) (w : World) (h : Byt w v l) (hlen : l.length ≤ 1000000) :
    Calls Tryz.prog 106 #[v] w fun e w' => e = .returned (.tuple #[.int .i64 ((lengthOf l).1 : Nat), .int .i64 (lengthOf l).2]) ∧ Adds w w' := by
  have h' := h
  obtain ⟨ao, cap, rfl, hcap, _⟩ := h.open
  unfold lengthOf
  by_cases h6 : l.length < 6
  · rw [if_pos h6]
    go_enter Tryz.func106, Tryz.ntmps106
    go_wp2
    go_ret2
    refine ⟨rfl, ?_⟩
    repeat (first | with_reducible exact Adds.refl _ | with_reducible refine Adds.alloc ?_ _ | with_reducible refine Adds.more ?_ _ _ | with_reducible refine Adds.drew ?_ | with_reducible refine Adds.drewN ?_ _)
  rw [if_neg h6]
  have hA := h'.take (hi := 6) (by omega)
  have hT : (l.take 6).length = 6 := by simp; omega
  have hE : (sum ((l.take 6).take ((l.take 6).length - 3)) = num3 ((l.take 6).drop ((l.take 6).length - 3))) ↔ sum (l.take 3) = num3 (l.drop 3) := by
    rw [hT, List.take_take, List.drop_take, num3_take _ _ (by omega)]
    rfl
  have k1 : ∀ W, Adds w W → Calls Tryz.prog 107 #[.slice ao 6 cap] W fun e w' => e = .returned (.bool (decide (sum (l.take 3) = num3 (l.drop 3)))) ∧ Adds W w' := fun W hW => by
    have := sealed_any _ _ W (hA.adds hW) (by omega) (by omega)
    rw [decide_eq_decide.2 hE] at this
    exact this
  have k2 : ∀ W, Adds w W → Calls Tryz.prog 120 #[.slice ao l.length cap] W fun e w' => e = .returned (.int .u32 (num3 l : Nat)) ∧ Adds W w' := fun W hW => number_any _ _ _ (h'.adds hW) (by omega)
  by_cases hs : sum (l.take 3) = num3 (l.drop 3)
  · rw [if_neg (by simpa using hs)]
    rw [decide_eq_true hs] at k1
    have hlt := num3_lt l
    generalize num3 l = n at *
    clear hs hE
    by_cases hn : 16384 < n
    · rw [if_pos hn]
      go_enter Tryz.func106, Tryz.ntmps106
      go_wp2_with (first
        | (go_at_call 107; refine (k1 _ (by repeat (first | with_reducible exact Adds.refl _ | with_reducible refine Adds.alloc ?_ _ | with_reducible refine Adds.more ?_ _ _ | with_reducible refine Adds.drew ?_ | with_reducible refine Adds.drewN ?_ _))).mono ?_; rintro e w1 ⟨rfl, os1, n1, rfl⟩)
        | (go_at_call 120; refine (k2 _ (by repeat (first | with_reducible exact Adds.refl _ | with_reducible refine Adds.alloc ?_ _ | with_reducible refine Adds.more ?_ _ _ | with_reducible refine Adds.drew ?_ | with_reducible refine Adds.drewN ?_ _))).mono ?_; rintro e w1 ⟨rfl, os2, n2, rfl⟩))
      go_ret2
      refine ⟨rfl, ?_⟩
      repeat (first | with_reducible exact Adds.refl _ | with_reducible refine Adds.alloc ?_ _ | with_reducible refine Adds.more ?_ _ _ | with_reducible refine Adds.drew ?_ | with_reducible refine Adds.drewN ?_ _)
    · rw [if_neg hn]
      go_enter Tryz.func106, Tryz.ntmps106
      go_wp2_with (first
        | (go_at_call 107; refine (k1 _ (by repeat (first | with_reducible exact Adds.refl _ | with_reducible refine Adds.alloc ?_ _ | with_reducible refine Adds.more ?_ _ _ | with_reducible refine Adds.drew ?_ | with_reducible refine Adds.drewN ?_ _))).mono ?_; rintro e w1 ⟨rfl, os1, n1, rfl⟩)
        | (go_at_call 120; refine (k2 _ (by repeat (first | with_reducible exact Adds.refl _ | with_reducible refine Adds.alloc ?_ _ | with_reducible refine Adds.more ?_ _ _ | with_reducible refine Adds.drew ?_ | with_reducible refine Adds.drewN ?_ _))).mono ?_; rintro e w1 ⟨rfl, os2, n2, rfl⟩))
      go_ret2
      refine ⟨rfl, ?_⟩
      repeat (first | with_reducible exact Adds.refl _ | with_reducible refine Adds.alloc ?_ _ | with_reducible refine Adds.more ?_ _ _ | with_reducible refine Adds.drew ?_ | with_reducible refine Adds.drewN ?_ _)
  · rw [if_pos (by simpa using hs)]
    rw [decide_eq_false hs] at k1
    clear hs hE
    go_enter Tryz.func106, Tryz.ntmps106
    go_wp2_with (first
      | (go_at_call 107; refine (k1 _ (by repeat (first | with_reducible exact Adds.refl _ | with_reducible refine Adds.alloc ?_ _ | with_reducible refine Adds.more ?_ _ _ | with_reducible refine Adds.drew ?_ | with_reducible refine Adds.drewN ?_ _))).mono ?_; rintro e w1 ⟨rfl, os1, n1, rfl⟩)
      | (go_at_call 120; refine (k2 _ (by repeat (first | with_reducible exact Adds.refl _ | with_reducible refine Adds.alloc ?_ _ | with_reducible refine Adds.more ?_ _ _ | with_reducible refine Adds.drew ?_ | with_reducible refine Adds.drewN ?_ _))).mono ?_; rintro e w1 ⟨rfl, os2, n2, rfl⟩))
    go_ret2
    refine ⟨rfl, ?_⟩
    repeat (first | with_reducible exact Adds.refl _ | with_reducible refine Adds.alloc ?_ _ | with_reducible refine Adds.more ?_ _ _ | with_reducible refine Adds.drew ?_ | with_reducible refine Adds.drewN ?_ _)

end Go.Proofs.YtelkkpomehgcjaaGreat

namespace Go.Proofs.YtelkkpomehgcjaaGreat
open Go.RowKit

theorem ownV_empty (w : World) (e : TypeId) : OwnV w.heap.size e (.slice (some ⟨w.heap.size, 0, none⟩) 0 0) [] w (w.alloc (.cells #[] e)) := by
  refine ⟨⟨rfl, .inr ⟨w.heap.size, 0, #[], rfl, Nat.le_refl _, new_block _ _, Nat.le_refl _, by decide, rfl, rfl⟩⟩, (Adds.refl w).alloc _ |>.below, by simp⟩

theorem OwnV.byt {B : Nat} {e : TypeId} {v : Value} {l : List UInt8} {W0 w : World} (h : OwnV B e v (cellsB l) W0 w) : Byt w v l := h.lst

theorem OwnV.added {e : TypeId} {v : Value} {xs : List Value} {W0 w : World} (h : OwnV W0.heap.size e v xs W0 w) : Adds W0 w := Adds.of h.2.1

/-- Block b lies below B, or is one of bytes. -/
def Ok (B : Nat) (w : World) (b : Nat) : Prop := b < B ∨ ∃ C fr, w.heap[b]? = some (.cells C 5 fr)

def BytO (B : Nat) (w : World) (v : Value) (l : List UInt8) : Prop :=
  ∃ ao cap, v = .slice ao l.length cap ∧ l.length ≤ cap ∧ (l = [] ∨ ∃ b off, ao = some ⟨b, off, none⟩ ∧ b < w.heap.size ∧ Ok B w b ∧ LiesB w b off l)

theorem byt_of {w : World} {ao : Option Addr} {cap : Nat} {l : List UInt8} (hc : l.length ≤ cap) (h : l = [] ∨ ∃ b off, ao = some ⟨b, off, none⟩ ∧ b < w.heap.size ∧ LiesB w b off l) : Byt w (.slice ao l.length cap) l := by
  refine ⟨ao, cap, by rw [cellsB_length], by rw [cellsB_length]; exact hc, ?_⟩
  rcases h with rfl | ⟨b, off, rfl, hb, hl⟩
  · exact .inl rfl
  · refine .inr ⟨b, off, rfl, hb, fun j hj => ?_⟩
    rw [cellsB_length] at hj
    rw [hl j hj]
    simp [cellsB]

theorem BytO.byt {B : Nat} {w : World} {v : Value} {l : List UInt8} (h : BytO B w v l) : Byt w v l := by
  obtain ⟨ao, cap, rfl, hc, h⟩ := h
  refine byt_of hc ?_
  rcases h with h | ⟨b, off, rfl, hb, _, hl⟩
  · exact .inl h
  · exact .inr ⟨b, off, rfl, hb, hl⟩

theorem BytO.mono {B B' : Nat} {w : World} {v : Value} {l : List UInt8} (h : BytO B w v l) (hB : B ≤ B') : BytO B' w v l := by
  obtain ⟨ao, cap, rfl, hc, h⟩ := h
  refine ⟨ao, cap, rfl, hc, ?_⟩
  rcases h with h | ⟨b, off, rfl, hb, hk, hl⟩
  · exact .inl h
  · exact .inr ⟨b, off, rfl, hb, hk.imp (fun h => Nat.lt_of_lt_of_le h hB) id, hl⟩

/-- What lay ahead of the heap's end. -/
theorem Byt.old {w : World} {v : Value} {l : List UInt8} (h : Byt w v l) : BytO w.heap.size w v l := by
  obtain ⟨ao, cap, rfl, hc, h⟩ := h.open
  refine ⟨ao, cap, rfl, hc, ?_⟩
  rcases h with h | ⟨b, off, rfl, hb, hl⟩
  · exact .inl h
  · exact .inr ⟨b, off, rfl, hb, .inl hb, hl⟩

theorem OwnV.tagged {B : Nat} {v : Value} {l : List UInt8} {W0 w : World} (h : OwnV B 5 v (cellsB l) W0 w) : BytO 0 w v l := by
  obtain ⟨ao, cap, rfl, hc, hl⟩ := h.byt.open
  refine ⟨ao, cap, rfl, hc, ?_⟩
  rcases hl with hl | ⟨b, off, rfl, hb, hl⟩
  · exact .inl hl
  · rcases h.1.2 with ⟨e, _⟩ | ⟨g, cap', cur, e, _, hg, _⟩
    · cases e
    · simp only [Value.slice.injEq, Option.some.injEq, Addr.mk.injEq] at e
      obtain ⟨⟨rfl, rfl, _⟩, _, _⟩ := e
      exact .inr ⟨b, 0, rfl, hb, .inr ⟨cur, _, hg⟩, hl⟩

theorem Ok.adds {B : Nat} {w w' : World} {b : Nat} (h : Ok B w b) (hb : b < w.heap.size) (ha : Adds w w') : Ok B w' b := by
  refine h.imp id ?_
  rintro ⟨C, fr, h⟩
  exact ⟨C, fr, by rw [ha.below.block b hb]; exact h⟩

theorem BytO.adds {B : Nat} {w w' : World} {v : Value} {l : List UInt8} (h : BytO B w v l) (ha : Adds w w') : BytO B w' v l := by
  obtain ⟨ao, cap, rfl, hc, h⟩ := h
  refine ⟨ao, cap, rfl, hc, ?_⟩
  rcases h with h | ⟨b, off, rfl, hb, hk, hl⟩
  · exact .inl h
  · refine .inr ⟨b, off, rfl, Nat.lt_of_lt_of_le hb ha.below.size, hk.adds hb ha, ?_⟩
    obtain ⟨os, k, rfl⟩ := ha
    intro j hj
    rw [cell?_more _ _ _ _ hb]
    exact hl j hj

/-- A row of slices grows: the bytes stay. -/
theorem BytO.keep {B B' : Nat} {w w' W0 : World} {v x : Value} {l : List UInt8} {xs : List Value} (h : BytO B w x l) (ho : OwnV B' 40 v xs W0 w) (hB : B ≤ B') (hg : w.grownBy w' v.ownBlock) : BytO B w' x l := by
  obtain ⟨ao, cap, rfl, hc, h⟩ := h
  refine ⟨ao, cap, rfl, hc, ?_⟩
  rcases h with h | ⟨b, off, rfl, hb, hk, hl⟩
  · exact .inl h
  · have hne : some b ≠ v.ownBlock := by
      intro e
      have hlt := ho.1.lt b e.symm
      rcases hk with hk | ⟨C, fr, hk⟩
      · omega
      · rcases ho.1.2 with ⟨rfl, _⟩ | ⟨g, cap', cur, rfl, _, hg', _⟩
        · cases e
        · simp only [Value.ownBlock, Option.some.injEq] at e
          subst e
          rw [hk] at hg'
          simp at hg'
    have hblk := hg.block b hb hne
    refine .inr ⟨b, off, rfl, Nat.lt_of_lt_of_le hb hg.size, ?_, ?_⟩
    · refine hk.imp id ?_
      rintro ⟨C, fr, h⟩
      exact ⟨C, fr, by rw [hblk]; exact h⟩
    · intro j hj
      rw [World.cell?_of_block hblk]
      exact hl j hj

theorem BytO.cut {B : Nat} {w : World} {ao : Option Addr} {cap lo hi n : Nat} {l : List UInt8} (h : BytO B w (.slice ao n cap) l) (h1 : lo ≤ hi) (h2 : hi ≤ l.length) :
    BytO B w (.slice (if cap = lo then ao else ao.map (·.add lo)) (hi - lo) (cap - lo)) ((l.take hi).drop lo) := by
  have hb := h.byt.cut h1 h2
  obtain ⟨ao1, cap1, e1, hc1, hl1⟩ := hb.open
  obtain ⟨ao2, cap2, e2, hc2, hl2⟩ := h
  simp only [Value.slice.injEq] at e1 e2
  obtain ⟨e11, e12, e13⟩ := e1
  obtain ⟨rfl, rfl, rfl⟩ := e2
  refine ⟨ao1, cap1, by rw [e11, e12, e13], hc1, ?_⟩
  rcases hl1 with hl1 | ⟨b, off, rfl, hb1, hl1⟩
  · exact .inl hl1
  · rcases hl2 with hl2 | ⟨b', off', rfl, hb2, hk, _⟩
    · subst hl2
      exact .inl (by simp)
    · have hbb : b = b' := by
        by_cases hcl : cap = lo
        · rw [if_pos hcl] at e11
          simp only [Option.some.injEq, Addr.mk.injEq] at e11
          exact e11.1.symm
        · rw [if_neg hcl, Option.map_some, add_at] at e11
          simp only [Option.some.injEq, Addr.mk.injEq] at e11
          exact e11.1.symm
      subst hbb
      exact .inr ⟨b, off, rfl, hb1, hk, hl1⟩

theorem bytO_none (B : Nat) (w : World) : BytO B w (.slice none 0 0) [] := ⟨none, 0, rfl, Nat.le_refl _, .inl rfl⟩

theorem bytO_nil (w : World) : BytO 0 w (.slice none 0 0) [] := ⟨none, 0, rfl, Nat.le_refl _, .inl rfl⟩

end Go.Proofs.YtelkkpomehgcjaaGreat

namespace Go.Proofs.YtelkkpomehgcjaaGreat
open Go.RowKit
attribute [local go_sem] cell?_more frozen?_more setCell_more size_more tape_more drew_more drewN_more more_drew more_drewN more_more one_out plus_out plus_end lt_one le_p2 le_p3 le_p4 le_p5 le_p6 le_p7 le_p8 le_p9 le_p10 le_p11 le_p12 le_p13 le_p14 le_p15 le_p16 le_p17 le_p18 le_p19 le_p20 le_p21 le_p22 le_p23 le_p24 le_q0 le_q1 lt_q1 le_q2 lt_q2 le_q3 lt_q3 le_q4 lt_q4 le_q5 lt_q5 le_q6 lt_q6 le_q7 lt_q7 le_q8 lt_q8 le_q9 lt_q9 le_q10 lt_q10 le_q11 lt_q11 le_q12 lt_q12 le_q13 lt_q13 le_q14 lt_q14 le_q15 lt_q15 le_q16 lt_q16 le_q17 lt_q17 le_q18 lt_q18 le_q19 lt_q19 le_q20 lt_q20 le_q21 lt_q21 le_q22 lt_q22 le_q23 lt_q23 le_q24 lt_q24

theorem cloneB_any (a : Addr) (n cap : Nat) (l : List UInt8) (w : World) (h : Byt w (.slice (some a) n cap) l) (hlen : l.length ≤ 1000000) :
    Calls Tryz.prog 65 #[.slice (some a) n cap] w fun e w' => ∃ v, e = .returned v ∧ OwnV w.heap.size 5 v (cellsB l) w w' := by
  have he := ownV_empty w 5
  have hq := Lib.run_eql_slice_nil (P := Tryz.prog) w 40 5 (some a) n cap 0 0 Tryz.underlying40
  simp only [Option.isNone_some] at hq
  go_enter Tryz.func65, Tryz.ntmps65
  go_wp2_with (at_builtin; refine byt_app (l := []) rfl (.tmp 5) (.tmp 6) rfl he rfl (h.adds (by repeat (first | with_reducible exact Adds.refl _ | with_reducible refine Adds.alloc ?_ _ | with_reducible refine Adds.more ?_ _ _ | with_reducible refine Adds.drew ?_ | with_reducible refine Adds.drewN ?_ _))) rfl (by simp; omega) ?_; intro v1 w1 h1)
  go_ret
  exact ⟨v1, rfl, h1⟩

theorem byt_nil (w : World) : Byt w (.slice none 0 0) [] := ⟨none, 0, rfl, Nat.le_refl _, .inl rfl⟩

/-- Bytes in a block of bytes at B or above. -/
def Fr (B : Nat) (w : World) (v : Value) (l : List UInt8) : Prop :=
  ∃ ao cap, v = .slice ao l.length cap ∧ l.length ≤ cap ∧ (l = [] ∨ ∃ b off C, ao = some ⟨b, off, none⟩ ∧ B ≤ b ∧ w.heap[b]? = some (.cells C 5 (0, 0)) ∧ LiesB w b off l)

theorem fr_nil (B : Nat) (w : World) : Fr B w (.slice none 0 0) [] := ⟨none, 0, rfl, Nat.le_refl _, .inl rfl⟩

theorem Fr.mono {B B' : Nat} {w : World} {v : Value} {l : List UInt8} (h : Fr B w v l) (hB : B' ≤ B) : Fr B' w v l := by
  obtain ⟨ao, cap, rfl, hc, h⟩ := h
  refine ⟨ao, cap, rfl, hc, h.imp id ?_⟩
  rintro ⟨b, off, C, rfl, hb, hl⟩
  exact ⟨b, off, C, rfl, Nat.le_trans hB hb, hl⟩

theorem Fr.tag {B : Nat} {w : World} {v : Value} {l : List UInt8} (h : Fr B w v l) : BytO 0 w v l := by
  obtain ⟨ao, cap, rfl, hc, h⟩ := h
  refine ⟨ao, cap, rfl, hc, h.imp id ?_⟩
  rintro ⟨b, off, C, rfl, hb, hg, hl⟩
  exact ⟨b, off, rfl, (Array.getElem?_eq_some_iff.1 hg).1, .inr ⟨C, _, hg⟩, hl⟩

theorem Fr.keep {B : Nat} {w w' : World} {v : Value} {l : List UInt8} (h : Fr B w v l) (hk : ∀ b C, B ≤ b → w.heap[b]? = some (.cells C 5 (0, 0)) → w'.heap[b]? = w.heap[b]?) : Fr B w' v l := by
  obtain ⟨ao, cap, rfl, hc, h⟩ := h
  refine ⟨ao, cap, rfl, hc, h.imp id ?_⟩
  rintro ⟨b, off, C, rfl, hb, hg, hl⟩
  have e := hk b C hb hg
  refine ⟨b, off, C, rfl, hb, e.trans hg, fun j hj => ?_⟩
  rw [World.cell?_of_block e]
  exact hl j hj

theorem Fr.adds {B : Nat} {w w' : World} {v : Value} {l : List UInt8} (h : Fr B w v l) (ha : Adds w w') : Fr B w' v l :=
  h.keep fun b _ _ hg => ha.below.block b (Array.getElem?_eq_some_iff.1 hg).1

theorem Fr.grown {B B' : Nat} {w w' : World} {e : TypeId} {x : Value} {xs : List Value} {n k : Nat} {v : Value} {l : List UInt8} (h : Fr B w v l) (ho : w.ownsRow B' e n x k xs) (he : e ≠ 5) (hg : w.grownBy w' x.ownBlock) : Fr B w' v l :=
  h.keep fun b C _ hb => hg.block b (Array.getElem?_eq_some_iff.1 hb).1 fun e1 => by
    rcases ho.2 with ⟨rfl, _⟩ | ⟨g, cap', cur, rfl, _, hg', _⟩
    · cases e1
    · simp only [Value.ownBlock, Option.some.injEq] at e1
      subst e1
      rw [hb] at hg'
      simp at hg'
      exact he hg'.2.symm

theorem OwnV.fr {B : Nat} {v : Value} {l : List UInt8} {W0 w : World} (h : OwnV B 5 v (cellsB l) W0 w) : Fr B w v l := by
  obtain ⟨ao, cap, rfl, hc, hl⟩ := h.byt.open
  refine ⟨ao, cap, rfl, hc, ?_⟩
  rcases hl with hl | ⟨b, off, rfl, hb, hl⟩
  · exact .inl hl
  · rcases h.1.2 with ⟨e, _⟩ | ⟨g, cap', cur, e, hB, hg, _⟩
    · cases e
    · simp only [Value.slice.injEq, Option.some.injEq, Addr.mk.injEq] at e
      obtain ⟨⟨rfl, rfl, _⟩, _, _⟩ := e
      exact .inr ⟨b, 0, cur, rfl, hB, hg, hl⟩

theorem first_any (v : Value) (l : List UInt8) (w : World) (h : Byt w v l) (hlen : l.length ≤ 1000000) :
    Calls Tryz.prog 97 #[v] w fun e w' => ∃ r, e = .returned (.tuple #[r, .int .i64 ((first l).2.1 : Nat), .int .i64 (first l).2.2]) ∧ Fr w.heap.size w' r (first l).1 ∧ Adds w w' := by
  have h' := h
  obtain ⟨ao, cap, rfl, hcap, ho⟩ := h.open
  have k1 := length_any _ l w h hlen
  unfold first
  by_cases he : (lengthOf l).2 = 0
  · rw [if_neg (by simpa using he)]
    have hne : l ≠ [] := by
      rintro rfl
      simp [lengthOf] at he
    have hnl : (lengthOf l).1 < 16777216 := by
      have := num3_lt l
      unfold lengthOf
      repeat' split
      all_goals simp
      omega
    rw [he] at k1
    obtain ⟨n, hn⟩ : ∃ n, n = (lengthOf l).1 := ⟨_, rfl⟩
    rw [← hn] at k1 hnl ⊢
    clear he hn
    by_cases h9 : l.length < n + 9
    · rw [if_pos h9]
      go_enter Tryz.func97, Tryz.ntmps97
      go_wp2_with (go_at_call 106; refine k1.mono ?_; rintro e w1 ⟨rfl, os1, n1, rfl⟩)
      go_ret3
      refine ⟨_, rfl, fr_nil _ _, ?_⟩
      repeat (first | with_reducible exact Adds.refl _ | with_reducible refine Adds.alloc ?_ _ | with_reducible refine Adds.more ?_ _ _ | with_reducible refine Adds.drew ?_ | with_reducible refine Adds.drewN ?_ _)
    · rw [if_neg h9]
      rcases ho with rfl | ⟨b, off, rfl, hb, _⟩
      · exact absurd rfl hne
      have hA := h'.cut (lo := 6) (hi := 6 + n + 3) (by omega) (by omega)
      have hB := h'.cut (lo := 6) (hi := 6 + n) (by omega) (by omega)
      rw [if_neg (by omega)] at hA hB
      simp only [Option.map_some] at hA hB
      have eA : (l.take (6 + n + 3)).drop 6 = (l.drop 6).take (n + 3) := by rw [List.drop_take]; congr 1; omega
      have eB : (l.take (6 + n)).drop 6 = (l.drop 6).take n := by rw [List.drop_take]; congr 1; omega
      rw [eA] at hA
      rw [eB, Nat.add_sub_cancel_left] at hB
      have hT : ((l.drop 6).take (n + 3)).length = n + 3 := by simp; omega
      have hE : (sum (((l.drop 6).take (n + 3)).take (((l.drop 6).take (n + 3)).length - 3)) = num3 (((l.drop 6).take (n + 3)).drop (((l.drop 6).take (n + 3)).length - 3))) ↔ sum ((l.drop 6).take n) = num3 (l.drop (6 + n)) := by
        rw [hT, List.take_take, List.drop_take, num3_take _ _ (by omega), List.drop_drop, show min (n + 3 - 3) (n + 3) = n by omega, show n + 3 - 3 = n by omega]
      have k2 : ∀ W, Adds w W → Calls Tryz.prog 107 #[.slice (some ((⟨b, off, none⟩ : Addr).add 6)) (6 + n + 3 - 6) (cap - 6)] W fun e w' => e = .returned (.bool (decide (sum ((l.drop 6).take n) = num3 (l.drop (6 + n))))) ∧ Adds W w' := fun W hW => by
        have := sealed_any _ _ W (hA.adds hW) (by omega) (by omega)
        rw [decide_eq_decide.2 hE] at this
        exact this
      have k3 : ∀ W, Adds w W → Calls Tryz.prog 65 #[.slice (some ((⟨b, off, none⟩ : Addr).add 6)) n (cap - 6)] W fun e w' => ∃ v, e = .returned v ∧ OwnV W.heap.size 5 v (cellsB ((l.drop 6).take n)) W w' ∧ w.heap.size ≤ W.heap.size := fun W hW => by
        refine (cloneB_any _ _ _ _ W (hB.adds hW) (by simp; omega)).mono ?_
        rintro e w' ⟨v, rfl, ho⟩
        exact ⟨v, rfl, ho, hW.below.size⟩
      rw [add_at] at k2 k3
      clear hE hT hA hB eA eB
      by_cases hs : sum ((l.drop 6).take n) = num3 (l.drop (6 + n))
      · rw [if_neg (by simpa using hs)]
        rw [decide_eq_true hs] at k2
        clear hs
        generalize (l.drop 6).take n = m at *
        go_enter Tryz.func97, Tryz.ntmps97
        go_wp2_with (first
          | (go_at_call 106; refine k1.mono ?_; rintro e w1 ⟨rfl, os1, n1, rfl⟩)
          | (go_at_call 107; refine (k2 _ (by repeat (first | with_reducible exact Adds.refl _ | with_reducible refine Adds.alloc ?_ _ | with_reducible refine Adds.more ?_ _ _ | with_reducible refine Adds.drew ?_ | with_reducible refine Adds.drewN ?_ _))).mono ?_; rintro e w1 ⟨rfl, os2, n2, rfl⟩)
          | (go_at_call 65; refine (k3 _ (by repeat (first | with_reducible exact Adds.refl _ | with_reducible refine Adds.alloc ?_ _ | with_reducible refine Adds.more ?_ _ _ | with_reducible refine Adds.drew ?_ | with_reducible refine Adds.drewN ?_ _))).mono ?_; rintro e w1 ⟨v1, rfl, ho, hle⟩; obtain ⟨hY, os3, n3, rfl⟩ := And.intro (ho.fr.mono hle) ho.added))
        go_ret3
        refine ⟨v1, ?_, ?_, ?_⟩
        · show Ending.returned (.tuple #[v1, .int .i64 (6 + (n : Int) + 3), .int .i64 0]) = .returned (.tuple #[v1, .int .i64 ((n + 9 : Nat) : Int), .int .i64 0])
          rw [show (6 + (n : Int) + 3) = ((n + 9 : Nat) : Int) by omega]
        · simpa only [more_more, Array.append_assoc] using hY
        repeat (first | with_reducible exact Adds.refl _ | with_reducible refine Adds.alloc ?_ _ | with_reducible refine Adds.more ?_ _ _ | with_reducible refine Adds.drew ?_ | with_reducible refine Adds.drewN ?_ _)
      · rw [if_pos (by simpa using hs)]
        rw [decide_eq_false hs] at k2
        clear hs
        go_enter Tryz.func97, Tryz.ntmps97
        go_wp2_with (first
          | (go_at_call 106; refine k1.mono ?_; rintro e w1 ⟨rfl, os1, n1, rfl⟩)
          | (go_at_call 107; refine (k2 _ (by repeat (first | with_reducible exact Adds.refl _ | with_reducible refine Adds.alloc ?_ _ | with_reducible refine Adds.more ?_ _ _ | with_reducible refine Adds.drew ?_ | with_reducible refine Adds.drewN ?_ _))).mono ?_; rintro e w1 ⟨rfl, os2, n2, rfl⟩))
        go_ret3
        refine ⟨_, rfl, fr_nil _ _, ?_⟩
        repeat (first | with_reducible exact Adds.refl _ | with_reducible refine Adds.alloc ?_ _ | with_reducible refine Adds.more ?_ _ _ | with_reducible refine Adds.drew ?_ | with_reducible refine Adds.drewN ?_ _)
  · rw [if_pos (by simpa using he)]
    generalize (lengthOf l).1 = n at *
    generalize (lengthOf l).2 = x at *
    go_enter Tryz.func97, Tryz.ntmps97
    go_wp2_with (go_at_call 106; refine k1.mono ?_; rintro e w1 ⟨rfl, os1, n1, rfl⟩)
    go_ret3
    refine ⟨_, rfl, fr_nil _ _, ?_⟩
    repeat (first | with_reducible exact Adds.refl _ | with_reducible refine Adds.alloc ?_ _ | with_reducible refine Adds.more ?_ _ _ | with_reducible refine Adds.drew ?_ | with_reducible refine Adds.drewN ?_ _)

theorem ne_cast (a b : Nat) : ((a : Int) != (b : Int)) = decide (b ≠ a) := by
  by_cases h : b = a
  · subst h
    simp
  · have : ¬ ((a : Int) = (b : Int)) := by omega
    rw [decide_eq_true h]
    simpa using this

set_option maxHeartbeats 1000000 in
theorem refFirst_any (B : Nat) (v : Value) (l : List UInt8) (w : World) (hO : BytO B w v l) (hlen : l.length ≤ 1000000) :
    Calls Tryz.prog 91 #[v] w fun e w' => ∃ r, e = .returned (.tuple #[r, .int .i64 ((first l).2.1 : Nat), .int .i64 (first l).2.2]) ∧ BytO B w' r (first l).1 ∧ Adds w w' := by
  have h := hO.byt
  have h' := h
  obtain ⟨ao, cap, rfl, hcap, ho⟩ := h.open
  by_cases h6 : l.length < 6
  · have hf : first l = ([], 0, 5) := by
      unfold first lengthOf
      rw [if_pos h6]
      simp
    rw [hf]
    go_enter Tryz.func91, Tryz.ntmps91
    go_wp2
    go_ret3
    refine ⟨_, rfl, bytO_none _ _, ?_⟩
    repeat (first | with_reducible exact Adds.refl _ | with_reducible refine Adds.alloc ?_ _ | with_reducible refine Adds.more ?_ _ _ | with_reducible refine Adds.drew ?_ | with_reducible refine Adds.drewN ?_ _)
  rcases ho with rfl | ⟨b, off, rfl, hb, _⟩
  · simp at h6
  have hA := h'.take (hi := 3) (by omega)
  have hB := h'.cut (lo := 3) (hi := l.length) (by omega) (by omega)
  rw [if_neg (by omega), List.take_length] at hB
  simp only [Option.map_some, add_at] at hB
  obtain ⟨S, hS⟩ : ∃ S, S = sum (l.take 3) := ⟨_, rfl⟩
  obtain ⟨M, hM⟩ : ∃ M, M = num3 (l.drop 3) := ⟨_, rfl⟩
  obtain ⟨n, hn⟩ : ∃ n, n = num3 l := ⟨_, rfl⟩
  have hn24 : n < 16777216 := hn ▸ num3_lt l
  have hS24 : S < 16777216 := hS ▸ sum_lt _
  have hM24 : M < 16777216 := hM ▸ num3_lt _
  have k1 : ∀ p, Calls Tryz.prog 74 #[.slice (some ⟨b, off, none⟩) 3 cap] (addTo w p) fun e w'' => e = .returned (.int .u32 (S : Nat)) ∧ ∃ p : Plus, w'' = addTo w p := fun p => by
    rw [hS]
    exact Calls.plus_of (refSum_any _ _ _ (hA.plus _) (by simp; omega))
  have k2 : ∀ p, Calls Tryz.prog 99 #[.slice (some ⟨b, off + 3, none⟩) (l.length - 3) (cap - 3)] (addTo w p) fun e w'' => e = .returned (.int .i64 (M : Nat)) ∧ ∃ p : Plus, w'' = addTo w p := fun p => by
    rw [hM]
    exact Calls.adds_of (refNumber_any _ _ _ (hB.plus _) (by simp; omega))
  have k3 : ∀ W, Adds w W → Calls Tryz.prog 99 #[.slice (some ⟨b, off, none⟩) l.length cap] W fun e w' => e = .returned (.int .i64 (n : Nat)) ∧ Adds W w' := fun W hW => by
    rw [hn]
    exact refNumber_any _ _ _ (h'.adds hW) (by omega)
  have hne := ne_cast M S
  by_cases hs : S = M
  · rw [decide_eq_false (by simpa using hs)] at hne
    have hL : lengthOf l = if 16384 < n then (0, 5) else (n, 0) := by
      unfold lengthOf
      rw [if_neg h6, ← hS, ← hM, if_neg (by simpa using hs), ← hn]
    clear hS hM hs
    by_cases hn1 : 16384 < n
    · have hf : first l = ([], 0, 5) := by
        unfold first
        rw [hL, if_pos hn1]
        simp
      rw [hf]
      clear hf hL hn
      go_enter Tryz.func91, Tryz.ntmps91
      go_wp2
      refine wp_region_adds (by kernel_rfl) (by kernel_rfl) ?_
      repeat (go_big_quiet_step ((first | (go_at_call 74; exact k1 _) | (go_at_call 99; exact k2 _))))
      refine wpQuiet_nil ?_
      rintro _ ⟨pl, rfl⟩
      unfold addTo
      go_wp2_with (go_at_call 99; refine (k3 _ (by repeat (first | with_reducible exact Adds.refl _ | with_reducible refine Adds.alloc ?_ _ | with_reducible refine Adds.more ?_ _ _ | with_reducible refine Adds.drew ?_ | with_reducible refine Adds.drewN ?_ _))).mono ?_; rintro e w1 ⟨rfl, os1, n1, rfl⟩)
      go_ret3
      refine ⟨_, rfl, bytO_none _ _, ?_⟩
      repeat (first | with_reducible exact Adds.refl _ | with_reducible refine Adds.alloc ?_ _ | with_reducible refine Adds.more ?_ _ _ | with_reducible refine Adds.drew ?_ | with_reducible refine Adds.drewN ?_ _)
    rw [if_neg hn1] at hL
    by_cases hn9 : l.length < n + 9
    · have hf : first l = ([], 0, 5) := by
        unfold first
        rw [hL]
        simp [hn9]
      rw [hf]
      clear hf hL hn
      go_enter Tryz.func91, Tryz.ntmps91
      go_wp2
      refine wp_region_adds (by kernel_rfl) (by kernel_rfl) ?_
      repeat (go_big_quiet_step ((first | (go_at_call 74; exact k1 _) | (go_at_call 99; exact k2 _))))
      refine wpQuiet_nil ?_
      rintro _ ⟨pl, rfl⟩
      unfold addTo
      go_wp2_with (go_at_call 99; refine (k3 _ (by repeat (first | with_reducible exact Adds.refl _ | with_reducible refine Adds.alloc ?_ _ | with_reducible refine Adds.more ?_ _ _ | with_reducible refine Adds.drew ?_ | with_reducible refine Adds.drewN ?_ _))).mono ?_; rintro e w1 ⟨rfl, os1, n1, rfl⟩)
      go_ret3
      refine ⟨_, rfl, bytO_none _ _, ?_⟩
      repeat (first | with_reducible exact Adds.refl _ | with_reducible refine Adds.alloc ?_ _ | with_reducible refine Adds.more ?_ _ _ | with_reducible refine Adds.drew ?_ | with_reducible refine Adds.drewN ?_ _)
    have hC := h'.cut (lo := 6 + n) (hi := l.length) (by omega) (by omega)
    have hD := hO.cut (lo := 6) (hi := 6 + n) (by omega) (by omega)
    rw [if_neg (by omega), List.take_length] at hC
    rw [if_neg (by omega)] at hD
    have eD : (l.take (6 + n)).drop 6 = (l.drop 6).take n := by rw [List.drop_take]; congr 1; omega
    rw [eD, Nat.add_sub_cancel_left] at hD
    simp only [Option.map_some, add_at] at hC hD
    have hF : first l = if sum ((l.drop 6).take n) ≠ num3 (l.drop (6 + n)) then ([], 0, 6) else ((l.drop 6).take n, n + 9, 0) := by
      unfold first
      rw [hL]
      simp [hn9]
    obtain ⟨S2, hS2⟩ : ∃ S, S = sum ((l.drop 6).take n) := ⟨_, rfl⟩
    obtain ⟨M2, hM2⟩ : ∃ M, M = num3 (l.drop (6 + n)) := ⟨_, rfl⟩
    have hS24' : S2 < 16777216 := hS2 ▸ sum_lt _
    have hM24' : M2 < 16777216 := hM2 ▸ num3_lt _
    have k4 : ∀ W p, Adds w W → Calls Tryz.prog 74 #[.slice (some ⟨b, off + 6, none⟩) n (cap - 6)] (addTo W p) fun e w'' => e = .returned (.int .u32 (S2 : Nat)) ∧ ∃ p : Plus, w'' = addTo W p := fun W p hW => by
      rw [hS2]
      exact Calls.plus_of (refSum_any _ _ _ ((hD.byt.adds hW).plus _) (by simp; omega))
    have k5 : ∀ W p, Adds w W → Calls Tryz.prog 99 #[.slice (some ⟨b, off + (6 + n), none⟩) (l.length - (6 + n)) (cap - (6 + n))] (addTo W p) fun e w'' => e = .returned (.int .i64 (M2 : Nat)) ∧ ∃ p : Plus, w'' = addTo W p := fun W p hW => by
      rw [hM2]
      exact Calls.adds_of (refNumber_any _ _ _ ((hC.adds hW).plus _) (by simp; omega))
    rw [← hS2, ← hM2] at hF
    have hne2 := ne_cast M2 S2
    generalize (l.drop 6).take n = m at *
    clear hS2 hM2 hL hn hA hB hC
    by_cases hs : S2 = M2
    · rw [decide_eq_false (by simpa using hs)] at hne2
      rw [if_neg (by simpa using hs)] at hF
      rw [hF]
      clear hF hs
      go_enter Tryz.func91, Tryz.ntmps91
      go_wp2
      refine wp_region_adds (by kernel_rfl) (by kernel_rfl) ?_
      repeat (go_big_quiet_step ((first | (go_at_call 74; exact k1 _) | (go_at_call 99; exact k2 _))))
      refine wpQuiet_nil ?_
      rintro _ ⟨pl, rfl⟩
      unfold addTo
      go_wp2_with (go_at_call 99; refine (k3 _ (by repeat (first | with_reducible exact Adds.refl _ | with_reducible refine Adds.alloc ?_ _ | with_reducible refine Adds.more ?_ _ _ | with_reducible refine Adds.drew ?_ | with_reducible refine Adds.drewN ?_ _))).mono ?_; rintro e w1 ⟨rfl, os1, n1, rfl⟩)
      refine wp_region_adds (by kernel_rfl) (by kernel_rfl) ?_
      repeat (go_big_quiet_step ((first | (go_at_call 74; exact k4 _ _ (by repeat (first | with_reducible exact Adds.refl _ | with_reducible refine Adds.alloc ?_ _ | with_reducible refine Adds.more ?_ _ _ | with_reducible refine Adds.drew ?_ | with_reducible refine Adds.drewN ?_ _))) | (go_at_call 99; exact k5 _ _ (by repeat (first | with_reducible exact Adds.refl _ | with_reducible refine Adds.alloc ?_ _ | with_reducible refine Adds.more ?_ _ _ | with_reducible refine Adds.drew ?_ | with_reducible refine Adds.drewN ?_ _))))))
      refine wpQuiet_nil ?_
      rintro _ ⟨pl2, rfl⟩
      unfold addTo
      go_wp2
      go_ret3
      refine ⟨.slice (some ⟨b, off + 6, none⟩) n (cap - 6), ?_, hD.adds ?_, ?_⟩
      · show Ending.returned (.tuple #[.slice (some ⟨b, off + 6, none⟩) (6 + n - 6) (cap - 6), .int .i64 ((n : Int) + 9), .int .i64 0]) = _
        rw [Nat.add_sub_cancel_left]
        rfl
      · repeat (first | with_reducible exact Adds.refl _ | with_reducible refine Adds.alloc ?_ _ | with_reducible refine Adds.more ?_ _ _ | with_reducible refine Adds.drew ?_ | with_reducible refine Adds.drewN ?_ _)
      · repeat (first | with_reducible exact Adds.refl _ | with_reducible refine Adds.alloc ?_ _ | with_reducible refine Adds.more ?_ _ _ | with_reducible refine Adds.drew ?_ | with_reducible refine Adds.drewN ?_ _)
    · rw [decide_eq_true (by simpa using hs)] at hne2
      rw [if_pos (by simpa using hs)] at hF
      rw [hF]
      clear hF hs
      go_enter Tryz.func91, Tryz.ntmps91
      go_wp2
      refine wp_region_adds (by kernel_rfl) (by kernel_rfl) ?_
      repeat (go_big_quiet_step ((first | (go_at_call 74; exact k1 _) | (go_at_call 99; exact k2 _))))
      refine wpQuiet_nil ?_
      rintro _ ⟨pl, rfl⟩
      unfold addTo
      go_wp2_with (go_at_call 99; refine (k3 _ (by repeat (first | with_reducible exact Adds.refl _ | with_reducible refine Adds.alloc ?_ _ | with_reducible refine Adds.more ?_ _ _ | with_reducible refine Adds.drew ?_ | with_reducible refine Adds.drewN ?_ _))).mono ?_; rintro e w1 ⟨rfl, os1, n1, rfl⟩)
      refine wp_region_adds (by kernel_rfl) (by kernel_rfl) ?_
      repeat (go_big_quiet_step ((first | (go_at_call 74; exact k4 _ _ (by repeat (first | with_reducible exact Adds.refl _ | with_reducible refine Adds.alloc ?_ _ | with_reducible refine Adds.more ?_ _ _ | with_reducible refine Adds.drew ?_ | with_reducible refine Adds.drewN ?_ _))) | (go_at_call 99; exact k5 _ _ (by repeat (first | with_reducible exact Adds.refl _ | with_reducible refine Adds.alloc ?_ _ | with_reducible refine Adds.more ?_ _ _ | with_reducible refine Adds.drew ?_ | with_reducible refine Adds.drewN ?_ _))))))
      refine wpQuiet_nil ?_
      rintro _ ⟨pl2, rfl⟩
      unfold addTo
      go_wp2
      go_ret3
      refine ⟨_, rfl, bytO_none _ _, ?_⟩
      repeat (first | with_reducible exact Adds.refl _ | with_reducible refine Adds.alloc ?_ _ | with_reducible refine Adds.more ?_ _ _ | with_reducible refine Adds.drew ?_ | with_reducible refine Adds.drewN ?_ _)
  · have hf : first l = ([], 0, 6) := by
      have hL : lengthOf l = (0, 6) := by
        unfold lengthOf
        rw [if_neg h6, ← hS, ← hM, if_pos (by simpa using hs)]
      unfold first
      rw [hL]
      simp
    rw [decide_eq_true (by simpa using hs)] at hne
    rw [hf]
    clear hf hn hS hM
    go_enter Tryz.func91, Tryz.ntmps91
    go_wp2
    refine wp_region_adds (by kernel_rfl) (by kernel_rfl) ?_
    repeat (go_big_quiet_step ((first | (go_at_call 74; exact k1 _) | (go_at_call 99; exact k2 _))))
    refine wpQuiet_nil ?_
    rintro _ ⟨pl, rfl⟩
    unfold addTo
    go_wp2
    go_ret3
    refine ⟨_, rfl, bytO_none _ _, ?_⟩
    repeat (first | with_reducible exact Adds.refl _ | with_reducible refine Adds.alloc ?_ _ | with_reducible refine Adds.more ?_ _ _ | with_reducible refine Adds.drew ?_ | with_reducible refine Adds.drewN ?_ _)

end Go.Proofs.YtelkkpomehgcjaaGreat

namespace Go.Proofs.YtelkkpomehgcjaaGreat
open Go.RowKit
attribute [local go_sem] cell?_more frozen?_more setCell_more size_more tape_more drew_more drewN_more more_drew more_drewN more_more one_out plus_out plus_end lt_one le_p2 le_p3 le_p4 le_p5 le_p6 le_p7 le_p8 le_p9 le_p10 le_p11 le_p12 le_p13 le_p14 le_p15 le_p16 le_p17 le_p18 le_p19 le_p20 le_p21 le_p22 le_p23 le_p24 le_q0 le_q1 lt_q1 le_q2 lt_q2 le_q3 lt_q3 le_q4 lt_q4 le_q5 lt_q5 le_q6 lt_q6 le_q7 lt_q7 le_q8 lt_q8 le_q9 lt_q9 le_q10 lt_q10 le_q11 lt_q11 le_q12 lt_q12 le_q13 lt_q13 le_q14 lt_q14 le_q15 lt_q15 le_q16 lt_q16 le_q17 lt_q17 le_q18 lt_q18 le_q19 lt_q19 le_q20 lt_q20 le_q21 lt_q21 le_q22 lt_q22 le_q23 lt_q23 le_q24 lt_q24

theorem record_long (v : Value) (l : List UInt8) (w : World) (h : Byt w v l) (hl : 16384 < l.length) (hlen : l.length ≤ 1000000) :
    Calls Tryz.prog 93 #[v] w fun e w' => e = .returned (.tuple #[.slice none 0 0, .int .i64 3]) ∧ Adds w w' := by
  obtain ⟨ao, cap, rfl, hcap, ho⟩ := h.open
  go_enter Tryz.func93, Tryz.ntmps93
  go_wp2
  go_ret2
  refine ⟨rfl, ?_⟩
  repeat (first | with_reducible exact Adds.refl _ | with_reducible refine Adds.alloc ?_ _ | with_reducible refine Adds.more ?_ _ _ | with_reducible refine Adds.drew ?_ | with_reducible refine Adds.drewN ?_ _)

set_option maxRecDepth 20000 in
theorem record_any (v : Value) (l : List UInt8) (w : World) (h : Byt w v l) (hl : l.length ≤ 16384) :
    Calls Tryz.prog 93 #[v] w fun e w' => ∃ r, e = .returned (.tuple #[r, .int .i64 0]) ∧ OwnV w.heap.size 5 r (cellsB (record l)) w w' := by
  have h' := h
  obtain ⟨ao, cap, rfl, hcap, ho⟩ := h.open
  obtain ⟨i0, hi, hz0, hzs, hzb⟩ := info_parts Tryz.info5
  obtain ⟨w0, hr, ho0, hg0⟩ := run_make_own (P := Tryz.prog) w w.heap.size 40 5 i0 (.int .u8 0) 1 Tryz.underlying40 hi hz0 hzs .i64 .i64 (6 + l.length + 3) (by rw [hzb]; omega) (by unfold maxLen; omega) (Nat.le_refl _)
  have h0 : OwnV w.heap.size 5 (.slice (some ⟨w.heap.size, 0, none⟩) 0 (6 + l.length + 3)) (cellsB []) w w0 := ⟨ho0, ⟨hg0.os, hg0.tape, hg0.output, hg0.size, fun k hk => hg0.block k hk (by simp)⟩, hg0.size⟩
  have hr' : (Instr.makeSlice 40 (.int .i64 0) (.int .i64 (6 + (l.length : Int) + 3))).run Tryz.prog w = .ok (.slice (some ⟨w.heap.size, 0, none⟩) 0 (6 + l.length + 3)) w0 := by
    rw [show (6 + (l.length : Int) + 3) = ((6 + l.length + 3 : Nat) : Int) by omega]
    exact hr
  have hrec : record l = (([] ++ three l.length) ++ three (sum (three l.length)) ++ l) ++ three (sum l) := by simp [record]
  rw [hrec]
  have k1 : ∀ v W, OwnV w.heap.size 5 v (cellsB ([] ++ three l.length)) w W → Calls Tryz.prog 101 #[v] W fun e w' => e = .returned (.int .u32 (sum (three l.length) : Nat)) ∧ w' = W := fun v W hW => sum_any _ _ _ hW.byt (by simp [three])
  have k2 : ∀ W, Adds w W → Calls Tryz.prog 101 #[.slice ao l.length cap] W fun e w' => e = .returned (.int .u32 (sum l : Nat)) ∧ w' = W := fun W hW => sum_any _ _ _ (h'.adds hW) (by omega)
  clear hrec hr ho0 hg0 hi hz0 hzs hzb ho
  generalize sum (three l.length) = S at *
  generalize sum l = T at *
  go_enter Tryz.func93, Tryz.ntmps93
  go_wp2_with (first
    | (go_at_call 100; with_reducible refine (put_any _ _ _ _ _ l.length (by simp) h0).mono ?_; rintro e w1 ⟨v1, rfl, h1⟩)
    | (go_at_call 101; with_reducible refine (k1 _ _ h1).mono ?_; rintro e w2 ⟨rfl, rfl⟩)
    | (go_at_call 100; with_reducible refine (put_any _ _ _ _ _ S (by simp [three]) h1).mono ?_; rintro e w3 ⟨v3, rfl, h3⟩)
    | (at_builtin; refine byt_app rfl (.tmp 22) (.tmp 23) rfl h3 rfl (h'.adds h3.added) rfl (by simp [three]; omega) ?_; intro v4 w4 h4)
    | (go_at_call 101; with_reducible refine (k2 _ h4.added).mono ?_; rintro e w5 ⟨rfl, rfl⟩)
    | (go_at_call 100; with_reducible refine (put_any _ _ _ _ _ T (by simp [three]; omega) h4).mono ?_; rintro e w6 ⟨v6, rfl, h6⟩))
  go_ret2
  exact ⟨v6, rfl, h6⟩

theorem refRecord_any (v : Value) (l : List UInt8) (w : World) (h : Byt w v l) (hl : l.length ≤ 16384) :
    Calls Tryz.prog 49 #[v] w fun e w' => ∃ r, e = .returned r ∧ Byt w' r (record l) ∧ Adds w w' := by
  have h' := h
  obtain ⟨ao, cap, rfl, hcap, ho⟩ := h.open
  have hsb := sum_lt l
  have hst := sum_lt (three l.length)
  have hrec : record l = (([] ++ three l.length) ++ three (sum (three l.length)) ++ l) ++ three (sum l) := by simp [record]
  rw [hrec]
  have k1 : ∀ v W, Byt W v (three l.length) → Calls Tryz.prog 74 #[v] W fun e w' => e = .returned (.int .u32 (sum (three l.length) : Nat)) ∧ w' = W := fun v W hW => refSum_any _ _ _ hW (by simp [three])
  have k2 : ∀ W, Adds w W → Calls Tryz.prog 74 #[.slice ao l.length cap] W fun e w' => e = .returned (.int .u32 (sum l : Nat)) ∧ w' = W := fun W hW => refSum_any _ _ _ (h'.adds hW) (by omega)
  clear hrec ho
  generalize sum (three l.length) = S at *
  generalize sum l = T at *
  go_enter Tryz.func49, Tryz.ntmps49
  go_wp2_with (first
    | (go_at_call 73; with_reducible refine (three_any l.length _ (by omega)).mono ?_; rintro e w1 ⟨v1, rfl, a1, hY1⟩; have he := ownV_empty w1 5; rw [show ([] : List Value) = cellsB [] from rfl] at he)
    | (at_builtin; refine byt_app rfl (.tmp 9) (.tmp 10) rfl he rfl (hY1.adds (by repeat (first | with_reducible exact Adds.refl _ | with_reducible refine Adds.alloc ?_ _ | with_reducible refine Adds.more ?_ _ _ | with_reducible refine Adds.drew ?_ | with_reducible refine Adds.drewN ?_ _))) rfl (by simp [three]) ?_; intro v2 w2 h2)
    | (go_at_call 74; with_reducible refine (k1 _ _ (hY1.adds h2.added)).mono ?_; rintro e w3 ⟨rfl, rfl⟩)
    | (go_at_call 73; with_reducible refine (three_any S _ (by omega)).mono ?_; rintro e w4 ⟨v4, rfl, a4, hY4⟩)
    | (at_builtin; refine byt_app rfl (.tmp 11) (.tmp 14) rfl (h2.adds a4) rfl hY4 rfl (by simp [three]) ?_; intro v5 w5 h5)
    | (at_builtin; refine byt_app rfl (.tmp 16) (.tmp 17) rfl h5 rfl (h'.adds (a1.trans h5.added)) rfl (by simp [three]; omega) ?_; intro v6 w6 h6)
    | (go_at_call 74; with_reducible refine (k2 _ (a1.trans h6.added)).mono ?_; rintro e w7 ⟨rfl, rfl⟩)
    | (go_at_call 73; with_reducible refine (three_any T _ (by omega)).mono ?_; rintro e w8 ⟨v8, rfl, a8, hY8⟩)
    | (at_builtin; refine byt_app rfl (.tmp 18) (.tmp 21) rfl (h6.adds a8) rfl hY8 rfl (by simp [three]; omega) ?_; intro v9 w9 h9))
  go_ret
  exact ⟨v9, rfl, h9.byt, a1.trans h9.added⟩

theorem byt_marked {w : World} {l : List UInt8} {T : TypeId} {fr : Nat × Nat} : Byt (w.alloc (.cells (cellsB l).toArray T fr)) (.slice (some ⟨w.heap.size, 0, none⟩) l.length l.length) l := by
  refine ⟨_, l.length, by rw [cellsB_length], by rw [cellsB_length]; exact Nat.le_refl _, .inr ⟨w.heap.size, 0, rfl, by simp, ?_⟩⟩
  intro j hj
  rw [Nat.zero_add, World.cell?_alloc_mark]
  simp [hj]

theorem Byt.str {w : World} {v : Value} {l : List UInt8} (h : Byt w v l) : (convert 40 9 v).run Tryz.prog w = .ok (.string ⟨l.toArray⟩) w := by
  obtain ⟨ao, cap, rfl, hcap, ho⟩ := h.open
  rcases ho with rfl | ⟨b, off, rfl, hb, hl⟩
  · rw [run_convert_bytes_string w 40 9 5 _ _ _ Tryz.underlying40 Tryz.underlying5 Tryz.underlying9]
    cases ao <;> simp [Conv.bytesToString, loadCells]
    all_goals rfl
  · have := Lib.run_convert_whole (P := Tryz.prog) w 40 5 9 Tryz.underlying40 Tryz.underlying5 Tryz.underlying9 b off ⟨l.toArray⟩ (fun i hi => by
      have hi' : i < l.length := hi
      rw [hl i hi']
      rfl) cap
    exact this

end Go.Proofs.YtelkkpomehgcjaaGreat

namespace Go.Proofs.YtelkkpomehgcjaaGreat
open Go.RowKit
attribute [local go_sem] cell?_more frozen?_more setCell_more size_more tape_more drew_more drewN_more more_drew more_drewN more_more one_out plus_out plus_end lt_one le_p2 le_p3 le_p4 le_p5 le_p6 le_p7 le_p8 le_p9 le_p10 le_p11 le_p12 le_p13 le_p14 le_p15 le_p16 le_p17 le_p18 le_p19 le_p20 le_p21 le_p22 le_p23 le_p24 le_q0 le_q1 lt_q1 le_q2 lt_q2 le_q3 lt_q3 le_q4 lt_q4 le_q5 lt_q5 le_q6 lt_q6 le_q7 lt_q7 le_q8 lt_q8 le_q9 lt_q9 le_q10 lt_q10 le_q11 lt_q11 le_q12 lt_q12 le_q13 lt_q13 le_q14 lt_q14 le_q15 lt_q15 le_q16 lt_q16 le_q17 lt_q17 le_q18 lt_q18 le_q19 lt_q19 le_q20 lt_q20 le_q21 lt_q21 le_q22 lt_q22 le_q23 lt_q23 le_q24 lt_q24

theorem Tryz.info40 : (Tryz.prog.info? 40).map (fun i => (i.zero, i.size, i.bytes)) = some (some (.slice none 0 0), 1, 24) := by kernel_rfl

/-- Slices that read as bytes, one by one. -/
def Each (B : Nat) (w : World) : List Value → List (List UInt8) → Prop
  | [], [] => True
  | x :: xs, l :: ls => BytO B w x l ∧ Each B w xs ls
  | [], _ :: _ => False
  | _ :: _, [] => False

theorem Each.imp {B B' : Nat} {w w' : World} (f : ∀ x l, BytO B w x l → BytO B' w' x l) : ∀ {xs : List Value} {ls : List (List UInt8)}, Each B w xs ls → Each B' w' xs ls
  | [], [], _ => trivial
  | _ :: _, _ :: _, h => ⟨f _ _ h.1, Each.imp f h.2⟩
  | [], _ :: _, h => h.elim
  | _ :: _, [], h => h.elim

theorem Each.length {B : Nat} {w : World} : ∀ {xs : List Value} {ls : List (List UInt8)}, Each B w xs ls → xs.length = ls.length
  | [], [], _ => rfl
  | _ :: _, _ :: _, h => by simp [Each.length h.2]
  | [], _ :: _, h => h.elim
  | _ :: _, [], h => h.elim

theorem Each.append {B : Nat} {w : World} : ∀ {xs ys : List Value} {ls ms : List (List UInt8)}, Each B w xs ls → Each B w ys ms → Each B w (xs ++ ys) (ls ++ ms)
  | [], _, [], _, _, k => k
  | _ :: _, _, _ :: _, _, h, k => ⟨h.1, Each.append h.2 k⟩
  | [], _, _ :: _, _, h, _ => h.elim
  | _ :: _, _, [], _, h, _ => h.elim

theorem Each.get {B : Nat} {w : World} : ∀ {xs : List Value} {ls : List (List UInt8)} (_ : Each B w xs ls) (i : Nat) (hi : i < xs.length) (hj : i < ls.length), BytO B w xs[i] ls[i]
  | _ :: _, _ :: _, h, 0, _, _ => h.1
  | _ :: _, _ :: _, h, i + 1, hi, hj => Each.get h.2 i (by simpa using hi) (by simpa using hj)
  | [], _, _, _, hi, _ => by simp at hi
  | _ :: _, [], h, _, _, _ => h.elim

theorem Each.take {B : Nat} {w : World} : ∀ {xs : List Value} {ls : List (List UInt8)} (_ : Each B w xs ls) (n : Nat), Each B w (xs.take n) (ls.take n)
  | _, _, _, 0 => by simp [Each]
  | [], [], _, _ + 1 => by simp [Each]
  | _ :: _, _ :: _, h, n + 1 => ⟨h.1, Each.take h.2 n⟩
  | [], _ :: _, h, _ => h.elim
  | _ :: _, [], h, _ => h.elim

/-- The slice v reads as the rows of bytes ls. -/
def Rws (w : World) (v : Value) (ls : List (List UInt8)) : Prop := ∃ xs, LstV w v xs ∧ Each w.heap.size w xs ls

theorem Rws.adds {w w' : World} {v : Value} {ls : List (List UInt8)} (h : Rws w v ls) (ha : Adds w w') : Rws w' v ls := by
  obtain ⟨xs, h1, h2⟩ := h
  exact ⟨xs, h1.adds ha, h2.imp fun x l hx => (hx.adds ha).mono ha.below.size⟩

theorem slices_one {B : Nat} {w : World} : ∀ {xs : List Value} {ls : List (List UInt8)}, Each B w xs ls → ∀ u ∈ xs, u.oneCell' = true
  | [], [], _, _, hu => by simp at hu
  | x :: xs, l :: ls, h, u, hu => by
    rcases List.mem_cons.1 hu with rfl | hu
    · obtain ⟨ao, cap, rfl, _⟩ := h.1
      rfl
    · exact slices_one h.2 u hu
  | [], _ :: _, h, _, _ => h.elim
  | _ :: _, [], h, _, _ => h.elim

theorem row_app {ops : Array Oper} {rest : List Oper} {o : Oper} {a : Act} {w : World} {Q : Exit → Act → World → Prop} (hgd : o.guard = none) (s x : Operand) (ho : o.op = .call { callee := .builtin .append, args := #[s, x], argTypes := #[37, 37] })
    {B : Nat} {v : Value} {xs : List Value} {W0 : World} (h : OwnV B 40 v xs W0 w) (hs : a.eval s = v) {x' : Value} {ys : List Value} (hg : LstV w x' ys) (hx : a.eval x = x') (hys : ∀ u ∈ ys, u.oneCell' = true) (hlen : xs.length + ys.length ≤ 1000000)
    (hk : ∀ v' w', OwnV B 40 v' (xs ++ ys) W0 w' → w.grownBy w' v.ownBlock → wpList Tryz.prog ops Q rest (a.put o.dst v') w') : wpList Tryz.prog ops Q (o :: rest) a w := by
  obtain ⟨v', w', hr, h2, h3⟩ := ownV_append Tryz.underlying37 Tryz.info40 rfl (by decide) w B o.type v xs W0 h x' ys hg hys hlen
  exact Lib.wpList_append_run w hgd s x 37 37 ho v x' hs hx v' w' hr (hk v' w' h2 h3)

theorem lst_new {w : World} {x : Value} {T : TypeId} {k : Nat} (hk : k = w.heap.size) : LstV (w.alloc (.cells #[x] T)) (.slice (some ⟨k, 0, none⟩) 1 1) [x] := by
  subst hk
  refine ⟨_, 1, rfl, Nat.le_refl _, .inr ⟨w.heap.size, 0, rfl, by simp, ?_⟩⟩
  intro j hj
  have : j = 0 := by simpa using hj
  subst this
  simp

end Go.Proofs.YtelkkpomehgcjaaGreat

namespace Go.Proofs.YtelkkpomehgcjaaGreat
open Go.RowKit
attribute [local go_sem] cell?_more frozen?_more setCell_more size_more tape_more drew_more drewN_more more_drew more_drewN more_more one_out plus_out plus_end lt_one le_p2 le_p3 le_p4 le_p5 le_p6 le_p7 le_p8 le_p9 le_p10 le_p11 le_p12 le_p13 le_p14 le_p15 le_p16 le_p17 le_p18 le_p19 le_p20 le_p21 le_p22 le_p23 le_p24 le_q0 le_q1 lt_q1 le_q2 lt_q2 le_q3 lt_q3 le_q4 lt_q4 le_q5 lt_q5 le_q6 lt_q6 le_q7 lt_q7 le_q8 lt_q8 le_q9 lt_q9 le_q10 lt_q10 le_q11 lt_q11 le_q12 lt_q12 le_q13 lt_q13 le_q14 lt_q14 le_q15 lt_q15 le_q16 lt_q16 le_q17 lt_q17 le_q18 lt_q18 le_q19 lt_q19 le_q20 lt_q20 le_q21 lt_q21 le_q22 lt_q22 le_q23 lt_q23 le_q24 lt_q24

theorem Byt.rest {w : World} {ao : Option Addr} {cap k : Nat} {l : List UInt8} (h : Byt w (.slice ao l.length cap) l) (hk : k ≤ l.length) : Byt w (.slice (if cap = k then ao else ao.map (·.add k)) (l.length - k) (cap - k)) (l.drop k) := by
  have := h.cut (lo := k) (hi := l.length) hk (Nat.le_refl _)
  rw [List.take_length] at this
  exact this

/-- Slices whose bytes lie in blocks of bytes at B or above, one by one. -/
def EachF (B : Nat) (w : World) : List Value → List (List UInt8) → Prop
  | [], [] => True
  | x :: xs, l :: ls => Fr B w x l ∧ EachF B w xs ls
  | [], _ :: _ => False
  | _ :: _, [] => False

theorem EachF.imp {B B' : Nat} {w w' : World} (f : ∀ x l, Fr B w x l → Fr B' w' x l) : ∀ {xs : List Value} {ls : List (List UInt8)}, EachF B w xs ls → EachF B' w' xs ls
  | [], [], _ => trivial
  | _ :: _, _ :: _, h => ⟨f _ _ h.1, EachF.imp f h.2⟩
  | [], _ :: _, h => h.elim
  | _ :: _, [], h => h.elim

theorem EachF.each {B B' : Nat} {w : World} : ∀ {xs : List Value} {ls : List (List UInt8)}, EachF B w xs ls → Each B' w xs ls
  | [], [], _ => trivial
  | _ :: _, _ :: _, h => ⟨h.1.tag.mono (Nat.zero_le _), EachF.each h.2⟩
  | [], _ :: _, h => h.elim
  | _ :: _, [], h => h.elim

theorem EachF.length {B : Nat} {w : World} {xs : List Value} {ls : List (List UInt8)} (h : EachF B w xs ls) : xs.length = ls.length := (h.each (B' := 0)).length

theorem EachF.append {B : Nat} {w : World} : ∀ {xs ys : List Value} {ls ms : List (List UInt8)}, EachF B w xs ls → EachF B w ys ms → EachF B w (xs ++ ys) (ls ++ ms)
  | [], _, [], _, _, k => k
  | _ :: _, _, _ :: _, _, h, k => ⟨h.1, EachF.append h.2 k⟩
  | [], _, _ :: _, _, h, _ => h.elim
  | _ :: _, _, [], _, h, _ => h.elim

theorem EachF.get {B : Nat} {w : World} : ∀ {xs : List Value} {ls : List (List UInt8)} (_ : EachF B w xs ls) (i : Nat) (hi : i < xs.length) (hj : i < ls.length), Fr B w xs[i] ls[i]
  | _ :: _, _ :: _, h, 0, _, _ => h.1
  | _ :: _, _ :: _, h, i + 1, hi, hj => EachF.get h.2 i (by simpa using hi) (by simpa using hj)
  | [], _, _, _, hi, _ => by simp at hi
  | _ :: _, [], h, _, _, _ => h.elim

theorem EachF.rest {B : Nat} {w : World} : ∀ {xs : List Value} {ls : List (List UInt8)}, EachF B w xs ls → EachF B w (xs.drop 1) (ls.drop 1)
  | [], [], _ => trivial
  | _ :: _, _ :: _, h => h.2
  | [], _ :: _, h => h.elim
  | _ :: _, [], h => h.elim

theorem row_any (v : Value) (l : List UInt8) (w : World) (h : Byt w v l) (hlen : l.length ≤ 1000000) :
    Calls Tryz.prog 82 #[v] w fun e w' => ∃ r xs, e = .returned (.tuple #[r, .int .i64 ((rows l).2 : Nat)]) ∧ OwnV w.heap.size 40 r xs w w' ∧ EachF w.heap.size w' xs (rows l).1 := by
  have h' := h
  obtain ⟨ao, cap, rfl, hcap, ho⟩ := h.open
  go_enter Tryz.func82, Tryz.ntmps82
  go_wp2
  go_loopw [4, 5] (fun v t W => ∃ (k : Nat) (xs : List Value) (acc : List (List UInt8)), k ≤ l.length ∧ t = .int .i64 k ∧ acc.length ≤ k ∧ OwnV w.heap.size 40 v xs w W ∧ EachF w.heap.size W xs acc ∧ rows l = (acc ++ (rows (l.drop k)).1, k + (rows (l.drop k)).2)) (fun _ t _ => (l.length - intOf t).toNat)
  case atStart => exact ⟨0, [], [], by omega, rfl, by simp, OwnV.nil _ _ _ (Nat.le_refl _), trivial, by simp⟩
  case round =>
    obtain ⟨k, xs, acc, hk, rfl, hak, hown, heach, hrows⟩ := hrel
    have hb := (h'.adds hown.added).rest hk
    have k1 := first_any _ _ _ hb (by simp; omega)
    have HR : Hid _ := hrows
    clear hrows
    by_cases he : (first (l.drop k)).2.2 = 0
    · have hn := first_ok he
      have hrs := rows_some he
      rw [he] at k1
      have hkl : (l.drop k).length = l.length - k := by simp
      have HN : Hid (rows l = ((acc ++ [(first (l.drop k)).1]) ++ (rows (l.drop (k + (first (l.drop k)).2.1))).1, (k + (first (l.drop k)).2.1) + (rows (l.drop (k + (first (l.drop k)).2.1))).2)) := by
        show rows l = _
        rw [HR.out, hrs, List.drop_drop]
        simp [Nat.add_assoc]
      clear he hrs HR
      generalize (first (l.drop k)).2.1 = n at *
      generalize (first (l.drop k)).1 = m at *
      have hxs := heach.length
      rw [hkl] at hn
      rw [if_neg (show ¬ cap = k by omega)] at k1
      go_wp2_with (first
        | (go_at_call 97; (with_reducible refine k1.mono ?_); rintro e w1 ⟨r, rfl, hr, a1⟩; obtain ⟨ro, rc, hrv, _⟩ := id hr; subst hrv)
        | (at_builtin; refine row_app rfl (.tmp 21) (.tmp 23) rfl ((hown.adds a1).alloc _) rfl (lst_new rfl) rfl (by intro u hu; simp at hu; subst hu; rfl) (by simp; omega) ?_; intro v2 w2 h2 g2))
      go_roundw
      case rel =>
        refine ⟨k + n, xs ++ [.slice ro m.length rc], acc ++ [m], by omega, by go_num, by simp; omega, h2, EachF.append ?_ ⟨?_, trivial⟩, HN.out⟩
        · exact heach.imp fun x l hx => ((hx.adds a1).adds ((Adds.refl _).alloc _)).grown ((hown.adds a1).alloc _).1 (by decide) g2
        · exact (((hr.mono hown.2.2).adds ((Adds.refl _).alloc _))).grown ((hown.adds a1).alloc _).1 (by decide) g2
      case measure => simp [intOf]; omega
    · have hrn := rows_stop he
      have HN : Hid (rows l = (acc, k)) := by
        show rows l = _
        rw [HR.out, hrn]
        simp
      have he0 : ((first (l.drop k)).2.2 != 0) = true := by simpa using he
      clear he hrn HR
      generalize (first (l.drop k)).2.2 = x at *
      generalize (first (l.drop k)).2.1 = n at *
      generalize (first (l.drop k)).1 = m at *
      go_wp2_with (go_at_call 97; (with_reducible refine k1.mono ?_); rintro e w1 ⟨r, rfl, hr, a1⟩)
      all_goals
        go_ret2
        refine ⟨u4, ?_, xs, hown.adds a1, ?_⟩
        · rw [HN.out]
          rfl
        · rw [HN.out]
          exact heach.imp fun x l hx => hx.adds a1

theorem refRow_any (v : Value) (l : List UInt8) (w : World) (h : Byt w v l) (hlen : l.length ≤ 1000000) :
    Calls Tryz.prog 71 #[v] w fun e w' => ∃ r, e = .returned (.tuple #[r, .int .i64 ((rows l).2 : Nat)]) ∧ Rws w' r (rows l).1 ∧ Adds w w' := by
  have h' := h
  obtain ⟨ao, cap, rfl, hcap, ho⟩ := h.open
  go_enter Tryz.func71, Tryz.ntmps71
  go_wp2
  go_loopw [4, 5, 6] (fun v t i W => ∃ (k : Nat) (xs : List Value) (acc : List (List UInt8)), k ≤ l.length ∧ t = .int .i64 k ∧ i = .int .i64 (acc.length : Nat) ∧ acc.length ≤ k ∧ OwnV w.heap.size 40 v xs w W ∧ Each w.heap.size W xs acc ∧ rows l = (acc ++ (rows (l.drop k)).1, k + (rows (l.drop k)).2)) (fun _ t _ _ => (l.length - intOf t).toNat)
  case atStart => exact ⟨0, [], [], by omega, rfl, rfl, by simp, ownV_empty _ _, trivial, by simp⟩
  case round =>
    obtain ⟨k, xs, acc, hk, rfl, rfl, hak, hown, heach, hrows⟩ := hrel
    have hb := (h'.adds hown.added).rest hk
    have hO : BytO w.heap.size wr (.slice (if cap = k then ao else ao.map (·.add k)) (l.length - k) (cap - k)) (l.drop k) := by
      have := (h'.old.adds hown.added).cut (lo := k) (hi := l.length) hk (Nat.le_refl _)
      rw [List.take_length] at this
      exact this
    have k1 := refFirst_any _ _ _ _ hO (by simp; omega)
    have HR : Hid _ := hrows
    clear hrows hO
    by_cases he : (first (l.drop k)).2.2 = 0
    · have hn := first_ok he
      have hrs := rows_some he
      rw [he] at k1
      have hkl : (l.drop k).length = l.length - k := by simp
      have HN : Hid (rows l = ((acc ++ [(first (l.drop k)).1]) ++ (rows (l.drop (k + (first (l.drop k)).2.1))).1, (k + (first (l.drop k)).2.1) + (rows (l.drop (k + (first (l.drop k)).2.1))).2)) := by
        show rows l = _
        rw [HR.out, hrs, List.drop_drop]
        simp [Nat.add_assoc]
      clear he hrs HR
      generalize (first (l.drop k)).2.1 = n at *
      generalize (first (l.drop k)).1 = m at *
      have hxs := heach.length
      rw [hkl] at hn
      rw [if_neg (show ¬ cap = k by omega)] at k1
      go_wp2_with (first
        | (go_at_call 91; (with_reducible refine k1.mono ?_); rintro e w1 ⟨r, rfl, hr, a1⟩; obtain ⟨ro, rc, hrv, _⟩ := id hr; subst hrv)
        | (at_builtin; refine row_app rfl (.tmp 29) (.tmp 31) rfl ((hown.adds a1).alloc _) rfl (lst_new rfl) rfl (by intro u hu; simp at hu; subst hu; rfl) (by simp; omega) ?_; intro v2 w2 h2 g2))
      go_roundw
      case rel =>
        refine ⟨k + n, xs ++ [.slice ro m.length rc], acc ++ [m], by omega, by go_num, by rw [List.length_append]; go_num, by simp; omega, h2, Each.append ?_ ⟨?_, trivial⟩, HN.out⟩
        · exact heach.imp fun x l hx => ((hx.adds a1).adds ((Adds.refl _).alloc _)).keep ((hown.adds a1).alloc _) (Nat.le_refl _) g2
        · exact (hr.adds ((Adds.refl _).alloc _)).keep ((hown.adds a1).alloc _) (Nat.le_refl _) g2
      case measure => simp [intOf]; omega
    · have hrn := rows_stop he
      have HN : Hid (rows l = (acc, k)) := by
        show rows l = _
        rw [HR.out, hrn]
        simp
      have he0 : ((first (l.drop k)).2.2 != 0) = true := by simpa using he
      clear he hrn HR
      generalize (first (l.drop k)).2.2 = x at *
      generalize (first (l.drop k)).2.1 = n at *
      generalize (first (l.drop k)).1 = m at *
      go_wp2_with (go_at_call 91; (with_reducible refine k1.mono ?_); rintro e w1 ⟨r, rfl, hr, a1⟩)
      all_goals
        go_ret2
        refine ⟨u4, ?_, ?_, hown.added.trans a1⟩
        · rw [HN.out]
          rfl
        · rw [HN.out]
          exact ⟨xs, (hown.adds a1).lst, heach.imp fun x l hx => (hx.adds a1).mono (hown.adds a1).2.2⟩

end Go.Proofs.YtelkkpomehgcjaaGreat

namespace Go.Proofs.YtelkkpomehgcjaaGreat
open Go.RowKit
attribute [local go_sem] cell?_more frozen?_more setCell_more size_more tape_more drew_more drewN_more more_drew more_drewN more_more one_out plus_out plus_end lt_one le_p2 le_p3 le_p4 le_p5 le_p6 le_p7 le_p8 le_p9 le_p10 le_p11 le_p12 le_p13 le_p14 le_p15 le_p16 le_p17 le_p18 le_p19 le_p20 le_p21 le_p22 le_p23 le_p24 le_q0 le_q1 lt_q1 le_q2 lt_q2 le_q3 lt_q3 le_q4 lt_q4 le_q5 lt_q5 le_q6 lt_q6 le_q7 lt_q7 le_q8 lt_q8 le_q9 lt_q9 le_q10 lt_q10 le_q11 lt_q11 le_q12 lt_q12 le_q13 lt_q13 le_q14 lt_q14 le_q15 lt_q15 le_q16 lt_q16 le_q17 lt_q17 le_q18 lt_q18 le_q19 lt_q19 le_q20 lt_q20 le_q21 lt_q21 le_q22 lt_q22 le_q23 lt_q23 le_q24 lt_q24

theorem take_next {ls ms : List (List UInt8)} {k : Nat} (h1 : k < ls.length) (h2 : k < ms.length) (h : ls.take k = ms.take k) (he : ls[k] = ms[k]) : ls.take (k + 1) = ms.take (k + 1) := by
  rw [List.take_succ_eq_append_getElem h1, List.take_succ_eq_append_getElem h2, h, he]

theorem differ {ls ms : List (List UInt8)} {k : Nat} (h1 : k < ls.length) (h2 : k < ms.length) (he : ls[k] ≠ ms[k]) : ls ≠ ms := by
  rintro rfl
  exact he rfl

theorem same_any (v u : Value) (ls ms : List (List UInt8)) (w : World) (h : Rws w v ls) (g : Rws w u ms) (hlen : ls.length ≤ 1000000) (hmen : ms.length ≤ 1000000) :
    Calls Tryz.prog 45 #[v, u] w fun e w' => e = .returned (.bool (decide (ls = ms))) ∧ Adds w w' := by
  obtain ⟨xs, ⟨ao, cap, rfl, hcap, ho⟩, hx⟩ := h
  obtain ⟨ys, ⟨bo, dap, rfl, hdap, go⟩, hy⟩ := g
  have ex := hx.length
  have ey := hy.length
  by_cases hl : ls.length = ms.length
  · go_enter Tryz.func45, Tryz.ntmps45
    go_wp2
    go_loopw [5] (fun i W => ∃ k : Nat, k ≤ ls.length ∧ i = .int .i64 k ∧ ls.take k = ms.take k ∧ Adds w W) (fun i _ => (ls.length - intOf i).toNat)
    case atStart => exact ⟨0, by omega, rfl, by simp, Adds.refl _⟩
    case round =>
      obtain ⟨k, hk, rfl, hp, ha⟩ := hrel
      by_cases hlt : k < ls.length
      · have hlt' : k < ms.length := by omega
        have bx := ((hx.get k (by omega) hlt).adds ha).byt
        have by' := ((hy.get k (by omega) hlt').adds ha).byt
        rcases ho with rfl | ⟨b, off, rfl, hb, hc⟩
        · simp at ex; omega
        rcases go with rfl | ⟨b', off', rfl, hb', hc'⟩
        · simp at ey; omega
        have c1 := (hc.adds hb ha) k (by omega)
        have c2 := (hc'.adds hb' ha) k (by omega)
        have s1 := fun q => (bx.adds ((Adds.refl wr).drewN q)).str
        have s2 := fun q => (by'.adds ((Adds.refl wr).drewN q)).str
        have hd := differ hlt hlt'
        have hn := take_next hlt hlt' hp
        generalize ls[k] = x at *
        generalize ms[k] = y at *
        generalize xs[k] = p at *
        generalize ys[k] = q at *
        by_cases hE : x = y
        · have HN : Hid _ := hn hE
          have hq : (!(x == y)) = false := by simp [hE]
          clear hd hn hE hp
          go_wp2
          go_quiet (fail)
          go_wp2
          go_roundw
          case rel =>
            refine ⟨k + 1, by omega, by go_num, HN.out, ha.trans ?_⟩
            repeat (first | with_reducible exact Adds.refl _ | with_reducible refine Adds.alloc ?_ _ | with_reducible refine Adds.more ?_ _ _ | with_reducible refine Adds.drew ?_ | with_reducible refine Adds.drewN ?_ _)
          case measure => simp [intOf]; omega
        · have HD : Hid _ := hd hE
          have hq : (!(x == y)) = true := by simp [hE]
          clear hd hn hp
          go_wp2
          go_quiet (fail)
          go_wp2
          go_ret
          refine ⟨by rw [decide_eq_false HD.out]; rfl, ha.trans ?_⟩
          repeat (first | with_reducible exact Adds.refl _ | with_reducible refine Adds.alloc ?_ _ | with_reducible refine Adds.more ?_ _ _ | with_reducible refine Adds.drew ?_ | with_reducible refine Adds.drewN ?_ _)
      · have hk' : k = ls.length := by omega
        subst hk'
        have hE : ls = ms := by
          rw [List.take_length, hl, List.take_length] at hp
          exact hp
        subst hE
        clear hp
        go_wp2
        go_ret
        refine ⟨by simp, ha⟩
  · have hne : ls ≠ ms := fun e => hl (by rw [e])
    have hne' : ((xs.length : Int) != (ys.length : Int)) = true := by simp; omega
    go_enter Tryz.func45, Tryz.ntmps45
    go_wp2
    all_goals first
      | (go_ret
         exact ⟨by rw [decide_eq_false hne]; rfl, Adds.refl _⟩)
      | (exfalso; omega)

end Go.Proofs.YtelkkpomehgcjaaGreat

namespace Go.Proofs.YtelkkpomehgcjaaGreat
open Go.RowKit
attribute [local go_sem] cell?_more frozen?_more setCell_more size_more tape_more drew_more drewN_more more_drew more_drewN more_more one_out plus_out plus_end lt_one le_p2 le_p3 le_p4 le_p5 le_p6 le_p7 le_p8 le_p9 le_p10 le_p11 le_p12 le_p13 le_p14 le_p15 le_p16 le_p17 le_p18 le_p19 le_p20 le_p21 le_p22 le_p23 le_p24 le_q0 le_q1 lt_q1 le_q2 lt_q2 le_q3 lt_q3 le_q4 lt_q4 le_q5 lt_q5 le_q6 lt_q6 le_q7 lt_q7 le_q8 lt_q8 le_q9 lt_q9 le_q10 lt_q10 le_q11 lt_q11 le_q12 lt_q12 le_q13 lt_q13 le_q14 lt_q14 le_q15 lt_q15 le_q16 lt_q16 le_q17 lt_q17 le_q18 lt_q18 le_q19 lt_q19 le_q20 lt_q20 le_q21 lt_q21 le_q22 lt_q22 le_q23 lt_q23 le_q24 lt_q24

theorem OwnV.other {B : Nat} {e e' : TypeId} {v v' : Value} {xs ys : List Value} {W0 w w' : World} (h : OwnV B e v xs W0 w) (h' : OwnV B e' v' ys W0 w) (hne : e ≠ e') (hg : w.grownBy w' v'.ownBlock) : OwnV B e v xs W0 w' := by
  refine ⟨h.1.kept hg ?_, ?_, Nat.le_trans h.2.2 hg.size⟩
  · cases hv : v.ownBlock with
    | none => exact .inl rfl
    | some k =>
      refine .inr fun he => ?_
      rcases h.1.2 with ⟨rfl, _⟩ | ⟨g, cap, cur, rfl, _, hg1, _⟩
      · cases hv
      · rcases h'.1.2 with ⟨rfl, _⟩ | ⟨g', cap', cur', rfl, _, hg2, _⟩
        · cases he
        · simp only [Value.ownBlock, Option.some.injEq] at hv he
          subst hv
          subst he
          rw [hg1] at hg2
          simp at hg2
          exact hne hg2.2
  · refine ⟨hg.os.trans h.2.1.os, hg.tape.trans h.2.1.tape, hg.output.trans h.2.1.output, Nat.le_trans h.2.1.size hg.size, fun k hk => ?_⟩
    rw [hg.block k (Nat.lt_of_lt_of_le hk h.2.2) ?_]
    · exact h.2.1.block k hk
    · intro e
      have := h'.1.lt k e.symm
      omega

theorem byt_app2 {ops : Array Oper} {rest : List Oper} {o : Oper} {a : Act} {w : World} {Q : Exit → Act → World → Prop} (hgd : o.guard = none) (s x : Operand) (ho : o.op = .call { callee := .builtin .append, args := #[s, x], argTypes := #[40, 40] })
    {B : Nat} {v : Value} {l : List UInt8} {W0 : World} (h : OwnV B 5 v (cellsB l) W0 w) (hs : a.eval s = v) {x' : Value} {m : List UInt8} (hg : Byt w x' m) (hx : a.eval x = x') (hlen : l.length + m.length ≤ 1000000)
    (hk : ∀ v' w', OwnV B 5 v' (cellsB (l ++ m)) W0 w' → w.grownBy w' v.ownBlock → wpList Tryz.prog ops Q rest (a.put o.dst v') w') : wpList Tryz.prog ops Q (o :: rest) a w := by
  obtain ⟨v', w', hr, h2, h3⟩ := ownV_append Tryz.underlying40 Tryz.info5 rfl (by decide) w B o.type v (cellsB l) W0 h x' (cellsB m) hg (cellsB_one m) (by rw [cellsB_length, cellsB_length]; exact hlen)
  exact Lib.wpList_append_run w hgd s x 40 40 ho v x' hs hx v' w' hr (hk v' w' (by rw [cellsB_append]; exact h2) h3)

def cellsI (l : List Nat) : List Value := l.map fun (n : Nat) => Value.int .i64 (n : Int)

theorem intN_app {ops : Array Oper} {rest : List Oper} {o : Oper} {a : Act} {w : World} {Q : Exit → Act → World → Prop} (hgd : o.guard = none) (s x : Operand) (ho : o.op = .call { callee := .builtin .append, args := #[s, x], argTypes := #[126, 126] })
    {B : Nat} {v : Value} {l : List Nat} {W0 : World} (h : OwnV B 3 v (cellsI l) W0 w) (hs : a.eval s = v) {x' : Value} {n : Nat} (hg : LstV w x' [.int .i64 (n : Int)]) (hx : a.eval x = x') (hlen : l.length + 1 ≤ 1000000)
    (hk : ∀ v' w', OwnV B 3 v' (cellsI (l ++ [n])) W0 w' → w.grownBy w' v.ownBlock → wpList Tryz.prog ops Q rest (a.put o.dst v') w') : wpList Tryz.prog ops Q (o :: rest) a w := by
  obtain ⟨v', w', hr, h2, h3⟩ := ownV_append Tryz.underlying126 Tryz.info3 rfl (by decide) w B o.type v (cellsI l) W0 h x' [.int .i64 (n : Int)] hg (by intro u hu; simp at hu; subst hu; rfl) (by simp [cellsI]; omega)
  exact Lib.wpList_append_run w hgd s x 126 126 ho v x' hs hx v' w' hr (hk v' w' (by simpa [cellsI] using h2) h3)

/-- How long the first k records are, sealed. -/
def pre (ls : List (List UInt8)) (k : Nat) : Nat := (recs (ls.take k)).length

theorem recs_append (a b : List (List UInt8)) : recs (a ++ b) = recs a ++ recs b := by simp [recs]
theorem recs_one (b : List UInt8) : recs [b] = record b := by simp [recs]

theorem recs_next {ls : List (List UInt8)} {k : Nat} (h : k < ls.length) : recs (ls.take (k + 1)) = recs (ls.take k) ++ record ls[k] := by
  rw [List.take_succ_eq_append_getElem h, recs_append, recs_one]

theorem pre_next {ls : List (List UInt8)} {k : Nat} (h : k < ls.length) : pre ls (k + 1) = pre ls k + (ls[k].length + 9) := by
  unfold pre
  rw [recs_next h, List.length_append, record_length]

theorem whole_spec : ∀ (ls : List (List UInt8)) (T k : Nat), k ≤ ls.length → pre ls k ≤ T → (k = ls.length ∨ T < pre ls (k + 1)) → whole ls T = k
  | [], T, k, hk, _, _ => by
    have : k = 0 := by simpa using hk
    subst this
    rfl
  | b :: ls, T, 0, _, _, h => by
    rcases h with h | h
    · simp at h
    · have h1 : pre (b :: ls) (0 + 1) = b.length + 9 := by
        rw [pre_next (by simp)]
        simp [pre, recs]
      rw [h1] at h
      unfold whole
      rw [if_neg (by omega)]
  | b :: ls, T, k + 1, hk, hp, h => by
    have e : ∀ m, pre (b :: ls) (m + 1) = b.length + 9 + pre ls m := fun m => by
      show (recs (b :: ls.take m)).length = _
      simp only [recs, List.flatMap_cons, List.length_append, record_length, pre]
    rw [e] at hp
    unfold whole
    rw [if_pos (by omega), whole_spec ls (T - (b.length + 9)) k (by simpa using hk) (by omega) ?_]
    rcases h with h | h
    · exact .inl (by simpa using h)
    · rw [e] at h
      exact .inr (by omega)

/-- How long records are together. -/
def tot (ls : List (List UInt8)) : Nat := (ls.map List.length).sum

theorem tot_append (a b : List (List UInt8)) : tot (a ++ b) = tot a + tot b := by simp [tot]
theorem tot_one (b : List UInt8) : tot [b] = b.length := by simp [tot]

theorem tot_next {ls : List (List UInt8)} {k : Nat} (h : k < ls.length) : tot (ls.take (k + 1)) = tot (ls.take k) + ls[k].length := by
  rw [List.take_succ_eq_append_getElem h, tot_append, tot_one]

theorem le_tot {ls : List (List UInt8)} {b : List UInt8} (h : b ∈ ls) : b.length ≤ tot ls := by
  induction ls with
  | nil => simp at h
  | cons x ls ih =>
    rcases List.mem_cons.1 h with rfl | h
    · simp [tot]
    · have := ih h
      simp [tot] at this ⊢
      omega

theorem recs_tot (ls : List (List UInt8)) : (recs ls).length = tot ls + 9 * ls.length := by
  induction ls with
  | nil => rfl
  | cons x ls ih =>
    have e : recs (x :: ls) = record x ++ recs ls := rfl
    rw [e, List.length_append, record_length, ih]
    simp [tot]
    omega

theorem tot_take (ls : List (List UInt8)) (k : Nat) : tot (ls.take k) ≤ tot ls := by
  have h : tot ls = tot (ls.take k) + tot (ls.drop k) := by
    rw [← tot_append, List.take_append_drop]
  omega

end Go.Proofs.YtelkkpomehgcjaaGreat
