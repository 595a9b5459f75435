/-
  CRC-24 over bits, in plain numbers: it is linear, a sealed row is one whose register ends at nought, a burst of 24 bits at most is seen.
-/
import Derived.Test.YtmbnpglnanfdoaaSums
namespace Go.Proofs.Ytmbnpglnanfdoaa

/-- The register with no bit laid on. -/
def step (x : Nat) : Nat := (2 * x) % 16777216 ^^^ (if x.testBit 23 then 8801531 else 0)

def top (b : Bool) : Nat := if b then 8388608 else 0

/-- The register with a bit more. -/
def bitOn (r : Nat) (b : Bool) : Nat := step (r ^^^ top b)

def run (r : Nat) (bs : List Bool) : Nat := bs.foldl bitOn r

theorem xor_lt {a b : Nat} (ha : a < 16777216) (hb : b < 16777216) : a ^^^ b < 16777216 := Nat.xor_lt_two_pow (n := 24) ha hb

theorem step_lt (x : Nat) : step x < 16777216 := by
  unfold step
  apply xor_lt
  · omega
  · split <;> omega

theorem xor_left (a b c : Nat) : a ^^^ (b ^^^ c) = b ^^^ (a ^^^ c) := by rw [← Nat.xor_assoc, Nat.xor_comm a, Nat.xor_assoc]
theorem xor_self_left (a b : Nat) : a ^^^ (a ^^^ b) = b := by rw [← Nat.xor_assoc, Nat.xor_self, Nat.zero_xor]

theorem step_xor (x y : Nat) : step (x ^^^ y) = step x ^^^ step y := by
  unfold step
  have h : (2 * (x ^^^ y)) % 16777216 = (2 * x) % 16777216 ^^^ (2 * y) % 16777216 := by
    have e : 2 * (x ^^^ y) = 2 * x ^^^ 2 * y := by
      have := Nat.shiftLeft_xor_distrib (a := x) (b := y) (i := 1)
      simpa [Nat.shiftLeft_eq, Nat.mul_comm] using this
    rw [e]
    exact Nat.xor_mod_two_pow (n := 24)
  rw [h, Nat.testBit_xor]
  generalize (2 * x) % 16777216 = X
  generalize (2 * y) % 16777216 = Y
  cases x.testBit 23 <;> cases y.testBit 23 <;> simp only [Bool.xor_false, Bool.xor_self, Bool.xor_true, Bool.not_false, Bool.false_eq_true, if_true, if_false, Nat.xor_zero]
  · rw [Nat.xor_assoc]
  · rw [Nat.xor_assoc, Nat.xor_assoc, Nat.xor_comm Y]
  · rw [Nat.xor_assoc, xor_left 8801531 Y, Nat.xor_self, Nat.xor_zero]

theorem step_small {y : Nat} (h : y < 8388608) : step y = 2 * y := by
  unfold step
  rw [Nat.testBit_lt_two_pow (i := 23) h]
  simp
  omega

theorem step_zero : step 0 = 0 := by decide

theorem step_ker {x : Nat} (hx : x < 16777216) (h : step x = 0) : x = 0 := by
  unfold step at h
  by_cases hb : x.testBit 23
  · simp only [hb, if_true] at h
    have h0 : ((2 * x) % 16777216 ^^^ 8801531).testBit 0 = false := by rw [h]; rfl
    rw [Nat.testBit_xor, Nat.testBit_zero, Nat.testBit_zero] at h0
    have : (2 * x) % 16777216 % 2 = 0 := by omega
    simp [this] at h0
  · have hlt : x < 8388608 := by
      by_cases hl : x < 8388608
      · exact hl
      · exfalso
        apply hb
        rw [Nat.testBit_eq_decide_div_mod_eq]
        simp
        omega
    simp only [hb] at h
    simp at h
    omega

def steps : Nat → Nat → Nat
  | 0, x => x
  | n + 1, x => steps n (step x)

theorem steps_add (m n x : Nat) : steps (m + n) x = steps n (steps m x) := by
  induction m generalizing x with
  | zero => simp [steps]
  | succ m ih => rw [Nat.add_right_comm]; exact ih (step x)

theorem steps_xor (n x y : Nat) : steps n (x ^^^ y) = steps n x ^^^ steps n y := by
  induction n generalizing x y with
  | zero => rfl
  | succ n ih => simp only [steps, step_xor, ih]

theorem steps_zero (n : Nat) : steps n 0 = 0 := by
  induction n with
  | zero => rfl
  | succ n ih => simp only [steps, step_zero, ih]

theorem steps_lt {n x : Nat} (hx : x < 16777216) : steps n x < 16777216 := by
  induction n generalizing x with
  | zero => exact hx
  | succ n ih => exact ih (step_lt x)

theorem steps_ker {n x : Nat} (hx : x < 16777216) (h : steps n x = 0) : x = 0 := by
  induction n generalizing x with
  | zero => exact h
  | succ n ih => exact step_ker hx (ih (step_lt x) h)

theorem steps8_small {y : Nat} (h : y < 65536) : steps 8 y = 256 * y := by
  simp only [steps]
  rw [step_small (y := y) (by omega), step_small (y := 2 * y) (by omega), step_small (y := 2 * (2 * y)) (by omega), step_small (y := 2 * (2 * (2 * y))) (by omega),
    step_small (y := 2 * (2 * (2 * (2 * y)))) (by omega), step_small (y := 2 * (2 * (2 * (2 * (2 * y))))) (by omega), step_small (y := 2 * (2 * (2 * (2 * (2 * (2 * y)))))) (by omega), step_small (y := 2 * (2 * (2 * (2 * (2 * (2 * (2 * y))))))) (by omega)]
  omega

/-- Bits as the register's highest ones. -/
def num : List Bool → Nat
  | [] => 0
  | b :: bs => top b ^^^ num bs / 2

theorem top_lt (b : Bool) : top b < 16777216 := by unfold top; split <;> omega

theorem num_lt (bs : List Bool) : num bs < 16777216 := by
  induction bs with
  | nil => decide
  | cons b bs ih => exact xor_lt (top_lt b) (by omega)

theorem num_low (bs : List Bool) (n : Nat) (h : bs.length + n = 24) : num bs % 2 ^ n = 0 := by
  induction bs generalizing n with
  | nil => simp [num]
  | cons b bs ih =>
    have hlen : bs.length + (n + 1) = 24 := by simp at h; omega
    have h1 := ih (n + 1) hlen
    have h2 : num bs / 2 % 2 ^ n = 0 := by
      have := Nat.dvd_of_mod_eq_zero h1
      obtain ⟨q, hq⟩ := this
      rw [hq, Nat.pow_succ, Nat.mul_assoc, Nat.mul_left_comm, Nat.mul_div_cancel_left _ (by decide)]
      exact Nat.mul_mod_right _ _
    unfold num
    rw [Nat.xor_mod_two_pow, h2, Nat.xor_zero]
    cases b
    · simp [top]
    · have hn : n ≤ 23 := by simp at h; omega
      have : (8388608 : Nat) = 2 ^ n * 2 ^ (23 - n) := by rw [← Nat.pow_add, show n + (23 - n) = 23 by omega]
      simp only [top, if_true]
      rw [this]
      exact Nat.mul_mod_right _ _

theorem num_even {bs : List Bool} (h : bs.length < 24) : num bs % 2 = 0 := by
  have := num_low bs (24 - bs.length) (by omega)
  have hd : (2 : Nat) ∣ 2 ^ (24 - bs.length) := ⟨2 ^ (23 - bs.length), by rw [← Nat.pow_succ']; congr 1; omega⟩
  exact Nat.mod_eq_zero_of_dvd (Nat.dvd_trans hd (Nat.dvd_of_mod_eq_zero this))

theorem run_num (bs : List Bool) (h : bs.length ≤ 24) (r : Nat) : run r bs = steps bs.length (r ^^^ num bs) := by
  induction bs generalizing r with
  | nil => simp [run, steps, num]
  | cons b bs ih =>
    have hl : bs.length < 24 := by simp at h; omega
    have he := num_even hl
    have hlt := num_lt bs
    have e : step (num bs / 2) = num bs := by rw [step_small (by omega)]; omega
    show run (bitOn r b) bs = steps bs.length (step (r ^^^ num (b :: bs)))
    rw [ih (by omega)]
    congr 1
    show bitOn r b ^^^ num bs = step (r ^^^ (top b ^^^ num bs / 2))
    unfold bitOn
    rw [← Nat.xor_assoc, step_xor (r ^^^ top b), e]

theorem num_none {bs : List Bool} (h : bs.length ≤ 24) (hz : num bs = 0) : ∀ b ∈ bs, b = false := by
  induction bs with
  | nil => simp
  | cons b bs ih =>
    have hl : bs.length < 24 := by simp at h; omega
    have he := num_even hl
    have hlt := num_lt bs
    unfold num at hz
    have e : top b = num bs / 2 := by
      have := congrArg (· ^^^ num bs / 2) hz
      simpa [Nat.xor_assoc] using this
    cases b
    · simp [top] at e
      intro x hx
      rcases List.mem_cons.1 hx with rfl | hx
      · rfl
      · exact ih (by omega) (by omega) x hx
    · simp [top] at e
      omega

theorem run_append (r : Nat) (a b : List Bool) : run r (a ++ b) = run (run r a) b := by simp [run]

theorem bitOn_lt (r : Nat) (b : Bool) : bitOn r b < 16777216 := step_lt _

theorem run_lt {r : Nat} (hr : r < 16777216) (bs : List Bool) : run r bs < 16777216 := by
  induction bs generalizing r with
  | nil => exact hr
  | cons b bs ih => exact ih (bitOn_lt r b)

theorem run_none (r n : Nat) : run r (List.replicate n false) = steps n r := by
  induction n generalizing r with
  | zero => rfl
  | succ n ih =>
    show run (bitOn r false) (List.replicate n false) = steps n (step r)
    rw [ih]
    simp [bitOn, top]

theorem top_xor (x y : Bool) : top (x ^^ y) = top x ^^^ top y := by cases x <;> cases y <;> decide

theorem bitOn_xor (a b : Nat) (x y : Bool) : bitOn (a ^^^ b) (x ^^ y) = bitOn a x ^^^ bitOn b y := by
  unfold bitOn
  rw [top_xor, ← step_xor]
  congr 1
  rw [Nat.xor_assoc, Nat.xor_assoc]
  congr 1
  rw [← Nat.xor_assoc, ← Nat.xor_assoc, Nat.xor_comm b]

theorem run_xor : ∀ (l m : List Bool) (a b : Nat), l.length = m.length → run (a ^^^ b) (List.zipWith (· ^^ ·) l m) = run a l ^^^ run b m
  | [], [], _, _, _ => rfl
  | x :: l, y :: m, a, b, h => by
    show run (bitOn (a ^^^ b) (x ^^ y)) (List.zipWith (· ^^ ·) l m) = run (bitOn a x) l ^^^ run (bitOn b y) m
    rw [bitOn_xor]
    exact run_xor l m _ _ (by simpa using h)
  | [], _ :: _, _, _, h => by simp at h
  | _ :: _, [], _, _, h => by simp at h

/-- A burst alone is never nought. -/
theorem run_burst (a c : Nat) (p : List Bool) (hp : p.length ≤ 24) (ht : true ∈ p) : run 0 (List.replicate a false ++ p ++ List.replicate c false) ≠ 0 := by
  rw [run_append, run_append, run_none, run_none 0, steps_zero, run_num p hp, Nat.zero_xor]
  intro h
  have h1 := steps_ker (steps_lt (num_lt p)) h
  have h2 := steps_ker (num_lt p) h1
  have := num_none hp h2 true ht
  cases this

theorem burst_seen {l e : List Bool} {s a c : Nat} {p : List Bool} (hl : run s l = 0) (he : e = List.replicate a false ++ p ++ List.replicate c false) (hlen : l.length = e.length) (hp : p.length ≤ 24) (ht : true ∈ p) :
    run s (List.zipWith (· ^^ ·) l e) ≠ 0 := by
  have h := run_xor l e s 0 hlen
  rw [Nat.xor_zero, hl, Nat.zero_xor] at h
  rw [h, he]
  exact run_burst a c p hp ht

end Go.Proofs.Ytmbnpglnanfdoaa
