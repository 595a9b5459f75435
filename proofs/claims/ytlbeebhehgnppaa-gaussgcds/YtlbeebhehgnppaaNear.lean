/-
  Division, outside the walk: the nearest whole number, the quotient and the rest, and how great they are.
-/
import Derived.Test.YtlbeebhehgnppaaTimes
namespace Go.Proofs.Ytlbeebhehgnppaa

/-- The nearest whole number to x by n (of two as near the greater one). -/
def near (x n : Int) : Int := (2 * x + n) / (2 * n)

theorem near_le {x n : Int} (hn : 0 < n) : 2 * n * near x n ≤ 2 * x + n := by
  have h1 := Int.mul_ediv_self_le (x := 2 * x + n) (k := 2 * n) (by omega)
  exact h1

theorem near_gt {x n : Int} (hn : 0 < n) : 2 * x + n < 2 * n * near x n + 2 * n := by
  have h1 := Int.lt_mul_ediv_self_add (x := 2 * x + n) (k := 2 * n) (by omega)
  exact h1

/-- It is the only one. -/
theorem near_unique {x n q : Int} (hn : 0 < n) (h1 : 2 * (x - q * n) < n) (h2 : -n ≤ 2 * (x - q * n)) : q = near x n := by
  have l1 := near_le (x := x) hn
  have l2 := near_gt (x := x) hn
  generalize near x n = k at *
  have a1 : 2 * n * q < 2 * n * (k + 1) := by grind
  have a2 : 2 * n * k < 2 * n * (q + 1) := by grind
  have b1 := Int.lt_of_mul_lt_mul_left a1 (by omega)
  have b2 := Int.lt_of_mul_lt_mul_left a2 (by omega)
  omega

theorem near_near {x n : Int} (hn : 0 < n) : 2 * (x - near x n * n) < n ∧ -n ≤ 2 * (x - near x n * n) := by
  have l1 := near_le (x := x) hn
  have l2 := near_gt (x := x) hn
  generalize near x n = k at *
  grind

theorem near_bound {x n A : Int} (hn : 0 < n) (h1 : -(A * n) ≤ x) (h2 : x ≤ A * n) : -A ≤ near x n ∧ near x n ≤ A := by
  have l1 := near_le (x := x) hn
  have l2 := near_gt (x := x) hn
  generalize near x n = k at *
  have a1 : 2 * n * k < 2 * n * (A + 1) := by grind
  have a2 : 2 * n * (-A) < 2 * n * (k + 1) := by grind
  have b1 := Int.lt_of_mul_lt_mul_left a1 (by omega)
  have b2 := Int.lt_of_mul_lt_mul_left a2 (by omega)
  omega

theorem abs_le_sq (c : Int) : -(c * c) ≤ c ∧ c ≤ c * c := by
  by_cases h : 0 ≤ c
  · by_cases h0 : c = 0
    · subst h0; decide
    · have := Int.mul_nonneg (a := c) (b := c - 1) (by omega) (by omega)
      grind
  · have := Int.mul_nonneg (a := -c) (b := -c - 1) (by omega) (by omega)
    have h2 := Int.mul_nonneg (a := -c) (b := -c) (by omega) (by omega)
    grind

theorem sq_nonneg (c : Int) : 0 ≤ c * c := by
  by_cases h : 0 ≤ c
  · exact Int.mul_nonneg h h
  · have := Int.mul_nonneg (a := -c) (b := -c) (by omega) (by omega)
    grind

theorem norm_pos {c d : Int} (h : ¬ (c = 0 ∧ d = 0)) : 0 < c * c + d * d := by
  have h1 := sq_nonneg c
  have h2 := sq_nonneg d
  refine Int.not_le.1 fun hle => h ?_
  have e1 : c * c = 0 := by omega
  have e2 : d * d = 0 := by omega
  exact ⟨by simpa using Int.mul_eq_zero.1 e1, by simpa using Int.mul_eq_zero.1 e2⟩

theorem mul_abs {a c A C : Int} (h1 : -A ≤ a) (h2 : a ≤ A) (h3 : -C ≤ c) (h4 : c ≤ C) : -(A * C) ≤ a * c ∧ a * c ≤ A * C := mul_le h1 h2 h3 h4

/-- A product with a point is no greater than 2^20 times its norm. -/
theorem prod_bound {a b c d : Int} (ha : May a b) : -(1048576 * (c * c + d * d)) ≤ a * c + b * d ∧ a * c + b * d ≤ 1048576 * (c * c + d * d) := by
  obtain ⟨⟨a1, a2⟩, ⟨b1, b2⟩⟩ := ha
  have c1 := abs_le_sq c
  have d1 := abs_le_sq d
  have x1 := mul_abs a1 a2 c1.1 c1.2
  have x2 := mul_abs b1 b2 d1.1 d1.2
  grind

/-- The parts of a quotient, ahead of the division. -/
def cre (a b c d : Int) : Int := a * c - b * (-d)
def cim (a b c d : Int) : Int := a * (-d) + b * c

def quoRe (a b c d : Int) : Int := near (cre a b c d) (c * c + d * d)
def quoIm (a b c d : Int) : Int := near (cim a b c d) (c * c + d * d)
def resRe (a b c d : Int) : Int := a - (quoRe a b c d * c - quoIm a b c d * d)
def resIm (a b c d : Int) : Int := b - (quoRe a b c d * d + quoIm a b c d * c)

theorem cre_bound {a b c d : Int} (ha : May a b) : -(1048576 * (c * c + d * d)) ≤ cre a b c d ∧ cre a b c d ≤ 1048576 * (c * c + d * d) := by
  have := prod_bound (c := c) (d := d) ha
  have e : cre a b c d = a * c + b * d := by unfold cre; grind
  rw [e]; exact this

theorem cim_bound {a b c d : Int} (ha : May a b) : -(1048576 * (c * c + d * d)) ≤ cim a b c d ∧ cim a b c d ≤ 1048576 * (c * c + d * d) := by
  have := prod_bound (c := -d) (d := c) ha
  have e : cim a b c d = a * (-d) + b * c := rfl
  have e2 : -d * -d + c * c = c * c + d * d := by grind
  rw [e2] at this
  rw [e]; exact this

theorem quo_may {a b c d : Int} (ha : May a b) (h0 : ¬ (c = 0 ∧ d = 0)) : May (quoRe a b c d) (quoIm a b c d) := by
  have hn := norm_pos h0
  have h1 := cre_bound (c := c) (d := d) ha
  have h2 := cim_bound (c := c) (d := d) ha
  exact ⟨near_bound hn h1.1 h1.2, near_bound hn h2.1 h2.2⟩

/-- The rest's norm is half of the divisor's at most. -/
theorem res_norm {a b c d : Int} (h0 : ¬ (c = 0 ∧ d = 0)) : 2 * (resRe a b c d * resRe a b c d + resIm a b c d * resIm a b c d) ≤ c * c + d * d := by
  have hn := norm_pos h0
  have h1 := near_near (x := cre a b c d) hn
  have h2 := near_near (x := cim a b c d) hn
  unfold resRe resIm
  change 2 * (cre a b c d - quoRe a b c d * (c * c + d * d)) < c * c + d * d ∧ _ at h1
  change 2 * (cim a b c d - quoIm a b c d * (c * c + d * d)) < c * c + d * d ∧ -(c * c + d * d) ≤ 2 * (cim a b c d - quoIm a b c d * (c * c + d * d)) at h2
  change _ ∧ -(c * c + d * d) ≤ 2 * (cre a b c d - quoRe a b c d * (c * c + d * d)) at h1
  generalize quoRe a b c d = q at *
  generalize quoIm a b c d = r at *
  have e1 : cre a b c d - q * (c * c + d * d) = (a - (q * c - r * d)) * c + (b - (q * d + r * c)) * d := by unfold cre; grind
  have e2 : cim a b c d - r * (c * c + d * d) = (b - (q * d + r * c)) * c - (a - (q * c - r * d)) * d := by unfold cim; grind
  rw [e1] at h1
  rw [e2] at h2
  generalize a - (q * c - r * d) = u at *
  generalize b - (q * d + r * c) = v at *
  obtain ⟨h1, h1'⟩ := h1
  obtain ⟨h2, h2'⟩ := h2
  have i : (u * c + v * d) * (u * c + v * d) + (v * c - u * d) * (v * c - u * d) = (u * u + v * v) * (c * c + d * d) := by grind
  generalize u * c + v * d = x at *
  generalize v * c - u * d = y at *
  generalize u * u + v * v = N at *
  generalize c * c + d * d = n at *
  have p1 := Int.mul_nonneg (a := n - 2 * x) (b := n + 2 * x) (by omega) (by omega)
  have p2 := Int.mul_nonneg (a := n - 2 * y) (b := n + 2 * y) (by omega) (by omega)
  have p3 : (2 * N) * n ≤ n * n := by grind
  exact Int.le_of_mul_le_mul_right p3 hn

theorem sq_bound {x : Int} (h : x * x ≤ 1099511627776) : -1048576 ≤ x ∧ x ≤ 1048576 := by
  refine ⟨Int.not_lt.1 fun k => ?_, Int.not_lt.1 fun k => ?_⟩
  · have := Int.mul_nonneg (a := -x - 1048577) (b := -x + 1048577) (by omega) (by omega)
    grind
  · have := Int.mul_nonneg (a := x - 1048577) (b := x + 1048577) (by omega) (by omega)
    grind

theorem res_may {a b c d : Int} (hb : May c d) (h0 : ¬ (c = 0 ∧ d = 0)) : May (resRe a b c d) (resIm a b c d) := by
  have h := res_norm (a := a) (b := b) h0
  have m := may_mul hb hb
  have s1 := sq_nonneg (resRe a b c d)
  have s2 := sq_nonneg (resIm a b c d)
  exact ⟨sq_bound (by omega), sq_bound (by omega)⟩

end Go.Proofs.Ytlbeebhehgnppaa
