/-
  The greatest common measure, outside the walk: Euclid's steps, what divides what, and the first corner.
-/
import Derived.Test.YtlbeebhehgnppaaNear
namespace Go.Proofs.Ytlbeebhehgnppaa

/-- c + d i divides a + b i. -/
def Dv (c d a b : Int) : Prop := ∃ m n, a = m * c - n * d ∧ b = m * d + n * c

theorem near_mul {m n : Int} (hn : 0 < n) : near (m * n) n = m := (near_unique hn (by grind) (by grind)).symm

theorem res_of_dv {a b c d : Int} (h0 : ¬ (c = 0 ∧ d = 0)) (h : Dv c d a b) : resRe a b c d = 0 ∧ resIm a b c d = 0 := by
  have hn := norm_pos h0
  obtain ⟨m, n, rfl, rfl⟩ := h
  have e1 : cre (m * c - n * d) (m * d + n * c) c d = m * (c * c + d * d) := by unfold cre; grind
  have e2 : cim (m * c - n * d) (m * d + n * c) c d = n * (c * c + d * d) := by unfold cim; grind
  have q1 : quoRe (m * c - n * d) (m * d + n * c) c d = m := by unfold quoRe; rw [e1, near_mul hn]
  have q2 : quoIm (m * c - n * d) (m * d + n * c) c d = n := by unfold quoIm; rw [e2, near_mul hn]
  unfold resRe resIm
  rw [q1, q2]
  exact ⟨by omega, by omega⟩

theorem dv_of_res {a b c d : Int} (h1 : resRe a b c d = 0) (h2 : resIm a b c d = 0) : Dv c d a b :=
  ⟨quoRe a b c d, quoIm a b c d, by unfold resRe at h1; omega, by unfold resIm at h2; omega⟩

theorem Dv.refl (a b : Int) : Dv a b a b := ⟨1, 0, by omega, by omega⟩
theorem Dv.zero (a b : Int) : Dv a b 0 0 := ⟨0, 0, by omega, by omega⟩

/-- What divides the divisor and the rest divides the divided. -/
theorem Dv.up {x y a b c d : Int} (h1 : Dv x y c d) (h2 : Dv x y (resRe a b c d) (resIm a b c d)) : Dv x y a b := by
  obtain ⟨m, n, e1, e2⟩ := h1
  obtain ⟨p, q, e3, e4⟩ := h2
  unfold resRe at e3
  unfold resIm at e4
  generalize quoRe a b c d = A at *
  generalize quoIm a b c d = B at *
  exact ⟨A * m - B * n + p, A * n + B * m + q, by grind, by grind⟩

/-- What divides both divides the rest. -/
theorem Dv.down {x y a b c d : Int} (h1 : Dv x y a b) (h2 : Dv x y c d) : Dv x y (resRe a b c d) (resIm a b c d) := by
  obtain ⟨m, n, e1, e2⟩ := h1
  obtain ⟨p, q, e3, e4⟩ := h2
  unfold resRe resIm
  generalize quoRe a b c d = A at *
  generalize quoIm a b c d = B at *
  exact ⟨m - (A * p - B * q), n - (A * q + B * p), by grind, by grind⟩

/-- A quarter turns no measure into another. -/
theorem Dv.turn {x y a b : Int} (h : Dv x y a b) : Dv (-y) x a b := by
  obtain ⟨m, n, e1, e2⟩ := h
  exact ⟨n, -m, by grind, by grind⟩
theorem Dv.turned {x y a b : Int} (h : Dv x y a b) : Dv x y (-b) a := by
  obtain ⟨m, n, e1, e2⟩ := h
  exact ⟨-n, m, by grind, by grind⟩

theorem Dv.of_zero {a b : Int} (h : Dv 0 0 a b) : a = 0 ∧ b = 0 := by
  obtain ⟨m, n, e1, e2⟩ := h
  exact ⟨by omega, by omega⟩

theorem step_lt {a b c d : Int} (h0 : ¬ (c = 0 ∧ d = 0)) : (resRe a b c d * resRe a b c d + resIm a b c d * resIm a b c d).toNat < (c * c + d * d).toNat := by
  have h1 := res_norm (a := a) (b := b) h0
  have h2 := norm_pos h0
  have h3 := sq_nonneg (resRe a b c d)
  have h4 := sq_nonneg (resIm a b c d)
  omega

/-- Euclid's steps. -/
def eu (a b c d : Int) : Int × Int :=
  if _h : c = 0 ∧ d = 0 then (a, b) else eu c d (resRe a b c d) (resIm a b c d)
termination_by (c * c + d * d).toNat
decreasing_by exact step_lt (by assumption)

theorem eu_zero (a b : Int) : eu a b 0 0 = (a, b) := by
  rw [eu]; simp
theorem eu_step {a b c d : Int} (h0 : ¬ (c = 0 ∧ d = 0)) : eu a b c d = eu c d (resRe a b c d) (resIm a b c d) := by
  rw [eu]; simp [h0]

theorem eu_props : ∀ (n : Nat) (a b c d : Int), (c * c + d * d).toNat = n → Dv (eu a b c d).1 (eu a b c d).2 a b ∧ Dv (eu a b c d).1 (eu a b c d).2 c d ∧
    (∀ x y, Dv x y a b → Dv x y c d → Dv x y (eu a b c d).1 (eu a b c d).2) ∧ (May a b → May c d → May (eu a b c d).1 (eu a b c d).2) := by
  intro n
  induction n using Nat.strongRecOn with
  | _ n ih =>
    intro a b c d hn
    by_cases h0 : c = 0 ∧ d = 0
    · obtain ⟨rfl, rfl⟩ := h0
      rw [eu_zero]
      exact ⟨Dv.refl a b, Dv.zero a b, fun x y h _ => h, fun h _ => h⟩
    · rw [eu_step h0]
      obtain ⟨i1, i2, i3, i4⟩ := ih _ (by have := step_lt (a := a) (b := b) h0; omega) c d (resRe a b c d) (resIm a b c d) rfl
      exact ⟨Dv.up i1 i2, i1, fun x y h1 h2 => i3 x y h2 (Dv.down h1 h2), fun _ h2 => i4 h2 (res_may h2 h0)⟩

end Go.Proofs.Ytlbeebhehgnppaa
