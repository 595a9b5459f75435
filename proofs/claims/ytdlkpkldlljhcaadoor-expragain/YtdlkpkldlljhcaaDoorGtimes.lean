/-
  Products by contracts: number, point, times, quarter, Norm, Mirror.
-/
import Derived.Test.YtdlkpkldlljhcaaDoorGbase
namespace Go.Proofs.YtdlkpkldlljhcaaDoor.Gs
open Go.RowKit
attribute [local go_sem] cell?_more frozen?_more setCell_more size_more tape_more drew_more drewN_more more_drew more_drewN more_more one_out plus_out lt_one le_p2 le_p3 le_p4 le_p5 le_p6 le_p7 le_p8 le_p9 le_p10 le_p11 le_p12

theorem number_any (a b : Int) (w : World) :
    Calls Tryd.prog 81 #[pt a b] w fun e w' => e = .returned (.complex .f64 (floatOfInt .f64 a) (floatOfInt .f64 b)) ∧ Adds w w' := by
  go_enter Tryd.func81, Tryd.ntmps81
  go_wp2
  go_ret
  exact ⟨rfl, (Adds.refl _).alloc _⟩

theorem point_any (x y : Nat) (a b : Int) (hx : floatToIntVal .f64 x .i64 = some a) (hy : floatToIntVal .f64 y .i64 = some b) (w : World) :
    Calls Tryd.prog 80 #[.complex .f64 x y] w fun e w' => e = .returned (pt a b) ∧ Adds w w' := by
  have r1 : ∀ {src dst : TypeId} (w : World), (Tryd.prog.underlying src).isSome = true → Tryd.prog.underlying dst = some (.int .i64) → (convert src dst (.float .f64 x)).run Tryd.prog w = .ok (.int .i64 a) w :=
    fun w hs hd => run_convert_float_int w _ _ _ _ _ _ hs hd hx
  have r2 : ∀ {src dst : TypeId} (w : World), (Tryd.prog.underlying src).isSome = true → Tryd.prog.underlying dst = some (.int .i64) → (convert src dst (.float .f64 y)).run Tryd.prog w = .ok (.int .i64 b) w :=
    fun w hs hd => run_convert_float_int w _ _ _ _ _ _ hs hd hy
  go_enter Tryd.func80, Tryd.ntmps80
  go_wp2
  exact bodyPost_ret (v := pt a b) (by simp [results, Tryd.results80, go_sem]) rfl ⟨rfl, (Adds.refl _).alloc _⟩

theorem mul_le {a b A B : Int} (h1 : -A ≤ a) (h2 : a ≤ A) (h3 : -B ≤ b) (h4 : b ≤ B) : -(A * B) ≤ a * b ∧ a * b ≤ A * B := by
  have p1 := Int.mul_nonneg (a := A - a) (b := B - b) (by omega) (by omega)
  have p2 := Int.mul_nonneg (a := A + a) (b := B + b) (by omega) (by omega)
  have p3 := Int.mul_nonneg (a := A - a) (b := B + b) (by omega) (by omega)
  have p4 := Int.mul_nonneg (a := A + a) (b := B - b) (by omega) (by omega)
  grind

/-- The products of two points' parts are far below 2^53. -/
theorem may_mul {a b c d : Int} (ha : May a b) (hb : May c d) : (-1099511627776 ≤ a * c ∧ a * c ≤ 1099511627776) ∧ (-1099511627776 ≤ b * d ∧ b * d ≤ 1099511627776) ∧ (-1099511627776 ≤ a * d ∧ a * d ≤ 1099511627776) ∧ (-1099511627776 ≤ b * c ∧ b * c ≤ 1099511627776) := by
  obtain ⟨⟨a1, a2⟩, ⟨b1, b2⟩⟩ := ha
  obtain ⟨⟨c1, c2⟩, ⟨d1, d2⟩⟩ := hb
  exact ⟨mul_le a1 a2 c1 c2, mul_le b1 b2 d1 d2, mul_le a1 a2 d1 d2, mul_le b1 b2 c1 c2⟩

theorem small53 {n : Int} (h1 : -4398046511104 ≤ n) (h2 : n ≤ 4398046511104) : n.natAbs < 2 ^ 53 := by
  have e53 : (2 : Nat) ^ 53 = 9007199254740992 := by decide
  rw [e53]
  omega

/-- What the model's complex product of whole numbers is. -/
theorem mul_exact (a b c d : Int) (ha : May a b) (hb : May c d) : ∃ re im, cMulBits (floatOfInt .f64 a) (floatOfInt .f64 b) (floatOfInt .f64 c) (floatOfInt .f64 d) = some (re, im) ∧
    IsF re (a * c - b * d) ∧ IsF im (a * d + b * c) := by
  obtain ⟨⟨m1, m2⟩, ⟨m3, m4⟩, ⟨m5, m6⟩, ⟨m7, m8⟩⟩ := may_mul ha hb
  obtain ⟨⟨a1, a2⟩, ⟨b1, b2⟩⟩ := ha
  obtain ⟨⟨c1, c2⟩, ⟨d1, d2⟩⟩ := hb
  have fa := isF_ofInt a (small53 (by omega) (by omega))
  have fb := isF_ofInt b (small53 (by omega) (by omega))
  have fc := isF_ofInt c (small53 (by omega) (by omega))
  have fd := isF_ofInt d (small53 (by omega) (by omega))
  obtain ⟨r1, e1, g1⟩ := isF_mul fa fc (small53 (by omega) (by omega))
  obtain ⟨r2, e2, g2⟩ := isF_mul fb fd (small53 (by omega) (by omega))
  obtain ⟨r3, e3, g3⟩ := isF_mul fa fd (small53 (by omega) (by omega))
  obtain ⟨r4, e4, g4⟩ := isF_mul fb fc (small53 (by omega) (by omega))
  obtain ⟨r5, e5, g5⟩ := isF_sub g1 g2 (small53 (by omega) (by omega))
  obtain ⟨r6, e6, g6⟩ := isF_add g3 g4 (small53 (by omega) (by omega))
  refine ⟨r5, r6, ?_, g5, g6⟩
  unfold cMulBits
  rw [e1, e2]
  simp only [Option.bind_some]
  rw [e5]
  simp only [Option.bind_some]
  rw [e3, e4]
  simp only [Option.bind_some]
  rw [e6]
  rfl

set_option maxHeartbeats 1000000 in
theorem times_any (a b c d : Int) (ha : May a b) (hb : May c d) (w : World) :
    Calls Tryd.prog 73 #[pt a b, pt c d] w fun e w' => e = .returned (pt (a * c - b * d) (a * d + b * c)) ∧ Adds w w' := by
  obtain ⟨re, im, h1, h2, h3⟩ := mul_exact a b c d ha hb
  obtain ⟨⟨m1, m2⟩, ⟨m3, m4⟩, ⟨m5, m6⟩, ⟨m7, m8⟩⟩ := may_mul ha hb
  have n1 := number_any a b
  have n2 := number_any c d
  have n3 := point_any re im _ _ (isF_int h2 (small53 (by omega) (by omega))) (isF_int h3 (small53 (by omega) (by omega)))
  clear m1 m2 m3 m4 m5 m6 m7 m8 h2 h3
  generalize a * c - b * d = u at *
  generalize a * d + b * c = v at *
  generalize floatOfInt .f64 a = fa at *
  generalize floatOfInt .f64 b = fb at *
  generalize floatOfInt .f64 c = fc at *
  generalize floatOfInt .f64 d = fd at *
  have r1 : ∀ (t : TypeId) (w : World), (binOp .mul t (.complex .f64 fa fb) (.complex .f64 fc fd)).run Tryd.prog w = .ok (.complex .f64 re im) w := fun t w => run_complex_mul (P := Tryd.prog) w t _ _ _ _ _ _ h1
  clear h1
  go_enter Tryd.func73, Tryd.ntmps73
  go_wp2
  go_region_with (first
    | (go_at_call 81; (with_reducible refine (n1 _).mono ?_); rintro e w1 ⟨rfl, os, k, rfl⟩)
    | (go_at_call 81; (with_reducible refine (n2 _).mono ?_); rintro e w1 ⟨rfl, os, k, rfl⟩)
    | (go_at_call 80; (with_reducible refine (n3 _).mono ?_); rintro e w1 ⟨rfl, os, k, rfl⟩))
  all_goals go_wp2
  all_goals
    refine bodyPost_ret (v := pt u v) (by simp [results, Tryd.results73, go_sem]) rfl ⟨rfl, ?_⟩
    repeat (first | exact Adds.refl _ | refine Adds.alloc ?_ _ | refine Adds.more ?_ _ _ | refine Adds.drew ?_)

end Go.Proofs.YtdlkpkldlljhcaaDoor.Gs
