/-
  Products by contracts: number, point, times, quarter, Norm, Mirror.
  Sums and products by contracts: quarter, Norm, Mirror, Add, Mul; the document's May, Mul, Norm; none and awake.
  Turns by contracts: gauss.Turn and the document's Turn.
-/
import Derived.Test.YtiacnmcdfpmcfaaGreatDoorQ14
namespace Go.Proofs.YtiacnmcdfpmcfaaGreatDoor.Gs
open Go.RowKit
attribute [local go_sem] cell?_more frozen?_more setCell_more size_more tape_more drew_more drewN_more more_drew more_drewN more_more one_out plus_out lt_one le_p2 le_p3 le_p4 le_p5 le_p6 le_p7 le_p8 le_p9 le_p10 le_p11 le_p12

theorem number_any (a b : Int) (w : World) :
    Calls Tryz.prog 194 #[pt a b] w fun e w' => e = .returned (.complex .f64 (floatOfInt .f64 a) (floatOfInt .f64 b)) ∧ Adds w w' := by
  go_enter Tryz.func194, Tryz.ntmps194
  go_wp2
  go_ret
  exact ⟨rfl, (Adds.refl _).alloc _⟩

theorem point_any (x y : Nat) (a b : Int) (hx : floatToIntVal .f64 x .i64 = some a) (hy : floatToIntVal .f64 y .i64 = some b) (w : World) :
    Calls Tryz.prog 193 #[.complex .f64 x y] w fun e w' => e = .returned (pt a b) ∧ Adds w w' := by
  have r1 : ∀ {src dst : TypeId} (w : World), (Tryz.prog.underlying src).isSome = true → Tryz.prog.underlying dst = some (.int .i64) → (convert src dst (.float .f64 x)).run Tryz.prog w = .ok (.int .i64 a) w :=
    fun w hs hd => run_convert_float_int w _ _ _ _ _ _ hs hd hx
  have r2 : ∀ {src dst : TypeId} (w : World), (Tryz.prog.underlying src).isSome = true → Tryz.prog.underlying dst = some (.int .i64) → (convert src dst (.float .f64 y)).run Tryz.prog w = .ok (.int .i64 b) w :=
    fun w hs hd => run_convert_float_int w _ _ _ _ _ _ hs hd hy
  go_enter Tryz.func193, Tryz.ntmps193
  go_wp2
  exact bodyPost_ret (v := pt a b) (by simp [results, Tryz.results193, go_sem]) rfl ⟨rfl, (Adds.refl _).alloc _⟩

theorem mul_le {a b A B : Int} (h1 : -A ≤ a) (h2 : a ≤ A) (h3 : -B ≤ b) (h4 : b ≤ B) : -(A * B) ≤ a * b ∧ a * b ≤ A * B := by
  have p1 := Int.mul_nonneg (a := A - a) (b := B - b) (by omega) (by omega)
  have p2 := Int.mul_nonneg (a := A + a) (b := B + b) (by omega) (by omega)
  have p3 := Int.mul_nonneg (a := A - a) (b := B + b) (by omega) (by omega)
  have p4 := Int.mul_nonneg (a := A + a) (b := B - b) (by omega) (by omega)
  grind

/-- The products of two points' parts are far below 2^53. -/
theorem may_mul {a b c d : Int} (ha : May a b) (hb : May c d) : (-1099511627776 ≤ a * c ∧ a * c ≤ 1099511627776) ∧ (-1099511627776 ≤ b * d ∧ b * d ≤ 1099511627776) ∧ (-1099511627776 ≤ a * d ∧ a * d ≤ 1099511627776) ∧ (-1099511627776 ≤ b * c ∧ b * c ≤ 1099511627776) := by
  obtain ⟨⟨a1, a2⟩, ⟨b1, b2⟩⟩ := ha
  obtain ⟨⟨c1, c2⟩, ⟨d1, d2⟩⟩ := hb
  exact ⟨mul_le a1 a2 c1 c2, mul_le b1 b2 d1 d2, mul_le a1 a2 d1 d2, mul_le b1 b2 c1 c2⟩

theorem small53 {n : Int} (h1 : -4398046511104 ≤ n) (h2 : n ≤ 4398046511104) : n.natAbs < 2 ^ 53 := by
  have e53 : (2 : Nat) ^ 53 = 9007199254740992 := by decide
  rw [e53]
  omega

/-- What the model's complex product of whole numbers is. -/
theorem mul_exact (a b c d : Int) (ha : May a b) (hb : May c d) : ∃ re im, cMulBits (floatOfInt .f64 a) (floatOfInt .f64 b) (floatOfInt .f64 c) (floatOfInt .f64 d) = some (re, im) ∧
    IsF re (a * c - b * d) ∧ IsF im (a * d + b * c) := by
  obtain ⟨⟨m1, m2⟩, ⟨m3, m4⟩, ⟨m5, m6⟩, ⟨m7, m8⟩⟩ := may_mul ha hb
  obtain ⟨⟨a1, a2⟩, ⟨b1, b2⟩⟩ := ha
  obtain ⟨⟨c1, c2⟩, ⟨d1, d2⟩⟩ := hb
  have fa := isF_ofInt a (small53 (by omega) (by omega))
  have fb := isF_ofInt b (small53 (by omega) (by omega))
  have fc := isF_ofInt c (small53 (by omega) (by omega))
  have fd := isF_ofInt d (small53 (by omega) (by omega))
  obtain ⟨r1, e1, g1⟩ := isF_mul fa fc (small53 (by omega) (by omega))
  obtain ⟨r2, e2, g2⟩ := isF_mul fb fd (small53 (by omega) (by omega))
  obtain ⟨r3, e3, g3⟩ := isF_mul fa fd (small53 (by omega) (by omega))
  obtain ⟨r4, e4, g4⟩ := isF_mul fb fc (small53 (by omega) (by omega))
  obtain ⟨r5, e5, g5⟩ := isF_sub g1 g2 (small53 (by omega) (by omega))
  obtain ⟨r6, e6, g6⟩ := isF_add g3 g4 (small53 (by omega) (by omega))
  refine ⟨r5, r6, ?_, g5, g6⟩
  unfold cMulBits
  rw [e1, e2]
  simp only [Option.bind_some]
  rw [e5]
  simp only [Option.bind_some]
  rw [e3, e4]
  simp only [Option.bind_some]
  rw [e6]
  rfl

set_option maxHeartbeats 1000000 in
theorem times_any (a b c d : Int) (ha : May a b) (hb : May c d) (w : World) :
    Calls Tryz.prog 190 #[pt a b, pt c d] w fun e w' => e = .returned (pt (a * c - b * d) (a * d + b * c)) ∧ Adds w w' := by
  obtain ⟨re, im, h1, h2, h3⟩ := mul_exact a b c d ha hb
  obtain ⟨⟨m1, m2⟩, ⟨m3, m4⟩, ⟨m5, m6⟩, ⟨m7, m8⟩⟩ := may_mul ha hb
  have n1 := number_any a b
  have n2 := number_any c d
  have n3 := point_any re im _ _ (isF_int h2 (small53 (by omega) (by omega))) (isF_int h3 (small53 (by omega) (by omega)))
  clear m1 m2 m3 m4 m5 m6 m7 m8 h2 h3
  generalize a * c - b * d = u at *
  generalize a * d + b * c = v at *
  generalize floatOfInt .f64 a = fa at *
  generalize floatOfInt .f64 b = fb at *
  generalize floatOfInt .f64 c = fc at *
  generalize floatOfInt .f64 d = fd at *
  have r1 : ∀ (t : TypeId) (w : World), (binOp .mul t (.complex .f64 fa fb) (.complex .f64 fc fd)).run Tryz.prog w = .ok (.complex .f64 re im) w := fun t w => run_complex_mul (P := Tryz.prog) w t _ _ _ _ _ _ h1
  clear h1
  go_enter Tryz.func190, Tryz.ntmps190
  go_wp2
  go_region_with (first
    | (go_at_call 194; (with_reducible refine (n1 _).mono ?_); rintro e w1 ⟨rfl, os, k, rfl⟩)
    | (go_at_call 194; (with_reducible refine (n2 _).mono ?_); rintro e w1 ⟨rfl, os, k, rfl⟩)
    | (go_at_call 193; (with_reducible refine (n3 _).mono ?_); rintro e w1 ⟨rfl, os, k, rfl⟩))
  all_goals go_wp2
  all_goals
    refine bodyPost_ret (v := pt u v) (by simp [results, Tryz.results190, go_sem]) rfl ⟨rfl, ?_⟩
    repeat (first | exact Adds.refl _ | refine Adds.alloc ?_ _ | refine Adds.more ?_ _ _ | refine Adds.drew ?_)

end Go.Proofs.YtiacnmcdfpmcfaaGreatDoor.Gs

namespace Go.Proofs.YtiacnmcdfpmcfaaGreatDoor.Gs
open Go.RowKit
attribute [local go_sem] cell?_more frozen?_more setCell_more size_more tape_more drew_more drewN_more more_drew more_drewN more_more one_out plus_out lt_one le_p2 le_p3 le_p4 le_p5 le_p6 le_p7 le_p8 le_p9 le_p10 le_p11 le_p12

theorem quarter_any (a b : Int) (ha : May a b) (w : World) :
    Calls Tryz.prog 192 #[pt a b] w fun e w' => e = .returned (pt (-b) a) ∧ Adds w w' := by
  have h := times_any a b 0 1 ha (by decide)
  have e1 : a * 0 - b * 1 = -b := by omega
  have e2 : a * 1 + b * 0 = a := by omega
  rw [e1, e2] at h
  clear e1 e2
  go_enter Tryz.func192, Tryz.ntmps192
  go_wp2_with (go_at_call 190; refine (h _).mono ?_; rintro e w1 ⟨rfl, os, k, rfl⟩)
  refine bodyPost_ret (v := pt (-b) a) (by simp [results, Tryz.results192, go_sem]) rfl ⟨rfl, ?_⟩
  repeat (first | exact Adds.refl _ | refine Adds.alloc ?_ _ | refine Adds.more ?_ _ _ | refine Adds.drew ?_)

theorem norm_may (a b : Int) (ha : May a b) (w : World) :
    Calls Tryz.prog 184 #[pt a b] w fun e w' => e = .returned (.int .i64 (a * a + b * b)) ∧ Adds w w' := by
  have h := check_may a b ha
  obtain ⟨⟨m1, m2⟩, ⟨m3, m4⟩, ⟨m5, m6⟩, ⟨m7, m8⟩⟩ := may_mul ha ha
  go_enter Tryz.func184, Tryz.ntmps184
  go_wp2_with (go_at_call 191; refine (h _).mono ?_; rintro e w1 ⟨rfl, os, k, rfl⟩)
  go_ret
  refine ⟨rfl, ?_⟩
  repeat (first | exact Adds.refl _ | refine Adds.alloc ?_ _ | refine Adds.more ?_ _ _ | refine Adds.drew ?_)

theorem norm_not (a b : Int) (ha : ¬ May a b) (w : World) :
    Calls Tryz.prog 184 #[pt a b] w fun e w' => e = .returned (.int .i64 0) ∧ Adds w w' := by
  have h := check_not a b ha
  go_enter Tryz.func184, Tryz.ntmps184
  go_wp2_with (go_at_call 191; refine (h _).mono ?_; rintro e w1 ⟨rfl, os, k, rfl⟩)
  go_ret
  refine ⟨rfl, ?_⟩
  repeat (first | exact Adds.refl _ | refine Adds.alloc ?_ _ | refine Adds.more ?_ _ _ | refine Adds.drew ?_)

theorem mirror_may (a b : Int) (ha : May a b) (w : World) :
    Calls Tryz.prog 185 #[pt a b] w fun e w' => e = .returned (pt a (-b)) ∧ Adds w w' := by
  have h := check_may a b ha
  obtain ⟨⟨m1, m2⟩, ⟨m3, m4⟩⟩ := ha
  go_enter Tryz.func185, Tryz.ntmps185
  go_wp2_with (go_at_call 191; refine (h _).mono ?_; rintro e w1 ⟨rfl, os, k, rfl⟩)
  refine bodyPost_ret (v := pt a (-b)) (by simp [results, Tryz.results185, go_sem]) rfl ⟨rfl, ?_⟩
  repeat (first | exact Adds.refl _ | refine Adds.alloc ?_ _ | refine Adds.more ?_ _ _ | refine Adds.drew ?_)

theorem mirror_not (a b : Int) (ha : ¬ May a b) (w : World) :
    Calls Tryz.prog 185 #[pt a b] w fun e w' => e = .returned (pt 0 0) ∧ Adds w w' := by
  have h := check_not a b ha
  go_enter Tryz.func185, Tryz.ntmps185
  go_wp2_with (go_at_call 191; refine (h _).mono ?_; rintro e w1 ⟨rfl, os, k, rfl⟩)
  refine bodyPost_ret (v := pt 0 0) (by simp [results, Tryz.results185, go_sem]) rfl ⟨rfl, ?_⟩
  repeat (first | exact Adds.refl _ | refine Adds.alloc ?_ _ | refine Adds.more ?_ _ _ | refine Adds.drew ?_)

theorem add_arg (a b c d : Int) (h : ¬ (May a b ∧ May c d)) (w : World) :
    Calls Tryz.prog 180 #[pt a b, pt c d] w fun e w' => e = .returned (.tuple #[pt 0 0, .int .i64 1]) ∧ Adds w w' := by
  have h1 := checkBoth_not a b c d h
  go_enter Tryz.func180, Tryz.ntmps180
  go_wp2_with (go_at_call 188; refine (h1 _).mono ?_; rintro e w1 ⟨rfl, os, k, rfl⟩)
  refine bodyPost_ret (v := .tuple #[pt 0 0, .int .i64 1]) (by simp [results, Tryz.results180, go_sem]) rfl ⟨rfl, ?_⟩
  repeat (first | exact Adds.refl _ | refine Adds.alloc ?_ _ | refine Adds.more ?_ _ _ | refine Adds.drew ?_)

theorem add_may (a b c d : Int) (ha : May a b) (hb : May c d) (w : World) :
    Calls Tryz.prog 180 #[pt a b, pt c d] w fun e w' => e = .returned (if May (a + c) (b + d) then .tuple #[pt (a + c) (b + d), .int .i64 0] else .tuple #[pt 0 0, .int .i64 3]) ∧ Adds w w' := by
  have h1 := checkBoth_may a b c d ha hb
  obtain ⟨⟨m1, m2⟩, ⟨m3, m4⟩⟩ := ha
  obtain ⟨⟨n1, n2⟩, ⟨n3, n4⟩⟩ := hb
  have f1 : -9223372036854775808 ≤ a + c := by omega
  have f2 : a + c ≤ 9223372036854775807 := by omega
  have f3 : -9223372036854775808 ≤ b + d := by omega
  have f4 : b + d ≤ 9223372036854775807 := by omega
  by_cases hs : May (a + c) (b + d)
  · have h2 := fit_may _ _ hs
    rw [if_pos hs]
    clear hs
    go_enter Tryz.func180, Tryz.ntmps180
    go_wp2_with (first | (go_at_call 188; refine (h1 _).mono ?_; rintro e w1 ⟨rfl, os, k, rfl⟩) | (go_at_call 189; refine (h2 _).mono ?_; rintro e w1 ⟨rfl, os, k, rfl⟩))
    refine bodyPost_ret (v := .tuple #[pt (a + c) (b + d), .int .i64 0]) (by simp [results, Tryz.results180, go_sem]) rfl ⟨rfl, ?_⟩
    repeat (first | exact Adds.refl _ | refine Adds.alloc ?_ _ | refine Adds.more ?_ _ _ | refine Adds.drew ?_)
  · have h2 := fit_not _ _ hs
    rw [if_neg hs]
    clear hs
    go_enter Tryz.func180, Tryz.ntmps180
    go_wp2_with (first | (go_at_call 188; refine (h1 _).mono ?_; rintro e w1 ⟨rfl, os, k, rfl⟩) | (go_at_call 189; refine (h2 _).mono ?_; rintro e w1 ⟨rfl, os, k, rfl⟩))
    refine bodyPost_ret (v := .tuple #[pt 0 0, .int .i64 3]) (by simp [results, Tryz.results180, go_sem]) rfl ⟨rfl, ?_⟩
    repeat (first | exact Adds.refl _ | refine Adds.alloc ?_ _ | refine Adds.more ?_ _ _ | refine Adds.drew ?_)

theorem mul_arg (a b c d : Int) (h : ¬ (May a b ∧ May c d)) (w : World) :
    Calls Tryz.prog 182 #[pt a b, pt c d] w fun e w' => e = .returned (.tuple #[pt 0 0, .int .i64 1]) ∧ Adds w w' := by
  have h1 := checkBoth_not a b c d h
  go_enter Tryz.func182, Tryz.ntmps182
  go_wp2_with (go_at_call 188; refine (h1 _).mono ?_; rintro e w1 ⟨rfl, os, k, rfl⟩)
  refine bodyPost_ret (v := .tuple #[pt 0 0, .int .i64 1]) (by simp [results, Tryz.results182, go_sem]) rfl ⟨rfl, ?_⟩
  repeat (first | exact Adds.refl _ | refine Adds.alloc ?_ _ | refine Adds.more ?_ _ _ | refine Adds.drew ?_)

theorem mul_may (a b c d : Int) (ha : May a b) (hb : May c d) (w : World) :
    Calls Tryz.prog 182 #[pt a b, pt c d] w fun e w' => e = .returned (if May (a * c - b * d) (a * d + b * c) then .tuple #[pt (a * c - b * d) (a * d + b * c), .int .i64 0] else .tuple #[pt 0 0, .int .i64 3]) ∧ Adds w w' := by
  have h1 := checkBoth_may a b c d ha hb
  have h3 := times_any a b c d ha hb
  by_cases hs : May (a * c - b * d) (a * d + b * c)
  · have h2 := fit_may _ _ hs
    rw [if_pos hs]
    clear hs
    generalize a * c - b * d = u at *
    generalize a * d + b * c = v at *
    go_enter Tryz.func182, Tryz.ntmps182
    go_wp2_with (first | (go_at_call 188; refine (h1 _).mono ?_; rintro e w1 ⟨rfl, os, k, rfl⟩) | (go_at_call 189; refine (h2 _).mono ?_; rintro e w1 ⟨rfl, os, k, rfl⟩) | (go_at_call 190; refine (h3 _).mono ?_; rintro e w1 ⟨rfl, os, k, rfl⟩))
    refine bodyPost_ret (v := .tuple #[pt u v, .int .i64 0]) (by simp [results, Tryz.results182, go_sem]) rfl ⟨rfl, ?_⟩
    repeat (first | exact Adds.refl _ | refine Adds.alloc ?_ _ | refine Adds.more ?_ _ _ | refine Adds.drew ?_)
  · have h2 := fit_not _ _ hs
    rw [if_neg hs]
    clear hs
    generalize a * c - b * d = u at *
    generalize a * d + b * c = v at *
    go_enter Tryz.func182, Tryz.ntmps182
    go_wp2_with (first | (go_at_call 188; refine (h1 _).mono ?_; rintro e w1 ⟨rfl, os, k, rfl⟩) | (go_at_call 189; refine (h2 _).mono ?_; rintro e w1 ⟨rfl, os, k, rfl⟩) | (go_at_call 190; refine (h3 _).mono ?_; rintro e w1 ⟨rfl, os, k, rfl⟩))
    refine bodyPost_ret (v := .tuple #[pt 0 0, .int .i64 3]) (by simp [results, Tryz.results182, go_sem]) rfl ⟨rfl, ?_⟩
    repeat (first | exact Adds.refl _ | refine Adds.alloc ?_ _ | refine Adds.more ?_ _ _ | refine Adds.drew ?_)

theorem rmay_any (a b : Int) (w : World) :
    Calls Tryz.prog 175 #[pt a b] w fun e w' => e = .returned (.bool (decide (May a b))) ∧ Adds w w' := by
  go_enter Tryz.func175, Tryz.ntmps175
  go_wp2
  all_goals
    go_ret
    refine ⟨?_, (Adds.refl _).alloc _⟩
    first
      | (have h : ¬ May a b := fun h => by unfold May at h; omega
         simp [h])
      | (have h : May a b ↔ b ≤ 1048576 := by unfold May; omega
         simp [h])

theorem rmul_any (a b c d : Int) (ha : May a b) (hb : May c d) (w : World) :
    Calls Tryz.prog 163 #[pt a b, pt c d] w fun e w' => e = .returned (pt (a * c - b * d) (a * d + b * c)) ∧ Adds w w' := by
  obtain ⟨⟨m1, m2⟩, ⟨m3, m4⟩, ⟨m5, m6⟩, ⟨m7, m8⟩⟩ := may_mul ha hb
  go_enter Tryz.func163, Tryz.ntmps163
  go_wp2
  refine bodyPost_ret (v := pt (a * c - b * d) (a * d + b * c)) (by simp [results, Tryz.results163, go_sem]) rfl ⟨rfl, ?_⟩
  repeat (first | exact Adds.refl _ | refine Adds.alloc ?_ _ | refine Adds.more ?_ _ _ | refine Adds.drew ?_)

theorem rnorm_any (a b : Int) (ha : May a b) (w : World) :
    Calls Tryz.prog 164 #[pt a b] w fun e w' => e = .returned (.int .i64 (a * a + b * b)) ∧ Adds w w' := by
  obtain ⟨⟨m1, m2⟩, ⟨m3, m4⟩, ⟨m5, m6⟩, ⟨m7, m8⟩⟩ := may_mul ha ha
  go_enter Tryz.func164, Tryz.ntmps164
  go_wp2
  go_ret
  refine ⟨rfl, ?_⟩
  repeat (first | exact Adds.refl _ | refine Adds.alloc ?_ _ | refine Adds.more ?_ _ _ | refine Adds.drew ?_)

end Go.Proofs.YtiacnmcdfpmcfaaGreatDoor.Gs

namespace Go.Proofs.YtiacnmcdfpmcfaaGreatDoor.Gs
open Go.RowKit
attribute [local go_sem] cell?_more frozen?_more setCell_more size_more tape_more drew_more drewN_more more_drew more_drewN more_more one_out plus_out lt_one le_p2 le_p3 le_p4 le_p5 le_p6 le_p7 le_p8 le_p9 le_p10 le_p11 le_p12

/-- A point, turned by so many quarters. -/
def rot : Nat → Int → Int → Int × Int
  | 0, a, b => (a, b)
  | k + 1, a, b => (-(rot k a b).2, (rot k a b).1)

theorem may_quarter {a b : Int} (h : May a b) : May (-b) a := by unfold May at *; omega
theorem may_rot {a b : Int} (h : May a b) : ∀ k, May (rot k a b).1 (rot k a b).2
  | 0 => h
  | k + 1 => may_quarter (may_rot h k)
theorem norm_rot (a b : Int) : ∀ k, (rot k a b).1 * (rot k a b).1 + (rot k a b).2 * (rot k a b).2 = a * a + b * b
  | 0 => rfl
  | k + 1 => by
    have := norm_rot a b k
    simp only [rot]
    grind

/-- How many quarters a number is. -/
def quarters (n : Int) : Nat := (n % 4).toNat

theorem quarters_lt (n : Int) : quarters n < 4 := by unfold quarters; omega

theorem tmod4 (n : Int) : n.tmod 4 = if n.tmod 4 < 0 then (quarters n : Int) - 4 else (quarters n : Int) := by
  unfold quarters
  rw [Int.tmod_eq_emod]
  split <;> split <;> simp_all <;> omega

theorem tmod4_bounds (n : Int) : -4 < n.tmod 4 ∧ n.tmod 4 < 4 := by
  have h1 := Int.tmod_lt_of_pos n (b := 4) (by decide)
  have h2 := Int.tmod_lt_of_pos (-n) (b := 4) (by decide)
  rw [Int.neg_tmod] at h2
  generalize n.tmod 4 = t at *
  omega

set_option maxHeartbeats 4000000 in
theorem turn_may (a b n : Int) (ha : May a b) (w : World) :
    Calls Tryz.prog 186 #[pt a b, .int .i64 n] w fun e w' => e = .returned (pt (rot (quarters n) a b).1 (rot (quarters n) a b).2) ∧ Adds w w' := by
  have h1 := check_may a b ha
  have hq := quarters_lt n
  have ht := tmod4 n
  obtain ⟨b1, b2⟩ := tmod4_bounds n
  have h5 : (n.tmod 4 + 4).tmod 4 = (quarters n : Int) := by
    rw [Int.tmod_eq_emod_of_nonneg (by omega)]
    split at ht <;> omega
  have hr : ∀ k, ∀ w, Calls Tryz.prog 192 #[pt (rot k a b).1 (rot k a b).2] w fun e w' => e = .returned (pt (rot (k + 1) a b).1 (rot (k + 1) a b).2) ∧ Adds w w' := fun k w => quarter_any _ _ (may_rot ha k) w
  clear ht
  generalize quarters n = K at *
  obtain ⟨R, hR⟩ : ∃ R, rot K a b = R := ⟨_, rfl⟩
  rw [hR]
  have HR : Hid (rot K a b = R) := hR
  clear hR
  obtain ⟨m, hm⟩ : ∃ m, n.tmod 4 = m := ⟨_, rfl⟩
  rw [hm] at h5 b1 b2
  go_enter Tryz.func186, Tryz.ntmps186
  go_wp2_with (first
    | (go_at_call 191; refine (h1 _).mono ?_; rintro e w1 ⟨rfl, os, k, rfl⟩))
  go_loopw [13] (fun i wr => ∃ (k : Nat) (os : Array Obj) (q : Nat), k ≤ K ∧ i = .int .i64 (k : Int) ∧ wr = more ((w.alloc (box (rot k a b).1 (rot k a b).2)).alloc (box 0 0)) os q) (fun i _ => K - (intOf i).toNat)
  case atStart => exact ⟨0, os, k, by omega, rfl, rfl⟩
  case round =>
    obtain ⟨k', os', q, hk, rfl, rfl⟩ := hrel
    have hr1 := hr k'
    obtain ⟨S, hS⟩ : ∃ S, rot (k' + 1) a b = S := ⟨_, rfl⟩
    rw [hS] at hr1
    have HS : Hid (rot (k' + 1) a b = S) := hS
    clear hS hr
    go_wp2_with (go_at_call 192; refine (hr1 _).mono ?_; rintro e w1 ⟨rfl, os1, q1, rfl⟩)
    · go_roundw
      case rel =>
        exact ⟨k' + 1, _, _, by omega, by go_num, by rw [HS.out]⟩
      case measure => simp [intOf]; omega
    · have hkk : k' = K := by omega
      subst hkk
      rw [HR.out]
      refine bodyPost_ret (v := pt R.1 R.2) (by simp [results, Tryz.results186, go_sem]) rfl ⟨rfl, ?_⟩
      repeat (first | exact Adds.refl _ | refine Adds.alloc ?_ _ | refine Adds.more ?_ _ _ | refine Adds.drew ?_)

theorem turn_not (a b n : Int) (ha : ¬ May a b) (w : World) :
    Calls Tryz.prog 186 #[pt a b, .int .i64 n] w fun e w' => e = .returned (pt 0 0) ∧ Adds w w' := by
  have h1 := check_not a b ha
  go_enter Tryz.func186, Tryz.ntmps186
  go_wp2_with (first
    | (go_at_call 191; refine (h1 _).mono ?_; rintro e w1 ⟨rfl, os, k, rfl⟩))
  refine bodyPost_ret (v := pt 0 0) (by simp [results, Tryz.results186, go_sem]) rfl ⟨rfl, ?_⟩
  repeat (first | exact Adds.refl _ | refine Adds.alloc ?_ _ | refine Adds.more ?_ _ _ | refine Adds.drew ?_)

set_option maxHeartbeats 4000000 in
theorem rturn_may (a b n : Int) (ha : May a b) (w : World) :
    Calls Tryz.prog 165 #[pt a b, .int .i64 n] w fun e w' => e = .returned (pt (rot (quarters n) a b).1 (rot (quarters n) a b).2) ∧ Adds w w' := by
  have hq := quarters_lt n
  have ht := tmod4 n
  have hr : ∀ k, (-1048576 ≤ (rot k a b).1 ∧ (rot k a b).1 ≤ 1048576) ∧ (-1048576 ≤ (rot k a b).2 ∧ (rot k a b).2 ≤ 1048576) := fun k => may_rot ha k
  have hs : ∀ k, rot (k + 1) a b = (-(rot k a b).2, (rot k a b).1) := fun k => rfl
  generalize quarters n = K at *
  obtain ⟨R, hR⟩ : ∃ R, rot K a b = R := ⟨_, rfl⟩
  rw [hR]
  have HR : Hid (rot K a b = R) := hR
  have HS : Hid (∀ k, rot (k + 1) a b = (-(rot k a b).2, (rot k a b).1)) := hs
  clear hR hs
  obtain ⟨m, hm⟩ : ∃ m, n.tmod 4 = m := ⟨_, rfl⟩
  rw [hm] at ht
  by_cases hm0 : m < 0
  · rw [if_pos hm0] at ht
    have h5 : m + 4 = (K : Int) := by omega
    clear ht
    go_enter Tryz.func165, Tryz.ntmps165
    go_wp2
    go_loopw [5] (fun i wr => ∃ (k : Nat) (os : Array Obj) (q : Nat), k ≤ K ∧ i = .int .i64 (k : Int) ∧ wr = more ((w.alloc (box (rot k a b).1 (rot k a b).2)).alloc (box 0 0)) os q) (fun i _ => K - (intOf i).toNat)
    case atStart => exact ⟨0, #[], _, by omega, rfl, (more_nil _).symm⟩
    case round =>
      obtain ⟨k', os', q, hk, rfl, rfl⟩ := hrel
      obtain ⟨⟨r1, r2⟩, ⟨r3, r4⟩⟩ := hr k'
      go_wp2
      · go_roundw
        case rel =>
          exact ⟨k' + 1, os', q, by omega, by go_num, by rw [HS.out]⟩
        case measure => simp [intOf]; omega
      · have hkk : k' = K := by omega
        subst hkk
        rw [HR.out]
        refine bodyPost_ret (v := pt R.1 R.2) (by simp [results, Tryz.results165, go_sem]) rfl ⟨rfl, ?_⟩
        repeat (first | exact Adds.refl _ | refine Adds.alloc ?_ _ | refine Adds.more ?_ _ _ | refine Adds.drew ?_)
  · rw [if_neg hm0] at ht
    subst ht
    go_enter Tryz.func165, Tryz.ntmps165
    go_wp2
    go_loopw [5] (fun i wr => ∃ (k : Nat) (os : Array Obj) (q : Nat), k ≤ K ∧ i = .int .i64 (k : Int) ∧ wr = more ((w.alloc (box (rot k a b).1 (rot k a b).2)).alloc (box 0 0)) os q) (fun i _ => K - (intOf i).toNat)
    case atStart => exact ⟨0, #[], _, by omega, rfl, (more_nil _).symm⟩
    case round =>
      obtain ⟨k', os', q, hk, rfl, rfl⟩ := hrel
      obtain ⟨⟨r1, r2⟩, ⟨r3, r4⟩⟩ := hr k'
      go_wp2
      · go_roundw
        case rel =>
          exact ⟨k' + 1, os', q, by omega, by go_num, by rw [HS.out]⟩
        case measure => simp [intOf]; omega
      · have hkk : k' = K := by omega
        subst hkk
        rw [HR.out]
        refine bodyPost_ret (v := pt R.1 R.2) (by simp [results, Tryz.results165, go_sem]) rfl ⟨rfl, ?_⟩
        repeat (first | exact Adds.refl _ | refine Adds.alloc ?_ _ | refine Adds.more ?_ _ _ | refine Adds.drew ?_)

end Go.Proofs.YtiacnmcdfpmcfaaGreatDoor.Gs
