/-
  The walk of the statement GaussTurns: it returns true, whatever point and number are handed in.
-/
import Derived.Test.YtlbeebhehgnppaaMuls
import Derived.Test.YtlbeebhehgnppaaSums
import Derived.Test.YtlbeebhehgnppaaTurn
import Derived.Deep.Cut
import Derived.Deep.RegionHeld3
namespace Go.Proofs.Ytlbeebhehgnppaa
open Go.RowKit
attribute [local go_sem] cell?_addTo cell?_more frozen?_more setCell_more size_more tape_more drew_more drewN_more more_drew more_drewN more_more one_out plus_out lt_one le_p2 le_p3 le_p4 le_p5 le_p6 le_p7 le_p8 le_p9 le_p10 le_p11 le_p12
attribute [local go_sem] plus_end le_p13 le_p14 le_p15 le_p16 le_p17 le_p18 le_p19 le_p20 le_p21 le_p22 le_p23 le_p24 le_p25 le_p26 le_p27 le_p28 le_p29 le_p30

theorem le_q1 (a n x1 : Nat) (h : a < n) : (a ≤ n + x1) = True := by simp only [eq_iff_iff, iff_true]; omega
theorem le_q2 (a n x1 x2 : Nat) (h : a < n) : (a ≤ n + x1 + x2) = True := by simp only [eq_iff_iff, iff_true]; omega
theorem le_q3 (a n x1 x2 x3 : Nat) (h : a < n) : (a ≤ n + x1 + x2 + x3) = True := by simp only [eq_iff_iff, iff_true]; omega
theorem le_q4 (a n x1 x2 x3 x4 : Nat) (h : a < n) : (a ≤ n + x1 + x2 + x3 + x4) = True := by simp only [eq_iff_iff, iff_true]; omega
theorem le_q5 (a n x1 x2 x3 x4 x5 : Nat) (h : a < n) : (a ≤ n + x1 + x2 + x3 + x4 + x5) = True := by simp only [eq_iff_iff, iff_true]; omega
theorem le_q6 (a n x1 x2 x3 x4 x5 x6 : Nat) (h : a < n) : (a ≤ n + x1 + x2 + x3 + x4 + x5 + x6) = True := by simp only [eq_iff_iff, iff_true]; omega
theorem le_q7 (a n x1 x2 x3 x4 x5 x6 x7 : Nat) (h : a < n) : (a ≤ n + x1 + x2 + x3 + x4 + x5 + x6 + x7) = True := by simp only [eq_iff_iff, iff_true]; omega
theorem le_q8 (a n x1 x2 x3 x4 x5 x6 x7 x8 : Nat) (h : a < n) : (a ≤ n + x1 + x2 + x3 + x4 + x5 + x6 + x7 + x8) = True := by simp only [eq_iff_iff, iff_true]; omega
theorem le_q9 (a n x1 x2 x3 x4 x5 x6 x7 x8 x9 : Nat) (h : a < n) : (a ≤ n + x1 + x2 + x3 + x4 + x5 + x6 + x7 + x8 + x9) = True := by simp only [eq_iff_iff, iff_true]; omega
theorem le_q10 (a n x1 x2 x3 x4 x5 x6 x7 x8 x9 x10 : Nat) (h : a < n) : (a ≤ n + x1 + x2 + x3 + x4 + x5 + x6 + x7 + x8 + x9 + x10) = True := by simp only [eq_iff_iff, iff_true]; omega
theorem le_q11 (a n x1 x2 x3 x4 x5 x6 x7 x8 x9 x10 x11 : Nat) (h : a < n) : (a ≤ n + x1 + x2 + x3 + x4 + x5 + x6 + x7 + x8 + x9 + x10 + x11) = True := by simp only [eq_iff_iff, iff_true]; omega
theorem le_q12 (a n x1 x2 x3 x4 x5 x6 x7 x8 x9 x10 x11 x12 : Nat) (h : a < n) : (a ≤ n + x1 + x2 + x3 + x4 + x5 + x6 + x7 + x8 + x9 + x10 + x11 + x12) = True := by simp only [eq_iff_iff, iff_true]; omega
theorem le_q13 (a n x1 x2 x3 x4 x5 x6 x7 x8 x9 x10 x11 x12 x13 : Nat) (h : a < n) : (a ≤ n + x1 + x2 + x3 + x4 + x5 + x6 + x7 + x8 + x9 + x10 + x11 + x12 + x13) = True := by simp only [eq_iff_iff, iff_true]; omega
theorem le_q14 (a n x1 x2 x3 x4 x5 x6 x7 x8 x9 x10 x11 x12 x13 x14 : Nat) (h : a < n) : (a ≤ n + x1 + x2 + x3 + x4 + x5 + x6 + x7 + x8 + x9 + x10 + x11 + x12 + x13 + x14) = True := by simp only [eq_iff_iff, iff_true]; omega
attribute [local go_sem] le_q1 le_q2 le_q3 le_q4 le_q5 le_q6 le_q7 le_q8 le_q9 le_q10 le_q11 le_q12 le_q13 le_q14

theorem lt_q1 (a n x1 : Nat) (h : a < n) : (a < n + x1) = True := by simp only [eq_iff_iff, iff_true]; omega
theorem lt_q2 (a n x1 x2 : Nat) (h : a < n) : (a < n + x1 + x2) = True := by simp only [eq_iff_iff, iff_true]; omega
theorem lt_q3 (a n x1 x2 x3 : Nat) (h : a < n) : (a < n + x1 + x2 + x3) = True := by simp only [eq_iff_iff, iff_true]; omega
theorem lt_q4 (a n x1 x2 x3 x4 : Nat) (h : a < n) : (a < n + x1 + x2 + x3 + x4) = True := by simp only [eq_iff_iff, iff_true]; omega
theorem lt_q5 (a n x1 x2 x3 x4 x5 : Nat) (h : a < n) : (a < n + x1 + x2 + x3 + x4 + x5) = True := by simp only [eq_iff_iff, iff_true]; omega
theorem lt_q6 (a n x1 x2 x3 x4 x5 x6 : Nat) (h : a < n) : (a < n + x1 + x2 + x3 + x4 + x5 + x6) = True := by simp only [eq_iff_iff, iff_true]; omega
theorem lt_q7 (a n x1 x2 x3 x4 x5 x6 x7 : Nat) (h : a < n) : (a < n + x1 + x2 + x3 + x4 + x5 + x6 + x7) = True := by simp only [eq_iff_iff, iff_true]; omega
theorem lt_q8 (a n x1 x2 x3 x4 x5 x6 x7 x8 : Nat) (h : a < n) : (a < n + x1 + x2 + x3 + x4 + x5 + x6 + x7 + x8) = True := by simp only [eq_iff_iff, iff_true]; omega
theorem lt_q9 (a n x1 x2 x3 x4 x5 x6 x7 x8 x9 : Nat) (h : a < n) : (a < n + x1 + x2 + x3 + x4 + x5 + x6 + x7 + x8 + x9) = True := by simp only [eq_iff_iff, iff_true]; omega
theorem lt_q10 (a n x1 x2 x3 x4 x5 x6 x7 x8 x9 x10 : Nat) (h : a < n) : (a < n + x1 + x2 + x3 + x4 + x5 + x6 + x7 + x8 + x9 + x10) = True := by simp only [eq_iff_iff, iff_true]; omega
theorem lt_q11 (a n x1 x2 x3 x4 x5 x6 x7 x8 x9 x10 x11 : Nat) (h : a < n) : (a < n + x1 + x2 + x3 + x4 + x5 + x6 + x7 + x8 + x9 + x10 + x11) = True := by simp only [eq_iff_iff, iff_true]; omega
theorem lt_q12 (a n x1 x2 x3 x4 x5 x6 x7 x8 x9 x10 x11 x12 : Nat) (h : a < n) : (a < n + x1 + x2 + x3 + x4 + x5 + x6 + x7 + x8 + x9 + x10 + x11 + x12) = True := by simp only [eq_iff_iff, iff_true]; omega
theorem lt_q13 (a n x1 x2 x3 x4 x5 x6 x7 x8 x9 x10 x11 x12 x13 : Nat) (h : a < n) : (a < n + x1 + x2 + x3 + x4 + x5 + x6 + x7 + x8 + x9 + x10 + x11 + x12 + x13) = True := by simp only [eq_iff_iff, iff_true]; omega
theorem lt_q14 (a n x1 x2 x3 x4 x5 x6 x7 x8 x9 x10 x11 x12 x13 x14 : Nat) (h : a < n) : (a < n + x1 + x2 + x3 + x4 + x5 + x6 + x7 + x8 + x9 + x10 + x11 + x12 + x13 + x14) = True := by simp only [eq_iff_iff, iff_true]; omega
attribute [local go_sem] lt_q1 lt_q2 lt_q3 lt_q4 lt_q5 lt_q6 lt_q7 lt_q8 lt_q9 lt_q10 lt_q11 lt_q12 lt_q13 lt_q14

/-- What lies behind the first row: the point, its mirror and its turn, each in a block. -/
structure Three (B P M T : Nat) (a b x y u v : Int) (w : World) : Prop where
  p0 : w.cell? ⟨P, 0, none⟩ = some (.int .i64 a)
  p1 : w.cell? ⟨P, 1, none⟩ = some (.int .i64 b)
  m0 : w.cell? ⟨M, 0, none⟩ = some (.int .i64 x)
  m1 : w.cell? ⟨M, 1, none⟩ = some (.int .i64 y)
  t0 : w.cell? ⟨T, 0, none⟩ = some (.int .i64 u)
  t1 : w.cell? ⟨T, 1, none⟩ = some (.int .i64 v)
  hP : P < w.heap.size
  hM : M < w.heap.size
  hT : T < w.heap.size

set_option maxRecDepth 20000 in
set_option maxHeartbeats 3000000 in
theorem turns_not (a b n : Int) (h : ¬ May a b) (w : World) :
    Calls Try.prog 4 #[pt a b, .int .i64 n] w fun e w' => e = .returned (.bool true) ∧ Adds w w' := by
  have h1 := mirror_not a b h
  have h2 := turn_not a b n h
  have h3 := norm_not a b h
  have h4 := fun w => rmay_false h w
  have h5 := check_not a b h
  have h6 := awake_any
  clear h
  go_enter Try.func4, Try.ntmps4
  go_wp2
  go_cut [5, 6, 7] from 9 (fun m t k wc => ∃ M T, m = .pointer (some ⟨M, 0, none⟩) ∧ t = .pointer (some ⟨T, 0, none⟩) ∧ k = .int .i64 0 ∧ Three 0 w.heap.size M T a b 0 0 0 0 wc ∧ Adds w wc)
  case rest =>
    obtain ⟨M, T, rfl, rfl, rfl, ⟨p0, p1, m0, m1, t0, t1, hP, hM, hT⟩, ha⟩ := hcut
    go_wp2_with (first
      | (go_at_call 11; refine (h4 _).mono ?_; rintro e w1 ⟨rfl, os, k, rfl⟩)
      | (go_at_call 18; refine (h5 _).mono ?_; rintro e w1 ⟨rfl, os, k, rfl⟩)
      | (go_at_call 13; refine (h6 _).mono ?_; rintro e w1 ⟨rfl, os, k, rfl⟩))
    go_ret
    exact ⟨rfl, ha.more _ _⟩
  case first =>
    go_region_held3 (fun w' => w'.cell? ⟨w.heap.size, 0, none⟩ = some (.int .i64 a) ∧ w'.cell? ⟨w.heap.size, 1, none⟩ = some (.int .i64 b) ∧ w.heap.size < w'.heap.size)
      (refine ⟨?_, ?_, ?_⟩ <;> simp [go_sem, *])
      (first
      | (go_at_call 16; refine (h1 _).mono ?_; rintro e w1 ⟨rfl, os, k, rfl⟩)
      | (go_at_call 17; refine (h2 _).mono ?_; rintro e w1 ⟨rfl, os, k, rfl⟩)
      | (go_at_call 15; refine (h3 _).mono ?_; rintro e w1 ⟨rfl, os, k, rfl⟩))
    all_goals go_wp2
    all_goals go_meet
    all_goals
      refine ⟨_, _, rfl, rfl, rfl, ⟨by simp [go_sem], by simp [go_sem], by simp [go_sem], by simp [go_sem], by simp [go_sem], by simp [go_sem], by simp [go_sem], by simp [go_sem], by simp [go_sem]⟩, ?_⟩
      repeat (first | with_reducible exact Adds.refl _ | with_reducible refine Adds.alloc ?_ _ | with_reducible refine Adds.more ?_ _ _ | with_reducible refine Adds.drew ?_)

set_option maxRecDepth 20000 in
set_option maxHeartbeats 3000000 in
theorem turns_may (a b n : Int) (h : May a b) (w : World) :
    Calls Try.prog 4 #[pt a b, .int .i64 n] w fun e w' => e = .returned (.bool true) ∧ Adds w w' := by
  have h1 := mirror_may a b h
  have h2 := turn_may a b n h
  have h3 := norm_may a b h
  have h4 := fun w => rmay_true h w
  have h5 := check_may a b h
  have h6 := awake_any
  have h7 := rturn_may a b n h
  have h8 := rnorm_any a b h
  have tt := turn_may a b 1 h
  have t2 := turn_may _ _ 1 (may_quarter h)
  have t3 := turn_may _ _ 1 (may_quarter (may_quarter h))
  have t4 := turn_may _ _ 1 (may_quarter (may_quarter (may_quarter h)))
  have e1 : ∀ x y, rot (quarters 1) x y = (-y, x) := fun x y => rfl
  rw [e1] at tt t2 t3 t4
  simp only [Int.neg_neg] at t2 t3 t4
  have hn := norm_may _ _ (may_rot h (quarters n))
  rw [norm_rot] at hn
  obtain ⟨⟨m1, m2⟩, ⟨m3, m4⟩⟩ := h
  clear e1
  generalize rot (quarters n) a b = R at *
  obtain ⟨x, y⟩ := R
  generalize a * a + b * b = N at *
  simp only at h2 h7 hn
  go_enter Try.func4, Try.ntmps4
  go_wp2
  go_cut [5, 6, 7] from 9 (fun m t k wc => ∃ M T, m = .pointer (some ⟨M, 0, none⟩) ∧ t = .pointer (some ⟨T, 0, none⟩) ∧ k = .int .i64 N ∧ Three 0 w.heap.size M T a b a (-b) x y wc ∧ Adds w wc)
  case rest =>
    obtain ⟨M, T, rfl, rfl, rfl, ⟨p0, p1, m0, m1, t0, t1, hP, hM, hT⟩, ha⟩ := hcut
    go_wp2_with (first
      | (go_at_call 11; refine (h4 _).mono ?_; rintro e w1 ⟨rfl, os, k, rfl⟩)
      | (go_at_call 17; (with_reducible refine (tt _).mono ?_); rintro e w1 ⟨rfl, os, k, rfl⟩)
      | (go_at_call 17; (with_reducible refine (t2 _).mono ?_); rintro e w1 ⟨rfl, os, k, rfl⟩)
      | (go_at_call 17; (with_reducible refine (t3 _).mono ?_); rintro e w1 ⟨rfl, os, k, rfl⟩)
      | (go_at_call 17; (with_reducible refine (t4 _).mono ?_); rintro e w1 ⟨rfl, os, k, rfl⟩))
    refine wp_region_adds (by kernel_rfl) (by kernel_rfl) ?_
    repeat (go_big_quiet_step ((first
      | (go_at_call 18; exact Calls.adds_of (h5 _))
      | (go_at_call 19; exact Calls.adds_of (h7 _))
      | (go_at_call 20; exact Calls.adds_of (h8 _))
      | (go_at_call 15; exact Calls.adds_of (hn _))
      | (go_at_call 13; exact Calls.adds_of (h6 _)))))
    refine wpQuiet_nil ?_
    rintro _ ⟨p, rfl⟩
    unfold addTo
    go_wp2
    go_ret
    refine ⟨rfl, ?_⟩
    repeat (first | with_reducible exact ha | with_reducible refine Adds.alloc ?_ _ | with_reducible refine Adds.more ?_ _ _ | with_reducible refine Adds.drew ?_)
  case first =>
    go_region_held3 (fun w' => w'.cell? ⟨w.heap.size, 0, none⟩ = some (.int .i64 a) ∧ w'.cell? ⟨w.heap.size, 1, none⟩ = some (.int .i64 b) ∧ w.heap.size < w'.heap.size)
      (refine ⟨?_, ?_, ?_⟩ <;> simp [go_sem, *])
      (first
      | (go_at_call 16; refine (h1 _).mono ?_; rintro e w1 ⟨rfl, os, k, rfl⟩)
      | (go_at_call 17; (with_reducible refine (h2 _).mono ?_); rintro e w1 ⟨rfl, os, k, rfl⟩)
      | (go_at_call 15; (with_reducible refine (h3 _).mono ?_); rintro e w1 ⟨rfl, os, k, rfl⟩))
    all_goals go_wp2
    all_goals go_meet
    all_goals
      refine ⟨_, _, rfl, rfl, rfl, ⟨by simp [go_sem], by simp [go_sem], by simp [go_sem], by simp [go_sem], by simp [go_sem], by simp [go_sem], by simp [go_sem], by simp [go_sem], by simp [go_sem]⟩, ?_⟩
      repeat (first | with_reducible exact Adds.refl _ | with_reducible refine Adds.alloc ?_ _ | with_reducible refine Adds.more ?_ _ _ | with_reducible refine Adds.drew ?_)

theorem turns_any (a b n : Int) (w : World) :
    Calls Try.prog 4 #[pt a b, .int .i64 n] w fun e w' => e = .returned (.bool true) ∧ Adds w w' := by
  by_cases h : May a b
  · exact turns_may a b n h w
  · exact turns_not a b n h w

end Go.Proofs.Ytlbeebhehgnppaa
