/-
  The walk of the statement PaperPaths: it returns true, whatever is handed in, and leaves all that was there as it was.
-/
import Derived.Test.YtcgbhbbljjdejaaAwake
import Derived.Test.YtcgbhbbljjdejaaMays
namespace Go.Proofs.Ytcgbhbbljjdejaa
open Go.RowKit
attribute [local go_sem] cell?_more frozen?_more setCell_more size_more tape_more drew_more drewN_more more_drew more_drewN more_more one_out plus_out plus_end lt_one le_p2 le_p3 le_p4 le_p5 le_p6 le_p7 le_p8 le_p9 le_p10 le_p11 le_p12 le_p13 le_p14 le_p15 le_p16 le_p17 le_p18 le_p19 le_p20 le_p21 le_p22 le_p23 le_p24 le_q0 le_q1 lt_q1 le_q2 lt_q2 le_q3 lt_q3 le_q4 lt_q4 le_q5 lt_q5 le_q6 lt_q6 le_q7 lt_q7 le_q8 lt_q8 le_q9 lt_q9 le_q10 lt_q10 le_q11 lt_q11 le_q12 lt_q12 le_q13 lt_q13 le_q14 lt_q14 le_q15 lt_q15 le_q16 lt_q16 le_q17 lt_q17 le_q18 lt_q18 le_q19 lt_q19 le_q20 lt_q20 le_q21 lt_q21 le_q22 lt_q22 le_q23 lt_q23 le_q24 lt_q24

set_option maxHeartbeats 2000000 in
theorem paperPaths_any (p : ByteArray) (s s' : Value) (l t : List F) (w : World) (hp : p.size ≤ 9223372036854775807) (hl : Lst w s l) (ht : Lst w s' t) :
    Calls Try.prog 3 #[.string p, s, s'] w fun e w' => e = .returned (.bool true) ∧ Adds w w' := by
  have h1 := path_any p
  have h2 := refPath_any p hp
  have h3 := key_any p
  by_cases h40 : l.length ≤ 40 ∧ t.length ≤ 40
  · obtain ⟨hl4, ht4⟩ := h40
    have h4 := fun w' hA => check_doc s l w' (hl.adds hA)
    have h5 := fun w' hA => refMay_any s l w' (hl.adds hA) (by omega)
    have h6 := fun w' hA => same_any s s' l t w' (hl.adds hA) (ht.adds hA) (by omega) (by omega)
    have h7 := fun w' hA => refSame_any s s' l t w' (hl.adds hA) (ht.adds hA) (by omega) (by omega)
    have hM : (errOf (May l) 1 == 0) = decide (May l) := by
      by_cases h : May l <;> simp [errOf, h]
    obtain ⟨ao, cap, rfl, _, _⟩ := hl
    obtain ⟨bo, cap', rfl, _, _⟩ := ht
    unfold isKey at h3
    generalize errOf (May l) 1 = e1 at *
    generalize decide (May l) = e2 at *
    generalize decide (l = t) = e3 at *
    generalize isPath p = e4 at *
    subst hM
    by_cases hb0 : 1 ≤ p.size <;> by_cases hb1 : p.size ≤ 64
    all_goals
      have hb0' : (0 < (p.size : Int)) = (1 ≤ p.size) := by simp; omega
      have hb1' : ((p.size : Int) ≤ 64) = (p.size ≤ 64) := by simp; omega
      simp only [hb0, hb1, and_true, and_self, and_false, decide_true, decide_false] at h3
      go_enter Try.func3, Try.ntmps3
      go_wp2_with (first
        | (go_at_call 9; refine (h1 _).mono ?_; rintro e w1 ⟨rfl, hw⟩; subst w1)
        | (go_at_call 10; refine (h2 _).mono ?_; rintro e w1 ⟨rfl, hw⟩; subst w1)
        | (go_at_call 11; refine (h3 _).mono ?_; rintro e w1 ⟨rfl, hw⟩; subst w1)
        | (go_at_call 12; refine (h4 _ (by repeat (first | with_reducible exact Adds.refl _ | with_reducible refine Adds.alloc ?_ _ | with_reducible refine Adds.more ?_ _ _ | with_reducible refine Adds.drew ?_ | with_reducible refine Adds.drewN ?_ _))).mono ?_; rintro e w1 ⟨rfl, os1, n1, rfl⟩)
        | (go_at_call 13; refine (h5 _ (by repeat (first | with_reducible exact Adds.refl _ | with_reducible refine Adds.alloc ?_ _ | with_reducible refine Adds.more ?_ _ _ | with_reducible refine Adds.drew ?_ | with_reducible refine Adds.drewN ?_ _))).mono ?_; rintro e w1 ⟨rfl, os2, n2, rfl⟩)
        | (go_at_call 14; refine (h6 _ (by repeat (first | with_reducible exact Adds.refl _ | with_reducible refine Adds.alloc ?_ _ | with_reducible refine Adds.more ?_ _ _ | with_reducible refine Adds.drew ?_ | with_reducible refine Adds.drewN ?_ _))).mono ?_; rintro e w1 ⟨rfl, os3, n3, rfl⟩)
        | (go_at_call 15; refine (h7 _ (by repeat (first | with_reducible exact Adds.refl _ | with_reducible refine Adds.alloc ?_ _ | with_reducible refine Adds.more ?_ _ _ | with_reducible refine Adds.drew ?_ | with_reducible refine Adds.drewN ?_ _))).mono ?_; rintro e w1 ⟨rfl, os4, n4, rfl⟩)
        | (go_at_call 8; refine (awake_any _).mono ?_; rintro e w1 ⟨rfl, os5, n5, rfl⟩))
      all_goals
        go_ret
        refine ⟨rfl, ?_⟩
        repeat (first | with_reducible exact Adds.refl _ | with_reducible refine Adds.alloc ?_ _ | with_reducible refine Adds.more ?_ _ _ | with_reducible refine Adds.drew ?_ | with_reducible refine Adds.drewN ?_ _)
  · obtain ⟨ao, cap, rfl, _, _⟩ := hl
    obtain ⟨bo, cap', rfl, _, _⟩ := ht
    go_enter Try.func3, Try.ntmps3
    go_wp2_with (first
      | (go_at_call 8; refine (awake_any _).mono ?_; rintro e w1 ⟨rfl, os5, n5, rfl⟩))
    all_goals
      go_ret
      refine ⟨rfl, ?_⟩
      repeat (first | with_reducible exact Adds.refl _ | with_reducible refine Adds.alloc ?_ _ | with_reducible refine Adds.more ?_ _ _ | with_reducible refine Adds.drew ?_ | with_reducible refine Adds.drewN ?_ _)

end Go.Proofs.Ytcgbhbbljjdejaa
