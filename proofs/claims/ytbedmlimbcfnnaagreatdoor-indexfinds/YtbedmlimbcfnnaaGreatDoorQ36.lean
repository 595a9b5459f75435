/-
  The law IndexFinds, by contract.
-/
import Derived.Test.YtbedmlimbcfnnaaGreatDoorQ35
import Derived.Test.YtbedmlimbcfnnaaGreatDoorQ10
import Derived.Test.YtbedmlimbcfnnaaGreatDoorQ07
namespace Go.Proofs.YtbedmlimbcfnnaaGreatDoor.Sh
open Go.RowKit
attribute [local go_sem] cell?_more frozen?_more setCell_more size_more tape_more drew_more drewN_more more_drew more_drewN one_out plus_out plus_end lt_one le_p2 le_p3 le_p4 le_p5 le_p6 le_p7 le_p8 le_p9 le_p10 le_p11 le_p12 le_p13 le_p14 le_p15 le_p16 le_p17 le_p18 le_p19 le_p20 le_p21 le_p22 le_p23 le_p24 le_q0 le_q1 lt_q1 le_q2 lt_q2 le_q3 lt_q3 le_q4 lt_q4 le_q5 lt_q5 le_q6 lt_q6 le_q7 lt_q7 le_q8 lt_q8 le_q9 lt_q9 le_q10 lt_q10 le_q11 lt_q11 le_q12 lt_q12 le_q13 lt_q13 le_q14 lt_q14 le_q15 lt_q15 le_q16 lt_q16 le_q17 lt_q17 le_q18 lt_q18 le_q19 lt_q19 le_q20 lt_q20 le_q21 lt_q21 le_q22 lt_q22 le_q23 lt_q23 le_q24 lt_q24


set_option maxHeartbeats 4000000 in
set_option maxRecDepth 20000 in
theorem finds_any (s : Value) (fs : List F) (p t : ByteArray) (m : Int) (w : World) (h : Lst w s fs) :
    Calls Tryz.prog 6 #[s, .agg #[.string p, .string t], .int .i64 m] w fun e w' => e = .returned (.bool true) ∧ Adds w w' := by
  have kA := awake_any
  by_cases h3 : 300 < fs.length
  · have h3' : (300 : Int) < (fs.length : Int) := by omega
    obtain ⟨ao, cap, rfl, _, _⟩ := h
    clear h3
    generalize fs.length = n at *
    go_enter Tryz.func6, Tryz.ntmps6
    go_wp2_with (go_at_call 9; refine (kA _).mono ?_; rintro e w5 ⟨rfl, os5, n5, rfl⟩)
    go_ret
    exact ⟨rfl, by repeat (first | with_reducible exact Adds.refl _ | with_reducible refine Adds.alloc ?_ _ | with_reducible refine Adds.more ?_ _ _ | with_reducible refine Adds.drew ?_ | with_reducible refine Adds.drewN ?_ _)⟩
  have h3' : ¬ (300 : Int) < (fs.length : Int) := by omega
  have kM := fun w' hA => refMay_any s fs w' (h.adds hA) (by omega)
  by_cases hb : ¬ May fs ∨ m < 0
  · have kF := fun w' hA => scan_bad s fs p t m w' (h.adds hA) (by omega) hb
    obtain ⟨q, hq⟩ : ∃ q, decide (May fs) = q := ⟨_, rfl⟩
    rw [hq] at kM
    have hor : q = false ∨ (q = true ∧ m < 0) := by
      rcases hb with hb | hb
      · left; rw [← hq]; exact decide_eq_false hb
      · cases q
        · exact .inl rfl
        · exact .inr ⟨rfl, hb⟩
    obtain ⟨ao, cap, rfl, _, _⟩ := h
    clear hb hq h3
    generalize fs.length = n at *
    rcases hor with rfl | ⟨rfl, hm⟩
    all_goals
      go_enter Tryz.func6, Tryz.ntmps6
      go_wp2_with (first
        | (go_at_call 20; refine (kF _ (by repeat (first | with_reducible exact Adds.refl _ | with_reducible refine Adds.alloc ?_ _ | with_reducible refine Adds.more ?_ _ _ | with_reducible refine Adds.drew ?_ | with_reducible refine Adds.drewN ?_ _))).mono ?_; rintro e w1 ⟨rfl, os1, n1, rfl⟩)
        | (go_at_call 18; refine (kM _ (by repeat (first | with_reducible exact Adds.refl _ | with_reducible refine Adds.alloc ?_ _ | with_reducible refine Adds.more ?_ _ _ | with_reducible refine Adds.drew ?_ | with_reducible refine Adds.drewN ?_ _))).mono ?_; rintro e w2 ⟨rfl, os2, n2, rfl⟩)
        | (go_at_call 9; refine (kA _).mono ?_; rintro e w5 ⟨rfl, os5, n5, rfl⟩))
      go_ret
      exact ⟨rfl, by repeat (first | with_reducible exact Adds.refl _ | with_reducible refine Adds.alloc ?_ _ | with_reducible refine Adds.more ?_ _ _ | with_reducible refine Adds.drew ?_ | with_reducible refine Adds.drewN ?_ _)⟩
  · have hM : May fs := Classical.byContradiction fun h => hb (.inl h)
    have hm0 : ¬ m < 0 := fun h => hb (.inr h)
    obtain ⟨M, rfl⟩ : ∃ M : Nat, m = (M : Int) := ⟨m.toNat, by omega⟩
    have kF := fun w' hA => scan_ok s fs p t M w' (h.adds hA) (by omega) hM
    have kR := fun w' hA => refScan_any s fs p t M w' (h.adds hA) (by omega)
    rw [decide_eq_true hM] at kM
    have hle : ((fs.filter (isIn p t)).take M).length ≤ 1000 := Nat.le_trans (List.length_take_le' _ _) (Nat.le_trans (List.length_filter_le _ _) (by omega))
    generalize (fs.filter (isIn p t)).take M = R at *
    have kS := fun W a b hx hy => refSame_any a b R R W hx hy hle hle
    simp only [decide_true] at kS
    obtain ⟨ao, cap, rfl, _, _⟩ := h
    clear hb hM h3
    generalize fs.length = n at *
    go_enter Tryz.func6, Tryz.ntmps6
    go_wp2_with (first
      | (go_at_call 20; refine (kF _ (by repeat (first | with_reducible exact Adds.refl _ | with_reducible refine Adds.alloc ?_ _ | with_reducible refine Adds.more ?_ _ _ | with_reducible refine Adds.drew ?_ | with_reducible refine Adds.drewN ?_ _))).mono ?_; rintro e w1 ⟨v1, rfl, hF1, os1, n1, rfl⟩; have HL1 : Hid _ := hF1.lst; clear hF1)
      | (go_at_call 18; refine (kM _ (by repeat (first | with_reducible exact Adds.refl _ | with_reducible refine Adds.alloc ?_ _ | with_reducible refine Adds.more ?_ _ _ | with_reducible refine Adds.drew ?_ | with_reducible refine Adds.drewN ?_ _))).mono ?_; rintro e w2 ⟨rfl, os2, n2, rfl⟩)
      | (go_at_call 21; refine (kR _ (by repeat (first | with_reducible exact Adds.refl _ | with_reducible refine Adds.alloc ?_ _ | with_reducible refine Adds.more ?_ _ _ | with_reducible refine Adds.drew ?_ | with_reducible refine Adds.drewN ?_ _))).mono ?_; rintro e w3 ⟨v3, rfl, hL3, os3, n3, rfl⟩; have HL3 : Hid _ := hL3; clear hL3)
      | (go_at_call 12; refine (kS _ _ _ (Lst.adds HL1.out (by repeat (first | with_reducible exact Adds.refl _ | with_reducible refine Adds.alloc ?_ _ | with_reducible refine Adds.more ?_ _ _ | with_reducible refine Adds.drew ?_ | with_reducible refine Adds.drewN ?_ _))) (Lst.adds HL3.out (by repeat (first | with_reducible exact Adds.refl _ | with_reducible refine Adds.alloc ?_ _ | with_reducible refine Adds.more ?_ _ _ | with_reducible refine Adds.drew ?_ | with_reducible refine Adds.drewN ?_ _)))).mono ?_; rintro e w4 ⟨rfl, os4, n4, rfl⟩)
      | (go_at_call 9; refine (kA _).mono ?_; rintro e w5 ⟨rfl, os5, n5, rfl⟩))
    go_ret
    exact ⟨rfl, by repeat (first | with_reducible exact Adds.refl _ | with_reducible refine Adds.alloc ?_ _ | with_reducible refine Adds.more ?_ _ _ | with_reducible refine Adds.drew ?_ | with_reducible refine Adds.drewN ?_ _)⟩

end Go.Proofs.YtbedmlimbcfnnaaGreatDoor.Sh
