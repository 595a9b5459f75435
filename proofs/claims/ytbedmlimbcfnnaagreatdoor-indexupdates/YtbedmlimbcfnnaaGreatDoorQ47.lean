/-
  The law IndexUpdates, by contract.
-/
import Derived.Test.YtbedmlimbcfnnaaGreatDoorQ46
import Derived.Test.YtbedmlimbcfnnaaGreatDoorQ35
import Derived.Test.YtbedmlimbcfnnaaGreatDoorQ37
import Derived.Test.YtbedmlimbcfnnaaGreatDoorQ39
namespace Go.Proofs.YtbedmlimbcfnnaaGreatDoor
open Go.RowKit
attribute [local go_sem] cell?_more frozen?_more setCell_more size_more tape_more drew_more drewN_more more_drew more_drewN one_out plus_out plus_end lt_one le_p2 le_p3 le_p4 le_p5 le_p6 le_p7 le_p8 le_p9 le_p10 le_p11 le_p12 le_p13 le_p14 le_p15 le_p16 le_p17 le_p18 le_p19 le_p20 le_p21 le_p22 le_p23 le_p24 le_q0 le_q1 lt_q1 le_q2 lt_q2 le_q3 lt_q3 le_q4 lt_q4 le_q5 lt_q5 le_q6 lt_q6 le_q7 lt_q7 le_q8 lt_q8 le_q9 lt_q9 le_q10 lt_q10 le_q11 lt_q11 le_q12 lt_q12 le_q13 lt_q13 le_q14 lt_q14 le_q15 lt_q15 le_q16 lt_q16 le_q17 lt_q17 le_q18 lt_q18 le_q19 lt_q19 le_q20 lt_q20 le_q21 lt_q21 le_q22 lt_q22 le_q23 lt_q23 le_q24 lt_q24

theorem errOf_eq (p : Prop) [Decidable p] : (Sh.errOf p 1 == 0) = decide p := by
  unfold Sh.errOf
  by_cases h : p
  · simp [h]
  · simp [h]

set_option maxHeartbeats 4000000 in
set_option maxRecDepth 20000 in
theorem updates_great (s : ByteArray) (ev : Value) (es : List Sh.F) (cv : Value) (key : ByteArray) (has : Bool) (doc : List F) (w : World) (h : Sh.Lst w ev es) (hc : ChV w cv key has doc) (hg : ¬ (s.size ≤ 1100 ∧ es.length ≤ 200 ∧ doc.length ≤ 20)) :
    Calls Tryz.prog 4 #[.string s, ev, cv] w fun e w' => e = .returned (.bool true) ∧ Adds w w' := by
  have kA := awake_any
  obtain ⟨ao, cap, rfl, _, _⟩ := h
  obtain ⟨pos, vv, rfl, vo, vc, rfl, _, _⟩ := hc
  have hor : (1100 : Int) < (s.size : Int) ∨ (¬ (1100 : Int) < (s.size : Int) ∧ (200 : Int) < (es.length : Int)) ∨ (¬ (1100 : Int) < (s.size : Int) ∧ ¬ (200 : Int) < (es.length : Int) ∧ (20 : Int) < (doc.length : Int)) := by omega
  clear hg
  generalize es.length = n at *
  generalize doc.length = nd at *
  rcases hor with h1 | ⟨h1, h2⟩ | ⟨h1, h2, h3⟩
  all_goals
    go_enter Tryz.func4, Tryz.ntmps4
    go_wp2_with (go_at_call 9; refine (kA _).mono ?_; rintro e w5 ⟨rfl, os5, n5, rfl⟩)
    go_ret
    exact ⟨rfl, (by repeat (first | with_reducible exact Adds.refl _ | with_reducible refine Adds.alloc ?_ _ | with_reducible refine Adds.more ?_ _ _ | with_reducible refine Adds.drew ?_ | with_reducible refine Adds.drewN ?_ _))⟩

set_option maxHeartbeats 4000000 in
set_option maxRecDepth 20000 in
theorem updates_light (s : ByteArray) (ev : Value) (es : List Sh.F) (cv : Value) (key : ByteArray) (has : Bool) (doc : List F) (w : World) (h : Sh.Lst w ev es) (hc : ChV w cv key has doc) (h1 : s.size ≤ 1100) (h2 : es.length ≤ 200) (h3 : doc.length ≤ 20) :
    Calls Tryz.prog 4 #[.string s, ev, cv] w fun e w' => e = .returned (.bool true) ∧ Adds w w' := by
  have kA := awake_any
  have kC := fun w' hA => Sh.check_any ev es w' (h.adds hA) (by omega)
  have kM := fun w' hA => Sh.refMay_any ev es w' (h.adds hA) (by omega)
  obtain ⟨pos, vv, rfl, hdoc⟩ := hc
  have kU := fun W (hA : Adds w W) => update_any s ev es pos key has vv doc W (by omega) (h.adds hA) (by omega) (hdoc.adds hA)
  have kV := fun W (hA : Adds w W) => rUpdate_any s ev es pos key has vv doc W (by omega) (h.adds hA) (by omega) (hdoc.adds hA) (by omega)
  have hq : (Sh.errOf (Sh.May es) 1 = 0 ∧ decide (Sh.May es) = true) ∨ (Sh.errOf (Sh.May es) 1 = 1 ∧ decide (Sh.May es) = false) := by
    by_cases hm : Sh.May es
    · exact .inl ⟨Sh.err_ok hm _, decide_eq_true hm⟩
    · exact .inr ⟨Sh.err_bad hm _, decide_eq_false hm⟩
  have h1' : ¬ (1100 : Int) < (s.size : Int) := by omega
  have h2' : ¬ (200 : Int) < (es.length : Int) := by omega
  have h3' : ¬ (20 : Int) < (doc.length : Int) := by omega
  have hor : (∃ c, updA s.toList es key has doc = .error c) ∨ ∃ a, updA s.toList es key has doc = .ok a ∧ a.length ≤ 1000 := by
    cases hU : updA s.toList es key has doc with
    | error c => exact .inl ⟨c, rfl⟩
    | ok a =>
      refine .inr ⟨a, rfl, ?_⟩
      obtain ⟨xs, _, _, _, ha⟩ := updA_ok hU
      have := updE_length xs es key has doc
      rw [ha]
      omega
  rcases hor with ⟨c, hU⟩ | ⟨a, hU, hal⟩
  · rw [hU] at kU kV
    simp only [GaveB] at kU kV
    have kS := fun W => Sh.refSame_any (.slice none 0 0) (.slice none 0 0) [] [] W (Sh.Lst.none W) (Sh.Lst.none W) (by simp) (by simp)
    simp only [decide_true] at kS
    obtain ⟨ao, cap, rfl, _, _⟩ := h
    obtain ⟨vo, vc, rfl, _, _⟩ := hdoc
    clear h1 h2 h3 hU
    rcases hq with ⟨hq1, hq2⟩ | ⟨hq1, hq2⟩
    all_goals
      rw [hq1] at kC
      rw [hq2] at kM
      clear hq1 hq2
      generalize es.length = n at *
      generalize doc.length = nd at *
      go_enter Tryz.func4, Tryz.ntmps4
      go_wp2_with (first
        | (go_at_call 15; refine (kU _ (by repeat (first | with_reducible exact Adds.refl _ | with_reducible refine Adds.alloc ?_ _ | with_reducible refine Adds.more ?_ _ _ | with_reducible refine Adds.drew ?_ | with_reducible refine Adds.drewN ?_ _))).mono ?_; rintro e w1 ⟨rfl, os1, n1, rfl⟩)
        | (go_at_call 16; refine (kV _ (by repeat (first | with_reducible exact Adds.refl _ | with_reducible refine Adds.alloc ?_ _ | with_reducible refine Adds.more ?_ _ _ | with_reducible refine Adds.drew ?_ | with_reducible refine Adds.drewN ?_ _))).mono ?_; rintro e w2 ⟨rfl, os2, n2, rfl⟩)
        | (go_at_call 12; refine (kS _).mono ?_; rintro e w3 ⟨rfl, os3, n3, rfl⟩)
        | (go_at_call 17; refine (kC _ (by repeat (first | with_reducible exact Adds.refl _ | with_reducible refine Adds.alloc ?_ _ | with_reducible refine Adds.more ?_ _ _ | with_reducible refine Adds.drew ?_ | with_reducible refine Adds.drewN ?_ _))).mono ?_; rintro e w4 ⟨rfl, os4, n4, rfl⟩)
        | (go_at_call 18; refine (kM _ (by repeat (first | with_reducible exact Adds.refl _ | with_reducible refine Adds.alloc ?_ _ | with_reducible refine Adds.more ?_ _ _ | with_reducible refine Adds.drew ?_ | with_reducible refine Adds.drewN ?_ _))).mono ?_; rintro e w5 ⟨rfl, os5, n5, rfl⟩)
        | (go_at_call 9; refine (kA _).mono ?_; rintro e w6 ⟨rfl, os6, n6, rfl⟩))
      go_ret
      exact ⟨rfl, (by repeat (first | with_reducible exact Adds.refl _ | with_reducible refine Adds.alloc ?_ _ | with_reducible refine Adds.more ?_ _ _ | with_reducible refine Adds.drew ?_ | with_reducible refine Adds.drewN ?_ _))⟩
  · rw [hU] at kU kV
    simp only [GaveB] at kU kV
    have kS := fun W v u hx hy => Sh.refSame_any v u a a W hx hy hal hal
    simp only [decide_true] at kS
    obtain ⟨ao, cap, rfl, _, _⟩ := h
    obtain ⟨vo, vc, rfl, _, _⟩ := hdoc
    clear h1 h2 h3 hU hal
    rcases hq with ⟨hq1, hq2⟩ | ⟨hq1, hq2⟩
    all_goals
      rw [hq1] at kC
      rw [hq2] at kM
      clear hq1 hq2
      generalize es.length = n at *
      generalize doc.length = nd at *
      go_enter Tryz.func4, Tryz.ntmps4
      go_wp2_with (first
        | (go_at_call 15; refine (kU _ (by repeat (first | with_reducible exact Adds.refl _ | with_reducible refine Adds.alloc ?_ _ | with_reducible refine Adds.more ?_ _ _ | with_reducible refine Adds.drew ?_ | with_reducible refine Adds.drewN ?_ _))).mono ?_; rintro e w1 ⟨⟨v1, rfl, hL1⟩, os1, n1, rfl⟩; have HL1 : Hid _ := hL1; clear hL1)
        | (go_at_call 16; refine (kV _ (by repeat (first | with_reducible exact Adds.refl _ | with_reducible refine Adds.alloc ?_ _ | with_reducible refine Adds.more ?_ _ _ | with_reducible refine Adds.drew ?_ | with_reducible refine Adds.drewN ?_ _))).mono ?_; rintro e w2 ⟨⟨v2, rfl, hL2⟩, os2, n2, rfl⟩; have HL2 : Hid _ := hL2; clear hL2)
        | (go_at_call 12; refine (kS _ _ _ (Sh.Lst.adds HL1.out (by repeat (first | with_reducible exact Adds.refl _ | with_reducible refine Adds.alloc ?_ _ | with_reducible refine Adds.more ?_ _ _ | with_reducible refine Adds.drew ?_ | with_reducible refine Adds.drewN ?_ _))) (Sh.Lst.adds HL2.out (by repeat (first | with_reducible exact Adds.refl _ | with_reducible refine Adds.alloc ?_ _ | with_reducible refine Adds.more ?_ _ _ | with_reducible refine Adds.drew ?_ | with_reducible refine Adds.drewN ?_ _)))).mono ?_; rintro e w3 ⟨rfl, os3, n3, rfl⟩)
        | (go_at_call 17; refine (kC _ (by repeat (first | with_reducible exact Adds.refl _ | with_reducible refine Adds.alloc ?_ _ | with_reducible refine Adds.more ?_ _ _ | with_reducible refine Adds.drew ?_ | with_reducible refine Adds.drewN ?_ _))).mono ?_; rintro e w4 ⟨rfl, os4, n4, rfl⟩)
        | (go_at_call 18; refine (kM _ (by repeat (first | with_reducible exact Adds.refl _ | with_reducible refine Adds.alloc ?_ _ | with_reducible refine Adds.more ?_ _ _ | with_reducible refine Adds.drew ?_ | with_reducible refine Adds.drewN ?_ _))).mono ?_; rintro e w5 ⟨rfl, os5, n5, rfl⟩)
        | (go_at_call 9; refine (kA _).mono ?_; rintro e w6 ⟨rfl, os6, n6, rfl⟩))
      go_ret
      exact ⟨rfl, (by repeat (first | with_reducible exact Adds.refl _ | with_reducible refine Adds.alloc ?_ _ | with_reducible refine Adds.more ?_ _ _ | with_reducible refine Adds.drew ?_ | with_reducible refine Adds.drewN ?_ _))⟩

theorem updates_any (s : ByteArray) (ev : Value) (es : List Sh.F) (cv : Value) (key : ByteArray) (has : Bool) (doc : List F) (w : World) (h : Sh.Lst w ev es) (hc : ChV w cv key has doc) :
    Calls Tryz.prog 4 #[.string s, ev, cv] w fun e w' => e = .returned (.bool true) ∧ Adds w w' := by
  by_cases hg : s.size ≤ 1100 ∧ es.length ≤ 200 ∧ doc.length ≤ 20
  · exact updates_light s ev es cv key has doc w h hc hg.1 hg.2.1 hg.2.2
  · exact updates_great s ev es cv key has doc w h hc hg

end Go.Proofs.YtbedmlimbcfnnaaGreatDoor
