/-
  The laws ShelfNew and ShelfWaits, by contract: the walks.
-/
import Derived.Test.YtiacnmcdfpmcfaaGreatDoorQ31
namespace Go.Proofs.YtiacnmcdfpmcfaaGreatDoor
open Go.RowKit
attribute [local go_sem] cell?_more frozen?_more setCell_more size_more tape_more drew_more drewN_more more_drew more_drewN one_out plus_out plus_end lt_one le_p2 le_p3 le_p4 le_p5 le_p6 le_p7 le_p8 le_p9 le_p10 le_p11 le_p12 le_p13 le_p14 le_p15 le_p16 le_p17 le_p18 le_p19 le_p20 le_p21 le_p22 le_p23 le_p24 le_q0 le_q1 lt_q1 le_q2 lt_q2 le_q3 lt_q3 le_q4 lt_q4 le_q5 lt_q5 le_q6 lt_q6 le_q7 lt_q7 le_q8 lt_q8 le_q9 lt_q9 le_q10 lt_q10 le_q11 lt_q11 le_q12 lt_q12 le_q13 lt_q13 le_q14 lt_q14 le_q15 lt_q15 le_q16 lt_q16 le_q17 lt_q17 le_q18 lt_q18 le_q19 lt_q19 le_q20 lt_q20 le_q21 lt_q21 le_q22 lt_q22 le_q23 lt_q23 le_q24 lt_q24

set_option maxRecDepth 20000 in
set_option maxHeartbeats 4000000 in
theorem newLaw_any (hAp : ApplyOk) (s : ByteArray) (w : World) : Calls Tryz.prog 4 #[.string s] w fun e w' => e = .returned (.bool true) ∧ Adds w w' := by
  have kA := fun W => awakeS_any hAp W
  by_cases hs : s.size ≤ 1100
  rotate_left
  · have hs' : (1100 : Int) < (s.size : Int) := by omega
    clear hs
    go_enter Tryz.func4, Tryz.ntmps4
    go_wp2_with (go_at_call 9; refine (kA _).mono ?_; rintro e w1 ⟨rfl, os1, n1, rfl⟩)
    go_ret
    exact ⟨rfl, (by repeat (first | with_reducible exact Adds.refl _ | with_reducible refine Adds.alloc ?_ _ | with_reducible refine Adds.more ?_ _ _ | with_reducible refine Adds.drew ?_ | with_reducible refine Adds.drewN ?_ _))⟩
  have kN := fun W => new_any s W (by omega)
  have kP := fun W => rParseAll_any s (by omega) W
  have hnil : ∀ W : World, Sh.Lst W (.slice none 0 0) [] := fun W => ⟨none, 0, rfl, Nat.le_refl _, .inl rfl⟩
  have hs' : ¬ (1100 : Int) < (s.size : Int) := by omega
  unfold GaveN at kN
  cases hp : parseA s.toList with
  | error c =>
    have hc := parseA_err hp
    have hcb : (c != 0) = true := by simpa using hc
    have hcb' : (c == 0) = false := by simpa using hc
    rw [hp] at kP kN
    simp only [GaveR] at kP kN
    have kS := fun W => rSameS_any ⟨⟨#[]⟩, false, 0, []⟩ (.slice none 0 0) (.slice none 0 0) W (hnil W) (hnil W) (by simp)
    simp only [Shl.val] at kS
    clear hp hc hs hnil
    go_enter Tryz.func4, Tryz.ntmps4
    go_wp2_with (first
      | (go_at_call 17; refine (kN _).mono ?_; rintro e w1 ⟨rfl, os1, n1, rfl⟩)
      | (go_at_call 18; refine (kP _).mono ?_; rintro e w2 ⟨rfl, os2, n2, rfl⟩)
      | (go_at_call 13; refine (kS _).mono ?_; rintro e w3 ⟨rfl, os3, n3, rfl⟩)
      | (go_at_call 9; refine (kA _).mono ?_; rintro e w4 ⟨rfl, os4, n4, rfl⟩))
    go_ret
    exact ⟨rfl, (by repeat (first | with_reducible exact Adds.refl _ | with_reducible refine Adds.alloc ?_ _ | with_reducible refine Adds.more ?_ _ _ | with_reducible refine Adds.drew ?_ | with_reducible refine Adds.drewN ?_ _))⟩
  | ok xs =>
    rw [hp] at kP kN
    simp only [GaveR] at kP kN
    have kS := fun W => rSameS_any ⟨s, false, 0, []⟩ (.slice none 0 0) (.slice none 0 0) W (hnil W) (hnil W) (by simp)
    simp only [Shl.val] at kS
    clear hp hs hnil
    go_enter Tryz.func4, Tryz.ntmps4
    go_wp2_with (first
      | (go_at_call 17; refine (kN _).mono ?_; rintro e w1 ⟨rfl, os1, n1, rfl⟩)
      | (go_at_call 18; refine (kP _).mono ?_; rintro e w2 ⟨⟨pa, pc, D, rfl, _, _⟩, os2, n2, rfl⟩)
      | (go_at_call 13; refine (kS _).mono ?_; rintro e w3 ⟨rfl, os3, n3, rfl⟩)
      | (go_at_call 9; refine (kA _).mono ?_; rintro e w4 ⟨rfl, os4, n4, rfl⟩))
    go_ret
    exact ⟨rfl, (by repeat (first | with_reducible exact Adds.refl _ | with_reducible refine Adds.alloc ?_ _ | with_reducible refine Adds.more ?_ _ _ | with_reducible refine Adds.drew ?_ | with_reducible refine Adds.drewN ?_ _))⟩

end Go.Proofs.YtiacnmcdfpmcfaaGreatDoor
