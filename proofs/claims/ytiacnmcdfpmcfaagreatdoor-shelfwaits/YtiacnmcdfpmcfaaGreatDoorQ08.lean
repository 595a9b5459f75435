/-
  The order of entries is one.
-/
import Derived.Test.YtiacnmcdfpmcfaaGreatDoorQ06
namespace Go.Proofs.YtiacnmcdfpmcfaaGreatDoor.Sh
open Go.RowKit
attribute [local go_sem] cell?_more frozen?_more setCell_more size_more tape_more drew_more drewN_more more_drew more_drewN one_out plus_out plus_end lt_one le_p2 le_p3 le_p4 le_p5 le_p6 le_p7 le_p8 le_p9 le_p10 le_p11 le_p12 le_p13 le_p14 le_p15 le_p16 le_p17 le_p18 le_p19 le_p20 le_p21 le_p22 le_p23 le_p24 le_q0 le_q1 lt_q1 le_q2 lt_q2 le_q3 lt_q3 le_q4 lt_q4 le_q5 lt_q5 le_q6 lt_q6 le_q7 lt_q7 le_q8 lt_q8 le_q9 lt_q9 le_q10 lt_q10 le_q11 lt_q11 le_q12 lt_q12 le_q13 lt_q13 le_q14 lt_q14 le_q15 lt_q15 le_q16 lt_q16 le_q17 lt_q17 le_q18 lt_q18 le_q19 lt_q19 le_q20 lt_q20 le_q21 lt_q21 le_q22 lt_q22 le_q23 lt_q23 le_q24 lt_q24



theorem cmpE_is : IsCmp cmpE where
  range a b := by
    unfold cmpE cmpP
    split
    · exact cmpB_is.range _ _
    · exact cmpB_is.range _ _
  swap a b := by
    unfold cmpE cmpP
    have h1 := cmpB_is.swap a.path.toList b.path.toList
    have h2 := cmpB_is.swap a.val.toList b.val.toList
    rw [h1, h2]
    by_cases h : Lib.compareBytes a.path.toList b.path.toList = 0
    · rw [if_pos (by omega), if_pos h]
    · rw [if_neg (by omega), if_neg h]
  zero a b := by
    rw [F.eq_iff]
    unfold cmpE
    by_cases h : cmpP a.path b.path = 0
    · rw [if_pos h]
      exact ⟨fun h2 => ⟨(cmpP_zero _ _).1 h, (cmpP_zero _ _).1 h2⟩, fun h2 => (cmpP_zero _ _).2 h2.2⟩
    · rw [if_neg h]
      exact ⟨fun h2 => absurd h2 h, fun h2 => absurd ((cmpP_zero _ _).2 h2.1) h⟩
  trans a b d h k := by
    unfold cmpE at *
    have t1 : cmpP a.path b.path ≤ 0 → cmpP b.path d.path ≤ 0 → cmpP a.path d.path ≤ 0 := cmpB_is.trans _ _ _
    have t2 : cmpP a.val b.val ≤ 0 → cmpP b.val d.val ≤ 0 → cmpP a.val d.val ≤ 0 := cmpB_is.trans _ _ _
    have s1 : cmpP b.path a.path = - cmpP a.path b.path := cmpB_is.swap _ _
    have s2 : cmpP d.path b.path = - cmpP b.path d.path := cmpB_is.swap _ _
    have t3 : cmpP d.path b.path ≤ 0 → cmpP b.path a.path ≤ 0 → cmpP d.path a.path ≤ 0 := cmpB_is.trans _ _ _
    have s3 : cmpP d.path a.path = - cmpP a.path d.path := cmpB_is.swap _ _
    by_cases h1 : cmpP a.path b.path = 0
    · rw [if_pos h1] at h
      have e := (cmpP_zero _ _).1 h1
      have e1 : cmpP a.path d.path = cmpP b.path d.path := by unfold cmpP; rw [e]
      by_cases h2 : cmpP b.path d.path = 0
      · rw [if_pos h2] at k
        rw [if_pos (by omega)]
        exact t2 h k
      · rw [if_neg h2] at k
        rw [if_neg (by omega)]
        omega
    · rw [if_neg h1] at h
      by_cases h2 : cmpP b.path d.path = 0
      · have e := (cmpP_zero _ _).1 h2
        have e1 : cmpP a.path d.path = cmpP a.path b.path := by unfold cmpP; rw [e]
        rw [if_neg (by omega)]
        omega
      · rw [if_neg h2] at k
        by_cases h3 : cmpP a.path d.path = 0
        · have e := (cmpP_zero _ _).1 h3
          have e1 : cmpP b.path d.path = cmpP b.path a.path := by unfold cmpP; rw [e]
          omega
        · rw [if_neg h3]
          exact t1 h k

end Go.Proofs.YtiacnmcdfpmcfaaGreatDoor.Sh
