/-
  WireCmds: the law's walk.
-/
import Derived.Test.YtccddgohagakoaaWro
namespace Go.Proofs.Ytccddgohagakoaa
open Go.RowKit
attribute [local go_sem] cell?_more frozen?_more setCell_more size_more tape_more drew_more drewN_more more_drew more_drewN one_out plus_out plus_end lt_one le_p2 le_p3 le_p4 le_p5 le_p6 le_p7 le_p8 le_p9 le_p10 le_p11 le_p12 le_p13 le_p14 le_p15 le_p16 le_p17 le_p18 le_p19 le_p20 le_p21 le_p22 le_p23 le_p24 le_q0 le_q1 lt_q1 le_q2 lt_q2 le_q3 lt_q3 le_q4 lt_q4 le_q5 lt_q5 le_q6 lt_q6 le_q7 lt_q7 le_q8 lt_q8 le_q9 lt_q9 le_q10 lt_q10 le_q11 lt_q11 le_q12 lt_q12 le_q13 lt_q13 le_q14 lt_q14 le_q15 lt_q15 le_q16 lt_q16 le_q17 lt_q17 le_q18 lt_q18 le_q19 lt_q19 le_q20 lt_q20 le_q21 lt_q21 le_q22 lt_q22 le_q23 lt_q23 le_q24 lt_q24

set_option maxRecDepth 20000 in
set_option maxHeartbeats 4000000 in
theorem wireCmds_long (c : Cm) (v : Value) (w : World) (hl : LstI w v c.ns) (h : 100 < c.ns.length ∨ c.ns.length ≤ 100 ∧ 3000 < c.df.size) :
    Calls Try.prog 3 #[c.val v] w fun e w' => e = .returned (.bool true) ∧ Adds w w' := by
  obtain ⟨ao, cap, rfl, _, _⟩ := hl.open
  obtain ⟨kind, chain, epoch, node, df, ns⟩ := c
  simp only [Cm.val] at *
  clear hl
  rcases h with h | ⟨h, h2⟩
  · have hI : (100 : Int) < (ns.length : Int) := by omega
    go_enter Try.func3, Try.ntmps3
    go_wp2_with (go_at_call 4; refine (awake_any _).mono ?_; rintro e w1 ⟨rfl, os1, n1, rfl⟩)
    go_ret
    exact ⟨rfl, (by repeat (first | with_reducible exact Adds.refl _ | with_reducible refine Adds.alloc ?_ _ | with_reducible refine Adds.more ?_ _ _ | with_reducible refine Adds.drew ?_ | with_reducible refine Adds.drewN ?_ _))⟩
  · have hI : ¬ (100 : Int) < (ns.length : Int) := by omega
    have hI2 : (3000 : Int) < (df.size : Int) := by omega
    go_enter Try.func3, Try.ntmps3
    go_wp2_with (go_at_call 4; refine (awake_any _).mono ?_; rintro e w1 ⟨rfl, os1, n1, rfl⟩)
    go_ret
    exact ⟨rfl, (by repeat (first | with_reducible exact Adds.refl _ | with_reducible refine Adds.alloc ?_ _ | with_reducible refine Adds.more ?_ _ _ | with_reducible refine Adds.drew ?_ | with_reducible refine Adds.drewN ?_ _))⟩

set_option maxRecDepth 20000 in
set_option maxHeartbeats 4000000 in
theorem wireCmds_odd (c : Cm) (v : Value) (w : World) (hl : LstI w v c.ns) (h100 : c.ns.length ≤ 100) (hd : c.df.size ≤ 3000) (ho : oddT 3 (cmdT c) = true) :
    Calls Try.prog 3 #[c.val v] w fun e w' => e = .returned (.bool true) ∧ Adds w w' := by
  have kC := fun W (hA : Adds w W) => wcmdB_any c v W (hl.adds hA) h100 hd
  have kR := fun W (hA : Adds w W) => rcmdB_any c v W (hl.adds hA) h100 hd
  rw [ho] at kC kR
  simp only [EncT, RefT, if_true] at kC kR
  have hI : ¬ (100 : Int) < (c.ns.length : Int) := by omega
  have hI2 : ¬ (3000 : Int) < (c.df.size : Int) := by omega
  clear ho
  obtain ⟨ao, cap, rfl, _, _⟩ := hl.open
  obtain ⟨kind, chain, epoch, node, df, ns⟩ := c
  simp only [Cm.val] at *
  clear hl
  go_enter Try.func3, Try.ntmps3
  go_wp2_with (first
    | (go_at_call 5; refine (kC _ (by repeat (first | with_reducible exact Adds.refl _ | with_reducible refine Adds.alloc ?_ _ | with_reducible refine Adds.more ?_ _ _ | with_reducible refine Adds.drew ?_ | with_reducible refine Adds.drewN ?_ _))).mono ?_; rintro e w1 ⟨rfl, os1, n1, rfl⟩)
    | (go_at_call 6; refine (kR _ (by repeat (first | with_reducible exact Adds.refl _ | with_reducible refine Adds.alloc ?_ _ | with_reducible refine Adds.more ?_ _ _ | with_reducible refine Adds.drew ?_ | with_reducible refine Adds.drewN ?_ _))).mono ?_; rintro e w2 ⟨rfl, os2, n2, rfl⟩)
    | (go_at_call 4; refine (awake_any _).mono ?_; rintro e w3 ⟨rfl, os3, n3, rfl⟩))
  go_ret
  exact ⟨rfl, (by repeat (first | with_reducible exact Adds.refl _ | with_reducible refine Adds.alloc ?_ _ | with_reducible refine Adds.more ?_ _ _ | with_reducible refine Adds.drew ?_ | with_reducible refine Adds.drewN ?_ _))⟩

set_option maxRecDepth 20000 in
set_option maxHeartbeats 4000000 in
theorem wireCmds_plain (c : Cm) (v : Value) (w : World) (hl : LstI w v c.ns) (h100 : c.ns.length ≤ 100) (hd : c.df.size ≤ 3000) (ho : oddT 3 (cmdT c) = false) :
    Calls Try.prog 3 #[c.val v] w fun e w' => e = .returned (.bool true) ∧ Adds w w' := by
  have hln := cmdT_len c h100 hd ho
  have hIs := cmd_is c h100 hd ho
  have kC := fun W (hA : Adds w W) => wcmdB_any c v W (hl.adds hA) h100 hd
  have kR := fun W (hA : Adds w W) => rcmdB_any c v W (hl.adds hA) h100 hd
  have kO := fun u W (hB : Byt W u (bytesT 3 (cmdT c))) => cmdOf_any c u _ W hB hln hIs h100
  have kS := fun u W (hA : Adds w W) (hu : LstI W u c.ns) => cmds_any c u v W hu (hl.adds hA) h100
  rw [ho] at kC kR
  simp only [EncT, RefT, Bool.false_eq_true, if_false] at kC kR
  have hI : ¬ (100 : Int) < (c.ns.length : Int) := by omega
  have hI2 : ¬ (3000 : Int) < (c.df.size : Int) := by omega
  clear ho hIs
  generalize bytesT 3 (cmdT c) = l at *
  obtain ⟨ao, cap, rfl, _, _⟩ := hl.open
  obtain ⟨kind, chain, epoch, node, df, ns⟩ := c
  simp only [Cm.val] at *
  clear hl
  go_enter Try.func3, Try.ntmps3
  go_wp2_with (first
    | (go_at_call 5; refine (kC _ (by repeat (first | with_reducible exact Adds.refl _ | with_reducible refine Adds.alloc ?_ _ | with_reducible refine Adds.more ?_ _ _ | with_reducible refine Adds.drew ?_ | with_reducible refine Adds.drewN ?_ _))).mono ?_; rintro e w1 ⟨vo, vc, rfl, hO⟩; have HB1 : Hid (Byt w1 (.slice vo l.length vc) l) := hO.out.lst; obtain ⟨os1, n1, rfl⟩ := Adds.of hO.out.2.1; clear hO)
    | (go_at_call 6; refine (kR _ (by repeat (first | with_reducible exact Adds.refl _ | with_reducible refine Adds.alloc ?_ _ | with_reducible refine Adds.more ?_ _ _ | with_reducible refine Adds.drew ?_ | with_reducible refine Adds.drewN ?_ _))).mono ?_; rintro e w2 ⟨uo, uc, rfl, hO⟩; have HB2 : Hid (Byt w2 (.slice uo l.length uc) l) := hO.out.lst; obtain ⟨os2, n2, rfl⟩ := Adds.of hO.out.2.1; have HB3 := HB1.out.adds (Adds.more (Adds.refl _) os2 n2); have HB4 : Hid _ := HB3; clear hO HB3)
    | (go_at_call 7; refine (kO _ _ HB4.out).mono ?_; rintro e w3 ⟨⟨a3, c3, rfl, HL3⟩, os3, n3, rfl⟩; have q1 := fun o => Byt.stra HB4.out os3 n3 o; have q2 := fun o => Byt.stra HB2.out os3 n3 o)
    | (go_at_call 8; refine (kS _ _ (by repeat (first | with_reducible exact Adds.refl _ | with_reducible refine Adds.alloc ?_ _ | with_reducible refine Adds.more ?_ _ _ | with_reducible refine Adds.drew ?_ | with_reducible refine Adds.drewN ?_ _)) (HL3.out.adds (by repeat (first | with_reducible exact Adds.refl _ | with_reducible refine Adds.alloc ?_ _ | with_reducible refine Adds.more ?_ _ _ | with_reducible refine Adds.drew ?_ | with_reducible refine Adds.drewN ?_ _)))).mono ?_; rintro e w4 ⟨rfl, os4, n4, rfl⟩)
    | (go_at_call 4; refine (awake_any _).mono ?_; rintro e w5 ⟨rfl, os5, n5, rfl⟩))
  go_ret
  exact ⟨rfl, (by repeat (first | with_reducible exact Adds.refl _ | with_reducible refine Adds.alloc ?_ _ | with_reducible refine Adds.more ?_ _ _ | with_reducible refine Adds.drew ?_ | with_reducible refine Adds.drewN ?_ _))⟩

theorem wireCmds_any (c : Cm) (v : Value) (w : World) (hl : LstI w v c.ns) :
    Calls Try.prog 3 #[c.val v] w fun e w' => e = .returned (.bool true) ∧ Adds w w' := by
  by_cases h1 : c.ns.length ≤ 100
  · by_cases h2 : c.df.size ≤ 3000
    · cases ho : oddT 3 (cmdT c) with
      | true => exact wireCmds_odd c v w hl h1 h2 ho
      | false => exact wireCmds_plain c v w hl h1 h2 ho
    · exact wireCmds_long c v w hl (.inr ⟨h1, by omega⟩)
  · exact wireCmds_long c v w hl (.inl (by omega))

end Go.Proofs.Ytccddgohagakoaa
