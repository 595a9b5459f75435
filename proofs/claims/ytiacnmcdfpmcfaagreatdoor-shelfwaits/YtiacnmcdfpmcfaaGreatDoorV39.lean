/-
  The law ShelfWaits, by contract: the walk.
  The law ShelfWaits, by contract: the walk, where the law bars nothing.
-/
import Derived.Test.YtiacnmcdfpmcfaaGreatDoorQ31
namespace Go.Proofs.YtiacnmcdfpmcfaaGreatDoor
open Go.RowKit
attribute [local go_sem] cell?_more frozen?_more setCell_more size_more tape_more drew_more drewN_more more_drew more_drewN one_out plus_out plus_end lt_one le_p2 le_p3 le_p4 le_p5 le_p6 le_p7 le_p8 le_p9 le_p10 le_p11 le_p12 le_p13 le_p14 le_p15 le_p16 le_p17 le_p18 le_p19 le_p20 le_p21 le_p22 le_p23 le_p24 le_q0 le_q1 lt_q1 le_q2 lt_q2 le_q3 lt_q3 le_q4 lt_q4 le_q5 lt_q5 le_q6 lt_q6 le_q7 lt_q7 le_q8 lt_q8 le_q9 lt_q9 le_q10 lt_q10 le_q11 lt_q11 le_q12 lt_q12 le_q13 lt_q13 le_q14 lt_q14 le_q15 lt_q15 le_q16 lt_q16 le_q17 lt_q17 le_q18 lt_q18 le_q19 lt_q19 le_q20 lt_q20 le_q21 lt_q21 le_q22 lt_q22 le_q23 lt_q23 le_q24 lt_q24

/-- What the law bars is told as nothing. -/
def WaitGood (s : Shl) (o : Ov) : Prop := s.df.size ≤ 1100 ∧ s.es.length ≤ 200 ∧ MayS s ∧ o.kind = 104

set_option maxRecDepth 20000 in
set_option maxHeartbeats 4000000 in
theorem waits_no (hAp : ApplyOk) (s : Shl) (v : Value) (o : Ov) (w : World) (hv : Sh.Lst w v s.es) (ho : o.Sl) (hg : ¬ WaitGood s o) :
    Calls Tryz.prog 6 #[s.val v, o.val] w fun e w' => e = .returned (.bool true) ∧ Adds w w' := by
  have kA := fun W => awakeS_any hAp W
  unfold WaitGood at hg
  by_cases h1 : s.df.size ≤ 1100
  · by_cases h2 : s.es.length ≤ 200
    · have kM := fun W (hA : Adds w W) => rMayS_any s v W (by omega) (hv.adds hA) (by omega)
      have h1' : ¬ (1100 : Int) < (s.df.size : Int) := by omega
      have h2' : ¬ (200 : Int) < (s.es.length : Int) := by omega
      by_cases h3 : MayS s
      · have h4 : o.kind ≠ 104 := fun h => hg ⟨h1, h2, h3, h⟩
        have h4' : (o.kind != 104) = true := by simpa using h4
        have h4'' : (o.kind == 104) = false := by simpa using h4
        rw [decide_eq_true h3] at kM
        clear hg h1 h2 h3 h4
        obtain ⟨df, rdy, mk, es⟩ := s
        obtain ⟨kind, key, to, dv, wv, has, n, most, lv, sv, nv⟩ := o
        simp only [Shl.val, Ov.val, Ov.Sl, Slc] at *
        obtain ⟨⟨_, _, _, rfl⟩, ⟨_, _, _, rfl⟩, ⟨_, _, _, rfl⟩, ⟨_, _, _, rfl⟩, ⟨_, _, _, rfl⟩⟩ := ho
        obtain ⟨ao, cap, rfl, _, _⟩ := hv
        generalize es.length = l at *
        go_enter Tryz.func6, Tryz.ntmps6
        go_wp2_with (first
          | (go_at_call 12; refine (kM _ (by repeat (first | with_reducible exact Adds.refl _ | with_reducible refine Adds.alloc ?_ _ | with_reducible refine Adds.more ?_ _ _ | with_reducible refine Adds.drew ?_ | with_reducible refine Adds.drewN ?_ _))).mono ?_; rintro e w1 ⟨rfl, os1, n1, rfl⟩)
          | (go_at_call 9; refine (kA _).mono ?_; rintro e w4 ⟨rfl, os4, n4, rfl⟩))
        go_ret
        exact ⟨rfl, (by repeat (first | with_reducible exact Adds.refl _ | with_reducible refine Adds.alloc ?_ _ | with_reducible refine Adds.more ?_ _ _ | with_reducible refine Adds.drew ?_ | with_reducible refine Adds.drewN ?_ _))⟩
      · rw [decide_eq_false h3] at kM
        clear hg h1 h2 h3
        obtain ⟨df, rdy, mk, es⟩ := s
        obtain ⟨kind, key, to, dv, wv, has, n, most, lv, sv, nv⟩ := o
        simp only [Shl.val, Ov.val, Ov.Sl, Slc] at *
        obtain ⟨⟨_, _, _, rfl⟩, ⟨_, _, _, rfl⟩, ⟨_, _, _, rfl⟩, ⟨_, _, _, rfl⟩, ⟨_, _, _, rfl⟩⟩ := ho
        obtain ⟨ao, cap, rfl, _, _⟩ := hv
        generalize es.length = l at *
        go_enter Tryz.func6, Tryz.ntmps6
        go_wp2_with (first
          | (go_at_call 12; refine (kM _ (by repeat (first | with_reducible exact Adds.refl _ | with_reducible refine Adds.alloc ?_ _ | with_reducible refine Adds.more ?_ _ _ | with_reducible refine Adds.drew ?_ | with_reducible refine Adds.drewN ?_ _))).mono ?_; rintro e w1 ⟨rfl, os1, n1, rfl⟩)
          | (go_at_call 9; refine (kA _).mono ?_; rintro e w4 ⟨rfl, os4, n4, rfl⟩))
        go_ret
        exact ⟨rfl, (by repeat (first | with_reducible exact Adds.refl _ | with_reducible refine Adds.alloc ?_ _ | with_reducible refine Adds.more ?_ _ _ | with_reducible refine Adds.drew ?_ | with_reducible refine Adds.drewN ?_ _))⟩
    · have h1' : ¬ (1100 : Int) < (s.df.size : Int) := by omega
      have h2' : (200 : Int) < (s.es.length : Int) := by omega
      clear hg h1 h2
      obtain ⟨df, rdy, mk, es⟩ := s
      obtain ⟨kind, key, to, dv, wv, has, n, most, lv, sv, nv⟩ := o
      simp only [Shl.val, Ov.val, Ov.Sl, Slc] at *
      obtain ⟨⟨_, _, _, rfl⟩, ⟨_, _, _, rfl⟩, ⟨_, _, _, rfl⟩, ⟨_, _, _, rfl⟩, ⟨_, _, _, rfl⟩⟩ := ho
      obtain ⟨ao, cap, rfl, _, _⟩ := hv
      generalize es.length = l at *
      go_enter Tryz.func6, Tryz.ntmps6
      go_wp2_with (go_at_call 9; refine (kA _).mono ?_; rintro e w4 ⟨rfl, os4, n4, rfl⟩)
      go_ret
      exact ⟨rfl, (by repeat (first | with_reducible exact Adds.refl _ | with_reducible refine Adds.alloc ?_ _ | with_reducible refine Adds.more ?_ _ _ | with_reducible refine Adds.drew ?_ | with_reducible refine Adds.drewN ?_ _))⟩
  · have h1' : (1100 : Int) < (s.df.size : Int) := by omega
    clear hg h1
    obtain ⟨df, rdy, mk, es⟩ := s
    obtain ⟨kind, key, to, dv, wv, has, n, most, lv, sv, nv⟩ := o
    simp only [Shl.val, Ov.val, Ov.Sl, Slc] at *
    obtain ⟨⟨_, _, _, rfl⟩, ⟨_, _, _, rfl⟩, ⟨_, _, _, rfl⟩, ⟨_, _, _, rfl⟩, ⟨_, _, _, rfl⟩⟩ := ho
    obtain ⟨ao, cap, rfl, _, _⟩ := hv
    generalize es.length = l at *
    go_enter Tryz.func6, Tryz.ntmps6
    go_wp2_with (go_at_call 9; refine (kA _).mono ?_; rintro e w4 ⟨rfl, os4, n4, rfl⟩)
    go_ret
    exact ⟨rfl, (by repeat (first | with_reducible exact Adds.refl _ | with_reducible refine Adds.alloc ?_ _ | with_reducible refine Adds.more ?_ _ _ | with_reducible refine Adds.drew ?_ | with_reducible refine Adds.drewN ?_ _))⟩

end Go.Proofs.YtiacnmcdfpmcfaaGreatDoor

namespace Go.Proofs.YtiacnmcdfpmcfaaGreatDoor
open Go.RowKit
attribute [local go_sem] cell?_more frozen?_more setCell_more size_more tape_more drew_more drewN_more more_drew more_drewN one_out plus_out plus_end lt_one le_p2 le_p3 le_p4 le_p5 le_p6 le_p7 le_p8 le_p9 le_p10 le_p11 le_p12 le_p13 le_p14 le_p15 le_p16 le_p17 le_p18 le_p19 le_p20 le_p21 le_p22 le_p23 le_p24 le_q0 le_q1 lt_q1 le_q2 lt_q2 le_q3 lt_q3 le_q4 lt_q4 le_q5 lt_q5 le_q6 lt_q6 le_q7 lt_q7 le_q8 lt_q8 le_q9 lt_q9 le_q10 lt_q10 le_q11 lt_q11 le_q12 lt_q12 le_q13 lt_q13 le_q14 lt_q14 le_q15 lt_q15 le_q16 lt_q16 le_q17 lt_q17 le_q18 lt_q18 le_q19 lt_q19 le_q20 lt_q20 le_q21 lt_q21 le_q22 lt_q22 le_q23 lt_q23 le_q24 lt_q24

theorem some_lt {n m : Int} {r : Bool} (h : r = false ∨ m < n) : r = true → m < n := fun h' => by
  rcases h with h | h
  · rw [h'] at h; cases h
  · exact h

set_option maxRecDepth 20000 in
set_option maxHeartbeats 8000000 in
theorem waits_any (hAp : ApplyOk) (s : Shl) (v : Value) (o : Ov) (w : World) (hv : Sh.Lst w v s.es) (ho : o.Sl) :
    Calls Tryz.prog 6 #[s.val v, o.val] w fun e w' => e = .returned (.bool true) ∧ Adds w w' := by
  by_cases hg : WaitGood s o
  rotate_left
  · exact waits_no hAp s v o w hv ho hg
  obtain ⟨h1, h2, h3, h4⟩ := hg
  have kA := fun W => awakeS_any hAp W
  have kM := fun W (hA : Adds w W) => rMayS_any s v W (by omega) (hv.adds hA) (by omega)
  have kS := fun (v' : Value) (W : World) (hv' : Sh.Lst W v' s.es) (hA : Adds w W) => rSameS_any s v' v W hv' (hv.adds hA) (by omega)
  rw [decide_eq_true h3] at kM
  have h1' : ¬ (1100 : Int) < (s.df.size : Int) := by omega
  have h2' : ¬ (200 : Int) < (s.es.length : Int) := by omega
  by_cases hq : 1 ≤ o.most ∧ o.most ≤ 24
  · by_cases hr : s.rdy = false ∨ s.mark < o.n
    · have kT := fun W (hA : Adds w W) => tells_wait hAp h1 (by omega) (hv.adds hA) ho h3 h4 hq hr
      have kC := fun W => sameC_any 9 W
      have hr' := some_lt hr
      obtain ⟨q1, q2⟩ := hq
      have q1' : ¬ o.most < 1 := by omega
      have q2' : ¬ 24 < o.most := by omega
      clear h1 h2 h3 hr q1 q2
      unfold ansV at kC
      obtain ⟨df, rdy, mk, es⟩ := s
      obtain ⟨kind, key, to, dv, wv, has, n, most, lv, sv, nv⟩ := o
      simp only [Shl.val, Ov.val, Ov.Sl, Slc, Tells] at *
      obtain ⟨⟨_, _, _, rfl⟩, ⟨_, _, _, rfl⟩, ⟨_, _, _, rfl⟩, ⟨_, _, _, rfl⟩, ⟨_, _, _, rfl⟩⟩ := ho
      obtain ⟨ao, cap, rfl, _, _⟩ := hv
      subst h4
      generalize es.length = l at *
      cases rdy with
      | false =>
        clear hr'
        go_enter Tryz.func6, Tryz.ntmps6
        go_wp2_with (first
          | (go_at_call 12; refine (kM _ (by repeat (first | with_reducible exact Adds.refl _ | with_reducible refine Adds.alloc ?_ _ | with_reducible refine Adds.more ?_ _ _ | with_reducible refine Adds.drew ?_ | with_reducible refine Adds.drewN ?_ _))).mono ?_; rintro e w1 ⟨rfl, os1, n1, rfl⟩)
          | (go_at_call 10; refine (kT _ (by repeat (first | with_reducible exact Adds.refl _ | with_reducible refine Adds.alloc ?_ _ | with_reducible refine Adds.more ?_ _ _ | with_reducible refine Adds.drew ?_ | with_reducible refine Adds.drewN ?_ _))).mono ?_; rintro e w2 ⟨⟨ao2, cap2, rfl, H2⟩, os2, n2, rfl⟩)
          | (go_at_call 13; refine (kS _ _ (Sh.Lst.adds H2.out (by repeat (first | with_reducible exact Adds.refl _ | with_reducible refine Adds.alloc ?_ _ | with_reducible refine Adds.more ?_ _ _ | with_reducible refine Adds.drew ?_ | with_reducible refine Adds.drewN ?_ _))) (by repeat (first | with_reducible exact Adds.refl _ | with_reducible refine Adds.alloc ?_ _ | with_reducible refine Adds.more ?_ _ _ | with_reducible refine Adds.drew ?_ | with_reducible refine Adds.drewN ?_ _))).mono ?_; rintro e w3 ⟨rfl, os3, n3, rfl⟩)
          | (go_at_call 14; refine (kC _).mono ?_; rintro e w5 ⟨rfl, os5, n5, rfl⟩)
          | (go_at_call 9; refine (kA _).mono ?_; rintro e w4 ⟨rfl, os4, n4, rfl⟩))
        go_ret
        exact ⟨rfl, (by repeat (first | with_reducible exact Adds.refl _ | with_reducible refine Adds.alloc ?_ _ | with_reducible refine Adds.more ?_ _ _ | with_reducible refine Adds.drew ?_ | with_reducible refine Adds.drewN ?_ _))⟩
      | true =>
        have hr' := hr' rfl
        go_enter Tryz.func6, Tryz.ntmps6
        go_wp2_with (first
          | (go_at_call 12; refine (kM _ (by repeat (first | with_reducible exact Adds.refl _ | with_reducible refine Adds.alloc ?_ _ | with_reducible refine Adds.more ?_ _ _ | with_reducible refine Adds.drew ?_ | with_reducible refine Adds.drewN ?_ _))).mono ?_; rintro e w1 ⟨rfl, os1, n1, rfl⟩)
          | (go_at_call 10; refine (kT _ (by repeat (first | with_reducible exact Adds.refl _ | with_reducible refine Adds.alloc ?_ _ | with_reducible refine Adds.more ?_ _ _ | with_reducible refine Adds.drew ?_ | with_reducible refine Adds.drewN ?_ _))).mono ?_; rintro e w2 ⟨⟨ao2, cap2, rfl, H2⟩, os2, n2, rfl⟩)
          | (go_at_call 13; refine (kS _ _ (Sh.Lst.adds H2.out (by repeat (first | with_reducible exact Adds.refl _ | with_reducible refine Adds.alloc ?_ _ | with_reducible refine Adds.more ?_ _ _ | with_reducible refine Adds.drew ?_ | with_reducible refine Adds.drewN ?_ _))) (by repeat (first | with_reducible exact Adds.refl _ | with_reducible refine Adds.alloc ?_ _ | with_reducible refine Adds.more ?_ _ _ | with_reducible refine Adds.drew ?_ | with_reducible refine Adds.drewN ?_ _))).mono ?_; rintro e w3 ⟨rfl, os3, n3, rfl⟩)
          | (go_at_call 14; refine (kC _).mono ?_; rintro e w5 ⟨rfl, os5, n5, rfl⟩)
          | (go_at_call 9; refine (kA _).mono ?_; rintro e w4 ⟨rfl, os4, n4, rfl⟩))
        go_ret
        exact ⟨rfl, (by repeat (first | with_reducible exact Adds.refl _ | with_reducible refine Adds.alloc ?_ _ | with_reducible refine Adds.more ?_ _ _ | with_reducible refine Adds.drew ?_ | with_reducible refine Adds.drewN ?_ _))⟩
    · have hr1 : s.rdy = true := by
        cases h : s.rdy with
        | true => rfl
        | false => exact absurd (.inl h) hr
      have hr2 : o.n ≤ s.mark := by
        have : ¬ s.mark < o.n := fun h => hr (.inr h)
        omega
      have kT := fun W (hA : Adds w W) => tells_keys hAp h1 (by omega) (hv.adds hA) ho h3 h4 hq hr1 hr2
      obtain ⟨q1, q2⟩ := hq
      have q1' : ¬ o.most < 1 := by omega
      have q2' : ¬ 24 < o.most := by omega
      have hr3 : ¬ s.mark < o.n := by omega
      clear h1 h2 h3 hr q1 q2
      obtain ⟨df, rdy, mk, es⟩ := s
      obtain ⟨kind, key, to, dv, wv, has, n, most, lv, sv, nv⟩ := o
      simp only [Shl.val, Ov.val, Ov.Sl, Slc] at *
      obtain ⟨⟨_, _, _, rfl⟩, ⟨_, _, _, rfl⟩, ⟨_, _, _, rfl⟩, ⟨_, _, _, rfl⟩, ⟨_, _, _, rfl⟩⟩ := ho
      obtain ⟨ao, cap, rfl, _, _⟩ := hv
      subst h4 hr1
      generalize (es.filter (Sh.isIn key to)).take most.toNat = R at *
      generalize es.length = l at *
      go_enter Tryz.func6, Tryz.ntmps6
      go_wp2_with (first
        | (go_at_call 12; refine (kM _ (by repeat (first | with_reducible exact Adds.refl _ | with_reducible refine Adds.alloc ?_ _ | with_reducible refine Adds.more ?_ _ _ | with_reducible refine Adds.drew ?_ | with_reducible refine Adds.drewN ?_ _))).mono ?_; rintro e w1 ⟨rfl, os1, n1, rfl⟩)
        | (go_at_call 10; refine (kT _ (by repeat (first | with_reducible exact Adds.refl _ | with_reducible refine Adds.alloc ?_ _ | with_reducible refine Adds.more ?_ _ _ | with_reducible refine Adds.drew ?_ | with_reducible refine Adds.drewN ?_ _))).mono ?_; rintro e w2 ⟨⟨ao2, cap2, ko, kn, kc, rfl, H2, _⟩, os2, n2, rfl⟩)
        | (go_at_call 13; refine (kS _ _ (Sh.Lst.adds H2.out (by repeat (first | with_reducible exact Adds.refl _ | with_reducible refine Adds.alloc ?_ _ | with_reducible refine Adds.more ?_ _ _ | with_reducible refine Adds.drew ?_ | with_reducible refine Adds.drewN ?_ _))) (by repeat (first | with_reducible exact Adds.refl _ | with_reducible refine Adds.alloc ?_ _ | with_reducible refine Adds.more ?_ _ _ | with_reducible refine Adds.drew ?_ | with_reducible refine Adds.drewN ?_ _))).mono ?_; rintro e w3 ⟨rfl, os3, n3, rfl⟩)
        | (go_at_call 9; refine (kA _).mono ?_; rintro e w4 ⟨rfl, os4, n4, rfl⟩))
      go_ret
      exact ⟨rfl, (by repeat (first | with_reducible exact Adds.refl _ | with_reducible refine Adds.alloc ?_ _ | with_reducible refine Adds.more ?_ _ _ | with_reducible refine Adds.drew ?_ | with_reducible refine Adds.drewN ?_ _))⟩
  · have kT := fun W (hA : Adds w W) => tells_arg hAp h1 (by omega) (hv.adds hA) ho h3 h4 hq
    have kC := fun W => sameC_any 1 W
    clear h1 h2 h3
    unfold ansV at kC
    obtain ⟨df, rdy, mk, es⟩ := s
    obtain ⟨kind, key, to, dv, wv, has, n, most, lv, sv, nv⟩ := o
    simp only [Shl.val, Ov.val, Ov.Sl, Slc, Tells] at *
    obtain ⟨⟨_, _, _, rfl⟩, ⟨_, _, _, rfl⟩, ⟨_, _, _, rfl⟩, ⟨_, _, _, rfl⟩, ⟨_, _, _, rfl⟩⟩ := ho
    obtain ⟨ao, cap, rfl, _, _⟩ := hv
    subst h4
    generalize es.length = l at *
    by_cases q1 : most < 1
    · clear hq
      go_enter Tryz.func6, Tryz.ntmps6
      go_wp2_with (first
        | (go_at_call 12; refine (kM _ (by repeat (first | with_reducible exact Adds.refl _ | with_reducible refine Adds.alloc ?_ _ | with_reducible refine Adds.more ?_ _ _ | with_reducible refine Adds.drew ?_ | with_reducible refine Adds.drewN ?_ _))).mono ?_; rintro e w1 ⟨rfl, os1, n1, rfl⟩)
        | (go_at_call 10; refine (kT _ (by repeat (first | with_reducible exact Adds.refl _ | with_reducible refine Adds.alloc ?_ _ | with_reducible refine Adds.more ?_ _ _ | with_reducible refine Adds.drew ?_ | with_reducible refine Adds.drewN ?_ _))).mono ?_; rintro e w2 ⟨⟨ao2, cap2, rfl, H2⟩, os2, n2, rfl⟩)
        | (go_at_call 13; refine (kS _ _ (Sh.Lst.adds H2.out (by repeat (first | with_reducible exact Adds.refl _ | with_reducible refine Adds.alloc ?_ _ | with_reducible refine Adds.more ?_ _ _ | with_reducible refine Adds.drew ?_ | with_reducible refine Adds.drewN ?_ _))) (by repeat (first | with_reducible exact Adds.refl _ | with_reducible refine Adds.alloc ?_ _ | with_reducible refine Adds.more ?_ _ _ | with_reducible refine Adds.drew ?_ | with_reducible refine Adds.drewN ?_ _))).mono ?_; rintro e w3 ⟨rfl, os3, n3, rfl⟩)
        | (go_at_call 14; refine (kC _).mono ?_; rintro e w5 ⟨rfl, os5, n5, rfl⟩)
        | (go_at_call 9; refine (kA _).mono ?_; rintro e w4 ⟨rfl, os4, n4, rfl⟩))
      go_ret
      exact ⟨rfl, (by repeat (first | with_reducible exact Adds.refl _ | with_reducible refine Adds.alloc ?_ _ | with_reducible refine Adds.more ?_ _ _ | with_reducible refine Adds.drew ?_ | with_reducible refine Adds.drewN ?_ _))⟩
    · have q2 : 24 < most := by
        have : ¬ most ≤ 24 := fun h => hq ⟨by omega, h⟩
        omega
      clear hq
      go_enter Tryz.func6, Tryz.ntmps6
      go_wp2_with (first
        | (go_at_call 12; refine (kM _ (by repeat (first | with_reducible exact Adds.refl _ | with_reducible refine Adds.alloc ?_ _ | with_reducible refine Adds.more ?_ _ _ | with_reducible refine Adds.drew ?_ | with_reducible refine Adds.drewN ?_ _))).mono ?_; rintro e w1 ⟨rfl, os1, n1, rfl⟩)
        | (go_at_call 10; refine (kT _ (by repeat (first | with_reducible exact Adds.refl _ | with_reducible refine Adds.alloc ?_ _ | with_reducible refine Adds.more ?_ _ _ | with_reducible refine Adds.drew ?_ | with_reducible refine Adds.drewN ?_ _))).mono ?_; rintro e w2 ⟨⟨ao2, cap2, rfl, H2⟩, os2, n2, rfl⟩)
        | (go_at_call 13; refine (kS _ _ (Sh.Lst.adds H2.out (by repeat (first | with_reducible exact Adds.refl _ | with_reducible refine Adds.alloc ?_ _ | with_reducible refine Adds.more ?_ _ _ | with_reducible refine Adds.drew ?_ | with_reducible refine Adds.drewN ?_ _))) (by repeat (first | with_reducible exact Adds.refl _ | with_reducible refine Adds.alloc ?_ _ | with_reducible refine Adds.more ?_ _ _ | with_reducible refine Adds.drew ?_ | with_reducible refine Adds.drewN ?_ _))).mono ?_; rintro e w3 ⟨rfl, os3, n3, rfl⟩)
        | (go_at_call 14; refine (kC _).mono ?_; rintro e w5 ⟨rfl, os5, n5, rfl⟩)
        | (go_at_call 9; refine (kA _).mono ?_; rintro e w4 ⟨rfl, os4, n4, rfl⟩))
      go_ret
      exact ⟨rfl, (by repeat (first | with_reducible exact Adds.refl _ | with_reducible refine Adds.alloc ?_ _ | with_reducible refine Adds.more ?_ _ _ | with_reducible refine Adds.drew ?_ | with_reducible refine Adds.drewN ?_ _))⟩

end Go.Proofs.YtiacnmcdfpmcfaaGreatDoor
