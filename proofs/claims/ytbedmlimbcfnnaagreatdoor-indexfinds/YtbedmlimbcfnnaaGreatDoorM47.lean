/-
  The order of entries is one.
  The order of entries, by a contract for sorting.
-/
import Derived.Test.YtbedmlimbcfnnaaGreatDoorM13
import Derived.Deep.RegionHeld
import Derived.Sort.Grow
namespace Go.Proofs.YtbedmlimbcfnnaaGreatDoor.Sh
open Go.RowKit
attribute [local go_sem] cell?_more frozen?_more setCell_more size_more tape_more drew_more drewN_more more_drew more_drewN one_out plus_out plus_end lt_one le_p2 le_p3 le_p4 le_p5 le_p6 le_p7 le_p8 le_p9 le_p10 le_p11 le_p12 le_p13 le_p14 le_p15 le_p16 le_p17 le_p18 le_p19 le_p20 le_p21 le_p22 le_p23 le_p24 le_q0 le_q1 lt_q1 le_q2 lt_q2 le_q3 lt_q3 le_q4 lt_q4 le_q5 lt_q5 le_q6 lt_q6 le_q7 lt_q7 le_q8 lt_q8 le_q9 lt_q9 le_q10 lt_q10 le_q11 lt_q11 le_q12 lt_q12 le_q13 lt_q13 le_q14 lt_q14 le_q15 lt_q15 le_q16 lt_q16 le_q17 lt_q17 le_q18 lt_q18 le_q19 lt_q19 le_q20 lt_q20 le_q21 lt_q21 le_q22 lt_q22 le_q23 lt_q23 le_q24 lt_q24



theorem cmpE_is : IsCmp cmpE where
  range a b := by
    unfold cmpE cmpP
    split
    · exact cmpB_is.range _ _
    · exact cmpB_is.range _ _
  swap a b := by
    unfold cmpE cmpP
    have h1 := cmpB_is.swap a.path.toList b.path.toList
    have h2 := cmpB_is.swap a.val.toList b.val.toList
    rw [h1, h2]
    by_cases h : Lib.compareBytes a.path.toList b.path.toList = 0
    · rw [if_pos (by omega), if_pos h]
    · rw [if_neg (by omega), if_neg h]
  zero a b := by
    rw [F.eq_iff]
    unfold cmpE
    by_cases h : cmpP a.path b.path = 0
    · rw [if_pos h]
      exact ⟨fun h2 => ⟨(cmpP_zero _ _).1 h, (cmpP_zero _ _).1 h2⟩, fun h2 => (cmpP_zero _ _).2 h2.2⟩
    · rw [if_neg h]
      exact ⟨fun h2 => absurd h2 h, fun h2 => absurd ((cmpP_zero _ _).2 h2.1) h⟩
  trans a b d h k := by
    unfold cmpE at *
    have t1 : cmpP a.path b.path ≤ 0 → cmpP b.path d.path ≤ 0 → cmpP a.path d.path ≤ 0 := cmpB_is.trans _ _ _
    have t2 : cmpP a.val b.val ≤ 0 → cmpP b.val d.val ≤ 0 → cmpP a.val d.val ≤ 0 := cmpB_is.trans _ _ _
    have s1 : cmpP b.path a.path = - cmpP a.path b.path := cmpB_is.swap _ _
    have s2 : cmpP d.path b.path = - cmpP b.path d.path := cmpB_is.swap _ _
    have t3 : cmpP d.path b.path ≤ 0 → cmpP b.path a.path ≤ 0 → cmpP d.path a.path ≤ 0 := cmpB_is.trans _ _ _
    have s3 : cmpP d.path a.path = - cmpP a.path d.path := cmpB_is.swap _ _
    by_cases h1 : cmpP a.path b.path = 0
    · rw [if_pos h1] at h
      have e := (cmpP_zero _ _).1 h1
      have e1 : cmpP a.path d.path = cmpP b.path d.path := by unfold cmpP; rw [e]
      by_cases h2 : cmpP b.path d.path = 0
      · rw [if_pos h2] at k
        rw [if_pos (by omega)]
        exact t2 h k
      · rw [if_neg h2] at k
        rw [if_neg (by omega)]
        omega
    · rw [if_neg h1] at h
      by_cases h2 : cmpP b.path d.path = 0
      · have e := (cmpP_zero _ _).1 h2
        have e1 : cmpP a.path d.path = cmpP a.path b.path := by unfold cmpP; rw [e]
        rw [if_neg (by omega)]
        omega
      · rw [if_neg h2] at k
        by_cases h3 : cmpP a.path d.path = 0
        · have e := (cmpP_zero _ _).1 h3
          have e1 : cmpP b.path d.path = cmpP b.path a.path := by unfold cmpP; rw [e]
          omega
        · rw [if_neg h3]
          exact t1 h k

end Go.Proofs.YtbedmlimbcfnnaaGreatDoor.Sh

namespace Go.Proofs.YtbedmlimbcfnnaaGreatDoor.Sh
open Go.RowKit
attribute [local go_sem] cell?_more frozen?_more setCell_more size_more tape_more drew_more drewN_more more_drew more_drewN one_out plus_out plus_end lt_one le_p2 le_p3 le_p4 le_p5 le_p6 le_p7 le_p8 le_p9 le_p10 le_p11 le_p12 le_p13 le_p14 le_p15 le_p16 le_p17 le_p18 le_p19 le_p20 le_p21 le_p22 le_p23 le_p24 le_q0 le_q1 lt_q1 le_q2 lt_q2 le_q3 lt_q3 le_q4 lt_q4 le_q5 lt_q5 le_q6 lt_q6 le_q7 lt_q7 le_q8 lt_q8 le_q9 lt_q9 le_q10 lt_q10 le_q11 lt_q11 le_q12 lt_q12 le_q13 lt_q13 le_q14 lt_q14 le_q15 lt_q15 le_q16 lt_q16 le_q17 lt_q17 le_q18 lt_q18 le_q19 lt_q19 le_q20 lt_q20 le_q21 lt_q21 le_q22 lt_q22 le_q23 lt_q23 le_q24 lt_q24


/-- Blocks laid behind, draws gone on. -/
def Gr (w w' : World) : Prop := ∃ q os, w' = Go.Sort.grow (w.drewN q) os
theorem Gr.refl (w : World) : Gr w w := ⟨0, #[], by rw [Go.Sort.grow_empty]; rfl⟩
theorem Gr.alloc {w w' : World} (h : Gr w w') (o : Obj) : Gr w (w'.alloc o) := by
  obtain ⟨q, os, rfl⟩ := h
  exact ⟨q, os ++ #[o], by rw [Go.Sort.alloc_eq_grow, Go.Sort.grow_grow]⟩
theorem Gr.drewN {w w' : World} (h : Gr w w') (n : Nat) : Gr w (w'.drewN n) := by
  obtain ⟨q, os, rfl⟩ := h
  exact ⟨q + n, os, by simp [Go.Sort.grow, World.drewN, Nat.add_assoc]⟩
theorem Gr.drew {w w' : World} (h : Gr w w') : Gr w w'.drew := h.drewN 1

set_option maxHeartbeats 2000000 in
set_option maxRecDepth 20000 in
theorem cmpE_gr (f g : F) (w : World) : Calls Tryz.prog 26 #[.agg #[.string f.path, .string f.val], .agg #[.string g.path, .string g.val]] w fun e w' => e = .returned (.int .i64 (cmpE f g)) ∧ Gr w w' := by
  have k1 := compare_any f.path g.path
  have k2 := compare_any f.val g.val
  have kO := fun W k (hk : k < W.heap.size) c0 c1 => or_any k (cmpP f.path g.path) (cmpP f.val g.val) (cmpE f g) rfl W hk c0 c1
  generalize cmpP f.path g.path = x at *
  generalize cmpP f.val g.val = y at *
  generalize cmpE f g = z at *
  obtain ⟨fp, fv⟩ := f
  obtain ⟨gp, gv⟩ := g
  simp only at k1 k2 ⊢
  go_enter Tryz.func26, Tryz.ntmps26
  go_wp2
  go_region_held (fun w' => w'.cell? ⟨w.heap.size, 0, none⟩ = some (.string fp) ∧ w'.cell? ⟨w.heap.size, 1, none⟩ = some (.string fv) ∧ w'.cell? ⟨w.heap.size + 1, 0, none⟩ = some (.string gp) ∧ w'.cell? ⟨w.heap.size + 1, 1, none⟩ = some (.string gv))
    (refine ⟨?_, ?_, ?_, ?_⟩ <;> simp [go_sem, *])
    (first
    | (go_at_call 47; (with_reducible refine (k1 _).mono ?_); rintro e w1 ⟨rfl, hw⟩; subst w1)
    | (go_at_call 47; (with_reducible refine (k2 _).mono ?_); rintro e w1 ⟨rfl, hw⟩; subst w1)
    | (go_at_call 46; refine (kO _ _ (by simp [go_sem]) (by simp [go_sem]) (by simp [go_sem])).mono ?_; rintro e w1 ⟨rfl, hw⟩; subst w1))
  all_goals
    go_wp2
    go_ret
    exact ⟨rfl, by (repeat (first | with_reducible exact Gr.refl _ | with_reducible refine Gr.alloc ?_ _ | with_reducible refine Gr.drew ?_ | with_reducible refine Gr.drewN ?_ _))⟩

end Go.Proofs.YtbedmlimbcfnnaaGreatDoor.Sh
