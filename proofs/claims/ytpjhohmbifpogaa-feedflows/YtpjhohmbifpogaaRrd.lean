/-
  The reference's Pull where it errs, and its Read, by contract.
-/
import Derived.Test.YtpjhohmbifpogaaRpl
import Derived.Test.YtpjhohmbifpogaaRat
import Derived.Deep.RegionLaw
namespace Go.Proofs.Ytpjhohmbifpogaa
open Go.RowKit
attribute [local go_sem] cell?_more frozen?_more setCell_more size_more tape_more drew_more drewN_more more_drew more_drewN one_out plus_out plus_end lt_one le_p2 le_p3 le_p4 le_p5 le_p6 le_p7 le_p8 le_p9 le_p10 le_p11 le_p12 le_p13 le_p14 le_p15 le_p16 le_p17 le_p18 le_p19 le_p20 le_p21 le_p22 le_p23 le_p24 le_q0 le_q1 lt_q1 le_q2 lt_q2 le_q3 lt_q3 le_q4 lt_q4 le_q5 lt_q5 le_q6 lt_q6 le_q7 lt_q7 le_q8 lt_q8 le_q9 lt_q9 le_q10 lt_q10 le_q11 lt_q11 le_q12 lt_q12 le_q13 lt_q13 le_q14 lt_q14 le_q15 lt_q15 le_q16 lt_q16 le_q17 lt_q17 le_q18 lt_q18 le_q19 lt_q19 le_q20 lt_q20 le_q21 lt_q21 le_q22 lt_q22 le_q23 lt_q23 le_q24 lt_q24

/-- A call of a function of three arguments by its contract, as one step of a region that draws its order. -/
theorem call_step3 {ops : Array Oper} {o : Oper} {a : Act} {w : World} {K : Act → World → Prop} {Q : Exit → Act → World → Prop} {E : Prop} (hg : o.guard = none) (f : FuncId) (x y z : Operand) (tx ty tz : TypeId)
    (_ho : o.op = .call { callee := .value (.func f), args := #[x, y, z], argTypes := #[tx, ty, tz] }) (v1 v2 v3 : Value) (hx : a.eval x = v1) (hy : a.eval y = v2) (hz : a.eval z = v3) {R : Ending → World → Prop}
    (hc : Calls Try.prog f #[v1, v2, v3] w R) (hR : ∀ e w', R e w' → ∃ u, e = .returned u) (hrun : (execOp a.eval o).run Try.prog w = .ok (.enter f #[a.eval x, a.eval y, a.eval z]) w) (hk : ∀ u w', R (.returned u) w' → K (a.put o.dst u) w') : if Region.wanted o (yielded ops a.tmps) = true then Oper.wp Try.prog o a w K Q else E := by
  have hw : Region.wanted o (yielded ops a.tmps) = true := by simp [Region.wanted, hg]
  rw [if_pos hw]
  unfold Oper.wp
  rw [hrun, hx, hy, hz]
  simp only [Oper.upon]
  refine hc.mono ?_
  intro e w' h
  obtain ⟨u, rfl⟩ := hR e w' h
  exact hk u w' h

theorem refPull_bad (base total frm most : Int) (s t : Value) (w : World) (h : ¬ ((1 ≤ most ∧ most ≤ 16) ∧ 0 ≤ frm ∧ frm ≤ total)) :
    Calls Try.prog 29 #[.agg #[.int .i64 base, .int .i64 total, s, t], .int .i64 frm, .int .i64 most] w fun e w' => e = .returned (.tuple #[.slice none 0 0, .int .i64 1]) ∧ Adds w w' := by
  by_cases h1 : most < 1
  · go_enter Try.func29, Try.ntmps29
    go_wp2
    exact bodyPost_ret (v := .tuple #[.slice none 0 0, .int .i64 1]) (by simp [results, Try.results29, go_sem]) rfl ⟨rfl, (by repeat (first | with_reducible exact Adds.refl _ | with_reducible refine Adds.alloc ?_ _ | with_reducible refine Adds.more ?_ _ _ | with_reducible refine Adds.drew ?_ | with_reducible refine Adds.drewN ?_ _))⟩
  by_cases h2 : 16 < most
  · go_enter Try.func29, Try.ntmps29
    go_wp2
    exact bodyPost_ret (v := .tuple #[.slice none 0 0, .int .i64 1]) (by simp [results, Try.results29, go_sem]) rfl ⟨rfl, (by repeat (first | with_reducible exact Adds.refl _ | with_reducible refine Adds.alloc ?_ _ | with_reducible refine Adds.more ?_ _ _ | with_reducible refine Adds.drew ?_ | with_reducible refine Adds.drewN ?_ _))⟩
  by_cases h3 : frm < 0
  · clear h
    go_enter Try.func29, Try.ntmps29
    go_wp2
    exact bodyPost_ret (v := .tuple #[.slice none 0 0, .int .i64 1]) (by simp [results, Try.results29, go_sem]) rfl ⟨rfl, (by repeat (first | with_reducible exact Adds.refl _ | with_reducible refine Adds.alloc ?_ _ | with_reducible refine Adds.more ?_ _ _ | with_reducible refine Adds.drew ?_ | with_reducible refine Adds.drewN ?_ _))⟩
  have h4 : total < frm := by omega
  clear h
  go_enter Try.func29, Try.ntmps29
  go_wp2
  exact bodyPost_ret (v := .tuple #[.slice none 0 0, .int .i64 1]) (by simp [results, Try.results29, go_sem]) rfl ⟨rfl, (by repeat (first | with_reducible exact Adds.refl _ | with_reducible refine Adds.alloc ?_ _ | with_reducible refine Adds.more ?_ _ _ | with_reducible refine Adds.drew ?_ | with_reducible refine Adds.drewN ?_ _))⟩

theorem refPull_old (base total frm most : Int) (s t : Value) (w : World) (h : (1 ≤ most ∧ most ≤ 16) ∧ 0 ≤ frm ∧ frm ≤ total) (ho : frm < base) :
    Calls Try.prog 29 #[.agg #[.int .i64 base, .int .i64 total, s, t], .int .i64 frm, .int .i64 most] w fun e w' => e = .returned (.tuple #[.slice none 0 0, .int .i64 8]) ∧ Adds w w' := by
  obtain ⟨⟨h1, h2⟩, h3, h4⟩ := h
  have h1' : ¬ most < 1 := by omega
  have h2' : ¬ 16 < most := by omega
  have h3' : ¬ frm < 0 := by omega
  have h4' : ¬ total < frm := by omega
  clear h1 h2 h3 h4
  go_enter Try.func29, Try.ntmps29
  go_wp2
  exact bodyPost_ret (v := .tuple #[.slice none 0 0, .int .i64 8]) (by simp [results, Try.results29, go_sem]) rfl ⟨rfl, (by repeat (first | with_reducible exact Adds.refl _ | with_reducible refine Adds.alloc ?_ _ | with_reducible refine Adds.more ?_ _ _ | with_reducible refine Adds.drew ?_ | with_reducible refine Adds.drewN ?_ _))⟩

set_option maxHeartbeats 2000000 in
set_option maxRecDepth 20000 in
theorem refRead_none (base total most : Int) (s t : Value) (sb : List Sb) (name : ByteArray) (w : World) (ht : LstS w t sb) (h8 : sb.length ≤ 1000) (hc : ∀ i j (hi : i < sb.length) (hj : j < sb.length), i < j → lessP sb[i].name sb[j].name = true) (hn : hasAt name sb = false) :
    Calls Try.prog 28 #[.agg #[.int .i64 base, .int .i64 total, s, t], .string name, .int .i64 most] w fun e w' => e = .returned (.tuple #[.slice none 0 0, .int .i64 0, .int .i64 4]) ∧ Adds w w' := by
  have kA := fun w' (hA : Adds w w') => refAt_any base total s t sb name w' (ht.adds hA) h8 hc
  rw [show atI name sb = -1 by simp [atI, hn]] at kA
  clear ht hc hn
  go_enter Try.func28, Try.ntmps28
  go_wp2_with (first
    | (go_at_call 44; refine (kA _ (by repeat (first | with_reducible exact Adds.refl _ | with_reducible refine Adds.alloc ?_ _ | with_reducible refine Adds.more ?_ _ _ | with_reducible refine Adds.drew ?_ | with_reducible refine Adds.drewN ?_ _))).mono ?_; rintro e w1 ⟨rfl, os1, n1, rfl⟩))
  exact bodyPost_ret (v := .tuple #[.slice none 0 0, .int .i64 0, .int .i64 4]) (by simp [results, Try.results28, go_sem]) rfl ⟨rfl, (by repeat (first | with_reducible exact Adds.refl _ | with_reducible refine Adds.alloc ?_ _ | with_reducible refine Adds.more ?_ _ _ | with_reducible refine Adds.drew ?_ | with_reducible refine Adds.drewN ?_ _))⟩

set_option maxHeartbeats 2000000 in
set_option maxRecDepth 20000 in
theorem refRead_bad (base total most : Int) (s t : Value) (sb : List Sb) (name : ByteArray) (w : World) (ht : LstS w t sb) (h8 : sb.length ≤ 1000) (hc : ∀ i j (hi : i < sb.length) (hj : j < sb.length), i < j → lessP sb[i].name sb[j].name = true) (hlt : cutAt name sb < sb.length) (hn : hasAt name sb = true) (hm : ¬ (1 ≤ most ∧ most ≤ 16)) :
    Calls Try.prog 28 #[.agg #[.int .i64 base, .int .i64 total, s, t], .string name, .int .i64 most] w fun e w' => e = .returned (.tuple #[.slice none 0 0, .int .i64 0, .int .i64 1]) ∧ Adds w w' := by
  have kA := fun w' (hA : Adds w w') => refAt_any base total s t sb name w' (ht.adds hA) h8 hc
  rw [show atI name sb = (cutAt name sb : Int) by simp [atI, hn]] at kA
  clear hc hn
  generalize cutAt name sb = c at *
  have kP := fun p w' => refPull_bad base total p most s t w' (fun h => hm h.1)
  have hnil : sb ≠ [] := by rintro rfl; simp at hlt
  obtain ⟨to, tc, rfl, _, ht | ⟨b, off, rfl, hb, hl⟩⟩ := ht
  · exact absurd ht hnil
  obtain ⟨c0, c1⟩ := hl c hlt
  have hlt' : (c : Int) < (sb.length : Int) := by omega
  have hc0 : ¬ (c : Int) < 0 := by omega
  clear hl hm hnil
  generalize sb[c].pos = p at *
  generalize sb[c].name = nm at *
  go_enter Try.func28, Try.ntmps28
  go_wp2_with (first
    | (go_at_call 44; refine (kA _ (by repeat (first | with_reducible exact Adds.refl _ | with_reducible refine Adds.alloc ?_ _ | with_reducible refine Adds.more ?_ _ _ | with_reducible refine Adds.drew ?_ | with_reducible refine Adds.drewN ?_ _))).mono ?_; rintro e w1 ⟨rfl, os1, n1, rfl⟩))
  go_region_law (first
    | (refine call_step3 rfl 29 (.tmp 18) (.tmp 24) (.tmp 25) 25 3 3 rfl _ _ _ rfl rfl rfl (kP _ _) (by rintro e w' ⟨h, _⟩; exact ⟨_, h⟩) (by go_simp) ?_; rintro u5 w5 ⟨he5, os5, n5, rfl⟩; obtain rfl := Ending.returned.inj he5; clear he5))
  all_goals
    go_wp2
    exact bodyPost_ret (v := .tuple #[.slice none 0 0, .int .i64 0, .int .i64 1]) (by simp [results, Try.results28, go_sem]) rfl ⟨rfl, (by repeat (first | with_reducible exact Adds.refl _ | with_reducible refine Adds.alloc ?_ _ | with_reducible refine Adds.more ?_ _ _ | with_reducible refine Adds.drew ?_ | with_reducible refine Adds.drewN ?_ _))⟩

set_option maxHeartbeats 2000000 in
set_option maxRecDepth 20000 in
theorem refRead_ok (base total : Int) (s t : Value) (ch : List Ch) (sb : List Sb) (name : ByteArray) (k m : Nat) (w : World) (hs : LstH w s ch) (ht : LstS w t sb) (hch : ch.length ≤ 1000) (h8 : sb.length ≤ 1000) (hF : Follow ch base) (hc : ∀ i j (hi : i < sb.length) (hj : j < sb.length), i < j → lessP sb[i].name sb[j].name = true) (hlt : cutAt name sb < sb.length) (hn : hasAt name sb = true) (hm1 : 1 ≤ m) (hm2 : m ≤ 16) (h0 : 0 ≤ base) (h1 : sb[cutAt name sb].pos ≤ total) (h2 : total ≤ 2147483647) (hk : sb[cutAt name sb].pos = base + (k : Int)) :
    Calls Try.prog 28 #[.agg #[.int .i64 base, .int .i64 total, s, t], .string name, .int .i64 (m : Int)] w fun e w' => (∃ vo vc, e = .returned (.tuple #[.slice vo (cutC ch k m).length vc, .int .i64 sb[cutAt name sb].pos, .int .i64 0]) ∧ Hid (LstH w' (.slice vo (cutC ch k m).length vc) (cutC ch k m))) ∧ Adds w w' := by
  have kA := fun w' (hA : Adds w w') => refAt_any base total s t sb name w' (ht.adds hA) h8 hc
  rw [show atI name sb = (cutAt name sb : Int) by simp [atI, hn]] at kA
  clear hc hn
  generalize cutAt name sb = c at *
  have kP := fun w' (hA : Adds w w') => refPull_ok base total sb[c].pos s t ch k m w' (hs.adds hA) hch hF hm1 hm2 h0 h1 h2 hk
  have hnil : sb ≠ [] := by rintro rfl; simp at hlt
  obtain ⟨to, tc, rfl, _, ht | ⟨b, off, rfl, hb, hl⟩⟩ := ht
  · exact absurd ht hnil
  obtain ⟨c0, c1⟩ := hl c hlt
  have hlt' : (c : Int) < (sb.length : Int) := by omega
  have hc0 : ¬ (c : Int) < 0 := by omega
  clear hl hnil hF hk hs
  generalize sb[c].pos = p at *
  generalize sb[c].name = nm at *
  generalize cutC ch k m = ds at *
  go_enter Try.func28, Try.ntmps28
  go_wp2_with (first
    | (go_at_call 44; refine (kA _ (by repeat (first | with_reducible exact Adds.refl _ | with_reducible refine Adds.alloc ?_ _ | with_reducible refine Adds.more ?_ _ _ | with_reducible refine Adds.drew ?_ | with_reducible refine Adds.drewN ?_ _))).mono ?_; rintro e w1 ⟨rfl, os1, n1, rfl⟩))
  go_region_law (first
    | (refine call_step3 rfl 29 (.tmp 18) (.tmp 24) (.tmp 25) 25 3 3 rfl _ _ _ rfl rfl rfl (kP _ (by repeat (first | with_reducible exact Adds.refl _ | with_reducible refine Adds.alloc ?_ _ | with_reducible refine Adds.more ?_ _ _ | with_reducible refine Adds.drew ?_ | with_reducible refine Adds.drewN ?_ _))) (by rintro e w' ⟨⟨v5, c5, h, _⟩, _⟩; exact ⟨_, h⟩) (by go_simp) ?_; rintro u5 w5 ⟨⟨v2, c2, he5, H2⟩, os2, n2, rfl⟩; obtain rfl := Ending.returned.inj he5; clear he5; have H2q := H2.out; (try simp only [more_drew] at H2q); clear H2; have H2 : Hid (LstH _ (.slice v2 ds.length c2) ds) := H2q; clear H2q))
  all_goals
    go_wp2
    try go_quiet (fail)
    try go_wp2
    exact bodyPost_ret (v := .tuple #[.slice v2 ds.length c2, .int .i64 p, .int .i64 0]) (by simp [results, Try.results28, go_sem]) rfl ⟨⟨v2, c2, rfl, LstH.adds H2.out (by repeat (first | with_reducible exact Adds.refl _ | with_reducible refine Adds.alloc ?_ _ | with_reducible refine Adds.more ?_ _ _ | with_reducible refine Adds.drew ?_ | with_reducible refine Adds.drewN ?_ _))⟩, (by repeat (first | with_reducible exact Adds.refl _ | with_reducible refine Adds.alloc ?_ _ | with_reducible refine Adds.more ?_ _ _ | with_reducible refine Adds.drew ?_ | with_reducible refine Adds.drewN ?_ _))⟩

end Go.Proofs.Ytpjhohmbifpogaa
