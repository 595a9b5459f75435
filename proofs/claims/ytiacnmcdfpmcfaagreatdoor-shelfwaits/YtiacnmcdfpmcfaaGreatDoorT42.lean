/-
  The reference's Put: entries with one more, by contract.
-/
import Derived.Test.YtiacnmcdfpmcfaaGreatDoorT38
import Derived.Test.YtiacnmcdfpmcfaaGreatDoorT07
import Derived.Deep.RegionLaw
namespace Go.Proofs.YtiacnmcdfpmcfaaGreatDoor.Sh
open Go.RowKit
attribute [local go_sem] cell?_more frozen?_more setCell_more size_more tape_more drew_more drewN_more more_drew more_drewN one_out plus_out plus_end lt_one le_p2 le_p3 le_p4 le_p5 le_p6 le_p7 le_p8 le_p9 le_p10 le_p11 le_p12 le_p13 le_p14 le_p15 le_p16 le_p17 le_p18 le_p19 le_p20 le_p21 le_p22 le_p23 le_p24 le_q0 le_q1 lt_q1 le_q2 lt_q2 le_q3 lt_q3 le_q4 lt_q4 le_q5 lt_q5 le_q6 lt_q6 le_q7 lt_q7 le_q8 lt_q8 le_q9 lt_q9 le_q10 lt_q10 le_q11 lt_q11 le_q12 lt_q12 le_q13 lt_q13 le_q14 lt_q14 le_q15 lt_q15 le_q16 lt_q16 le_q17 lt_q17 le_q18 lt_q18 le_q19 lt_q19 le_q20 lt_q20 le_q21 lt_q21 le_q22 lt_q22 le_q23 lt_q23 le_q24 lt_q24

attribute [local go_sem] cell?_addTo

theorem cutE_more {f : F} : ∀ {l : List F} {j : Nat} (hj : j < l.length), lessE l[j] f = true → j ≤ cutE f l → j + 1 ≤ cutE f l
  | a :: r, 0, _, h, _ => by
    have e : lessE a f = true := by simpa using h
    unfold cutE
    rw [if_pos e]
    omega
  | a :: r, j + 1, hj, h, hc => by
    unfold cutE at hc ⊢
    by_cases e : lessE a f = true
    · rw [if_pos e] at hc ⊢
      have := cutE_more (f := f) (l := r) (j := j) (by simpa using hj) (by simpa using h) (by omega)
      omega
    · rw [if_neg e] at hc
      omega

theorem cutE_here {f : F} : ∀ {l : List F} {j : Nat} (hj : j < l.length), lessE l[j] f = false → j ≤ cutE f l → cutE f l = j
  | a :: r, 0, _, h, _ => by
    have e : lessE a f = false := by simpa using h
    unfold cutE
    rw [if_neg (by rw [e]; simp)]
  | a :: r, j + 1, hj, h, hc => by
    unfold cutE at hc ⊢
    by_cases e : lessE a f = true
    · rw [if_pos e] at hc ⊢
      have := cutE_here (f := f) (l := r) (j := j) (by simpa using hj) (by simpa using h) (by omega)
      omega
    · rw [if_neg e] at hc
      omega

theorem own_stepF {ops : Array Oper} {o : Oper} {a : Act} {w : World} {K : Act → World → Prop} {Q : Exit → Act → World → Prop} {E : Prop} (hg : o.guard = none) (s x : Operand) (ho : o.op = .call { callee := .builtin .append, args := #[s, x], argTypes := #[22, 22] })
    {B : Nat} {v : Value} {fs : List F} {W0 : World} (h : Own B v fs W0 w) (hs : a.eval s = v) {x' : Value} {gs : List F} (hx : Lst w x' gs) (he : a.eval x = x') (hlen : fs.length + gs.length ≤ 100000)
    (hk : ∀ v' w', Own B v' (fs ++ gs) W0 w' → K (a.put o.dst v') w') : if Region.wanted o (yielded ops a.tmps) = true then Oper.wp Tryz.prog o a w K Q else E := by
  rw [if_pos (by simp [Region.wanted, hg])]
  obtain ⟨v', w', hr, h2⟩ := own_append w B o.type v fs W0 h x' gs hx hlen
  exact Lib.wp_append_run w s x 22 22 ho v x' hs he v' w' hr (hk v' w' h2)

set_option maxHeartbeats 4000000 in
set_option maxRecDepth 20000 in
theorem refPut_any (s : Value) (l : List F) (p : F) (w : World) (h : Lst w s l) (hle : l.length ≤ 1000) :
    Calls Tryz.prog 56 #[s, .agg #[.string p.path, .string p.val]] w fun e w' => (∃ v, e = .returned v ∧ Lst w' v (putE p l)) ∧ Adds w w' := by
  obtain ⟨ao, cap, rfl, hcap, hlo⟩ := h
  go_enter Tryz.func56, Tryz.ntmps56
  go_wp2
  obtain ⟨W, hW⟩ : ∃ W, W = w.alloc (.cells #[.string p.path, .string p.val] 70) := ⟨_, rfl⟩
  have hWs : W.heap.size = w.heap.size + 1 := by rw [hW]; simp
  have e0 : W.cell? ⟨w.heap.size, 0, none⟩ = some (.string p.path) := by rw [hW]; simp
  have e1 : W.cell? ⟨w.heap.size, 1, none⟩ = some (.string p.val) := by rw [hW]; simp
  have hWA : Adds w W := by rw [hW]; exact (Adds.refl w).alloc _
  rw [← hW]
  have HS : Hid (W.heap.size = w.heap.size + 1) := hWs
  have HWA : Hid (Adds w W) := hWA
  clear hW hWs hWA
  go_loopw [5, 6] (fun nv i wr => ∃ j : Nat, j ≤ l.length ∧ i = .int .i64 j ∧ Own W.heap.size nv (l.take j) W wr ∧ Hid (j ≤ cutE p l)) (fun _ i _ => l.length - (intOf i).toNat)
  case atStart => exact ⟨0, Nat.zero_le _, rfl, by first | (have := own_empty W; rw [HS.out] at this ⊢; simpa using this) | (have := own_empty W; simpa using this), Nat.zero_le _⟩
  case round =>
    obtain ⟨j, hj, rfl, hown, HC⟩ := hrel
    have hAr : Adds W wr := Adds.of hown.2.1
    have hwl : w.heap.size < wr.heap.size := by
      have h1 := HS.out
      have := hAr.below.size
      omega
    have d0 : wr.cell? ⟨w.heap.size, 0, none⟩ = some (.string p.path) := (hAr.below.cell (p := ⟨w.heap.size, 0, none⟩) (by show w.heap.size < W.heap.size; rw [HS.out]; omega)).trans e0
    have d1 : wr.cell? ⟨w.heap.size, 1, none⟩ = some (.string p.val) := (hAr.below.cell (p := ⟨w.heap.size, 1, none⟩) (by show w.heap.size < W.heap.size; rw [HS.out]; omega)).trans e1
    have HAr : Hid (Adds W wr) := hAr
    clear hAr
    by_cases hlt : j < l.length
    · rcases hlo with rfl | ⟨b, off, rfl, hb, hl⟩
      · simp at hlt
      have hAw : Adds w wr := HWA.out.trans HAr.out
      obtain ⟨c0, c1⟩ := hl.below hAw.below hb j hlt
      have hbl : b < wr.heap.size := Nat.lt_of_lt_of_le hb hAw.below.size
      have HAw : Hid (Adds w wr) := hAw
      clear hAw
      have hlt' : (j : Int) < (l.length : Int) := by omega
      have hcall := less_any l[j] p
      have HT : Hid (l.take (j + 1) = l.take j ++ [l[j]]) := List.take_succ_eq_append_getElem hlt
      have htl : (l.take j).length = j := by rw [List.length_take]; omega
      by_cases hq : lessE l[j] p = true
      · rw [hq] at hcall
        have HC2 : Hid (j + 1 ≤ cutE p l) := by
          exact cutE_more hlt hq HC.out
        clear hq
        generalize l[j] = x at *
        go_wp2
        refine wp_region_adds (by kernel_rfl) (by kernel_rfl) ?_
        repeat (go_big_quiet_step ((go_at_call 50; exact Calls.adds_of (hcall _))))
        refine wpQuiet_nil ?_
        rintro _ ⟨pl, rfl⟩
        unfold addTo
        go_wp2_with (at_builtin; refine own_app rfl (.tmp 23) (.tmp 28) rfl (hown.adds (by repeat (first | with_reducible exact Adds.refl _ | with_reducible refine Adds.alloc ?_ _ | with_reducible refine Adds.more ?_ _ _ | with_reducible refine Adds.drew ?_ | with_reducible refine Adds.drewN ?_ _))) rfl (lst_new (f := x) (by simp [go_sem])) rfl (by rw [htl]; simp only [List.length_singleton]; omega) ?_; intro v2 w2 hown2)
        go_roundw
        case rel => exact ⟨j + 1, by omega, by go_num, by rw [HT.out]; exact hown2, HC2⟩
        case measure => simp [intOf]; omega
      · have hq' : lessE l[j] p = false := by simpa using hq
        rw [hq'] at hcall
        have HP : Hid (putE p l = l.take j ++ [p] ++ l.drop j) := by
          show _ = _
          unfold putE
          rw [cutE_here hlt hq' HC.out]
          simp
        have hjc : ¬ cap = j := by omega
        have hdr := Lst.drop (n := j) (w := w) hb hl hcap (by omega)
        clear hq hq' HT
        have hdl : (l.drop j).length ≤ 1000 := by rw [List.length_drop]; omega
        obtain ⟨uo, uc, rfl⟩ := hown.lst.slice
        rw [htl] at hown ⊢
        generalize l[j] = x at *
        go_wp2
        refine wp_region_adds (by kernel_rfl) (by kernel_rfl) ?_
        repeat (go_big_quiet_step ((go_at_call 50; exact Calls.adds_of (hcall _))))
        refine wpQuiet_nil ?_
        rintro _ ⟨pl, rfl⟩
        unfold addTo
        go_wp2
        go_region_law (first
          | (refine own_stepF rfl (.tmp 32) (.tmp 34) rfl ((hown.adds (by repeat (first | with_reducible exact Adds.refl _ | with_reducible refine Adds.alloc ?_ _ | with_reducible refine Adds.more ?_ _ _ | with_reducible refine Adds.drew ?_ | with_reducible refine Adds.drewN ?_ _))).alloc _) rfl (lst_new (f := p) (by simp [go_sem])) rfl (by rw [htl]; simp only [List.length_singleton]; omega) ?_; intro v2 w2 hown2)
          | (refine own_stepF rfl (.tmp 35) (.tmp 38) rfl hown2 rfl (hdr.adds (HWA.out.trans (Adds.of hown2.2.1))) rfl (by simp only [List.length_append, List.length_singleton, htl]; omega) ?_; intro v3 w3 hown3))
        all_goals
          go_wp2
          go_ret
          refine ⟨⟨_, rfl, ?_⟩, HWA.out.trans (Adds.of hown3.2.1)⟩
          rw [HP.out]
          exact hown3.lst
    · have hlt' : ¬ (j : Int) < (l.length : Int) := by omega
      have hjl : j = l.length := by omega
      have hcu : cutE p l = j := Nat.le_antisymm (by rw [hjl]; exact cutE_le p l) HC.out
      have HP : Hid (putE p l = l.take j ++ [p] ++ l.drop j) := by
        show _ = _
        unfold putE
        rw [hcu]
        simp
      have htl : (l.take j).length = j := by rw [List.length_take]; omega
      have hdn : Hid (l.drop j = []) := by
        show _ = _
        rw [hjl, List.drop_length]
      have hdl : (l.drop j).length ≤ 1000 := by rw [List.length_drop]; omega
      clear hcu
      obtain ⟨uo, uc, rfl⟩ := hown.lst.slice
      rw [htl] at hown ⊢
      subst hjl
      cases ao with
      | none =>
        have hl0 : l = [] := by
          rcases hlo with h | ⟨b, off, h, _⟩
          · exact h
          · cases h
        clear hlo
        subst hl0
        have hown0 : Own W.heap.size (.slice uo 0 uc) [] W wr := by simpa using hown
        clear hown HP hdn hdl htl HC
        by_cases hcj : cap = 0
        · subst hcj
          go_wp2
          refine wp_region_adds (by kernel_rfl) (by kernel_rfl) ?_
          repeat (go_big_quiet_step (fail))
          refine wpQuiet_nil ?_
          rintro _ ⟨pl, rfl⟩
          unfold addTo
          go_wp2
          go_region_law (first
            | (refine own_stepF rfl (.tmp 32) (.tmp 34) rfl ((hown0.adds (by repeat (first | with_reducible exact Adds.refl _ | with_reducible refine Adds.alloc ?_ _ | with_reducible refine Adds.more ?_ _ _ | with_reducible refine Adds.drew ?_ | with_reducible refine Adds.drewN ?_ _))).alloc _) rfl (lst_new (f := p) (by simp [go_sem])) rfl (by simp) ?_; intro v2 w2 hown2)
            | (refine own_stepF rfl (.tmp 35) (.tmp 38) rfl hown2 rfl (gs := []) (Lst.empty _ _ _ _ _ rfl rfl) rfl (by simp) ?_; intro v3 w3 hown3))
          all_goals
            go_wp2
            go_ret
            refine ⟨⟨_, rfl, ?_⟩, HWA.out.trans (Adds.of hown3.2.1)⟩
            have e : putE p [] = [] ++ [p] ++ [] := rfl
            rw [e]
            exact hown3.lst
        · go_wp2
          refine wp_region_adds (by kernel_rfl) (by kernel_rfl) ?_
          repeat (go_big_quiet_step (fail))
          refine wpQuiet_nil ?_
          rintro _ ⟨pl, rfl⟩
          unfold addTo
          go_wp2
          go_region_law (first
            | (refine own_stepF rfl (.tmp 32) (.tmp 34) rfl ((hown0.adds (by repeat (first | with_reducible exact Adds.refl _ | with_reducible refine Adds.alloc ?_ _ | with_reducible refine Adds.more ?_ _ _ | with_reducible refine Adds.drew ?_ | with_reducible refine Adds.drewN ?_ _))).alloc _) rfl (lst_new (f := p) (by simp [go_sem])) rfl (by simp) ?_; intro v2 w2 hown2)
            | (refine own_stepF rfl (.tmp 35) (.tmp 38) rfl hown2 rfl (gs := []) (Lst.empty _ _ _ _ _ rfl rfl) rfl (by simp) ?_; intro v3 w3 hown3))
          all_goals
            go_wp2
            go_ret
            refine ⟨⟨_, rfl, ?_⟩, HWA.out.trans (Adds.of hown3.2.1)⟩
            have e : putE p [] = [] ++ [p] ++ [] := rfl
            rw [e]
            exact hown3.lst
      | some a =>
        clear hlo
        by_cases hcj : cap = l.length
        · go_wp2
          refine wp_region_adds (by kernel_rfl) (by kernel_rfl) ?_
          repeat (go_big_quiet_step (fail))
          refine wpQuiet_nil ?_
          rintro _ ⟨pl, rfl⟩
          unfold addTo
          go_wp2
          go_region_law (first
            | (refine own_stepF rfl (.tmp 32) (.tmp 34) rfl ((hown.adds (by repeat (first | with_reducible exact Adds.refl _ | with_reducible refine Adds.alloc ?_ _ | with_reducible refine Adds.more ?_ _ _ | with_reducible refine Adds.drew ?_ | with_reducible refine Adds.drewN ?_ _))).alloc _) rfl (lst_new (f := p) (by simp [go_sem])) rfl (by rw [htl]; simp only [List.length_singleton]; omega) ?_; intro v2 w2 hown2)
            | (refine own_stepF rfl (.tmp 35) (.tmp 38) rfl hown2 rfl (Lst.empty _ _ _ _ _ (by first | rfl | omega | simp) hdn.out) rfl (by simp only [List.length_append, List.length_singleton, htl]; omega) ?_; intro v3 w3 hown3))
          all_goals
            go_wp2
            go_ret
            refine ⟨⟨_, rfl, ?_⟩, HWA.out.trans (Adds.of hown3.2.1)⟩
            rw [HP.out]
            exact hown3.lst
        · go_wp2
          refine wp_region_adds (by kernel_rfl) (by kernel_rfl) ?_
          repeat (go_big_quiet_step (fail))
          refine wpQuiet_nil ?_
          rintro _ ⟨pl, rfl⟩
          unfold addTo
          go_wp2
          go_region_law (first
            | (refine own_stepF rfl (.tmp 32) (.tmp 34) rfl ((hown.adds (by repeat (first | with_reducible exact Adds.refl _ | with_reducible refine Adds.alloc ?_ _ | with_reducible refine Adds.more ?_ _ _ | with_reducible refine Adds.drew ?_ | with_reducible refine Adds.drewN ?_ _))).alloc _) rfl (lst_new (f := p) (by simp [go_sem])) rfl (by rw [htl]; simp only [List.length_singleton]; omega) ?_; intro v2 w2 hown2)
            | (refine own_stepF rfl (.tmp 35) (.tmp 38) rfl hown2 rfl (Lst.empty _ _ _ _ _ (by first | rfl | omega | simp) hdn.out) rfl (by simp only [List.length_append, List.length_singleton, htl]; omega) ?_; intro v3 w3 hown3))
          all_goals
            go_wp2
            go_ret
            refine ⟨⟨_, rfl, ?_⟩, HWA.out.trans (Adds.of hown3.2.1)⟩
            rw [HP.out]
            exact hown3.lst

end Go.Proofs.YtiacnmcdfpmcfaaGreatDoor.Sh
