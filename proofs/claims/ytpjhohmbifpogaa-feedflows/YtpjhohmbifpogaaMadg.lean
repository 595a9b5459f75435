/-
  Rows that a call owns beside a box: append of changes, by contract. Add of package feed where all may be, by contract. Add of package feed where it is refused, by contract.
-/
import Derived.Test.YtpjhohmbifpogaaAwa
import Derived.Test.YtpjhohmbifpogaaFck
import Derived.Test.YtpjhohmbifpogaaAdz
import Derived.Deep.RegionLaw
namespace Go.Proofs.Ytpjhohmbifpogaa
open Go.RowKit
attribute [local go_sem] cell?_more frozen?_more setCell_more size_more tape_more drew_more drewN_more more_drew more_drewN one_out plus_out plus_end lt_one le_p2 le_p3 le_p4 le_p5 le_p6 le_p7 le_p8 le_p9 le_p10 le_p11 le_p12 le_p13 le_p14 le_p15 le_p16 le_p17 le_p18 le_p19 le_p20 le_p21 le_p22 le_p23 le_p24 le_q0 le_q1 lt_q1 le_q2 lt_q2 le_q3 lt_q3 le_q4 lt_q4 le_q5 lt_q5 le_q6 lt_q6 le_q7 lt_q7 le_q8 lt_q8 le_q9 lt_q9 le_q10 lt_q10 le_q11 lt_q11 le_q12 lt_q12 le_q13 lt_q13 le_q14 lt_q14 le_q15 lt_q15 le_q16 lt_q16 le_q17 lt_q17 le_q18 lt_q18 le_q19 lt_q19 le_q20 lt_q20 le_q21 lt_q21 le_q22 lt_q22 le_q23 lt_q23 le_q24 lt_q24

theorem copyOf_row (base total : Int) (s t : Value) (ch : List Ch) (sb : List Sb) (w : World) (hs : LstH w s ch) (ht : LstS w t sb) (hl6 : ch.length ≤ 1000) (hd6 : ∀ d ∈ ch, d.doc.length ≤ 1000) (hs6 : sb.length ≤ 1000) :
    Calls Try.prog 31 #[.agg #[.int .i64 base, .int .i64 total, s, t]] w fun e w' => (∃ vo vc uo uc rs, e = .returned (.agg #[.int .i64 base, .int .i64 total, .slice vo ch.length vc, .slice uo sb.length uc]) ∧ Hid (OwnH w.heap.size (.slice vo ch.length vc) rs w' w' ∧ rs.map (·.1) = ch ∧ OwnS w.heap.size (.slice uo sb.length uc) sb w' w')) ∧ Adds w w' :=
  (copyOf_any base total s t ch sb w hs ht hl6 hd6 hs6).mono (by
    rintro e w' ⟨vo, vc, uo, uc, rs, rfl, h1, h2, h3, h4⟩
    exact ⟨⟨vo, vc, uo, uc, rs, rfl, h1, h2, h3⟩, h4⟩)

theorem otherS {w : World} {B C : Nat} {v x : Value} {n m : Nat} {xs ys : List Value} (h : w.ownsRow B 57 4 v n xs) (h' : w.ownsRow C 43 2 x m ys) : x.ownBlock = none ∨ x.ownBlock ≠ v.ownBlock := by
  rcases h'.2 with ⟨rfl, _⟩ | ⟨g, cap, cur, rfl, _, hg, _⟩
  · exact .inl rfl
  · refine .inr fun e => ?_
    rcases h.2 with ⟨rfl, _⟩ | ⟨g', cap', cur', rfl, _, hg', _⟩
    · cases e
    · simp only [Value.ownBlock, Option.some.injEq] at e
      subst e
      rw [hg] at hg'
      simp at hg'

/-- A world with a block at a place behind those of Y. -/
theorem world_split (Y w6 : World) (a n2 : Nat) (O : Obj) (hY : Adds Y w6) (hO : w6.heap[Y.heap.size + a]? = some O) :
    ∃ os2 os d, os2.size = a ∧ w6 = more ((more Y os2 n2).alloc O) os d := by
  obtain ⟨OS, k, rfl⟩ := hY
  have hO' : OS[a]? = some O := by
    have : (Y.heap ++ OS)[Y.heap.size + a]? = some O := hO
    rw [Array.getElem?_append_right (by omega)] at this
    simpa using this
  have ha : a < OS.toList.length := by
    have := (Array.getElem?_eq_some_iff.1 hO').1
    simpa using this
  have hO2 : OS.toList[a] = O := by
    have := (Array.getElem?_eq_some_iff.1 hO').2
    simpa using this
  have hm : min a OS.size = a := Nat.min_eq_left (by simpa using Nat.le_of_lt ha)
  refine ⟨(OS.toList.take a).toArray, (OS.toList.drop (a + 1)).toArray, k, by simpa using hm, ?_⟩
  have h3 : OS.toList = OS.toList.take a ++ (O :: OS.toList.drop (a + 1)) := by
    have := List.take_append_drop a OS.toList
    rw [List.drop_eq_getElem_cons ha, hO2] at this
    exact this.symm
  unfold more World.alloc
  simp only [World.mk.injEq, and_true]
  apply Array.toList_inj.1
  simp only [Array.toList_append, Array.toList_push]
  exact (congrArg (Y.heap.toList ++ ·) h3).trans (by simp)

theorem row_box {Z : World} {c c' : Array Value} {os : Array Obj} {d : Nat} {B : Nat} {ty : TypeId} {k : Nat} {v : Value} {n : Nat} {xs : List Value} (hty : ty ≠ 25) (h : (more (Z.alloc (.cells c 25)) os d).ownsRow B ty k v n xs) : (more (Z.alloc (.cells c' 25)) os d).ownsRow B ty k v n xs := by
  refine ⟨h.1, ?_⟩
  rcases h.2 with h | ⟨g, cap, cur, e, hb, hg, r⟩
  · exact .inl h
  · refine .inr ⟨g, cap, cur, e, hb, ?_, r⟩
    have h1 : (Z.heap.push (.cells c 25) ++ os)[g]? = some (.cells cur ty (0, 0)) := hg
    show (Z.heap.push (.cells c' 25) ++ os)[g]? = some (.cells cur ty (0, 0))
    rw [Array.getElem?_append] at h1 ⊢
    simp only [Array.size_push] at h1 ⊢
    split at h1
    · rw [if_pos ‹_›]
      rw [Array.getElem?_push] at h1 ⊢
      split at h1
      · simp only [Option.some.injEq, Obj.cells.injEq] at h1
        exact absurd h1.2.1.symm hty
      · rw [if_neg ‹_›]
        exact h1
    · rw [if_neg ‹_›]
      exact h1

theorem OwnH.box {Z : World} {c : Array Value} {os : Array Obj} {d : Nat} {B : Nat} {v : Value} {rs : List Rh} {W0 : World} (h : OwnH B v rs W0 (more (Z.alloc (.cells c 25)) os d)) (c' : Array Value) : OwnH B v rs (more (Z.alloc (.cells c' 25)) os d) (more (Z.alloc (.cells c' 25)) os d) :=
  ⟨row_box (by decide) h.1, Below.refl _ _, by have := h.2.2.1; rw [size_more, alloc_size] at this ⊢; exact this, fun r hr => row_box (by decide) (h.2.2.2 r hr)⟩

theorem OwnS.box {Z : World} {c : Array Value} {os : Array Obj} {d : Nat} {B : Nat} {v : Value} {rs : List Sb} {W0 : World} (h : OwnS B v rs W0 (more (Z.alloc (.cells c 25)) os d)) (c' : Array Value) : OwnS B v rs (more (Z.alloc (.cells c' 25)) os d) (more (Z.alloc (.cells c' 25)) os d) :=
  ⟨row_box (by decide) h.1, Below.refl _ _, by have := h.2.2; rw [size_more, alloc_size] at this ⊢; exact this⟩

/-- append of changes that a call owns onto others that it owns, a box behind these; subscriptions in a row of their own stay. -/
theorem app_own_run (Y : World) (os2 : Array Obj) (n2 : Nat) (c : Array Value) (w : World) (hw : Adds ((more Y os2 n2).alloc (.cells c 25)) w) (ty : TypeId) {B C : Nat} {n cap n' cap' : Nat} {ao ao' : Option Addr} {fs qs : List Rh} {W0 W1 W2 : World}
    (h : OwnH B (.slice ao n cap) fs W0 (more Y os2 n2)) (hn : fs.length = n) (hx : OwnH C (.slice ao' n' cap') qs W1 w) (hn' : qs.length = n') (hBC : B ≤ C) (hYB : Y.heap.size ≤ B) {D : Nat} {t : Value} {ss : List Sb} (hS : OwnS D t ss W2 (more Y os2 n2)) (hlen : n + n' ≤ 10000) :
    ∃ vo vc os2' os d, (Builtin.append_ #[22, 22] ty #[.slice ao n cap, .slice ao' n' cap']).run Try.prog w = .ok (.slice vo (n + n') vc) (more ((more Y os2' n2).alloc (.cells c 25)) os d) ∧ os2'.size = os2.size ∧
      Hid (∀ c', OwnH B (.slice vo (n + n') vc) (fs ++ qs) (more ((more Y os2' n2).alloc (.cells c' 25)) os d) (more ((more Y os2' n2).alloc (.cells c' 25)) os d) ∧ OwnS D t ss (more ((more Y os2' n2).alloc (.cells c' 25)) os d) (more ((more Y os2' n2).alloc (.cells c' 25)) os d)) := by
  subst hn hn'
  have hlt := h.1.lt
  have hA0 : Adds (more Y os2 n2) w := ((Adds.refl _).alloc _).trans hw
  have hAY : Adds Y w := ((Adds.refl _).more _ _).trans hA0
  have hbox : w.heap[Y.heap.size + os2.size]? = some (.cells c 25) := by
    rw [hw.below.block _ (by rw [alloc_size, size_more]; omega), ← size_more os2 n2]
    exact new_block2 _ _
  replace h := h.adds hA0
  replace hS := hS.adds hA0
  obtain ⟨i0, hi, hz0, hz1, hz2⟩ := info_parts Try.info57
  have key : ∀ v' w', (Builtin.append_ #[22, 22] ty #[.slice ao fs.length cap, .slice ao' qs.length cap']).run Try.prog w = .ok v' w' → OwnH B v' (fs ++ qs) W0 w' → w.grownBy w' (Value.slice ao fs.length cap).ownBlock →
      ∃ vo vc os2' os d, (Builtin.append_ #[22, 22] ty #[.slice ao fs.length cap, .slice ao' qs.length cap']).run Try.prog w = .ok (.slice vo (fs.length + qs.length) vc) (more ((more Y os2' n2).alloc (.cells c 25)) os d) ∧ os2'.size = os2.size ∧
      Hid (∀ c', OwnH B (.slice vo (fs.length + qs.length) vc) (fs ++ qs) (more ((more Y os2' n2).alloc (.cells c' 25)) os d) (more ((more Y os2' n2).alloc (.cells c' 25)) os d) ∧ OwnS D t ss (more ((more Y os2' n2).alloc (.cells c' 25)) os d) (more ((more Y os2' n2).alloc (.cells c' 25)) os d)) := by
    intro v' w' h1 h2 h3
    have hA : Adds Y w' := by
      refine Adds.of ?_
      have hb := hAY.below
      refine ⟨h3.os.trans hb.os, h3.tape.trans hb.tape, h3.output.trans hb.output, Nat.le_trans hb.size h3.size, fun q hq => ?_⟩
      rw [h3.block q (Nat.lt_of_lt_of_le hq hb.size) ?_]
      · exact hb.block q hq
      · intro e
        have := hlt q e.symm
        omega
    have hO : w'.heap[Y.heap.size + os2.size]? = some (.cells c 25) := by
      rw [h3.block _ ?_ ?_]
      · exact hbox
      · exact (Array.getElem?_eq_some_iff.1 hbox).1
      · intro e
        have := (hlt _ e.symm).2
        rw [size_more] at this
        omega
    have hS' : OwnS D t ss w' w' := ⟨World.ownsRow.kept hS.1 h3 (otherS h.1 hS.1), Below.refl _ _, Nat.le_trans hS.2.2 h3.size⟩
    obtain ⟨os2', os, d, hz, rfl⟩ := world_split Y w' os2.size n2 _ hA hO
    obtain ⟨vo, vc, rfl, _, _⟩ := h2.lstH
    have hl : ((fs ++ qs).map (·.1)).length = fs.length + qs.length := by simp
    rw [hl] at h1 h2
    exact ⟨vo, vc, os2', os, d, h1, hz, fun c' => ⟨h2.box c', hS'.box c'⟩⟩
  rcases hx.1.2 with ⟨e, h0⟩ | ⟨g, cp, cur, e, hb, hg, r⟩
  · have hq : qs = [] := List.eq_nil_of_length_eq_zero h0
    subst hq
    have hrun : (Builtin.append_ #[22, 22] ty #[.slice ao fs.length cap, .slice ao' 0 cap']).run Try.prog w = .ok (.slice ao fs.length cap) w := by
      rcases h.1.2 with ⟨e2, hn⟩ | ⟨g, cp, cur, e2, hbb, hg, hnc, hcm, hcs, htk⟩
      · rw [e2]
        cases ao' <;> simp [Builtin.append_, run_underlying Try.underlying22, sizeOf, typeInfo, hi, Builtin.lenOf, Builtin.firstCells, loadCells, loadCellsFrom]
      · rw [e2]
        cases ao' <;> simp [Builtin.append_, run_underlying Try.underlying22, sizeOf, typeInfo, hi, Builtin.lenOf, Builtin.firstCells, loadCells, loadCellsFrom, hnc, storeCells]
    exact key _ _ hrun (by simpa using h) ⟨rfl, rfl, rfl, Nat.le_refl _, fun k _ _ => rfl⟩
  · have hc := hx.1.cells (g := g) (by rw [e]; rfl)
    obtain ⟨rfl, rfl⟩ : ao' = some ⟨g, 0, none⟩ ∧ cap' = cp := by simpa using e
    obtain ⟨v', w', h1, h2, h3⟩ := ownH_append w B ty (.slice ao fs.length cap) fs W0 h ⟨g, 0, none⟩ qs.length cap' qs rfl hc (fun r hr => (hx.2.2.2 r hr).low hBC) (by omega)
    exact key v' w' h1 h2 h3

theorem app_own_step {ops : Array Oper} {o : Oper} {a : Act} {K : Act → World → Prop} {Q : Exit → Act → World → Prop} {E : Prop} {Y : World} {os2 : Array Obj} {n2 : Nat} {c : Array Value} {w : World} (hg : o.guard = none) (s x : Operand) (ho : o.op = .call { callee := .builtin .append, args := #[s, x], argTypes := #[22, 22] })
    {B C : Nat} {n cap n' cap' : Nat} {ao ao' : Option Addr} (hs : a.eval s = .slice ao n cap) (hx : a.eval x = .slice ao' n' cap') {fs qs : List Rh} {W0 W1 W2 : World} (h : OwnH B (.slice ao n cap) fs W0 (more Y os2 n2)) (hn : fs.length = n) (hx1 : OwnH C (.slice ao' n' cap') qs W1 w) (hn' : qs.length = n') (hw : Adds ((more Y os2 n2).alloc (.cells c 25)) w) (hBC : B ≤ C) (hYB : Y.heap.size ≤ B) {D : Nat} {t : Value} {ss : List Sb} (hS : OwnS D t ss W2 (more Y os2 n2)) (hlen : n + n' ≤ 10000)
    (hK : ∀ vo vc os2' os d, os2'.size = os2.size → Hid (∀ c', OwnH B (.slice vo (n + n') vc) (fs ++ qs) (more ((more Y os2' n2).alloc (.cells c' 25)) os d) (more ((more Y os2' n2).alloc (.cells c' 25)) os d) ∧ OwnS D t ss (more ((more Y os2' n2).alloc (.cells c' 25)) os d) (more ((more Y os2' n2).alloc (.cells c' 25)) os d)) → K (a.put o.dst (.slice vo (n + n') vc)) (more ((more Y os2' n2).alloc (.cells c 25)) os d)) : if Region.wanted o (yielded ops a.tmps) = true then Oper.wp Try.prog o a w K Q else E := by
  rw [if_pos (by simp [Region.wanted, hg])]
  obtain ⟨vo, vc, os2', os, d, hrun, hz, h2⟩ := app_own_run Y os2 n2 c w hw o.type h hn hx1 hn' hBC hYB hS hlen
  exact Lib.wp_append_run _ s x 22 22 ho _ _ hs hx _ _ hrun (hK vo vc os2' os d hz h2)

end Go.Proofs.Ytpjhohmbifpogaa

namespace Go.Proofs.Ytpjhohmbifpogaa
open Go.RowKit
attribute [local go_sem] cell?_more frozen?_more setCell_more size_more tape_more drew_more drewN_more more_drew more_drewN one_out plus_out plus_end lt_one le_p2 le_p3 le_p4 le_p5 le_p6 le_p7 le_p8 le_p9 le_p10 le_p11 le_p12 le_p13 le_p14 le_p15 le_p16 le_p17 le_p18 le_p19 le_p20 le_p21 le_p22 le_p23 le_p24 le_q0 le_q1 lt_q1 le_q2 lt_q2 le_q3 lt_q3 le_q4 lt_q4 le_q5 lt_q5 le_q6 lt_q6 le_q7 lt_q7 le_q8 lt_q8 le_q9 lt_q9 le_q10 lt_q10 le_q11 lt_q11 le_q12 lt_q12 le_q13 lt_q13 le_q14 lt_q14 le_q15 lt_q15 le_q16 lt_q16 le_q17 lt_q17 le_q18 lt_q18 le_q19 lt_q19 le_q20 lt_q20 le_q21 lt_q21 le_q22 lt_q22 le_q23 lt_q23 le_q24 lt_q24

set_option maxHeartbeats 2000000 in
set_option maxRecDepth 20000 in
theorem add_ok (v : Value) (f : Fd) (x : Value) (l : List Ch) (w : World) (h : LstF w v f) (hx : LstH w x l) (hM : MayF f) (hF : Follow l f.total) (hT : f.total + l.length ≤ 2147483647) (hc : f.ch.length ≤ 1000) (hd : ∀ d ∈ f.ch, d.doc.length ≤ 1000) (hl : l.length ≤ 1000) (hld : ∀ d ∈ l, d.doc.length ≤ 1000) :
    Calls Try.prog 11 #[v, x] w fun e w' => (∃ vo vc uo uc, e = .returned (.tuple #[.agg #[.int .i64 f.base, .int .i64 (f.total + l.length), .slice vo (f.ch.length + l.length) vc, .slice uo f.sb.length uc], .int .i64 0]) ∧ Hid (LstH w' (.slice vo (f.ch.length + l.length) vc) (f.ch ++ l) ∧ LstS w' (.slice uo f.sb.length uc) f.sb)) ∧ Adds w w' := by
  have kC := fun w' (hA : Adds w w') => checkF_any v f w' (h.adds hA) hc
  rw [err_ok hM] at kC
  obtain ⟨s, t, rfl, hs, ht⟩ := h
  obtain ⟨base, total, ch, sb⟩ := f
  simp only at *
  have kO := fun w' (hA : Adds w w') => copyOf_row base total s t ch sb w' (hs.adds hA) (ht.adds hA) hc hd (Nat.le_trans hM.2.2.2.2.2.1 (by omega))
  have hM1 : 0 ≤ base ∧ base ≤ total ∧ total ≤ 2147483647 := ⟨hM.1, hM.2.1, hM.2.2.1⟩
  have kF := fun w' (hA : Adds w w') => follow_any x l total w' (hx.adds hA) hl (by omega) (by omega)
  rw [decide_eq_true hF] at kF
  have kN := fun w' (hA : Adds w w') => copyNews_row x l w' (hx.adds hA) hl hld
  obtain ⟨xo, xc, rfl, _, _⟩ := hx
  have hw1 : IntKind.i64.wrap (2147483647 - total) = 2147483647 - total := by rw [IntKind.wrap_i64]; omega
  have hw2 : IntKind.i64.wrap (total + l.length) = total + l.length := by rw [IntKind.wrap_i64]; omega
  have hle : ¬ 2147483647 - total < (l.length : Int) := by omega
  have hlen : ch.length + l.length ≤ 10000 := by omega
  clear hld hF hd hM hs ht
  go_enter Try.func11, Try.ntmps11
  go_wp2_with (first
    | (go_at_call 13; refine (kC _ (by repeat (first | with_reducible exact Adds.refl _ | with_reducible refine Adds.alloc ?_ _ | with_reducible refine Adds.more ?_ _ _ | with_reducible refine Adds.drew ?_ | with_reducible refine Adds.drewN ?_ _))).mono ?_; rintro e w1 ⟨rfl, os1, n1, rfl⟩)
    | (go_at_call 31; refine (kO _ (by repeat (first | with_reducible exact Adds.refl _ | with_reducible refine Adds.alloc ?_ _ | with_reducible refine Adds.more ?_ _ _ | with_reducible refine Adds.drew ?_ | with_reducible refine Adds.drewN ?_ _))).mono ?_; rintro e w2 ⟨⟨v2, c2, u2, d2, r2, rfl, H2⟩, os2, n2, rfl⟩)
    | (go_at_call 32; refine (kF _ (by repeat (first | with_reducible exact Adds.refl _ | with_reducible refine Adds.alloc ?_ _ | with_reducible refine Adds.more ?_ _ _ | with_reducible refine Adds.drew ?_ | with_reducible refine Adds.drewN ?_ _))).mono ?_; rintro e w3 ⟨rfl, os3, n3, rfl⟩))
  go_region_law (first
    | (refine call_step rfl 33 (.tmp 29) 22 rfl _ rfl (kN _ (by repeat (first | with_reducible exact Adds.refl _ | with_reducible refine Adds.alloc ?_ _ | with_reducible refine Adds.more ?_ _ _ | with_reducible refine Adds.drew ?_ | with_reducible refine Adds.drewN ?_ _))) (by rintro e w' ⟨⟨v5, c5, r5, h, _⟩, _⟩; exact ⟨_, h⟩) (by go_simp) ?_; rintro u5 w5 ⟨⟨v5, c5, r5, he5, HL5⟩, os5, n5, rfl⟩; obtain rfl := Ending.returned.inj he5; clear he5; have HL5q := HL5.out; (try simp only [more_drew] at HL5q); clear HL5; have HL5 : Hid _ := HL5q; clear HL5q)
    | (refine app_own_step (c := #[.int .i64 base, .int .i64 total, .slice v2 ch.length c2, .slice u2 sb.length d2]) rfl (.tmp 28) (.tmp 30) rfl rfl rfl H2.out.1 (by have hq := congrArg List.length H2.out.2.1; simpa using hq) (OwnH.adds HL5.out.1 (Adds.refl _)) (by have hq := congrArg List.length HL5.out.2; simpa using hq) (by repeat (first | with_reducible exact Adds.refl _ | with_reducible refine Adds.alloc ?_ _ | with_reducible refine Adds.more ?_ _ _ | with_reducible refine Adds.drew ?_ | with_reducible refine Adds.drewN ?_ _)) (by simp [go_sem] <;> omega) (by simp [go_sem] <;> omega) H2.out.2.2 hlen ?_; rintro v6 c6 os6 os7 d6 hz6 H6))
  all_goals
    go_wp2
    refine bodyPost_ret (v := .tuple #[.agg #[.int .i64 base, .int .i64 (total + l.length), .slice v6 (ch.length + l.length) c6, .slice u2 sb.length d2], .int .i64 0]) (by simp [results, Try.results11, go_sem]) rfl ⟨⟨v6, c6, u2, d2, rfl, ?_⟩, (by repeat (first | with_reducible exact Adds.refl _ | with_reducible refine Adds.alloc ?_ _ | with_reducible refine Adds.more ?_ _ _ | with_reducible refine Adds.drew ?_ | with_reducible refine Adds.drewN ?_ _))⟩
    have hm : (r2 ++ r5).map (·.1) = ch ++ l := by rw [List.map_append, H2.out.2.1, HL5.out.2]
    rw [← hm]
    have H7 := H6.out #[.int .i64 base, .int .i64 (total + l.length), .slice v6 (ch.length + l.length) c6, .slice u2 sb.length d2]
    exact ⟨(H7.1.far (by repeat (first | with_reducible exact Far.refl _ _ | with_reducible refine Far.mores ?_ (by simp [go_sem]) _ _ _ | with_reducible refine Far.allocs ?_ (by simp [go_sem]) _ | with_reducible refine Far.low ?_ (by simp [go_sem]) (by simp [go_sem] <;> omega) _ _ | with_reducible refine Far.more ?_ _ _ | with_reducible refine Far.alloc ?_ _)) (Nat.le_refl _)).lstH, (H7.2.far (by repeat (first | with_reducible exact Far.refl _ _ | with_reducible refine Far.mores ?_ (by simp [go_sem]) _ _ _ | with_reducible refine Far.allocs ?_ (by simp [go_sem]) _ | with_reducible refine Far.low ?_ (by simp [go_sem]) (by simp [go_sem] <;> omega) _ _ | with_reducible refine Far.more ?_ _ _ | with_reducible refine Far.alloc ?_ _)) (Nat.le_refl _)).lst⟩

end Go.Proofs.Ytpjhohmbifpogaa

namespace Go.Proofs.Ytpjhohmbifpogaa
open Go.RowKit
attribute [local go_sem] cell?_more frozen?_more setCell_more size_more tape_more drew_more drewN_more more_drew more_drewN one_out plus_out plus_end lt_one le_p2 le_p3 le_p4 le_p5 le_p6 le_p7 le_p8 le_p9 le_p10 le_p11 le_p12 le_p13 le_p14 le_p15 le_p16 le_p17 le_p18 le_p19 le_p20 le_p21 le_p22 le_p23 le_p24 le_q0 le_q1 lt_q1 le_q2 lt_q2 le_q3 lt_q3 le_q4 lt_q4 le_q5 lt_q5 le_q6 lt_q6 le_q7 lt_q7 le_q8 lt_q8 le_q9 lt_q9 le_q10 lt_q10 le_q11 lt_q11 le_q12 lt_q12 le_q13 lt_q13 le_q14 lt_q14 le_q15 lt_q15 le_q16 lt_q16 le_q17 lt_q17 le_q18 lt_q18 le_q19 lt_q19 le_q20 lt_q20 le_q21 lt_q21 le_q22 lt_q22 le_q23 lt_q23 le_q24 lt_q24

theorem lstG_far {B : Nat} {s t : Value} {rs : List Rh} {ss : List Sb} {ch : List Ch} {W0 W1 w w' : World} (h : OwnH B s rs W0 w) (hm : rs.map (·.1) = ch) (h' : OwnS B t ss W1 w) (hf : Far B w w') : LstH w' s ch ∧ LstS w' t ss := by
  subst hm
  exact ⟨(h.far hf (Nat.le_refl _)).lstH, (h'.far hf (Nat.le_refl _)).lst⟩

set_option maxHeartbeats 2000000 in
set_option maxRecDepth 20000 in
theorem add_bad (v : Value) (f : Fd) (x : Value) (w : World) (h : LstF w v f) (hc : f.ch.length ≤ 1000) (hM : ¬ MayF f) :
    Calls Try.prog 11 #[v, x] w fun e w' => e = .returned (.tuple #[.agg #[.int .i64 0, .int .i64 0, .slice none 0 0, .slice none 0 0], .int .i64 1]) ∧ Adds w w' := by
  have kC := fun w' (hA : Adds w w') => checkF_any v f w' (h.adds hA) hc
  rw [err_bad hM] at kC
  obtain ⟨s, t, rfl, hs, ht⟩ := h
  clear hs ht hM
  go_enter Try.func11, Try.ntmps11
  go_wp2_with (first
    | (go_at_call 13; refine (kC _ (by repeat (first | with_reducible exact Adds.refl _ | with_reducible refine Adds.alloc ?_ _ | with_reducible refine Adds.more ?_ _ _ | with_reducible refine Adds.drew ?_ | with_reducible refine Adds.drewN ?_ _))).mono ?_; rintro e w1 ⟨rfl, os1, n1, rfl⟩))
  exact bodyPost_ret (v := .tuple #[.agg #[.int .i64 0, .int .i64 0, .slice none 0 0, .slice none 0 0], .int .i64 1]) (by simp [results, Try.results11, go_sem]) rfl ⟨rfl, (by repeat (first | with_reducible exact Adds.refl _ | with_reducible refine Adds.alloc ?_ _ | with_reducible refine Adds.more ?_ _ _ | with_reducible refine Adds.drew ?_ | with_reducible refine Adds.drewN ?_ _))⟩

set_option maxHeartbeats 2000000 in
set_option maxRecDepth 20000 in
theorem add_arg (v : Value) (f : Fd) (x : Value) (l : List Ch) (w : World) (h : LstF w v f) (hx : LstH w x l) (hM : MayF f) (hF : ¬ (f.total + l.length ≤ 2147483647 ∧ Follow l f.total)) (hc : f.ch.length ≤ 1000) (hd : ∀ d ∈ f.ch, d.doc.length ≤ 1000) (hl : l.length ≤ 1000) :
    Calls Try.prog 11 #[v, x] w fun e w' => (∃ vo vc uo uc, e = .returned (.tuple #[.agg #[.int .i64 f.base, .int .i64 f.total, .slice vo f.ch.length vc, .slice uo f.sb.length uc], .int .i64 1]) ∧ Hid (LstH w' (.slice vo f.ch.length vc) f.ch ∧ LstS w' (.slice uo f.sb.length uc) f.sb)) ∧ Adds w w' := by
  have kC := fun w' (hA : Adds w w') => checkF_any v f w' (h.adds hA) hc
  rw [err_ok hM] at kC
  obtain ⟨s, t, rfl, hs, ht⟩ := h
  obtain ⟨base, total, ch, sb⟩ := f
  simp only at *
  have kO := fun w' (hA : Adds w w') => copyOf_row base total s t ch sb w' (hs.adds hA) (ht.adds hA) hc hd (Nat.le_trans hM.2.2.2.2.2.1 (by omega))
  have hM1 : 0 ≤ base ∧ base ≤ total ∧ total ≤ 2147483647 := ⟨hM.1, hM.2.1, hM.2.2.1⟩
  have kF := fun w' (hA : Adds w w') => follow_any x l total w' (hx.adds hA) hl (by omega) (by omega)
  obtain ⟨xo, xc, rfl, _, _⟩ := hx
  have hw1 : IntKind.i64.wrap (2147483647 - total) = 2147483647 - total := by rw [IntKind.wrap_i64]; omega
  clear hd hM hs ht
  by_cases hle : 2147483647 - total < (l.length : Int)
  · clear hF kF
    go_enter Try.func11, Try.ntmps11
    go_wp2_with (first
      | (go_at_call 13; refine (kC _ (by repeat (first | with_reducible exact Adds.refl _ | with_reducible refine Adds.alloc ?_ _ | with_reducible refine Adds.more ?_ _ _ | with_reducible refine Adds.drew ?_ | with_reducible refine Adds.drewN ?_ _))).mono ?_; rintro e w1 ⟨rfl, os1, n1, rfl⟩)
      | (go_at_call 31; refine (kO _ (by repeat (first | with_reducible exact Adds.refl _ | with_reducible refine Adds.alloc ?_ _ | with_reducible refine Adds.more ?_ _ _ | with_reducible refine Adds.drew ?_ | with_reducible refine Adds.drewN ?_ _))).mono ?_; rintro e w2 ⟨⟨v2, c2, u2, d2, r2, rfl, H2⟩, os2, n2, rfl⟩))
    refine bodyPost_ret (v := .tuple #[.agg #[.int .i64 base, .int .i64 total, .slice v2 ch.length c2, .slice u2 sb.length d2], .int .i64 1]) (by simp [results, Try.results11, go_sem]) rfl ⟨⟨v2, c2, u2, d2, rfl, ?_⟩, (by repeat (first | with_reducible exact Adds.refl _ | with_reducible refine Adds.alloc ?_ _ | with_reducible refine Adds.more ?_ _ _ | with_reducible refine Adds.drew ?_ | with_reducible refine Adds.drewN ?_ _))⟩
    exact lstG_far H2.out.1 H2.out.2.1 H2.out.2.2 (by repeat (first | with_reducible exact Far.refl _ _ | with_reducible refine Far.mores ?_ (by simp [go_sem]) _ _ _ | with_reducible refine Far.allocs ?_ (by simp [go_sem]) _ | with_reducible refine Far.low ?_ (by simp [go_sem]) (by simp [go_sem] <;> omega) _ _ | with_reducible refine Far.more ?_ _ _ | with_reducible refine Far.alloc ?_ _))
  · have hF' : ¬ Follow l total := fun h => hF ⟨by omega, h⟩
    rw [decide_eq_false hF'] at kF
    clear hF hF'
    go_enter Try.func11, Try.ntmps11
    go_wp2_with (first
      | (go_at_call 13; refine (kC _ (by repeat (first | with_reducible exact Adds.refl _ | with_reducible refine Adds.alloc ?_ _ | with_reducible refine Adds.more ?_ _ _ | with_reducible refine Adds.drew ?_ | with_reducible refine Adds.drewN ?_ _))).mono ?_; rintro e w1 ⟨rfl, os1, n1, rfl⟩)
      | (go_at_call 31; refine (kO _ (by repeat (first | with_reducible exact Adds.refl _ | with_reducible refine Adds.alloc ?_ _ | with_reducible refine Adds.more ?_ _ _ | with_reducible refine Adds.drew ?_ | with_reducible refine Adds.drewN ?_ _))).mono ?_; rintro e w2 ⟨⟨v2, c2, u2, d2, r2, rfl, H2⟩, os2, n2, rfl⟩)
      | (go_at_call 32; refine (kF _ (by repeat (first | with_reducible exact Adds.refl _ | with_reducible refine Adds.alloc ?_ _ | with_reducible refine Adds.more ?_ _ _ | with_reducible refine Adds.drew ?_ | with_reducible refine Adds.drewN ?_ _))).mono ?_; rintro e w3 ⟨rfl, os3, n3, rfl⟩))
    refine bodyPost_ret (v := .tuple #[.agg #[.int .i64 base, .int .i64 total, .slice v2 ch.length c2, .slice u2 sb.length d2], .int .i64 1]) (by simp [results, Try.results11, go_sem]) rfl ⟨⟨v2, c2, u2, d2, rfl, ?_⟩, (by repeat (first | with_reducible exact Adds.refl _ | with_reducible refine Adds.alloc ?_ _ | with_reducible refine Adds.more ?_ _ _ | with_reducible refine Adds.drew ?_ | with_reducible refine Adds.drewN ?_ _))⟩
    exact lstG_far H2.out.1 H2.out.2.1 H2.out.2.2 (by repeat (first | with_reducible exact Far.refl _ _ | with_reducible refine Far.mores ?_ (by simp [go_sem]) _ _ _ | with_reducible refine Far.allocs ?_ (by simp [go_sem]) _ | with_reducible refine Far.low ?_ (by simp [go_sem]) (by simp [go_sem] <;> omega) _ _ | with_reducible refine Far.more ?_ _ _ | with_reducible refine Far.alloc ?_ _))

end Go.Proofs.Ytpjhohmbifpogaa
