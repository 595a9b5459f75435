/-
  What awake meets: copies of nothing.
-/
import Derived.Test.YtpjhohmbifpogaaCpf
namespace Go.Proofs.Ytpjhohmbifpogaa
open Go.RowKit
attribute [local go_sem] cell?_more frozen?_more setCell_more size_more tape_more drew_more drewN_more more_drew more_drewN one_out plus_out plus_end lt_one le_p2 le_p3 le_p4 le_p5 le_p6 le_p7 le_p8 le_p9 le_p10 le_p11 le_p12 le_p13 le_p14 le_p15 le_p16 le_p17 le_p18 le_p19 le_p20 le_p21 le_p22 le_p23 le_p24 le_q0 le_q1 lt_q1 le_q2 lt_q2 le_q3 lt_q3 le_q4 lt_q4 le_q5 lt_q5 le_q6 lt_q6 le_q7 lt_q7 le_q8 lt_q8 le_q9 lt_q9 le_q10 lt_q10 le_q11 lt_q11 le_q12 lt_q12 le_q13 lt_q13 le_q14 lt_q14 le_q15 lt_q15 le_q16 lt_q16 le_q17 lt_q17 le_q18 lt_q18 le_q19 lt_q19 le_q20 lt_q20 le_q21 lt_q21 le_q22 lt_q22 le_q23 lt_q23 le_q24 lt_q24

theorem copyNews_nil (w : World) : Calls Try.prog 33 #[.slice none 0 0] w fun e w' => e = .returned (.slice none 0 0) ∧ Adds w w' := by
  go_enter Try.func33, Try.ntmps33
  go_wp2
  go_loopw [3, 8] (fun nv i wr => nv = .slice none 0 0 ∧ i = .int .i64 0 ∧ Adds w wr) (fun _ _ _ => 0)
  case atStart => exact ⟨rfl, rfl, Adds.refl _⟩
  case round =>
    obtain ⟨rfl, rfl, os, n, rfl⟩ := hrel
    go_wp2
    go_ret
    exact ⟨rfl, (by repeat (first | with_reducible exact Adds.refl _ | with_reducible refine Adds.alloc ?_ _ | with_reducible refine Adds.more ?_ _ _ | with_reducible refine Adds.drew ?_ | with_reducible refine Adds.drewN ?_ _))⟩

theorem cloneS_nil (w : World) : Calls Try.prog 48 #[.slice none 0 0] w fun e w' => e = .returned (.slice none 0 0) ∧ Adds w w' := by
  have hb := eqlS_none 0 0 w
  go_enter Try.func48, Try.ntmps48
  go_wp2
  go_ret
  exact ⟨rfl, (by repeat (first | with_reducible exact Adds.refl _ | with_reducible refine Adds.alloc ?_ _ | with_reducible refine Adds.more ?_ _ _ | with_reducible refine Adds.drew ?_ | with_reducible refine Adds.drewN ?_ _))⟩

theorem copyOf_zero (w : World) : Calls Try.prog 31 #[.agg #[.int .i64 0, .int .i64 0, .slice none 0 0, .slice none 0 0]] w fun e w' => e = .returned (.agg #[.int .i64 0, .int .i64 0, .slice none 0 0, .slice none 0 0]) ∧ Adds w w' := by
  have kN := fun W' => copyNews_nil W'
  have kS := fun W' => cloneS_nil W'
  go_enter Try.func31, Try.ntmps31
  go_wp2_with (first
    | (go_at_call 33; refine (kN _).mono ?_; rintro e w1 ⟨rfl, os1, n1, rfl⟩)
    | (go_at_call 48; refine (kS _).mono ?_; rintro e w2 ⟨rfl, os2, n2, rfl⟩))
  exact bodyPost_ret (v := .agg #[.int .i64 0, .int .i64 0, .slice none 0 0, .slice none 0 0]) (by simp [results, Try.results31, go_sem]) rfl ⟨rfl, (by repeat (first | with_reducible exact Adds.refl _ | with_reducible refine Adds.alloc ?_ _ | with_reducible refine Adds.more ?_ _ _ | with_reducible refine Adds.drew ?_ | with_reducible refine Adds.drewN ?_ _))⟩

set_option maxHeartbeats 2000000 in
set_option maxRecDepth 20000 in
theorem copyOf_nil (base total : Int) (s : Value) (ch : List Ch) (w : World) (hs : LstH w s ch) (hl6 : ch.length ≤ 1000) (hd6 : ∀ d ∈ ch, d.doc.length ≤ 1000) :
    Calls Try.prog 31 #[.agg #[.int .i64 base, .int .i64 total, s, .slice none 0 0]] w fun e w' => (∃ vo vc rs, e = .returned (.agg #[.int .i64 base, .int .i64 total, .slice vo ch.length vc, .slice none 0 0]) ∧ Hid (OwnH w.heap.size (.slice vo ch.length vc) rs w' w' ∧ rs.map (·.1) = ch)) ∧ Adds w w' := by
  have kN := fun W' (hA : Adds w W') => copyNews_row s ch W' (hs.adds hA) hl6 hd6
  have kS := fun W' => cloneS_nil W'
  obtain ⟨so, sc, rfl, _, _⟩ := hs
  clear hd6
  go_enter Try.func31, Try.ntmps31
  go_wp2_with (first
    | (go_at_call 33; refine (kN _ (by repeat (first | with_reducible exact Adds.refl _ | with_reducible refine Adds.alloc ?_ _ | with_reducible refine Adds.more ?_ _ _ | with_reducible refine Adds.drew ?_ | with_reducible refine Adds.drewN ?_ _))).mono ?_; rintro e w1 ⟨⟨v1, c1, rs, rfl, H1⟩, os1, n1, rfl⟩)
    | (go_at_call 48; refine (kS _).mono ?_; rintro e w2 ⟨rfl, os2, n2, rfl⟩))
  refine bodyPost_ret (v := .agg #[.int .i64 base, .int .i64 total, .slice v1 ch.length c1, .slice none 0 0]) (by simp [results, Try.results31, go_sem]) rfl ⟨⟨v1, c1, rs, rfl, ?_, H1.out.2⟩, (by repeat (first | with_reducible exact Adds.refl _ | with_reducible refine Adds.alloc ?_ _ | with_reducible refine Adds.more ?_ _ _ | with_reducible refine Adds.drew ?_ | with_reducible refine Adds.drewN ?_ _))⟩
  refine H1.out.1.far (Far.mono (n := w.heap.size + 2) ?_ (by simp [go_sem])) (by simp [go_sem])
  repeat (first | with_reducible exact Far.refl _ _ | with_reducible refine Far.mores ?_ (by simp [go_sem]) _ _ _ | with_reducible refine Far.allocs ?_ (by simp [go_sem]) _ | with_reducible refine Far.low ?_ (by simp [go_sem]) (by simp [go_sem] <;> omega) _ _ | with_reducible refine Far.more ?_ _ _ | with_reducible refine Far.alloc ?_ _)

/-- append onto nothing, of changes that a call owns: one more step of a walk. -/
theorem app_nil_run (w : World) (ty : TypeId) (n cap : Nat) (ao : Option Addr) {C : Nat} {qs : List Rh} {W0 : World} (h : OwnH C (.slice ao n cap) qs W0 w) (hn : qs.length = n) (hn0 : 0 < n) (hn6 : n ≤ 1000) :
    ∃ vo vc os d, (Builtin.append_ #[22, 22] ty #[.slice none 0 0, .slice ao n cap]).run Try.prog w = .ok (.slice vo n vc) (more w os d) ∧ Hid (OwnH C (.slice vo n vc) qs (more w os d) (more w os d)) := by
  rcases h.1.2 with ⟨e, h0⟩ | ⟨g, cp, cur, e, hb, hg, r⟩
  · omega
  · have hc := h.1.cells (g := g) (by rw [e]; rfl)
    obtain ⟨rfl, rfl, rfl⟩ : ao = some ⟨g, 0, none⟩ ∧ n = qs.length ∧ cap = cp := by simpa using e
    obtain ⟨v', w', h1, h2, h3⟩ := ownH_append w C ty (.slice none 0 0) [] w ⟨World.ownsRow_nil _ _ _ _, Below.refl _ _, h.2.2.1, fun r h => by cases h⟩ ⟨g, 0, none⟩ qs.length cap qs rfl hc h.2.2.2 (by simp; omega)
    obtain ⟨os, d, rfl⟩ := grown_none h3
    obtain ⟨vo, vc, rfl, _⟩ := h2.lstH
    rw [List.nil_append, List.length_map] at h1
    refine ⟨vo, vc, os, d, h1, ?_⟩
    have := h2.far (Far.refl _ _) (Nat.le_refl _)
    show OwnH _ _ _ _ _
    simpa using this

theorem app_nil_step {ops : Array Oper} {o : Oper} {a : Act} {w : World} {K : Act → World → Prop} {Q : Exit → Act → World → Prop} {E : Prop} (hg : o.guard = none) (s x : Operand) (ho : o.op = .call { callee := .builtin .append, args := #[s, x], argTypes := #[22, 22] })
    (hs : a.eval s = .slice none 0 0) {n cap : Nat} {ao : Option Addr} (hx : a.eval x = .slice ao n cap) {C : Nat} {qs : List Rh} {W0 : World} (h : OwnH C (.slice ao n cap) qs W0 w) (hn : qs.length = n) (hn0 : 0 < n) (hn6 : n ≤ 1000)
    (hK : ∀ vo vc os d, Hid (OwnH C (.slice vo n vc) qs (more w os d) (more w os d)) → K (a.put o.dst (.slice vo n vc)) (more w os d)) : if Region.wanted o (yielded ops a.tmps) = true then Oper.wp Try.prog o a w K Q else E := by
  rw [if_pos (by simp [Region.wanted, hg])]
  obtain ⟨vo, vc, os, d, hrun, h2⟩ := app_nil_run w o.type n cap ao h hn hn0 hn6
  exact Lib.wp_append_run w s x 22 22 ho _ _ hs hx _ _ hrun (hK vo vc os d h2)

/-- A call of a function by its contract, as one step of a region that draws its order. -/
theorem call_step {ops : Array Oper} {o : Oper} {a : Act} {w : World} {K : Act → World → Prop} {Q : Exit → Act → World → Prop} {E : Prop} (hg : o.guard = none) (f : FuncId) (x : Operand) (t : TypeId)
    (_ho : o.op = .call { callee := .value (.func f), args := #[x], argTypes := #[t] }) (v : Value) (hx : a.eval x = v) {R : Ending → World → Prop}
    (hc : Calls Try.prog f #[v] w R) (hR : ∀ e w', R e w' → ∃ u, e = .returned u) (hrun : (execOp a.eval o).run Try.prog w = .ok (.enter f #[a.eval x]) w) (hk : ∀ u w', R (.returned u) w' → K (a.put o.dst u) w') : if Region.wanted o (yielded ops a.tmps) = true then Oper.wp Try.prog o a w K Q else E := by
  have hw : Region.wanted o (yielded ops a.tmps) = true := by simp [Region.wanted, hg]
  rw [if_pos hw]
  unfold Oper.wp
  rw [hrun, hx]
  simp only [Oper.upon]
  refine hc.mono ?_
  intro e w' h
  obtain ⟨u, rfl⟩ := hR e w' h
  exact hk u w' h

/-- slices.Insert of one subscription into none. -/
theorem insert_nil (x : Sb) (b off cap : Nat) (w : World) (hb : b < w.heap.size) (hx : LiesS w b off [x]) (hcap : 1 ≤ cap) :
    Calls Try.prog 42 #[.slice none 0 0, .int .i64 0, .slice (some ⟨b, off, none⟩) 1 cap] w fun e w' => (∃ vo vc, e = .returned (.slice vo 1 vc) ∧ Hid (OwnS w.heap.size (.slice vo 1 vc) [x] w' w')) ∧ Adds w w' := by
  have hrun : ∀ ty, ∃ vo vc os d, (Builtin.append_ #[23, 23] ty #[.slice none 0 0, .slice (some ⟨b, off, none⟩) 1 cap]).run Try.prog w = .ok (.slice vo 1 vc) (more w os d) ∧ Hid (OwnS w.heap.size (.slice vo 1 vc) [x] (more w os d) (more w os d)) := by
    intro ty
    obtain ⟨v', w', h1, h2, h3⟩ := ownS_append w w.heap.size ty (.slice none 0 0) [] w (OwnS.nil _ _ (Nat.le_refl _)) (.slice (some ⟨b, off, none⟩) 1 cap) [x] ⟨_, _, rfl, hcap, .inr ⟨b, off, rfl, hb, hx⟩⟩ (by simp)
    obtain ⟨os, d, rfl⟩ := grown_none h3
    obtain ⟨vo, vc, rfl, _⟩ := h2.lst
    exact ⟨vo, vc, os, d, h1, h2.far (Far.refl _ _) (Nat.le_refl _)⟩
  clear hx
  go_enter Try.func42, Try.ntmps42
  go_wp2_with (at_builtin; obtain ⟨v1, c1, os1, d1, hr1, H1⟩ := hrun 23; refine Lib.wpList_append_run _ rfl _ _ 23 23 rfl _ _ rfl rfl _ _ hr1 ?_)
  go_ret
  exact ⟨⟨v1, c1, rfl, H1⟩, (by repeat (first | with_reducible exact Adds.refl _ | with_reducible refine Adds.alloc ?_ _ | with_reducible refine Adds.more ?_ _ _ | with_reducible refine Adds.drew ?_ | with_reducible refine Adds.drewN ?_ _))⟩

end Go.Proofs.Ytpjhohmbifpogaa
