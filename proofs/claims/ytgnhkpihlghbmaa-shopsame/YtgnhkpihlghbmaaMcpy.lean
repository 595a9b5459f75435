/-
  Rows of documents in memory of their own; copyOf of package shop, by contract. copyOf of package shop, by contract.
-/
import Derived.Test.YtgnhkpihlghbmaaSap
import Derived.Deep.RegionLaw
namespace Go.Proofs.Ytgnhkpihlghbmaa
open Go.RowKit
attribute [local go_sem] cell?_more frozen?_more setCell_more size_more tape_more drew_more drewN_more more_drew more_drewN one_out plus_out plus_end lt_one le_p2 le_p3 le_p4 le_p5 le_p6 le_p7 le_p8 le_p9 le_p10 le_p11 le_p12 le_p13 le_p14 le_p15 le_p16 le_p17 le_p18 le_p19 le_p20 le_p21 le_p22 le_p23 le_p24 le_q0 le_q1 lt_q1 le_q2 lt_q2 le_q3 lt_q3 le_q4 lt_q4 le_q5 lt_q5 le_q6 lt_q6 le_q7 lt_q7 le_q8 lt_q8 le_q9 lt_q9 le_q10 lt_q10 le_q11 lt_q11 le_q12 lt_q12 le_q13 lt_q13 le_q14 lt_q14 le_q15 lt_q15 le_q16 lt_q16 le_q17 lt_q17 le_q18 lt_q18 le_q19 lt_q19 le_q20 lt_q20 le_q21 lt_q21 le_q22 lt_q22 le_q23 lt_q23 le_q24 lt_q24

/-- The slice v has the documents rs in a block from B on that the call owns, each in a block of its own; below B nothing has turned since W0. -/
def OwnC (B : Nat) (v : Value) (rs : List Rn) (W0 w : World) : Prop := w.ownsRow B 48 2 v rs.length (cellsRn rs) ∧ Below B W0 w ∧ B ≤ w.heap.size ∧ ∀ r ∈ rs, w.ownsRow B 54 6 r.2 r.1.doc.length (cellsF r.1.doc)

theorem other {w : World} {B C : Nat} {v x : Value} {n m : Nat} {xs ys : List Value} (h : w.ownsRow B 48 2 v n xs) (h' : w.ownsRow C 54 6 x m ys) : x.ownBlock = none ∨ x.ownBlock ≠ v.ownBlock := by
  rcases h'.2 with ⟨rfl, _⟩ | ⟨g, cap, cur, rfl, _, hg, _⟩
  · exact .inl rfl
  · refine .inr fun e => ?_
    rcases h.2 with ⟨rfl, _⟩ | ⟨g', cap', cur', rfl, _, hg', _⟩
    · cases e
    · simp only [Value.ownBlock, Option.some.injEq] at e
      subst e
      rw [hg] at hg'
      simp at hg'

theorem OwnC.below {B : Nat} {v : Value} {rs : List Rn} {W0 w w' : World} (h : OwnC B v rs W0 w) (hb : Below w.heap.size w w') : OwnC B v rs W0 w' := by
  have hg : w.grownBy w' none := ⟨hb.os, hb.tape, hb.output, hb.size, fun k hk _ => hb.block k hk⟩
  have hx : ∀ x : Value, x.ownBlock = none ∨ x.ownBlock ≠ none := fun x => by cases x.ownBlock <;> simp
  exact ⟨h.1.kept hg (hx v), h.2.1.trans (hb.mono h.2.2.1), Nat.le_trans h.2.2.1 hb.size, fun r hr => (h.2.2.2 r hr).kept hg (hx r.2)⟩

theorem OwnC.adds {B : Nat} {v : Value} {rs : List Rn} {W0 w w' : World} (h : OwnC B v rs W0 w) (ha : Adds w w') : OwnC B v rs W0 w' := h.below ha.below

theorem OwnC.nil (w : World) : OwnC w.heap.size (.slice none 0 0) [] w w := ⟨World.ownsRow_nil _ _ _ _, Below.refl _ _, Nat.le_refl _, fun r h => by cases h⟩

theorem row_lst {w : World} {B : Nat} {x : Value} {fs : List F} (h : w.ownsRow B 54 6 x fs.length (cellsF fs)) : Lst w x fs := by
  have hc := fun g => h.cells (g := g)
  have hlt := h.lt
  rcases h.2 with ⟨rfl, hn⟩ | ⟨g, cap, cur, rfl, hb, hg, hnc, hcm, hcs, htk⟩
  · have : fs = [] := List.eq_nil_of_length_eq_zero hn
    subst this
    exact ⟨none, 0, rfl, Nat.le_refl _, .inl rfl⟩
  · exact ⟨_, cap, rfl, hnc, .inr ⟨g, 0, rfl, (hlt g rfl).2, lies_of (hc g rfl)⟩⟩

theorem OwnC.lstD {B : Nat} {v : Value} {fs : List Rn} {W0 w : World} (h : OwnC B v fs W0 w) : LstD w v (fs.map (·.1)) := by
  have hc := fun g => h.1.cells (g := g)
  have hlt := h.1.lt
  rcases h.1.2 with ⟨rfl, hn⟩ | ⟨g, cap, cur, rfl, hb, hg, hnc, hcm, hcs, htk⟩
  · have : fs = [] := List.eq_nil_of_length_eq_zero hn
    subst this
    exact ⟨none, 0, rfl, Nat.le_refl _, .inl rfl⟩
  · refine ⟨_, cap, by simp, by simpa using hnc, .inr ⟨g, 0, rfl, (hlt g rfl).2, ?_⟩⟩
    intro j hj
    have hj' : j < fs.length := by simpa using hj
    have q := fun r hr u hu => hc g rfl (j * 2 + r) u (by rw [cellsRn_get fs j hj' r hr]; exact hu)
    simp only [Addr.add_lit] at q
    refine ⟨fs[j].2, ?_, ?_, ?_⟩
    · simpa using q 0 (by omega) _ rfl
    · simpa [Nat.add_assoc] using q 1 (by omega) _ rfl
    · simpa using row_lst (h.2.2.2 _ (List.getElem_mem hj'))

theorem ownC_append (w : World) (B : Nat) (ty : TypeId) (v : Value) (fs : List Rn) (W0 : World) (h : OwnC B v fs W0 w) (k : Nat) (r : Rn) (hk : w.heap[k]? = some (.cells #[.string r.1.key, r.2] 48 (0, 0))) (hr : w.ownsRow B 54 6 r.2 r.1.doc.length (cellsF r.1.doc)) (hlen : fs.length ≤ 100000) :
    ∃ v' w', (Builtin.append_ #[22, 22] ty #[v, .slice (some ⟨k, 0, none⟩) 1 1]).run Try.prog w = .ok v' w' ∧ OwnC B v' (fs ++ [r]) W0 w' := by
  obtain ⟨i0, hi, hz0, hz1, hz2⟩ := info_parts Try.info48
  have hone : ∀ u ∈ cellsRn [r], u.oneCell' = true := by
    intro u hu
    simp only [cellsRn, List.flatMap_cons, List.flatMap_nil, List.append_nil, List.mem_cons, List.mem_nil_iff, or_false] at hu
    rcases hu with rfl | rfl
    · rfl
    · obtain ⟨ao, cap, e, _⟩ := row_lst hr
      rw [e]
      rfl
  have hcl : ∀ j u, (cellsRn [r])[j]? = some u → w.cell? ((⟨k, 0, none⟩ : Addr).add j) = some u := by
    intro j u hu
    rw [Addr.add_lit, cell_of_row w k _ _ _ _ hk]
    simpa [cellsRn] using hu
  obtain ⟨v', w', h1, h2, h3, _⟩ := run_append_own (P := Try.prog) w B 22 ty 48 i0 _ 2 40 Try.underlying22 hi hz0 hz1 hz2 rfl (by decide) v fs.length (cellsRn fs) h.1 ⟨k, 0, none⟩ 1 1 (cellsRn [r]) (cellsRn_length [r]) hcl hone (by unfold maxLen; omega) (by omega) h.2.2.1
  refine ⟨v', w', h1, ?_⟩
  refine ⟨by rw [List.length_append, cellsRn_append]; exact h2, ?_, Nat.le_trans h.2.2.1 h3.size, fun x hx => ?_⟩
  · refine ⟨h3.os.trans h.2.1.os, h3.tape.trans h.2.1.tape, h3.output.trans h.2.1.output, Nat.le_trans h.2.1.size h3.size, fun q hq => ?_⟩
    rw [h3.block q (Nat.lt_of_lt_of_le hq h.2.2.1) ?_]
    · exact h.2.1.block q hq
    · intro e
      have := h.1.lt q e.symm
      omega
  · have hx' : w.ownsRow B 54 6 x.2 x.1.doc.length (cellsF x.1.doc) := by
      rcases List.mem_append.1 hx with hx | hx
      · exact h.2.2.2 x hx
      · have := List.mem_singleton.1 hx
        subst this
        exact hr
    exact hx'.kept h3 (other h.1 hx')

theorem ownC_app {ops : Array Oper} {rest : List Oper} {o : Oper} {a : Act} {w : World} {Q : Exit → Act → World → Prop} (hgd : o.guard = none) (s x : Operand) (ho : o.op = .call { callee := .builtin .append, args := #[s, x], argTypes := #[22, 22] })
    {B : Nat} {v : Value} {fs : List Rn} {W0 : World} (h : OwnC B v fs W0 w) (hs : a.eval s = v) {k : Nat} (r : Rn) (hx : a.eval x = .slice (some ⟨k, 0, none⟩) 1 1) (hk : w.heap[k]? = some (.cells #[.string r.1.key, r.2] 48 (0, 0))) (hr : w.ownsRow B 54 6 r.2 r.1.doc.length (cellsF r.1.doc)) (hlen : fs.length ≤ 100000)
    (hQ : ∀ v' w', OwnC B v' (fs ++ [r]) W0 w' → wpList Try.prog ops Q rest (a.put o.dst v') w') : wpList Try.prog ops Q (o :: rest) a w := by
  obtain ⟨v', w', hrun, h2⟩ := ownC_append w B o.type v fs W0 h k r hk hr hlen
  exact Lib.wpList_append_run w hgd s x 22 22 ho v _ hs hx v' w' hrun (hQ v' w' h2)

end Go.Proofs.Ytgnhkpihlghbmaa

namespace Go.Proofs.Ytgnhkpihlghbmaa
open Go.RowKit
attribute [local go_sem] cell?_more frozen?_more setCell_more size_more tape_more drew_more drewN_more more_drew more_drewN one_out plus_out plus_end lt_one le_p2 le_p3 le_p4 le_p5 le_p6 le_p7 le_p8 le_p9 le_p10 le_p11 le_p12 le_p13 le_p14 le_p15 le_p16 le_p17 le_p18 le_p19 le_p20 le_p21 le_p22 le_p23 le_p24 le_q0 le_q1 lt_q1 le_q2 lt_q2 le_q3 lt_q3 le_q4 lt_q4 le_q5 lt_q5 le_q6 lt_q6 le_q7 lt_q7 le_q8 lt_q8 le_q9 lt_q9 le_q10 lt_q10 le_q11 lt_q11 le_q12 lt_q12 le_q13 lt_q13 le_q14 lt_q14 le_q15 lt_q15 le_q16 lt_q16 le_q17 lt_q17 le_q18 lt_q18 le_q19 lt_q19 le_q20 lt_q20 le_q21 lt_q21 le_q22 lt_q22 le_q23 lt_q23 le_q24 lt_q24

theorem row_adds {w w' : World} {B : Nat} {x : Value} {n : Nat} {xs : List Value} (h : w.ownsRow B 54 6 x n xs) (ha : Adds w w') : w'.ownsRow B 54 6 x n xs := by
  have hb := ha.below
  have hg : w.grownBy w' none := ⟨hb.os, hb.tape, hb.output, hb.size, fun k hk _ => hb.block k hk⟩
  exact h.kept hg (by cases x.ownBlock <;> simp)

theorem row_low {w : World} {B C : Nat} {x : Value} {n : Nat} {xs : List Value} (h : w.ownsRow B 54 6 x n xs) (hC : C ≤ B) : w.ownsRow C 54 6 x n xs := by
  refine ⟨h.1, ?_⟩
  rcases h.2 with h | ⟨g, cap, cur, e, hb, r⟩
  · exact .inl h
  · exact .inr ⟨g, cap, cur, e, Nat.le_trans hC hb, r⟩

theorem clone_row (s : Value) (fs : List F) (w : World) (h : Lst w s fs) (hlen : fs.length ≤ 1000) :
    Calls Try.prog 44 #[s] w fun e w' => (∃ vo vc, e = .returned (.slice vo fs.length vc) ∧ Hid (w'.ownsRow w.heap.size 54 6 (.slice vo fs.length vc) fs.length (cellsF fs))) ∧ Adds w w' :=
  (clone_any s fs w h hlen).mono (by
    rintro e w' ⟨v, rfl, ho⟩
    obtain ⟨ao, cap, rfl, _, _⟩ := ho.lst
    exact ⟨⟨ao, cap, rfl, ho.1⟩, Adds.of ho.2.1⟩)

theorem ownC_step {ops : Array Oper} {o : Oper} {a : Act} {w : World} {K : Act → World → Prop} {Q : Exit → Act → World → Prop} {E : Prop} (hg : o.guard = none) (s x : Operand) (ho : o.op = .call { callee := .builtin .append, args := #[s, x], argTypes := #[22, 22] })
    {B : Nat} {v : Value} {fs : List Rn} {W0 : World} (h : OwnC B v fs W0 w) (hs : a.eval s = v) {k : Nat} (r : Rn) (hx : a.eval x = .slice (some ⟨k, 0, none⟩) 1 1) (hk : w.heap[k]? = some (.cells #[.string r.1.key, r.2] 48 (0, 0))) (hr : w.ownsRow B 54 6 r.2 r.1.doc.length (cellsF r.1.doc)) (hlen : fs.length ≤ 100000)
    (hK : ∀ v' w', OwnC B v' (fs ++ [r]) W0 w' → K (a.put o.dst v') w') : if Region.wanted o (yielded ops a.tmps) = true then Oper.wp Try.prog o a w K Q else E := by
  rw [if_pos (by simp [Region.wanted, hg])]
  obtain ⟨v', w', hrun, h2⟩ := ownC_append w B o.type v fs W0 h k r hk hr hlen
  exact Lib.wp_append_run w s x 22 22 ho v _ hs hx v' w' hrun (hK v' w' h2)

/-- A call of a function by its contract, as one step of a region that draws its order. -/
theorem call_step {ops : Array Oper} {o : Oper} {a : Act} {w : World} {K : Act → World → Prop} {Q : Exit → Act → World → Prop} {E : Prop} (hg : o.guard = none) (f : FuncId) (x : Operand) (t : TypeId)
    (_ho : o.op = .call { callee := .value (.func f), args := #[x], argTypes := #[t] }) (v : Value) (hx : a.eval x = v) {R : Ending → World → Prop}
    (hc : Calls Try.prog f #[v] w R) (hR : ∀ e w', R e w' → ∃ u, e = .returned u) (hrun : (execOp a.eval o).run Try.prog w = .ok (.enter f #[a.eval x]) w) (hk : ∀ u w', R (.returned u) w' → K (a.put o.dst u) w') : if Region.wanted o (yielded ops a.tmps) = true then Oper.wp Try.prog o a w K Q else E := by
  have hw : Region.wanted o (yielded ops a.tmps) = true := by simp [Region.wanted, hg]
  rw [if_pos hw]
  unfold Oper.wp
  rw [hrun, hx]
  simp only [Oper.upon]
  refine hc.mono ?_
  intro e w' h
  obtain ⟨u, rfl⟩ := hR e w' h
  exact hk u w' h

theorem take_map_next {rs : List Rn} {ds : List Dn} {j : Nat} (hj : j < ds.length) (h : rs.map (·.1) = ds.take j) (v : Value) : (rs ++ [(ds[j], v)]).map (·.1) = ds.take (j + 1) := by
  rw [List.map_append, h, List.take_succ_eq_append_getElem hj]
  rfl

set_option maxHeartbeats 2000000 in
set_option maxRecDepth 20000 in
theorem copyOf_any (s : Value) (ds : List Dn) (w : World) (h : LstD w s ds) (hl6 : ds.length ≤ 1000) (hd6 : ∀ d ∈ ds, d.doc.length ≤ 1000) :
    Calls Try.prog 22 #[s] w fun e w' => ∃ v, e = .returned v ∧ ∃ rs, OwnC w.heap.size v rs w w' ∧ rs.map (·.1) = ds := by
  obtain ⟨ao, cap, rfl, hcap, hlo⟩ := h
  have HD6 : Hid (∀ d ∈ ds, d.doc.length ≤ 1000) := hd6
  clear hd6
  go_enter Try.func22, Try.ntmps22
  go_wp2
  go_loopw [3, 8] (fun nv i wr => ∃ (j : Nat) (rs : List Rn), j ≤ ds.length ∧ i = .int .i64 j ∧ Hid (OwnC w.heap.size nv rs w wr) ∧ Hid (rs.map (·.1) = ds.take j) ∧ Hid (rs.length = j)) (fun _ i _ => ds.length - (intOf i).toNat)
  case atStart => exact ⟨0, [], Nat.zero_le _, rfl, OwnC.nil w, by show _ = _; simp, rfl⟩
  case round =>
    obtain ⟨j, rs, hj, rfl, HO, HM, HR⟩ := hrel
    have HA : Hid (Adds w wr) := Adds.of HO.out.2.1
    have hrl : rs.length ≤ 1000 := by rw [HR.out]; omega
    by_cases hlt : j < ds.length
    · rcases hlo with rfl | ⟨b, off, rfl, hb, hl⟩
      · simp at hlt
      obtain ⟨v, c0, c1, hdoc⟩ := hl.adds HA.out hb j hlt
      have hbl : b < wr.heap.size := Nat.lt_of_lt_of_le hb HA.out.below.size
      have hlt' : (j : Int) < (ds.length : Int) := by omega
      have kC := fun W' (hA : Adds wr W') => clone_row v ds[j].doc W' (hdoc.adds hA) (HD6.out _ (List.getElem_mem hlt))
      have HN : Hid (∀ v : Value, (rs ++ [((ds[j], v) : Rn)]).map (·.1) = ds.take (j + 1)) := fun v => take_map_next hlt HM.out v
      have hBw : w.heap.size ≤ wr.heap.size := HA.out.below.size
      obtain ⟨vo, vc, rfl, _, _⟩ := hdoc
      have he : ∃ ky dc, ds[j] = ⟨ky, dc⟩ := ⟨_, _, rfl⟩
      obtain ⟨ky, dc, he⟩ := he
      rw [he] at c0 c1 kC
      have HN' : Hid (∀ v : Value, (rs ++ [((⟨ky, dc⟩, v) : Rn)]).map (·.1) = ds.take (j + 1)) := fun v => by rw [← he]; exact HN.out v
      clear HN he
      simp only at c0 c1 kC
      go_wp2
      go_region_law (first
        | (refine call_step rfl 44 (.tmp 16) 29 rfl _ rfl (kC _ (by repeat (first | with_reducible exact Adds.refl _ | with_reducible refine Adds.alloc ?_ _ | with_reducible refine Adds.more ?_ _ _ | with_reducible refine Adds.drew ?_ | with_reducible refine Adds.drewN ?_ _))) (by rintro e w' ⟨⟨v5, c5, h, _⟩, _⟩; exact ⟨_, h⟩) (by go_simp) ?_; rintro u5 w5 ⟨⟨v5, c5, he5, HL5⟩, os5, n5, rfl⟩; obtain rfl := Ending.returned.inj he5; clear he5; have HL5q := HL5.out; simp only [more_drew] at HL5q; clear HL5; have HL5 : Hid _ := HL5q; clear HL5q)
        | (refine ownC_step rfl (.tmp 12) (.tmp 19) rfl (B := w.heap.size) (fs := rs) (W0 := w) ?_ rfl ((⟨ky, dc⟩, .slice v5 dc.length c5) : Rn) rfl ?_ ?_ ?_ ?_; exact OwnC.adds HO.out (by repeat (first | with_reducible exact Adds.refl _ | with_reducible refine Adds.alloc ?_ _ | with_reducible refine Adds.more ?_ _ _ | with_reducible refine Adds.drew ?_ | with_reducible refine Adds.drewN ?_ _)); exact at_new49 _ _ _ _ (by simp [go_sem]); (refine row_low (row_adds (Hid.out HL5) (by repeat (first | with_reducible exact Adds.refl _ | with_reducible refine Adds.alloc ?_ _ | with_reducible refine Adds.more ?_ _ _ | with_reducible refine Adds.drew ?_ | with_reducible refine Adds.drewN ?_ _))) ?_; simp; omega); omega; intro v6 w6 HO6'; have HO6 : Hid (OwnC w.heap.size v6 (rs ++ [((⟨ky, dc⟩, .slice v5 dc.length c5) : Rn)]) w w6) := HO6'; clear HO6'))
      all_goals
        go_wp2
        go_roundw
        case rel => exact ⟨j + 1, rs ++ [((⟨ky, dc⟩, .slice v5 dc.length c5) : Rn)], by omega, by go_num, HO6, HN'.out _, by show _ = _; simp [HR.out]⟩
        case measure => simp [intOf]; omega
    · have hlt' : ¬ (j : Int) < (ds.length : Int) := by omega
      have hj' : j = ds.length := by omega
      subst hj'
      rw [List.take_length] at HM
      go_wp2
      go_ret
      exact ⟨_, rfl, rs, HO.out, HM.out⟩

end Go.Proofs.Ytgnhkpihlghbmaa
