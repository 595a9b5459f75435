/-
  Rows of documents in memory of their own; copyOf of package shop, by contract.
-/
import Derived.Test.YtgnhkpihlghbmaaSap
namespace Go.Proofs.Ytgnhkpihlghbmaa
open Go.RowKit
attribute [local go_sem] cell?_more frozen?_more setCell_more size_more tape_more drew_more drewN_more more_drew more_drewN one_out plus_out plus_end lt_one le_p2 le_p3 le_p4 le_p5 le_p6 le_p7 le_p8 le_p9 le_p10 le_p11 le_p12 le_p13 le_p14 le_p15 le_p16 le_p17 le_p18 le_p19 le_p20 le_p21 le_p22 le_p23 le_p24 le_q0 le_q1 lt_q1 le_q2 lt_q2 le_q3 lt_q3 le_q4 lt_q4 le_q5 lt_q5 le_q6 lt_q6 le_q7 lt_q7 le_q8 lt_q8 le_q9 lt_q9 le_q10 lt_q10 le_q11 lt_q11 le_q12 lt_q12 le_q13 lt_q13 le_q14 lt_q14 le_q15 lt_q15 le_q16 lt_q16 le_q17 lt_q17 le_q18 lt_q18 le_q19 lt_q19 le_q20 lt_q20 le_q21 lt_q21 le_q22 lt_q22 le_q23 lt_q23 le_q24 lt_q24

/-- The slice v has the documents rs in a block from B on that the call owns, each in a block of its own; below B nothing has turned since W0. -/
def OwnC (B : Nat) (v : Value) (rs : List Rn) (W0 w : World) : Prop := w.ownsRow B 48 2 v rs.length (cellsRn rs) ∧ Below B W0 w ∧ B ≤ w.heap.size ∧ ∀ r ∈ rs, w.ownsRow B 54 6 r.2 r.1.doc.length (cellsF r.1.doc)

theorem other {w : World} {B C : Nat} {v x : Value} {n m : Nat} {xs ys : List Value} (h : w.ownsRow B 48 2 v n xs) (h' : w.ownsRow C 54 6 x m ys) : x.ownBlock = none ∨ x.ownBlock ≠ v.ownBlock := by
  rcases h'.2 with ⟨rfl, _⟩ | ⟨g, cap, cur, rfl, _, hg, _⟩
  · exact .inl rfl
  · refine .inr fun e => ?_
    rcases h.2 with ⟨rfl, _⟩ | ⟨g', cap', cur', rfl, _, hg', _⟩
    · cases e
    · simp only [Value.ownBlock, Option.some.injEq] at e
      subst e
      rw [hg] at hg'
      simp at hg'

theorem OwnC.below {B : Nat} {v : Value} {rs : List Rn} {W0 w w' : World} (h : OwnC B v rs W0 w) (hb : Below w.heap.size w w') : OwnC B v rs W0 w' := by
  have hg : w.grownBy w' none := ⟨hb.os, hb.tape, hb.output, hb.size, fun k hk _ => hb.block k hk⟩
  have hx : ∀ x : Value, x.ownBlock = none ∨ x.ownBlock ≠ none := fun x => by cases x.ownBlock <;> simp
  exact ⟨h.1.kept hg (hx v), h.2.1.trans (hb.mono h.2.2.1), Nat.le_trans h.2.2.1 hb.size, fun r hr => (h.2.2.2 r hr).kept hg (hx r.2)⟩

theorem OwnC.adds {B : Nat} {v : Value} {rs : List Rn} {W0 w w' : World} (h : OwnC B v rs W0 w) (ha : Adds w w') : OwnC B v rs W0 w' := h.below ha.below

theorem OwnC.nil (w : World) : OwnC w.heap.size (.slice none 0 0) [] w w := ⟨World.ownsRow_nil _ _ _ _, Below.refl _ _, Nat.le_refl _, fun r h => by cases h⟩

theorem row_lst {w : World} {B : Nat} {x : Value} {fs : List F} (h : w.ownsRow B 54 6 x fs.length (cellsF fs)) : Lst w x fs := by
  have hc := fun g => h.cells (g := g)
  have hlt := h.lt
  rcases h.2 with ⟨rfl, hn⟩ | ⟨g, cap, cur, rfl, hb, hg, hnc, hcm, hcs, htk⟩
  · have : fs = [] := List.eq_nil_of_length_eq_zero hn
    subst this
    exact ⟨none, 0, rfl, Nat.le_refl _, .inl rfl⟩
  · exact ⟨_, cap, rfl, hnc, .inr ⟨g, 0, rfl, (hlt g rfl).2, lies_of (hc g rfl)⟩⟩

theorem OwnC.lstD {B : Nat} {v : Value} {fs : List Rn} {W0 w : World} (h : OwnC B v fs W0 w) : LstD w v (fs.map (·.1)) := by
  have hc := fun g => h.1.cells (g := g)
  have hlt := h.1.lt
  rcases h.1.2 with ⟨rfl, hn⟩ | ⟨g, cap, cur, rfl, hb, hg, hnc, hcm, hcs, htk⟩
  · have : fs = [] := List.eq_nil_of_length_eq_zero hn
    subst this
    exact ⟨none, 0, rfl, Nat.le_refl _, .inl rfl⟩
  · refine ⟨_, cap, by simp, by simpa using hnc, .inr ⟨g, 0, rfl, (hlt g rfl).2, ?_⟩⟩
    intro j hj
    have hj' : j < fs.length := by simpa using hj
    have q := fun r hr u hu => hc g rfl (j * 2 + r) u (by rw [cellsRn_get fs j hj' r hr]; exact hu)
    simp only [Addr.add_lit] at q
    refine ⟨fs[j].2, ?_, ?_, ?_⟩
    · simpa using q 0 (by omega) _ rfl
    · simpa [Nat.add_assoc] using q 1 (by omega) _ rfl
    · simpa using row_lst (h.2.2.2 _ (List.getElem_mem hj'))

theorem ownC_append (w : World) (B : Nat) (ty : TypeId) (v : Value) (fs : List Rn) (W0 : World) (h : OwnC B v fs W0 w) (k : Nat) (r : Rn) (hk : w.heap[k]? = some (.cells #[.string r.1.key, r.2] 48 (0, 0))) (hr : w.ownsRow B 54 6 r.2 r.1.doc.length (cellsF r.1.doc)) (hlen : fs.length ≤ 100000) :
    ∃ v' w', (Builtin.append_ #[22, 22] ty #[v, .slice (some ⟨k, 0, none⟩) 1 1]).run Try.prog w = .ok v' w' ∧ OwnC B v' (fs ++ [r]) W0 w' := by
  obtain ⟨i0, hi, hz0, hz1, hz2⟩ := info_parts Try.info48
  have hone : ∀ u ∈ cellsRn [r], u.oneCell' = true := by
    intro u hu
    simp only [cellsRn, List.flatMap_cons, List.flatMap_nil, List.append_nil, List.mem_cons, List.mem_nil_iff, or_false] at hu
    rcases hu with rfl | rfl
    · rfl
    · obtain ⟨ao, cap, e, _⟩ := row_lst hr
      rw [e]
      rfl
  have hcl : ∀ j u, (cellsRn [r])[j]? = some u → w.cell? ((⟨k, 0, none⟩ : Addr).add j) = some u := by
    intro j u hu
    rw [Addr.add_lit, cell_of_row w k _ _ _ _ hk]
    simpa [cellsRn] using hu
  obtain ⟨v', w', h1, h2, h3, _⟩ := run_append_own (P := Try.prog) w B 22 ty 48 i0 _ 2 40 Try.underlying22 hi hz0 hz1 hz2 rfl (by decide) v fs.length (cellsRn fs) h.1 ⟨k, 0, none⟩ 1 1 (cellsRn [r]) (cellsRn_length [r]) hcl hone (by unfold maxLen; omega) (by omega) h.2.2.1
  refine ⟨v', w', h1, ?_⟩
  refine ⟨by rw [List.length_append, cellsRn_append]; exact h2, ?_, Nat.le_trans h.2.2.1 h3.size, fun x hx => ?_⟩
  · refine ⟨h3.os.trans h.2.1.os, h3.tape.trans h.2.1.tape, h3.output.trans h.2.1.output, Nat.le_trans h.2.1.size h3.size, fun q hq => ?_⟩
    rw [h3.block q (Nat.lt_of_lt_of_le hq h.2.2.1) ?_]
    · exact h.2.1.block q hq
    · intro e
      have := h.1.lt q e.symm
      omega
  · have hx' : w.ownsRow B 54 6 x.2 x.1.doc.length (cellsF x.1.doc) := by
      rcases List.mem_append.1 hx with hx | hx
      · exact h.2.2.2 x hx
      · have := List.mem_singleton.1 hx
        subst this
        exact hr
    exact hx'.kept h3 (other h.1 hx')

theorem ownC_app {ops : Array Oper} {rest : List Oper} {o : Oper} {a : Act} {w : World} {Q : Exit → Act → World → Prop} (hgd : o.guard = none) (s x : Operand) (ho : o.op = .call { callee := .builtin .append, args := #[s, x], argTypes := #[22, 22] })
    {B : Nat} {v : Value} {fs : List Rn} {W0 : World} (h : OwnC B v fs W0 w) (hs : a.eval s = v) {k : Nat} (r : Rn) (hx : a.eval x = .slice (some ⟨k, 0, none⟩) 1 1) (hk : w.heap[k]? = some (.cells #[.string r.1.key, r.2] 48 (0, 0))) (hr : w.ownsRow B 54 6 r.2 r.1.doc.length (cellsF r.1.doc)) (hlen : fs.length ≤ 100000)
    (hQ : ∀ v' w', OwnC B v' (fs ++ [r]) W0 w' → wpList Try.prog ops Q rest (a.put o.dst v') w') : wpList Try.prog ops Q (o :: rest) a w := by
  obtain ⟨v', w', hrun, h2⟩ := ownC_append w B o.type v fs W0 h k r hk hr hlen
  exact Lib.wpList_append_run w hgd s x 22 22 ho v _ hs hx v' w' hrun (hQ v' w' h2)

end Go.Proofs.Ytgnhkpihlghbmaa
