/-
  Rows of documents that grow; the reference's Fold, by contract.
  The reference's Fold, by contract.
-/
import Derived.Test.YtiacnmcdfpmcfaaGreatDoorT40
namespace Go.Proofs.YtiacnmcdfpmcfaaGreatDoor
open Go.RowKit
attribute [local go_sem] cell?_more frozen?_more setCell_more size_more tape_more drew_more drewN_more more_drew more_drewN one_out plus_out plus_end lt_one le_p2 le_p3 le_p4 le_p5 le_p6 le_p7 le_p8 le_p9 le_p10 le_p11 le_p12 le_p13 le_p14 le_p15 le_p16 le_p17 le_p18 le_p19 le_p20 le_p21 le_p22 le_p23 le_p24 le_q0 le_q1 lt_q1 le_q2 lt_q2 le_q3 lt_q3 le_q4 lt_q4 le_q5 lt_q5 le_q6 lt_q6 le_q7 lt_q7 le_q8 lt_q8 le_q9 lt_q9 le_q10 lt_q10 le_q11 lt_q11 le_q12 lt_q12 le_q13 lt_q13 le_q14 lt_q14 le_q15 lt_q15 le_q16 lt_q16 le_q17 lt_q17 le_q18 lt_q18 le_q19 lt_q19 le_q20 lt_q20 le_q21 lt_q21 le_q22 lt_q22 le_q23 lt_q23 le_q24 lt_q24

theorem Tryz.info67 : (Tryz.prog.info? 67).map (fun i => (i.zero, i.size, i.bytes)) = some (some (.agg #[.string ⟨#[]⟩, .slice none 0 0]), 2, 40) := by kernel_rfl

/-- A document, and the slice that it lies at. -/
abbrev Rn := Dn × Value

def cellsRn (rs : List Rn) : List Value := rs.flatMap fun r => [.string r.1.key, r.2]

theorem cellsRn_length (rs : List Rn) : (cellsRn rs).length = rs.length * 2 := by
  induction rs with
  | nil => rfl
  | cons f r ih =>
    simp only [cellsRn, List.flatMap_cons, List.length_append, List.length_cons] at *
    rw [ih]
    simp
    omega

theorem cellsRn_append (l t : List Rn) : cellsRn (l ++ t) = cellsRn l ++ cellsRn t := by simp [cellsRn]

theorem cellsRn_get (fs : List Rn) (i : Nat) (hi : i < fs.length) (r : Nat) (hr : r < 2) : (cellsRn fs)[i * 2 + r]? = ([.string fs[i].1.key, fs[i].2] : List Value)[r]? := by
  induction fs generalizing i with
  | nil => simp at hi
  | cons f t ih =>
    cases i with
    | zero =>
      simp only [cellsRn, List.flatMap_cons, Nat.zero_mul, Nat.zero_add, List.getElem_cons_zero]
      rw [List.getElem?_append_left (by simp; omega)]
    | succ i =>
      have hi' : i < t.length := by simpa using hi
      simp only [cellsRn, List.flatMap_cons, List.getElem_cons_succ]
      rw [List.getElem?_append_right (by simp; omega)]
      have := ih i hi'
      simp only [cellsRn] at this
      rw [← this]
      congr 1
      simp
      omega

/-- The slice v has the documents rs, in a block from B on that the call owns; below B nothing has turned since W0, and there they lie. -/
def OwnRn (B : Nat) (v : Value) (rs : List Rn) (W0 w : World) : Prop := w.ownsRow B 67 2 v rs.length (cellsRn rs) ∧ Below B W0 w ∧ B ≤ w.heap.size ∧ ∀ r ∈ rs, Lst W0 r.2 r.1.doc

theorem OwnRn.adds {B : Nat} {v : Value} {fs : List Rn} {W0 w w' : World} (h : OwnRn B v fs W0 w) (ha : Adds w w') : OwnRn B v fs W0 w' := by
  have hb := ha.below
  have hg : w.grownBy w' none := ⟨hb.os, hb.tape, hb.output, hb.size, fun k hk _ => hb.block k hk⟩
  refine ⟨h.1.kept hg ?_, h.2.1.trans (hb.mono h.2.2.1), Nat.le_trans h.2.2.1 hb.size, h.2.2.2⟩
  cases v.ownBlock with
  | none => exact .inl rfl
  | some k => exact .inr (by simp)

theorem OwnRn.empty (w : World) : OwnRn w.heap.size (.slice (some ⟨w.heap.size, 0, none⟩) 0 0) [] w (w.alloc (.cells #[] 67)) := by
  refine ⟨⟨by simp [cellsRn], .inr ⟨w.heap.size, 0, #[], rfl, Nat.le_refl _, Sh.new_block2 w _, Nat.zero_le _, by unfold maxLen; omega, by simp, by simp [cellsRn]⟩⟩, ((Adds.refl _).alloc _).below, by simp, fun r h => by cases h⟩

theorem OwnRn.lstD {v : Value} {fs : List Rn} {W0 w : World} (h : OwnRn W0.heap.size v fs W0 w) : LstD w v (fs.map (·.1)) := by
  have hA : Adds W0 w := Adds.of h.2.1
  have hc := fun g => h.1.cells (g := g)
  have hlt := h.1.lt
  rcases h.1.2 with ⟨rfl, hn⟩ | ⟨g, cap, cur, rfl, hb, hg, hnc, hcm, hcs, htk⟩
  · have : fs = [] := List.eq_nil_of_length_eq_zero hn
    subst this
    exact ⟨none, 0, rfl, Nat.le_refl _, .inl rfl⟩
  · refine ⟨_, cap, by rw [List.length_map], by rw [List.length_map]; exact hnc, .inr ⟨g, 0, rfl, (hlt g rfl).2, fun j hj => ?_⟩⟩
    have hj' : j < fs.length := by simpa using hj
    have hk := fun r hr u hu => hc g rfl (j * 2 + r) u ((cellsRn_get fs j hj' r hr).trans hu)
    refine ⟨fs[j].2, ?_, ?_, ?_⟩
    · have := hk 0 (by omega) _ rfl
      rw [Addr.add_lit] at this
      simpa using this
    · have := hk 1 (by omega) _ rfl
      rw [Addr.add_lit] at this
      simpa [Nat.add_assoc] using this
    · rw [List.getElem_map]
      exact (h.2.2.2 _ (List.getElem_mem hj')).adds hA

theorem ownRn_append (w : World) (B : Nat) (ty : TypeId) (v : Value) (fs : List Rn) (W0 : World) (h : OwnRn B v fs W0 w) (k : Nat) (r : Rn) (hk : w.heap[k]? = some (.cells #[.string r.1.key, r.2] 67 (0, 0))) (hr : Lst W0 r.2 r.1.doc) (hlen : fs.length ≤ 100000) :
    ∃ v' w', (Builtin.append_ #[28, 28] ty #[v, .slice (some ⟨k, 0, none⟩) 1 1]).run Tryz.prog w = .ok v' w' ∧ OwnRn B v' (fs ++ [r]) W0 w' := by
  obtain ⟨i0, hi, hz0, hz1, hz2⟩ := info_parts Tryz.info67
  have hone : ∀ u ∈ cellsRn [r], u.oneCell' = true := by
    intro u hu
    simp only [cellsRn, List.flatMap_cons, List.flatMap_nil, List.append_nil, List.mem_cons, List.mem_nil_iff, or_false] at hu
    rcases hu with rfl | rfl
    · rfl
    · obtain ⟨ao, cap, e, _⟩ := hr
      rw [e]
      rfl
  have hcl : ∀ j u, (cellsRn [r])[j]? = some u → w.cell? ((⟨k, 0, none⟩ : Addr).add j) = some u := by
    intro j u hu
    rw [Addr.add_lit, cell_of_row w k _ _ _ _ hk]
    simpa [cellsRn] using hu
  obtain ⟨v', w', h1, h2, h3, _⟩ := run_append_own (P := Tryz.prog) w B 28 ty 67 i0 _ 2 40 Tryz.underlying28 hi hz0 hz1 hz2 rfl (by decide) v fs.length (cellsRn fs) h.1 ⟨k, 0, none⟩ 1 1 (cellsRn [r]) (cellsRn_length [r]) hcl hone (by unfold maxLen; omega) (by omega) h.2.2.1
  refine ⟨v', w', h1, ?_⟩
  refine ⟨by rw [List.length_append, cellsRn_append]; exact h2, ?_, Nat.le_trans h.2.2.1 h3.size, fun x hx => ?_⟩
  · refine ⟨h3.os.trans h.2.1.os, h3.tape.trans h.2.1.tape, h3.output.trans h.2.1.output, Nat.le_trans h.2.1.size h3.size, fun q hq => ?_⟩
    rw [h3.block q (Nat.lt_of_lt_of_le hq h.2.2.1) ?_]
    · exact h.2.1.block q hq
    · intro e
      have := h.1.lt q e.symm
      omega
  · rcases List.mem_append.1 hx with hx | hx
    · exact h.2.2.2 x hx
    · have := List.mem_singleton.1 hx
      subst this
      exact hr

theorem ownRn_app {ops : Array Oper} {rest : List Oper} {o : Oper} {a : Act} {w : World} {Q : Exit → Act → World → Prop} (hgd : o.guard = none) (s x : Operand) (ho : o.op = .call { callee := .builtin .append, args := #[s, x], argTypes := #[28, 28] })
    {B : Nat} {v : Value} {fs : List Rn} {W0 : World} (h : OwnRn B v fs W0 w) (hs : a.eval s = v) {k : Nat} (r : Rn) (hx : a.eval x = .slice (some ⟨k, 0, none⟩) 1 1) (hk : w.heap[k]? = some (.cells #[.string r.1.key, r.2] 67 (0, 0))) (hr : Lst W0 r.2 r.1.doc) (hlen : fs.length ≤ 100000)
    (hQ : ∀ v' w', OwnRn B v' (fs ++ [r]) W0 w' → wpList Tryz.prog ops Q rest (a.put o.dst v') w') : wpList Tryz.prog ops Q (o :: rest) a w := by
  obtain ⟨v', w', hrun, h2⟩ := ownRn_append w B o.type v fs W0 h k r hk hr hlen
  exact Lib.wpList_append_run w hgd s x 28 28 ho v _ hs hx v' w' hrun (hQ v' w' h2)

theorem at_new49 (k : Nat) (W : World) (x y : Value) (hk : k = W.heap.size) : (W.alloc (.cells #[x, y] 67)).heap[k]? = some (.cells #[x, y] 67 (0, 0)) := by
  subst hk
  exact Sh.new_block2 W _

theorem foldGo_next {key : ByteArray} {doc : List F} {put : Bool} {ds : List Dn} {j : Nat} (hj : j < ds.length) :
    foldGo key doc put (ds.drop j) = (if !put && !lessP ds[j].key key then [⟨key, doc⟩] else []) ++ (if ds[j].key.toList = key.toList then [] else [ds[j]]) ++ foldGo key doc (put || !lessP ds[j].key key) (ds.drop (j + 1)) := by
  rw [List.drop_eq_getElem_cons hj]
  rfl

theorem map_fst_one (rs : List Rn) (r : Rn) : (rs ++ [r]).map (·.1) = rs.map (·.1) ++ [r.1] := by simp

end Go.Proofs.YtiacnmcdfpmcfaaGreatDoor
