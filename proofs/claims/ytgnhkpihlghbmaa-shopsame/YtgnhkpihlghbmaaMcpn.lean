/-
  Rows of changes in memory of their own; copyNews of package feed, by contract. copyNews of package feed, by contract.
-/
import Derived.Test.YtgnhkpihlghbmaaChg
import Derived.Test.YtgnhkpihlghbmaaCln
import Derived.Deep.RegionLaw
import Derived.ArgAppend
import Derived.Laws.AppendOwn
namespace Go.Proofs.Ytgnhkpihlghbmaa
open Go.RowKit
attribute [local go_sem] cell?_more frozen?_more setCell_more size_more tape_more drew_more drewN_more more_drew more_drewN one_out plus_out plus_end lt_one le_p2 le_p3 le_p4 le_p5 le_p6 le_p7 le_p8 le_p9 le_p10 le_p11 le_p12 le_p13 le_p14 le_p15 le_p16 le_p17 le_p18 le_p19 le_p20 le_p21 le_p22 le_p23 le_p24 le_q0 le_q1 lt_q1 le_q2 lt_q2 le_q3 lt_q3 le_q4 lt_q4 le_q5 lt_q5 le_q6 lt_q6 le_q7 lt_q7 le_q8 lt_q8 le_q9 lt_q9 le_q10 lt_q10 le_q11 lt_q11 le_q12 lt_q12 le_q13 lt_q13 le_q14 lt_q14 le_q15 lt_q15 le_q16 lt_q16 le_q17 lt_q17 le_q18 lt_q18 le_q19 lt_q19 le_q20 lt_q20 le_q21 lt_q21 le_q22 lt_q22 le_q23 lt_q23 le_q24 lt_q24

theorem at_newH (w : World) (o : Obj) (k : Nat) (hk : k = w.heap.size) : (w.alloc o).heap[k]? = some o := by
  subst hk
  exact new_block2 w o

theorem Try.info40 : (Try.prog.info? 40).map (fun i => (i.zero, i.size, i.bytes)) = some (some (.agg #[.int .i64 0, .string ⟨#[]⟩, .bool false, .slice none 0 0]), 4, 56) := by kernel_rfl

/-- A change, and the slice that its document lies at. -/
abbrev Rh := Ch × Value

def Ch.cells (c : Ch) (v : Value) : List Value := [.int .i64 c.pos, .string c.key, .bool c.has, v]

def cellsH (rs : List Rh) : List Value := rs.flatMap fun r => r.1.cells r.2

theorem cellsH_length (rs : List Rh) : (cellsH rs).length = rs.length * 4 := by
  induction rs with
  | nil => rfl
  | cons f r ih =>
    simp only [cellsH, List.flatMap_cons, List.length_append, List.length_cons] at *
    rw [ih]
    simp [Ch.cells]
    omega

theorem cellsH_append (l t : List Rh) : cellsH (l ++ t) = cellsH l ++ cellsH t := by simp [cellsH]

theorem cellsH_get (fs : List Rh) (i : Nat) (hi : i < fs.length) (r : Nat) (hr : r < 4) : (cellsH fs)[i * 4 + r]? = (fs[i].1.cells fs[i].2)[r]? := by
  induction fs generalizing i with
  | nil => simp at hi
  | cons f t ih =>
    cases i with
    | zero =>
      simp only [cellsH, List.flatMap_cons, Nat.zero_mul, Nat.zero_add, List.getElem_cons_zero]
      rw [List.getElem?_append_left (by simp [Ch.cells]; omega)]
    | succ i =>
      have hi' : i < t.length := by simpa using hi
      simp only [cellsH, List.flatMap_cons, List.getElem_cons_succ]
      rw [List.getElem?_append_right (by simp [Ch.cells]; omega)]
      have := ih i hi'
      simp only [cellsH] at this
      rw [← this]
      congr 1
      simp [Ch.cells]
      omega

/-- A document in a row of its own. -/
def RowF (B : Nat) (w : World) (v : Value) (fs : List F) : Prop := w.ownsRow B 54 6 v fs.length (cellsF fs)

/-- The slice v has the changes rs in a block from B on that the call owns, each document in a block of its own; below B nothing has turned since W0. -/
def OwnH (B : Nat) (v : Value) (rs : List Rh) (W0 w : World) : Prop := w.ownsRow B 40 4 v rs.length (cellsH rs) ∧ Below B W0 w ∧ B ≤ w.heap.size ∧ ∀ r ∈ rs, RowF B w r.2 r.1.doc

theorem otherH {w : World} {B C : Nat} {v x : Value} {n m : Nat} {xs ys : List Value} (h : w.ownsRow B 40 4 v n xs) (h' : w.ownsRow C 54 6 x m ys) : x.ownBlock = none ∨ x.ownBlock ≠ v.ownBlock := by
  rcases h'.2 with ⟨rfl, _⟩ | ⟨g, cap, cur, rfl, _, hg, _⟩
  · exact .inl rfl
  · refine .inr fun e => ?_
    rcases h.2 with ⟨rfl, _⟩ | ⟨g', cap', cur', rfl, _, hg', _⟩
    · cases e
    · simp only [Value.ownBlock, Option.some.injEq] at e
      subst e
      rw [hg] at hg'
      simp at hg'

theorem OwnH.below {B : Nat} {v : Value} {rs : List Rh} {W0 w w' : World} (h : OwnH B v rs W0 w) (hb : Below w.heap.size w w') : OwnH B v rs W0 w' := by
  have hg : w.grownBy w' none := ⟨hb.os, hb.tape, hb.output, hb.size, fun k hk _ => hb.block k hk⟩
  have hx : ∀ x : Value, x.ownBlock = none ∨ x.ownBlock ≠ none := fun x => by cases x.ownBlock <;> simp
  exact ⟨h.1.kept hg (hx v), h.2.1.trans (hb.mono h.2.2.1), Nat.le_trans h.2.2.1 hb.size, fun r hr => World.ownsRow.kept (h.2.2.2 r hr) hg (hx r.2)⟩

theorem OwnH.adds {B : Nat} {v : Value} {rs : List Rh} {W0 w w' : World} (h : OwnH B v rs W0 w) (ha : Adds w w') : OwnH B v rs W0 w' := h.below ha.below

theorem OwnH.nil (w : World) : OwnH w.heap.size (.slice none 0 0) [] w w := ⟨World.ownsRow_nil _ _ _ _, Below.refl _ _, Nat.le_refl _, fun r h => by cases h⟩

theorem RowF.lst {w : World} {B : Nat} {x : Value} {fs : List F} (h : RowF B w x fs) : Lst w x fs := by
  have hc := fun g => World.ownsRow.cells h (g := g)
  have hlt := World.ownsRow.lt h
  rcases h.2 with ⟨rfl, hn⟩ | ⟨g, cap, cur, rfl, hb, hg, hnc, hcm, hcs, htk⟩
  · have : fs = [] := List.eq_nil_of_length_eq_zero hn
    subst this
    exact ⟨none, 0, rfl, Nat.le_refl _, .inl rfl⟩
  · exact ⟨_, cap, rfl, hnc, .inr ⟨g, 0, rfl, (hlt g rfl).2, lies_of (hc g rfl)⟩⟩

theorem RowF.adds {w w' : World} {B : Nat} {x : Value} {fs : List F} (h : RowF B w x fs) (ha : Adds w w') : RowF B w' x fs := by
  have hb := ha.below
  have hg : w.grownBy w' none := ⟨hb.os, hb.tape, hb.output, hb.size, fun k hk _ => hb.block k hk⟩
  exact World.ownsRow.kept h hg (by cases x.ownBlock <;> simp)

theorem RowF.low {w : World} {B C : Nat} {x : Value} {fs : List F} (h : RowF B w x fs) (hC : C ≤ B) : RowF C w x fs := by
  refine ⟨h.1, ?_⟩
  rcases h.2 with h | ⟨g, cap, cur, e, hb, r⟩
  · exact .inl h
  · exact .inr ⟨g, cap, cur, e, Nat.le_trans hC hb, r⟩

theorem OwnH.lstH {B : Nat} {v : Value} {fs : List Rh} {W0 w : World} (h : OwnH B v fs W0 w) : LstH w v (fs.map (·.1)) := by
  have hc := fun g => h.1.cells (g := g)
  have hlt := h.1.lt
  rcases h.1.2 with ⟨rfl, hn⟩ | ⟨g, cap, cur, rfl, hb, hg, hnc, hcm, hcs, htk⟩
  · have : fs = [] := List.eq_nil_of_length_eq_zero hn
    subst this
    exact ⟨none, 0, rfl, Nat.le_refl _, .inl rfl⟩
  · refine ⟨_, cap, by simp, by simpa using hnc, .inr ⟨g, 0, rfl, (hlt g rfl).2, ?_⟩⟩
    intro j hj
    have hj' : j < fs.length := by simpa using hj
    have q := fun r hr u hu => hc g rfl (j * 4 + r) u (by rw [cellsH_get fs j hj' r hr]; exact hu)
    simp only [Addr.add_lit] at q
    refine ⟨fs[j].2, ?_, ?_, ?_, ?_, ?_⟩
    · simpa using q 0 (by omega) _ rfl
    · simpa [Nat.add_assoc] using q 1 (by omega) _ rfl
    · simpa [Nat.add_assoc] using q 2 (by omega) _ rfl
    · simpa [Nat.add_assoc] using q 3 (by omega) _ rfl
    · simpa using RowF.lst (h.2.2.2 _ (List.getElem_mem hj'))

theorem cellsH_one {w : World} {B : Nat} (rs : List Rh) (h : ∀ r ∈ rs, RowF B w r.2 r.1.doc) : ∀ u ∈ cellsH rs, u.oneCell' = true := by
  intro u hu
  simp only [cellsH, List.mem_flatMap] at hu
  obtain ⟨f, hm, hf⟩ := hu
  simp only [Ch.cells, List.mem_cons, List.mem_nil_iff, or_false] at hf
  rcases hf with rfl | rfl | rfl | rfl
  · rfl
  · rfl
  · rfl
  · obtain ⟨ao, cap, e, _⟩ := RowF.lst (h f hm)
    rw [e]
    rfl

/-- append to such a row of changes that lie at an address. -/
theorem ownH_append (w : World) (B : Nat) (ty : TypeId) (v : Value) (fs : List Rh) (W0 : World) (h : OwnH B v fs W0 w) (a : Addr) (n cap : Nat) (gs : List Rh) (hn : gs.length = n) (hcl : ∀ j u, (cellsH gs)[j]? = some u → w.cell? (a.add j) = some u) (hr : ∀ r ∈ gs, RowF B w r.2 r.1.doc) (hlen : fs.length + gs.length ≤ 100000) :
    ∃ v' w', (Builtin.append_ #[26, 26] ty #[v, .slice (some a) n cap]).run Try.prog w = .ok v' w' ∧ OwnH B v' (fs ++ gs) W0 w' ∧ w.grownBy w' v.ownBlock := by
  subst hn
  obtain ⟨i0, hi, hz0, hz1, hz2⟩ := info_parts Try.info40
  obtain ⟨v', w', h1, h2, h3, _⟩ := run_append_own (P := Try.prog) w B 26 ty 40 i0 _ 4 56 Try.underlying26 hi hz0 hz1 hz2 rfl (by decide) v fs.length (cellsH fs) h.1 a gs.length cap (cellsH gs) (cellsH_length gs) hcl (cellsH_one gs hr) (by unfold maxLen; omega) (by omega) h.2.2.1
  refine ⟨v', w', h1, ?_, h3⟩
  refine ⟨by rw [List.length_append, cellsH_append]; exact h2, ?_, Nat.le_trans h.2.2.1 h3.size, fun x hx => ?_⟩
  · refine ⟨h3.os.trans h.2.1.os, h3.tape.trans h.2.1.tape, h3.output.trans h.2.1.output, Nat.le_trans h.2.1.size h3.size, fun q hq => ?_⟩
    rw [h3.block q (Nat.lt_of_lt_of_le hq h.2.2.1) ?_]
    · exact h.2.1.block q hq
    · intro e
      have := h.1.lt q e.symm
      omega
  · have hx' : RowF B w x.2 x.1.doc := by
      rcases List.mem_append.1 hx with hx | hx
      · exact h.2.2.2 x hx
      · exact hr x hx
    exact World.ownsRow.kept hx' h3 (otherH h.1 hx')

theorem ownH_app {ops : Array Oper} {rest : List Oper} {o : Oper} {a : Act} {w : World} {Q : Exit → Act → World → Prop} (hgd : o.guard = none) (s x : Operand) (ho : o.op = .call { callee := .builtin .append, args := #[s, x], argTypes := #[26, 26] })
    {B : Nat} {v : Value} {fs : List Rh} {W0 : World} (h : OwnH B v fs W0 w) (hs : a.eval s = v) {k : Nat} (r : Rh) (hx : a.eval x = .slice (some ⟨k, 0, none⟩) 1 1) (hk : w.heap[k]? = some (.cells #[.int .i64 r.1.pos, .string r.1.key, .bool r.1.has, r.2] 40 (0, 0))) (hr : RowF B w r.2 r.1.doc) (hlen : fs.length ≤ 10000)
    (hQ : ∀ v' w', OwnH B v' (fs ++ [r]) W0 w' → wpList Try.prog ops Q rest (a.put o.dst v') w') : wpList Try.prog ops Q (o :: rest) a w := by
  have hcl : ∀ j u, (cellsH [r])[j]? = some u → w.cell? ((⟨k, 0, none⟩ : Addr).add j) = some u := by
    intro j u hu
    rw [Addr.add_lit, cell_of_row w k _ _ _ _ hk]
    simpa [cellsH, Ch.cells] using hu
  obtain ⟨v', w', hrun, h2, _⟩ := ownH_append w B o.type v fs W0 h ⟨k, 0, none⟩ 1 1 [r] rfl hcl (fun x hx => by have := List.mem_singleton.1 hx; subst this; exact hr) (by simp; omega)
  exact Lib.wpList_append_run w hgd s x 26 26 ho v _ hs hx v' w' hrun (hQ v' w' h2)

theorem clone_rowH (s : Value) (fs : List F) (w : World) (h : Lst w s fs) (hlen : fs.length ≤ 1000) :
    Calls Try.prog 44 #[s] w fun e w' => (∃ vo vc, e = .returned (.slice vo fs.length vc) ∧ Hid (RowF w.heap.size w' (.slice vo fs.length vc) fs)) ∧ Adds w w' :=
  (clone_any s fs w h hlen).mono (by
    rintro e w' ⟨v, rfl, ho⟩
    obtain ⟨ao, cap, rfl, _, _⟩ := ho.lst
    exact ⟨⟨ao, cap, rfl, ho.1⟩, Adds.of ho.2.1⟩)

theorem takeH_next {rs : List Rh} {ds : List Ch} {j : Nat} (hj : j < ds.length) (h : rs.map (·.1) = ds.take j) (v : Value) : (rs ++ [(ds[j], v)]).map (·.1) = ds.take (j + 1) := by
  rw [List.map_append, h, List.take_succ_eq_append_getElem hj]
  rfl

end Go.Proofs.Ytgnhkpihlghbmaa

namespace Go.Proofs.Ytgnhkpihlghbmaa
open Go.RowKit
attribute [local go_sem] cell?_more frozen?_more setCell_more size_more tape_more drew_more drewN_more more_drew more_drewN one_out plus_out plus_end lt_one le_p2 le_p3 le_p4 le_p5 le_p6 le_p7 le_p8 le_p9 le_p10 le_p11 le_p12 le_p13 le_p14 le_p15 le_p16 le_p17 le_p18 le_p19 le_p20 le_p21 le_p22 le_p23 le_p24 le_q0 le_q1 lt_q1 le_q2 lt_q2 le_q3 lt_q3 le_q4 lt_q4 le_q5 lt_q5 le_q6 lt_q6 le_q7 lt_q7 le_q8 lt_q8 le_q9 lt_q9 le_q10 lt_q10 le_q11 lt_q11 le_q12 lt_q12 le_q13 lt_q13 le_q14 lt_q14 le_q15 lt_q15 le_q16 lt_q16 le_q17 lt_q17 le_q18 lt_q18 le_q19 lt_q19 le_q20 lt_q20 le_q21 lt_q21 le_q22 lt_q22 le_q23 lt_q23 le_q24 lt_q24

/-- From block n on nothing has turned, and nothing has gone. -/
def Far (n : Nat) (w w' : World) : Prop := w.heap.size ≤ w'.heap.size ∧ ∀ g, n ≤ g → g < w.heap.size → w'.heap[g]? = w.heap[g]?

theorem Far.refl (n : Nat) (w : World) : Far n w w := ⟨Nat.le_refl _, fun _ _ _ => rfl⟩
theorem Far.mono {n m : Nat} {w w' : World} (h : Far n w w') (hm : n ≤ m) : Far m w w' := ⟨h.1, fun g hg => h.2 g (Nat.le_trans hm hg)⟩
theorem alloc_at {w : World} (o : Obj) {g : Nat} (h : g < w.heap.size) : (w.alloc o).heap[g]? = w.heap[g]? := by
  show (w.heap.push o)[g]? = _
  simp [Array.getElem?_push, Nat.ne_of_lt h]
theorem alloc_size (w : World) (o : Obj) : (w.alloc o).heap.size = w.heap.size + 1 := by
  show (w.heap.push o).size = _
  simp
theorem Far.alloc {n : Nat} {w w' : World} (h : Far n w w') (o : Obj) : Far n w (w'.alloc o) :=
  ⟨by rw [alloc_size]; exact Nat.le_succ_of_le h.1, fun g hg hl => (alloc_at o (Nat.lt_of_lt_of_le hl h.1)).trans (h.2 g hg hl)⟩
theorem Far.more {n : Nat} {w w' : World} (h : Far n w w') (os : Array Obj) (k : Nat) : Far n w (Ytgnhkpihlghbmaa.more w' os k) :=
  ⟨by rw [size_more]; exact Nat.le_trans h.1 (Nat.le_add_right _ _), fun g hg hl => (more_block os k (Nat.lt_of_lt_of_le hl h.1)).trans (h.2 g hg hl)⟩
theorem Far.mores {n : Nat} {w w' : World} (h : Far n w w') (hs : w'.heap.size = w.heap.size) (os : Array Obj) (k k' : Nat) : Far n (Ytgnhkpihlghbmaa.more w os k) (Ytgnhkpihlghbmaa.more w' os k') := by
  refine ⟨by rw [size_more, size_more, hs]; exact Nat.le_refl _, fun g hg hl => ?_⟩
  by_cases hw : g < w.heap.size
  · rw [more_block os k' (by omega), more_block os k hw, h.2 g hg hw]
  · show (w'.heap ++ os)[g]? = (w.heap ++ os)[g]?
    rw [Array.getElem?_append_right (by omega), Array.getElem?_append_right (by omega), hs]
theorem Far.allocs {n : Nat} {w w' : World} (h : Far n w w') (hs : w'.heap.size = w.heap.size) (o : Obj) : Far n (w.alloc o) (w'.alloc o) := by
  refine ⟨by rw [alloc_size, alloc_size, hs]; exact Nat.le_refl _, fun g hg hl => ?_⟩
  by_cases hw : g < w.heap.size
  · rw [alloc_at o (by omega), alloc_at o hw, h.2 g hg hw]
  · rw [alloc_size] at hl
    obtain rfl : g = w.heap.size := by omega
    rw [new_block2, ← hs, new_block2]
theorem Far.low {n : Nat} {w w' : World} (_h : Far n w w') (hs : w'.heap.size = w.heap.size) (hn : w.heap.size < n) (o o' : Obj) : Far n (w.alloc o) (w'.alloc o') := by
  refine ⟨by rw [alloc_size, alloc_size, hs]; exact Nat.le_refl _, fun g hg hl => ?_⟩
  rw [alloc_size] at hl
  omega

theorem row_far {w w' : World} {B : Nat} {ty : TypeId} {k : Nat} {v : Value} {n : Nat} {xs : List Value} (h : w.ownsRow B ty k v n xs) (hk : Far B w w') : w'.ownsRow B ty k v n xs := by
  refine ⟨h.1, ?_⟩
  rcases h.2 with h | ⟨g, cap, cur, e, hb, hg, r⟩
  · exact .inl h
  · refine .inr ⟨g, cap, cur, e, hb, (hk.2 g hb ?_).trans hg, r⟩
    by_cases hl : g < w.heap.size
    · exact hl
    · rw [Array.getElem?_eq_none (by omega)] at hg
      cases hg

theorem row_lower {w : World} {B C : Nat} {ty : TypeId} {k : Nat} {v : Value} {n : Nat} {xs : List Value} (h : w.ownsRow B ty k v n xs) (hC : C ≤ B) : w.ownsRow C ty k v n xs := by
  refine ⟨h.1, ?_⟩
  rcases h.2 with h | ⟨g, cap, cur, e, hb, r⟩
  · exact .inl h
  · exact .inr ⟨g, cap, cur, e, Nat.le_trans hC hb, r⟩

theorem RowF.far {w w' : World} {B : Nat} {v : Value} {fs : List F} (h : RowF B w v fs) (hk : Far B w w') : RowF B w' v fs := row_far h hk

theorem OwnH.far {B C : Nat} {v : Value} {rs : List Rh} {W0 w w' : World} (h : OwnH B v rs W0 w) (hk : Far B w w') (hC : C ≤ B) : OwnH C v rs w' w' :=
  ⟨row_lower (row_far h.1 hk) hC, Below.refl _ _, Nat.le_trans hC (Nat.le_trans h.2.2.1 hk.1), fun r hr => row_lower (row_far (h.2.2.2 r hr) hk) hC⟩

theorem grown_none {w w' : World} (h : w.grownBy w' none) : Adds w w' := Adds.of ⟨h.os, h.tape, h.output, h.size, fun k hk => h.block k hk (by simp)⟩

theorem RowF.box {w : World} {O : Obj} (O' : Obj) {os : Array Obj} {n : Nat} {v : Value} {fs : List F} (h : RowF (w.alloc O).heap.size (more (w.alloc O) os n) v fs) : RowF (w.heap.size + 1) (more (w.alloc O') os n) v fs := by
  rw [alloc_size] at h
  exact h.far (((Far.refl _ w).low rfl (Nat.lt_succ_self _) O O').mores (by rw [alloc_size, alloc_size]) os n n)

end Go.Proofs.Ytgnhkpihlghbmaa
