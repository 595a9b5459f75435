/-
  A box that turns: lists lie elsewhere.
-/
import Derived.Test.YtpjhohmbifpogaaBth
namespace Go.Proofs.Ytpjhohmbifpogaa
open Go.RowKit
attribute [local go_sem] cell?_more frozen?_more setCell_more size_more tape_more drew_more drewN_more more_drew more_drewN one_out plus_out plus_end lt_one le_p2 le_p3 le_p4 le_p5 le_p6 le_p7 le_p8 le_p9 le_p10 le_p11 le_p12 le_p13 le_p14 le_p15 le_p16 le_p17 le_p18 le_p19 le_p20 le_p21 le_p22 le_p23 le_p24 le_q0 le_q1 lt_q1 le_q2 lt_q2 le_q3 lt_q3 le_q4 lt_q4 le_q5 lt_q5 le_q6 lt_q6 le_q7 lt_q7 le_q8 lt_q8 le_q9 lt_q9 le_q10 lt_q10 le_q11 lt_q11 le_q12 lt_q12 le_q13 lt_q13 le_q14 lt_q14 le_q15 lt_q15 le_q16 lt_q16 le_q17 lt_q17 le_q18 lt_q18 le_q19 lt_q19 le_q20 lt_q20 le_q21 lt_q21 le_q22 lt_q22 le_q23 lt_q23 le_q24 lt_q24

/-- But for the block k, which is a feed's box, nothing has turned. -/
def But (k : Nat) (X X' : World) : Prop := X.heap.size ≤ X'.heap.size ∧ (∀ j, j ≠ k → j < X.heap.size → X'.heap[j]? = X.heap[j]?) ∧ (k < X.heap.size → ∃ a b c d e f g h, X.heap[k]? = some (.cells #[.int .i64 a, .int .i64 b, .slice c d e, .slice f g h] 25))

theorem But.refl {k : Nat} {X : World} (hk : X.heap.size ≤ k) : But k X X := ⟨Nat.le_refl _, fun _ _ _ => rfl, fun h => absurd h (by omega)⟩
theorem But.more {k : Nat} {X X' : World} (h : But k X X') (os : Array Obj) (d : Nat) : But k X (Ytpjhohmbifpogaa.more X' os d) :=
  ⟨by rw [size_more]; exact Nat.le_trans h.1 (Nat.le_add_right _ _), fun j hj hl => (more_block os d (Nat.lt_of_lt_of_le hl h.1)).trans (h.2.1 j hj hl), h.2.2⟩
theorem But.alloc {k : Nat} {X X' : World} (h : But k X X') (o : Obj) : But k X (X'.alloc o) :=
  ⟨by rw [alloc_size]; exact Nat.le_succ_of_le h.1, fun j hj hl => (alloc_at o (Nat.lt_of_lt_of_le hl h.1)).trans (h.2.1 j hj hl), h.2.2⟩
theorem But.mores {k : Nat} {X X' : World} (h : But k X X') (hs : X'.heap.size = X.heap.size) (hk : k < X.heap.size) (os : Array Obj) (d d' : Nat) : But k (Ytpjhohmbifpogaa.more X os d) (Ytpjhohmbifpogaa.more X' os d') := by
  refine ⟨by rw [size_more, size_more, hs]; exact Nat.le_refl _, fun j hj hl => ?_, fun _ => ?_⟩
  · by_cases hw : j < X.heap.size
    · rw [more_block os d' (by omega), more_block os d hw, h.2.1 j hj hw]
    · show (X'.heap ++ os)[j]? = (X.heap ++ os)[j]?
      rw [Array.getElem?_append_right (by omega), Array.getElem?_append_right (by omega), hs]
  · rw [more_block os d hk]
    exact h.2.2 hk
theorem But.allocs {k : Nat} {X X' : World} (h : But k X X') (hs : X'.heap.size = X.heap.size) (hk : k < X.heap.size) (o : Obj) : But k (X.alloc o) (X'.alloc o) := by
  refine ⟨by rw [alloc_size, alloc_size, hs]; exact Nat.le_refl _, fun j hj hl => ?_, fun _ => ?_⟩
  · by_cases hw : j < X.heap.size
    · rw [alloc_at o (by omega), alloc_at o hw, h.2.1 j hj hw]
    · rw [alloc_size] at hl
      obtain rfl : j = X.heap.size := by omega
      rw [new_block2, ← hs, new_block2]
  · rw [alloc_at o hk]
    exact h.2.2 hk
theorem But.box {X : World} (a b : Int) (c : Option Addr) (d e : Nat) (f : Option Addr) (g h : Nat) (o' : Obj) : But X.heap.size (X.alloc (.cells #[.int .i64 a, .int .i64 b, .slice c d e, .slice f g h] 25)) (X.alloc o') := by
  refine ⟨by rw [alloc_size, alloc_size]; exact Nat.le_refl _, fun j hj hl => ?_, fun _ => ⟨a, b, c, d, e, f, g, h, new_block2 _ _⟩⟩
  rw [alloc_size] at hl
  have hj' : j < X.heap.size := by omega
  rw [alloc_at _ hj', alloc_at _ hj']

theorem But.cell {k : Nat} {X X' : World} (h : But k X X') {b i : Nat} {v : Value} (hb : b ≠ k) (hc : X.cell? ⟨b, i, none⟩ = some v) : X'.cell? ⟨b, i, none⟩ = some v := by
  have hlt : b < X.heap.size := by
    by_cases hl : b < X.heap.size
    · exact hl
    · simp [World.cell?, Array.getElem?_eq_none (Nat.le_of_not_lt hl)] at hc
  rw [← hc]
  exact World.cell?_of_block (h.2.1 b hb hlt)

theorem But.ne {k : Nat} {X X' : World} (h : But k X X') {b i : Nat} {s : ByteArray} (hc : X.cell? ⟨b, i, none⟩ = some (.string s)) : b ≠ k := by
  rintro rfl
  have hlt : b < X.heap.size := by
    by_cases hl : b < X.heap.size
    · exact hl
    · simp [World.cell?, Array.getElem?_eq_none (Nat.le_of_not_lt hl)] at hc
  obtain ⟨a, b', c, d, e, f, g, h', hk⟩ := h.2.2 hlt
  rw [cell_of_row X b i _ _ _ hk] at hc
  have : i = 0 ∨ i = 1 ∨ i = 2 ∨ i = 3 ∨ 4 ≤ i := by omega
  rcases this with rfl | rfl | rfl | rfl | hi
  · simp at hc
  · simp at hc
  · simp at hc
  · simp at hc
  · rw [Array.getElem?_eq_none (by simpa using hi)] at hc
    cases hc

theorem LstS.but {k : Nat} {X X' : World} {v : Value} {ss : List Sb} (h : LstS X v ss) (hB : But k X X') : LstS X' v ss := by
  obtain ⟨ao, cap, rfl, hc, h | ⟨b, off, rfl, hlt, hl⟩⟩ := h
  · exact ⟨ao, cap, rfl, hc, .inl h⟩
  · refine ⟨_, cap, rfl, hc, .inr ⟨b, off, rfl, Nat.lt_of_lt_of_le hlt hB.1, fun j hj => ?_⟩⟩
    obtain ⟨h0, h1⟩ := hl j hj
    have hne := hB.ne h0
    exact ⟨hB.cell hne h0, hB.cell hne h1⟩

theorem Lst.but {k : Nat} {X X' : World} {v : Value} {fs : List F} (h : Lst X v fs) (hB : But k X X') : Lst X' v fs := by
  obtain ⟨ao, cap, rfl, hc, h | ⟨b, off, rfl, hlt, hl⟩⟩ := h
  · exact ⟨ao, cap, rfl, hc, .inl h⟩
  · refine ⟨_, cap, rfl, hc, .inr ⟨b, off, rfl, Nat.lt_of_lt_of_le hlt hB.1, fun j hj => ?_⟩⟩
    obtain ⟨h0, h1, h2, h3, h4, h5⟩ := hl j hj
    have hne := hB.ne h0
    exact ⟨hB.cell hne h0, hB.cell hne h1, hB.cell hne h2, hB.cell hne h3, hB.cell hne h4, hB.cell hne h5⟩

theorem LstH.but {k : Nat} {X X' : World} {v : Value} {ch : List Ch} (h : LstH X v ch) (hB : But k X X') : LstH X' v ch := by
  obtain ⟨ao, cap, rfl, hc, h | ⟨b, off, rfl, hlt, hl⟩⟩ := h
  · exact ⟨ao, cap, rfl, hc, .inl h⟩
  · refine ⟨_, cap, rfl, hc, .inr ⟨b, off, rfl, Nat.lt_of_lt_of_le hlt hB.1, fun j hj => ?_⟩⟩
    obtain ⟨u, h0, h1, h2, h3, h4⟩ := hl j hj
    have hne := hB.ne h1
    exact ⟨u, hB.cell hne h0, hB.cell hne h1, hB.cell hne h2, hB.cell hne h3, h4.but hB⟩

theorem LstF.but {k : Nat} {X X' : World} {v : Value} {f : Fd} (h : LstF X v f) (hB : But k X X') : LstF X' v f := by
  obtain ⟨s, t, e, hs, ht⟩ := h
  exact ⟨s, t, e, hs.but hB, ht.but hB⟩

/-- Calls by their contracts, as steps of a region that draws its order, whatever guards them. -/
theorem call_step2G {ops : Array Oper} {o : Oper} {a : Act} {w : World} {K : Act → World → Prop} {Q : Exit → Act → World → Prop} {E : Prop} (hw : Region.wanted o (yielded ops a.tmps) = true) (f : FuncId) (x y : Operand) (tx ty : TypeId)
    (_ho : o.op = .call { callee := .value (.func f), args := #[x, y], argTypes := #[tx, ty] }) (v1 v2 : Value) (hx : a.eval x = v1) (hy : a.eval y = v2) {R : Ending → World → Prop}
    (hc : Calls Try.prog f #[v1, v2] w R) (hR : ∀ e w', R e w' → ∃ u, e = .returned u) (hrun : (execOp a.eval o).run Try.prog w = .ok (.enter f #[a.eval x, a.eval y]) w) (hk : ∀ u w', R (.returned u) w' → K (a.put o.dst u) w') : if Region.wanted o (yielded ops a.tmps) = true then Oper.wp Try.prog o a w K Q else E := by
  rw [if_pos hw]
  unfold Oper.wp
  rw [hrun, hx, hy]
  simp only [Oper.upon]
  refine hc.mono ?_
  intro e w' h
  obtain ⟨u, rfl⟩ := hR e w' h
  exact hk u w' h

theorem call_step4G {ops : Array Oper} {o : Oper} {a : Act} {w : World} {K : Act → World → Prop} {Q : Exit → Act → World → Prop} {E : Prop} (hw : Region.wanted o (yielded ops a.tmps) = true) (f : FuncId) (x y z t : Operand) (tx ty tz tt : TypeId)
    (_ho : o.op = .call { callee := .value (.func f), args := #[x, y, z, t], argTypes := #[tx, ty, tz, tt] }) (v1 v2 v3 v4 : Value) (hx : a.eval x = v1) (hy : a.eval y = v2) (hz : a.eval z = v3) (ht : a.eval t = v4) {R : Ending → World → Prop}
    (hc : Calls Try.prog f #[v1, v2, v3, v4] w R) (hR : ∀ e w', R e w' → ∃ u, e = .returned u) (hrun : (execOp a.eval o).run Try.prog w = .ok (.enter f #[a.eval x, a.eval y, a.eval z, a.eval t]) w) (hk : ∀ u w', R (.returned u) w' → K (a.put o.dst u) w') : if Region.wanted o (yielded ops a.tmps) = true then Oper.wp Try.prog o a w K Q else E := by
  rw [if_pos hw]
  unfold Oper.wp
  rw [hrun, hx, hy, hz, ht]
  simp only [Oper.upon]
  refine hc.mono ?_
  intro e w' h
  obtain ⟨u, rfl⟩ := hR e w' h
  exact hk u w' h

/-- One box has turned, and nothing else. -/
def Turned (X X' : World) : Prop := ∃ k, k < X.heap.size ∧ But k X X'
theorem Turned.more {X X' : World} (h : Turned X X') (os : Array Obj) (d : Nat) : Turned X (Ytpjhohmbifpogaa.more X' os d) := by
  obtain ⟨k, hk, h⟩ := h
  exact ⟨k, hk, h.more os d⟩
theorem Turned.alloc {X X' : World} (h : Turned X X') (o : Obj) : Turned X (X'.alloc o) := by
  obtain ⟨k, hk, h⟩ := h
  exact ⟨k, hk, h.alloc o⟩
theorem Turned.mores {X X' : World} (h : Turned X X') (hs : X'.heap.size = X.heap.size) (os : Array Obj) (d d' : Nat) : Turned (Ytpjhohmbifpogaa.more X os d) (Ytpjhohmbifpogaa.more X' os d') := by
  obtain ⟨k, hk, h⟩ := h
  exact ⟨k, by rw [size_more]; omega, h.mores hs hk os d d'⟩
theorem Turned.allocs {X X' : World} (h : Turned X X') (hs : X'.heap.size = X.heap.size) (o : Obj) : Turned (X.alloc o) (X'.alloc o) := by
  obtain ⟨k, hk, h⟩ := h
  exact ⟨k, by rw [alloc_size]; omega, h.allocs hs hk o⟩
theorem Turned.box (X : World) (a b : Int) (c : Option Addr) (d e : Nat) (f : Option Addr) (g h : Nat) (o' : Obj) : Turned (X.alloc (.cells #[.int .i64 a, .int .i64 b, .slice c d e, .slice f g h] 25)) (X.alloc o') :=
  ⟨X.heap.size, by rw [alloc_size]; omega, But.box a b c d e f g h o'⟩
theorem LstF.turned {X X' : World} {v : Value} {f : Fd} (h : LstF X v f) (hB : Turned X X') : LstF X' v f := by
  obtain ⟨k, _, hB⟩ := hB
  exact h.but hB

end Go.Proofs.Ytpjhohmbifpogaa
