/-
  Rows of fields that a call owns; slices.Clone of a document, by contract.
-/
import Derived.Test.YtgnhkpihlghbmaaIxfc
namespace Go.Proofs.Ytgnhkpihlghbmaa
open Go.RowKit
attribute [local go_sem] cell?_more frozen?_more setCell_more size_more tape_more drew_more drewN_more more_drew more_drewN one_out plus_out plus_end lt_one le_p2 le_p3 le_p4 le_p5 le_p6 le_p7 le_p8 le_p9 le_p10 le_p11 le_p12 le_p13 le_p14 le_p15 le_p16 le_p17 le_p18 le_p19 le_p20 le_p21 le_p22 le_p23 le_p24 le_q0 le_q1 lt_q1 le_q2 lt_q2 le_q3 lt_q3 le_q4 lt_q4 le_q5 lt_q5 le_q6 lt_q6 le_q7 lt_q7 le_q8 lt_q8 le_q9 lt_q9 le_q10 lt_q10 le_q11 lt_q11 le_q12 lt_q12 le_q13 lt_q13 le_q14 lt_q14 le_q15 lt_q15 le_q16 lt_q16 le_q17 lt_q17 le_q18 lt_q18 le_q19 lt_q19 le_q20 lt_q20 le_q21 lt_q21 le_q22 lt_q22 le_q23 lt_q23 le_q24 lt_q24

theorem Try.info54 : (Try.prog.info? 54).map (fun i => (i.zero, i.size, i.bytes)) = some (some (.agg #[.string ⟨#[]⟩, .int .i64 0, .int .i64 0, .string ⟨#[]⟩, .int .i64 0, .int .i64 0]), 6, 64) := by kernel_rfl

def F.cells (f : F) : List Value := [.string f.path, .int .i64 f.val.kind, .int .i64 f.val.num, .string f.val.text, .int .i64 f.val.re, .int .i64 f.val.im]

def cellsF (fs : List F) : List Value := fs.flatMap F.cells

theorem cellsF_length (fs : List F) : (cellsF fs).length = fs.length * 6 := by
  induction fs with
  | nil => rfl
  | cons f r ih =>
    simp only [cellsF, List.flatMap_cons, List.length_append, List.length_cons] at *
    rw [ih]
    simp [F.cells]
    omega

theorem cellsF_append (l t : List F) : cellsF (l ++ t) = cellsF l ++ cellsF t := by simp [cellsF]

theorem cellsF_get (fs : List F) (i : Nat) (hi : i < fs.length) (r : Nat) (hr : r < 6) : (cellsF fs)[i * 6 + r]? = fs[i].cells[r]? := by
  induction fs generalizing i with
  | nil => simp at hi
  | cons f t ih =>
    cases i with
    | zero =>
      simp only [cellsF, List.flatMap_cons, Nat.zero_mul, Nat.zero_add, List.getElem_cons_zero]
      rw [List.getElem?_append_left (by simp [F.cells]; omega)]
    | succ i =>
      have hi' : i < t.length := by simpa using hi
      simp only [cellsF, List.flatMap_cons, List.getElem_cons_succ]
      rw [List.getElem?_append_right (by simp [F.cells]; omega)]
      have := ih i hi'
      simp only [cellsF] at this
      rw [← this]
      congr 1
      simp [F.cells]
      omega

theorem cellsF_one (fs : List F) : ∀ u ∈ cellsF fs, u.oneCell' = true := by
  intro u hu
  simp only [cellsF, List.mem_flatMap] at hu
  obtain ⟨f, _, hf⟩ := hu
  simp only [F.cells, List.mem_cons, List.mem_nil_iff, or_false] at hf
  rcases hf with rfl | rfl | rfl | rfl | rfl | rfl <;> rfl

theorem Lies.cells {w : World} {b off : Nat} {fs : List F} (h : Lies w b off fs) : ∀ j u, (cellsF fs)[j]? = some u → w.cell? ((⟨b, off, none⟩ : Addr).add j) = some u := by
  intro j u hu
  have hj : j < fs.length * 6 := by
    by_cases hj : j < fs.length * 6
    · exact hj
    · rw [List.getElem?_eq_none (by rw [cellsF_length]; omega)] at hu
      cases hu
  have hi : j / 6 < fs.length := by omega
  have he : j / 6 * 6 + j % 6 = j := by omega
  rw [← he, cellsF_get fs (j / 6) hi (j % 6) (by omega)] at hu
  obtain ⟨h0, h1, h2, h3, h4, h5⟩ := h (j / 6) hi
  have ha : ((⟨b, off, none⟩ : Addr).add j) = ⟨b, off + j / 6 * 6 + j % 6, none⟩ := by
    rw [Addr.add_lit]
    congr 1
    omega
  rw [ha]
  have h6 : j % 6 = 0 ∨ j % 6 = 1 ∨ j % 6 = 2 ∨ j % 6 = 3 ∨ j % 6 = 4 ∨ j % 6 = 5 := by omega
  rcases h6 with h | h | h | h | h | h <;> rw [h] at hu ⊢ <;> simp [F.cells] at hu <;> subst hu <;> assumption

theorem lies_of {w : World} {b off : Nat} {fs : List F} (h : ∀ j u, (cellsF fs)[j]? = some u → w.cell? ((⟨b, off, none⟩ : Addr).add j) = some u) : Lies w b off fs := by
  intro i hi
  have hg := fun (r : Nat) (hr : r < 6) u (hu : fs[i].cells[r]? = some u) => h (i * 6 + r) u (by rw [cellsF_get fs i hi r hr]; exact hu)
  simp only [Addr.add_lit] at hg
  refine ⟨?_, ?_, ?_, ?_, ?_, ?_⟩
  · simpa using hg 0 (by omega) _ rfl
  · simpa [Nat.add_assoc] using hg 1 (by omega) _ rfl
  · simpa [Nat.add_assoc] using hg 2 (by omega) _ rfl
  · simpa [Nat.add_assoc] using hg 3 (by omega) _ rfl
  · simpa [Nat.add_assoc] using hg 4 (by omega) _ rfl
  · simpa [Nat.add_assoc] using hg 5 (by omega) _ rfl

/-- The slice v has the fields fs, in a block from B on that the call owns; below B nothing has turned since W0. -/
def Own (B : Nat) (v : Value) (fs : List F) (W0 w : World) : Prop := w.ownsRow B 54 6 v fs.length (cellsF fs) ∧ Below B W0 w ∧ B ≤ w.heap.size

theorem Own.nil (B : Nat) (w : World) (hB : B ≤ w.heap.size) : Own B (.slice none 0 0) [] w w := ⟨World.ownsRow_nil _ _ _ _, Below.refl _ _, hB⟩

theorem Own.below {B : Nat} {v : Value} {fs : List F} {W0 w w' : World} (h : Own B v fs W0 w) (hb : Below w.heap.size w w') : Own B v fs W0 w' := by
  have hg : w.grownBy w' none := ⟨hb.os, hb.tape, hb.output, hb.size, fun k hk _ => hb.block k hk⟩
  refine ⟨h.1.kept hg ?_, h.2.1.trans (hb.mono h.2.2), Nat.le_trans h.2.2 hb.size⟩
  cases v.ownBlock with
  | none => exact .inl rfl
  | some k => exact .inr (by simp)

theorem Own.adds {B : Nat} {v : Value} {fs : List F} {W0 w w' : World} (h : Own B v fs W0 w) (hb : Adds w w') : Own B v fs W0 w' := h.below hb.below
theorem Own.alloc {B : Nat} {v : Value} {fs : List F} {W0 w : World} (h : Own B v fs W0 w) (o : Obj) : Own B v fs W0 (w.alloc o) := h.adds ((Adds.refl _).alloc o)
theorem Own.drewN {B : Nat} {v : Value} {fs : List F} {W0 w : World} (h : Own B v fs W0 w) (n : Nat) : Own B v fs W0 (w.drewN n) := h.adds ((Adds.refl _).drewN n)

theorem Own.lst {B : Nat} {v : Value} {fs : List F} {W0 w : World} (h : Own B v fs W0 w) : Lst w v fs := by
  have hc := fun g => h.1.cells (g := g)
  have hlt := h.1.lt
  rcases h.1.2 with ⟨rfl, hn⟩ | ⟨g, cap, cur, rfl, hb, hg, hnc, hcm, hcs, htk⟩
  · have : fs = [] := List.eq_nil_of_length_eq_zero hn
    subst this
    exact ⟨none, 0, rfl, Nat.le_refl _, .inl rfl⟩
  · exact ⟨_, cap, rfl, hnc, .inr ⟨g, 0, rfl, (hlt g rfl).2, lies_of (hc g rfl)⟩⟩

/-- append to such a row, of fields that lie somewhere. -/
theorem own_append (w : World) (B : Nat) (ty : TypeId) (v : Value) (fs : List F) (W0 : World) (h : Own B v fs W0 w) (x : Value) (gs : List F) (hx : Lst w x gs) (hlen : fs.length + gs.length ≤ 100000) :
    ∃ v' w', (Builtin.append_ #[29, 29] ty #[v, x]).run Try.prog w = .ok v' w' ∧ Own B v' (fs ++ gs) W0 w' := by
  obtain ⟨i0, hi, hz0, hz1, hz2⟩ := info_parts Try.info54
  obtain ⟨ao, cap, rfl, hcap, hxs⟩ := hx
  have key : ∀ v' w', w'.ownsRow B 54 6 v' (fs.length + gs.length) (cellsF fs ++ cellsF gs) → w.grownBy w' v.ownBlock → Own B v' (fs ++ gs) W0 w' := by
    intro v' w' h2 h3
    refine ⟨by rw [List.length_append, cellsF_append]; exact h2, ?_, Nat.le_trans h.2.2 h3.size⟩
    refine ⟨h3.os.trans h.2.1.os, h3.tape.trans h.2.1.tape, h3.output.trans h.2.1.output, Nat.le_trans h.2.1.size h3.size, fun k hk => ?_⟩
    rw [h3.block k (Nat.lt_of_lt_of_le hk h.2.2) ?_]
    · exact h.2.1.block k hk
    · intro e
      have := h.1.lt k e.symm
      omega
  rcases hxs with rfl | ⟨b, off, rfl, hb, hl⟩
  · have hrun : (Builtin.append_ #[29, 29] ty #[v, .slice ao 0 cap]).run Try.prog w = .ok v w := by
      rcases h.1.2 with ⟨rfl, hn⟩ | ⟨g, cp, cur, rfl, hbb, hg, hnc, hcm, hcs, htk⟩
      · cases ao <;> simp [Builtin.append_, run_underlying Try.underlying29, sizeOf, typeInfo, hi, Builtin.lenOf, Builtin.firstCells, loadCells, loadCellsFrom]
      · cases ao <;> simp [Builtin.append_, run_underlying Try.underlying29, sizeOf, typeInfo, hi, Builtin.lenOf, Builtin.firstCells, loadCells, loadCellsFrom, hnc, storeCells]
    refine ⟨v, w, by simpa using hrun, ?_⟩
    rw [List.append_nil]
    exact h
  · obtain ⟨v', w', h1, h2, h3, _⟩ := run_append_own (P := Try.prog) w B 29 ty 54 i0 _ 6 64 Try.underlying29 hi hz0 hz1 hz2 rfl (by decide) v fs.length (cellsF fs) h.1 ⟨b, off, none⟩ gs.length cap (cellsF gs) (cellsF_length gs) hl.cells (cellsF_one gs) (by unfold maxLen; omega) (by omega) h.2.2
    exact ⟨v', w', h1, key v' w' h2 h3⟩

theorem own_app {ops : Array Oper} {rest : List Oper} {o : Oper} {a : Act} {w : World} {Q : Exit → Act → World → Prop} (hgd : o.guard = none) (s x : Operand) (ho : o.op = .call { callee := .builtin .append, args := #[s, x], argTypes := #[29, 29] })
    {B : Nat} {v : Value} {fs : List F} {W0 : World} (h : Own B v fs W0 w) (hs : a.eval s = v) {x' : Value} {gs : List F} (hg : Lst w x' gs) (hx : a.eval x = x') (hlen : fs.length + gs.length ≤ 100000)
    (hk : ∀ v' w', Own B v' (fs ++ gs) W0 w' → wpList Try.prog ops Q rest (a.put o.dst v') w') : wpList Try.prog ops Q (o :: rest) a w := by
  obtain ⟨v', w', hr, h2⟩ := own_append w B o.type v fs W0 h x' gs hg hlen
  exact Lib.wpList_append_run w hgd s x 29 29 ho v x' hs hx v' w' hr (hk v' w' h2)

theorem lst_one (f : F) (w : World) (T : TypeId) : Lst (w.alloc (.cells #[.string f.path, .int .i64 f.val.kind, .int .i64 f.val.num, .string f.val.text, .int .i64 f.val.re, .int .i64 f.val.im] T)) (.slice (some ⟨w.heap.size, 0, none⟩) 1 1) [f] := by
  refine ⟨_, 1, rfl, Nat.le_refl _, .inr ⟨w.heap.size, 0, rfl, by simp, ?_⟩⟩
  intro j hj
  have : j = 0 := by simpa using hj
  subst this
  simp

theorem eql_none (n c : Nat) (w : World) : (binOp .eql 29 (.slice none n c) (.slice none 0 0)).run Try.prog w = .ok (.bool true) w := by kernel_rfl
theorem eql_some (a : Addr) (n c : Nat) (w : World) : (binOp .eql 29 (.slice (some a) n c) (.slice none 0 0)).run Try.prog w = .ok (.bool false) w := by kernel_rfl

theorem Own.empty (w : World) : Own w.heap.size (.slice (some ⟨w.heap.size, 0, none⟩) 0 0) [] w (w.alloc (.cells #[] 54)) := by
  refine ⟨⟨by simp [cellsF], .inr ⟨w.heap.size, 0, #[], rfl, Nat.le_refl _, new_block2 w _, Nat.zero_le _, by unfold maxLen; omega, by simp, by simp [cellsF]⟩⟩, ((Adds.refl _).alloc _).below, by simp⟩

set_option maxHeartbeats 1000000 in
set_option maxRecDepth 20000 in
theorem clone_any (s : Value) (fs : List F) (w : World) (h : Lst w s fs) (hlen : fs.length ≤ 1000) :
    Calls Try.prog 44 #[s] w fun e w' => ∃ v, e = .returned v ∧ Own w.heap.size v fs w w' := by
  have h0 := h
  obtain ⟨ao, cap, rfl, hc, hx⟩ := h
  cases ao with
  | none =>
    obtain rfl : fs = [] := by
      rcases hx with h | ⟨b, off, h, _⟩
      · exact h
      · cases h
    clear h0 hx
    have hb := fun n => eql_none n cap w
    have hb := hb ([] : List F).length
    go_enter Try.func44, Try.ntmps44
    go_wp2
    go_ret
    exact ⟨_, rfl, Own.nil _ _ (Nat.le_refl _)⟩
  | some a =>
    have hE := Own.empty w
    have hL := h0.adds ((Adds.refl w).alloc (.cells #[] 54))
    clear h0 hx
    have hb := eql_some a fs.length cap w
    go_enter Try.func44, Try.ntmps44
    go_wp2_with (at_builtin; refine own_app rfl (.tmp 5) (.tmp 6) rfl hE rfl hL rfl (by simp; omega) ?_; intro v2 w2 hown2)
    go_ret
    exact ⟨_, rfl, by simpa using hown2⟩

end Go.Proofs.Ytgnhkpihlghbmaa
