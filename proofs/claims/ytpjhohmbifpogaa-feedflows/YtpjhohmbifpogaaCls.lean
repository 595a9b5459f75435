/-
  Rows of subscriptions that a call owns; slices.Clone of them, by contract.
-/
import Derived.Test.YtpjhohmbifpogaaChg
import Derived.Test.YtpjhohmbifpogaaCln
import Derived.ArgAppend
import Derived.Laws.AppendOwn
namespace Go.Proofs.Ytpjhohmbifpogaa
open Go.RowKit
attribute [local go_sem] cell?_more frozen?_more setCell_more size_more tape_more drew_more drewN_more more_drew more_drewN one_out plus_out plus_end lt_one le_p2 le_p3 le_p4 le_p5 le_p6 le_p7 le_p8 le_p9 le_p10 le_p11 le_p12 le_p13 le_p14 le_p15 le_p16 le_p17 le_p18 le_p19 le_p20 le_p21 le_p22 le_p23 le_p24 le_q0 le_q1 lt_q1 le_q2 lt_q2 le_q3 lt_q3 le_q4 lt_q4 le_q5 lt_q5 le_q6 lt_q6 le_q7 lt_q7 le_q8 lt_q8 le_q9 lt_q9 le_q10 lt_q10 le_q11 lt_q11 le_q12 lt_q12 le_q13 lt_q13 le_q14 lt_q14 le_q15 lt_q15 le_q16 lt_q16 le_q17 lt_q17 le_q18 lt_q18 le_q19 lt_q19 le_q20 lt_q20 le_q21 lt_q21 le_q22 lt_q22 le_q23 lt_q23 le_q24 lt_q24

theorem Try.info43 : (Try.prog.info? 43).map (fun i => (i.zero, i.size, i.bytes)) = some (some (.agg #[.string ⟨#[]⟩, .int .i64 0]), 2, 24) := by kernel_rfl

def Sb.cells (s : Sb) : List Value := [.string s.name, .int .i64 s.pos]

def cellsS (ss : List Sb) : List Value := ss.flatMap Sb.cells

theorem cellsS_length (fs : List Sb) : (cellsS fs).length = fs.length * 2 := by
  induction fs with
  | nil => rfl
  | cons f r ih =>
    simp only [cellsS, List.flatMap_cons, List.length_append, List.length_cons] at *
    rw [ih]
    simp [Sb.cells]
    omega

theorem cellsS_append (l t : List Sb) : cellsS (l ++ t) = cellsS l ++ cellsS t := by simp [cellsS]

theorem cellsS_get (fs : List Sb) (i : Nat) (hi : i < fs.length) (r : Nat) (hr : r < 2) : (cellsS fs)[i * 2 + r]? = fs[i].cells[r]? := by
  induction fs generalizing i with
  | nil => simp at hi
  | cons f t ih =>
    cases i with
    | zero =>
      simp only [cellsS, List.flatMap_cons, Nat.zero_mul, Nat.zero_add, List.getElem_cons_zero]
      rw [List.getElem?_append_left (by simp [Sb.cells]; omega)]
    | succ i =>
      have hi' : i < t.length := by simpa using hi
      simp only [cellsS, List.flatMap_cons, List.getElem_cons_succ]
      rw [List.getElem?_append_right (by simp [Sb.cells]; omega)]
      have := ih i hi'
      simp only [cellsS] at this
      rw [← this]
      congr 1
      simp [Sb.cells]
      omega

theorem cellsS_one (fs : List Sb) : ∀ u ∈ cellsS fs, u.oneCell' = true := by
  intro u hu
  simp only [cellsS, List.mem_flatMap] at hu
  obtain ⟨f, _, hf⟩ := hu
  simp only [Sb.cells, List.mem_cons, List.mem_nil_iff, or_false] at hf
  rcases hf with rfl | rfl <;> rfl

theorem LiesS.cells {w : World} {b off : Nat} {fs : List Sb} (h : LiesS w b off fs) : ∀ j u, (cellsS fs)[j]? = some u → w.cell? ((⟨b, off, none⟩ : Addr).add j) = some u := by
  intro j u hu
  have hj : j < fs.length * 2 := by
    by_cases hj : j < fs.length * 2
    · exact hj
    · rw [List.getElem?_eq_none (by rw [cellsS_length]; omega)] at hu
      cases hu
  have hi : j / 2 < fs.length := by omega
  have he : j / 2 * 2 + j % 2 = j := by omega
  rw [← he, cellsS_get fs (j / 2) hi (j % 2) (by omega)] at hu
  obtain ⟨h0, h1⟩ := h (j / 2) hi
  have ha : ((⟨b, off, none⟩ : Addr).add j) = ⟨b, off + j / 2 * 2 + j % 2, none⟩ := by
    rw [Addr.add_lit]
    congr 1
    omega
  rw [ha]
  have h6 : j % 2 = 0 ∨ j % 2 = 1 := by omega
  rcases h6 with h | h <;> rw [h] at hu ⊢ <;> simp [Sb.cells] at hu <;> subst hu <;> assumption

theorem liesS_of {w : World} {b off : Nat} {fs : List Sb} (h : ∀ j u, (cellsS fs)[j]? = some u → w.cell? ((⟨b, off, none⟩ : Addr).add j) = some u) : LiesS w b off fs := by
  intro i hi
  have hg := fun (r : Nat) (hr : r < 2) u (hu : fs[i].cells[r]? = some u) => h (i * 2 + r) u (by rw [cellsS_get fs i hi r hr]; exact hu)
  simp only [Addr.add_lit] at hg
  refine ⟨?_, ?_⟩
  · simpa using hg 0 (by omega) _ rfl
  · simpa [Nat.add_assoc] using hg 1 (by omega) _ rfl

/-- The slice v has the subscriptions ss, in a block from B on that the call owns; below B nothing has turned since W0. -/
def OwnS (B : Nat) (v : Value) (ss : List Sb) (W0 w : World) : Prop := w.ownsRow B 43 2 v ss.length (cellsS ss) ∧ Below B W0 w ∧ B ≤ w.heap.size

theorem OwnS.nil (B : Nat) (w : World) (hB : B ≤ w.heap.size) : OwnS B (.slice none 0 0) [] w w := ⟨World.ownsRow_nil _ _ _ _, Below.refl _ _, hB⟩

theorem OwnS.below {B : Nat} {v : Value} {fs : List Sb} {W0 w w' : World} (h : OwnS B v fs W0 w) (hb : Below w.heap.size w w') : OwnS B v fs W0 w' := by
  have hg : w.grownBy w' none := ⟨hb.os, hb.tape, hb.output, hb.size, fun k hk _ => hb.block k hk⟩
  refine ⟨h.1.kept hg ?_, h.2.1.trans (hb.mono h.2.2), Nat.le_trans h.2.2 hb.size⟩
  cases v.ownBlock with
  | none => exact .inl rfl
  | some k => exact .inr (by simp)

theorem OwnS.adds {B : Nat} {v : Value} {fs : List Sb} {W0 w w' : World} (h : OwnS B v fs W0 w) (hb : Adds w w') : OwnS B v fs W0 w' := h.below hb.below

theorem OwnS.lst {B : Nat} {v : Value} {fs : List Sb} {W0 w : World} (h : OwnS B v fs W0 w) : LstS w v fs := by
  have hc := fun g => h.1.cells (g := g)
  have hlt := h.1.lt
  rcases h.1.2 with ⟨rfl, hn⟩ | ⟨g, cap, cur, rfl, hb, hg, hnc, hcm, hcs, htk⟩
  · have : fs = [] := List.eq_nil_of_length_eq_zero hn
    subst this
    exact ⟨none, 0, rfl, Nat.le_refl _, .inl rfl⟩
  · exact ⟨_, cap, rfl, hnc, .inr ⟨g, 0, rfl, (hlt g rfl).2, liesS_of (hc g rfl)⟩⟩

/-- append to such a row, of subscriptions that lie somewhere. -/
theorem ownS_append (w : World) (B : Nat) (ty : TypeId) (v : Value) (fs : List Sb) (W0 : World) (h : OwnS B v fs W0 w) (x : Value) (gs : List Sb) (hx : LstS w x gs) (hlen : fs.length + gs.length ≤ 100000) :
    ∃ v' w', (Builtin.append_ #[23, 23] ty #[v, x]).run Try.prog w = .ok v' w' ∧ OwnS B v' (fs ++ gs) W0 w' ∧ w.grownBy w' v.ownBlock := by
  obtain ⟨i0, hi, hz0, hz1, hz2⟩ := info_parts Try.info43
  obtain ⟨ao, cap, rfl, hcap, hxs⟩ := hx
  have key : ∀ v' w', w'.ownsRow B 43 2 v' (fs.length + gs.length) (cellsS fs ++ cellsS gs) → w.grownBy w' v.ownBlock → OwnS B v' (fs ++ gs) W0 w' ∧ w.grownBy w' v.ownBlock := by
    intro v' w' h2 h3
    refine ⟨⟨by rw [List.length_append, cellsS_append]; exact h2, ?_, Nat.le_trans h.2.2 h3.size⟩, h3⟩
    refine ⟨h3.os.trans h.2.1.os, h3.tape.trans h.2.1.tape, h3.output.trans h.2.1.output, Nat.le_trans h.2.1.size h3.size, fun k hk => ?_⟩
    rw [h3.block k (Nat.lt_of_lt_of_le hk h.2.2) ?_]
    · exact h.2.1.block k hk
    · intro e
      have := h.1.lt k e.symm
      omega
  rcases hxs with rfl | ⟨b, off, rfl, hb, hl⟩
  · have hrun : (Builtin.append_ #[23, 23] ty #[v, .slice ao 0 cap]).run Try.prog w = .ok v w := by
      rcases h.1.2 with ⟨rfl, hn⟩ | ⟨g, cp, cur, rfl, hbb, hg, hnc, hcm, hcs, htk⟩
      · cases ao <;> simp [Builtin.append_, run_underlying Try.underlying23, sizeOf, typeInfo, hi, Builtin.lenOf, Builtin.firstCells, loadCells, loadCellsFrom]
      · cases ao <;> simp [Builtin.append_, run_underlying Try.underlying23, sizeOf, typeInfo, hi, Builtin.lenOf, Builtin.firstCells, loadCells, loadCellsFrom, hnc, storeCells]
    refine ⟨v, w, by simpa using hrun, ?_, ⟨rfl, rfl, rfl, Nat.le_refl _, fun k _ _ => rfl⟩⟩
    rw [List.append_nil]
    exact h
  · obtain ⟨v', w', h1, h2, h3, _⟩ := run_append_own (P := Try.prog) w B 23 ty 43 i0 _ 2 24 Try.underlying23 hi hz0 hz1 hz2 rfl (by decide) v fs.length (cellsS fs) h.1 ⟨b, off, none⟩ gs.length cap (cellsS gs) (cellsS_length gs) hl.cells (cellsS_one gs) (by unfold maxLen; omega) (by omega) h.2.2
    exact ⟨v', w', h1, key v' w' h2 h3⟩

theorem ownS_app {ops : Array Oper} {rest : List Oper} {o : Oper} {a : Act} {w : World} {Q : Exit → Act → World → Prop} (hgd : o.guard = none) (s x : Operand) (ho : o.op = .call { callee := .builtin .append, args := #[s, x], argTypes := #[23, 23] })
    {B : Nat} {v : Value} {fs : List Sb} {W0 : World} (h : OwnS B v fs W0 w) (hs : a.eval s = v) {x' : Value} {gs : List Sb} (hg : LstS w x' gs) (hx : a.eval x = x') (hlen : fs.length + gs.length ≤ 100000)
    (hk : ∀ v' w', OwnS B v' (fs ++ gs) W0 w' → wpList Try.prog ops Q rest (a.put o.dst v') w') : wpList Try.prog ops Q (o :: rest) a w := by
  obtain ⟨v', w', hr, h2, _⟩ := ownS_append w B o.type v fs W0 h x' gs hg hlen
  exact Lib.wpList_append_run w hgd s x 23 23 ho v x' hs hx v' w' hr (hk v' w' h2)

theorem eqlS_none (n c : Nat) (w : World) : (binOp .eql 23 (.slice none n c) (.slice none 0 0)).run Try.prog w = .ok (.bool true) w := by kernel_rfl
theorem eqlS_some (a : Addr) (n c : Nat) (w : World) : (binOp .eql 23 (.slice (some a) n c) (.slice none 0 0)).run Try.prog w = .ok (.bool false) w := by kernel_rfl

theorem OwnS.empty (w : World) : OwnS w.heap.size (.slice (some ⟨w.heap.size, 0, none⟩) 0 0) [] w (w.alloc (.cells #[] 43)) := by
  refine ⟨⟨by simp [cellsS], .inr ⟨w.heap.size, 0, #[], rfl, Nat.le_refl _, new_block2 w _, Nat.zero_le _, by unfold maxLen; omega, by simp, by simp [cellsS]⟩⟩, ((Adds.refl _).alloc _).below, by simp⟩

set_option maxHeartbeats 1000000 in
set_option maxRecDepth 20000 in
theorem cloneS_any (s : Value) (fs : List Sb) (w : World) (h : LstS w s fs) (hlen : fs.length ≤ 1000) :
    Calls Try.prog 48 #[s] w fun e w' => ∃ v, e = .returned v ∧ OwnS w.heap.size v fs w w' := by
  have h0 := h
  obtain ⟨ao, cap, rfl, hc, hx⟩ := h
  cases ao with
  | none =>
    obtain rfl : fs = [] := by
      rcases hx with h | ⟨b, off, h, _⟩
      · exact h
      · cases h
    clear h0 hx
    have hb := fun n => eqlS_none n cap w
    have hb := hb ([] : List Sb).length
    go_enter Try.func48, Try.ntmps48
    go_wp2
    go_ret
    exact ⟨_, rfl, OwnS.nil _ _ (Nat.le_refl _)⟩
  | some a =>
    have hE := OwnS.empty w
    have hL := h0.adds ((Adds.refl w).alloc (.cells #[] 43))
    clear h0 hx
    have hb := eqlS_some a fs.length cap w
    go_enter Try.func48, Try.ntmps48
    go_wp2_with (at_builtin; refine ownS_app rfl (.tmp 5) (.tmp 6) rfl hE rfl hL rfl (by simp; omega) ?_; intro v2 w2 hown2)
    go_ret
    exact ⟨_, rfl, by simpa using hown2⟩

end Go.Proofs.Ytpjhohmbifpogaa
