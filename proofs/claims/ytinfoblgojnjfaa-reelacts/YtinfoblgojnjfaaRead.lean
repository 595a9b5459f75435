/-
  The methods Read and New by contracts.
-/
import Derived.Test.YtinfoblgojnjfaaDrop
namespace Go.Proofs.Ytinfoblgojnjfaa
open Go.RowKit Go.Maps

theorem row_byt {w : World} {B : Nat} {v : Value} {l : List UInt8} (h : w.ownsRow B 5 1 v l.length (cellsB l)) : Byt w v l := by
  have hc := fun g => h.cells (g := g)
  have hlt := h.lt
  rcases h.2 with ⟨rfl, hn⟩ | ⟨g, cap, cur, rfl, hb, hg, hnc, hcm, hcs, htk⟩
  · have : l = [] := List.eq_nil_of_length_eq_zero hn
    subst this
    exact ⟨none, 0, rfl, Nat.le_refl _, .inl rfl⟩
  · exact ⟨_, cap, by rw [cellsB_length], by rw [cellsB_length]; exact hnc, .inr ⟨g, 0, rfl, (hlt g rfl).2, liesV_of (hc g rfl)⟩⟩

/-- Bytes in a block from B on, which nothing else leads to; or no block. -/
theorem row_empty (w : World) (e : TypeId) : (w.alloc (.cells #[] e)).ownsRow w.heap.size e 1 (.slice (some ⟨w.heap.size, 0, none⟩) 0 0) 0 [] :=
  ⟨rfl, .inr ⟨w.heap.size, 0, #[], rfl, Nat.le_refl _, new_block _ _, Nat.le_refl _, by decide, rfl, rfl⟩⟩

theorem byte_app {ops : Array Oper} {rest : List Oper} {o : Oper} {a : Act} {w : World} {Q : Exit → Act → World → Prop} (hgd : o.guard = none) (s x : Operand) (ho : o.op = .call { callee := .builtin .append, args := #[s, x], argTypes := #[36, 36] })
    {B : Nat} {v : Value} {l : List UInt8} (h : w.ownsRow B 5 1 v l.length (cellsB l)) (hB : B ≤ w.heap.size) (hs : a.eval s = v) {x' : Value} {m : List UInt8} (hx' : Byt w x' m) (hx : a.eval x = x') (hlen : l.length + m.length ≤ 1099511627776)
    (hk : ∀ v' w', w'.ownsRow B 5 1 v' (l ++ m).length (cellsB (l ++ m)) → w.grownBy w' v.ownBlock → (v'.ownBlock = v.ownBlock ∨ v'.ownBlock = some w.heap.size) → wpList Try.prog ops Q rest (a.put o.dst v') w') : wpList Try.prog ops Q (o :: rest) a w := by
  obtain ⟨v', w', hr, h2, h3, h5⟩ := byte_append w B o.type v l h hB x' m hx' hlen
  exact Lib.wpList_append_run w hgd s x 36 36 ho v x' hs hx v' w' hr (hk v' w' h2 h3 h5)

theorem adds_of_grown {w W w' : World} (h : Adds w W) {r : Option Nat} (hg : W.grownBy w' r) (hr : ∀ i, r = some i → w.heap.size ≤ i) : Adds w w' := by
  have hb := h.below
  refine Adds.of ⟨hg.os.trans hb.os, hg.tape.trans hb.tape, hg.output.trans hb.output, Nat.le_trans hb.size hg.size, fun i hi => ?_⟩
  rw [hg.block i (Nat.lt_of_lt_of_le hi hb.size) (fun e => by have := hr i e.symm; omega)]
  exact hb.block i hi

theorem eql_none (n c : Nat) (w : World) : (binOp .eql 36 (.slice none n c) (.slice none 0 0)).run Try.prog w = .ok (.bool true) w := by kernel_rfl
theorem eql_some (a : Addr) (n c : Nat) (w : World) : (binOp .eql 36 (.slice (some a) n c) (.slice none 0 0)).run Try.prog w = .ok (.bool false) w := by kernel_rfl

theorem clone_nil (n c : Nat) (w : World) : Calls Try.prog 34 #[.slice none n c] w fun e w' => e = .returned (.slice none 0 0) ∧ w' = w := by
  have hb := eql_none n c w
  go_enter Try.func34, Try.ntmps34
  go_wp2
  go_ret
  exact ⟨rfl, rfl⟩

theorem clone_any (v : Value) (l : List UInt8) (w : World) (h : Byt w v l) (hlen : l.length ≤ 1099511627776) :
    Calls Try.prog 34 #[v] w fun e w' => ∃ r, e = .returned r ∧ w'.ownsRow w.heap.size 5 1 r l.length (cellsB l) ∧ Adds w w' := by
  have h' := h
  obtain ⟨ao, cap, rfl, hcap, ho⟩ := h.open
  cases ao with
  | none =>
    have : l = [] := by
      rcases ho with h | ⟨b, off, e, _⟩
      · exact h
      · cases e
    subst this
    refine (clone_nil _ _ w).mono ?_
    rintro e w1 ⟨rfl, rfl⟩
    exact ⟨.slice none 0 0, rfl, World.ownsRow_nil _ _ _ _, Adds.refl _⟩
  | some ad =>
    have he := row_empty w 5
    rw [show ([] : List Value) = cellsB [] from rfl, show (0 : Nat) = ([] : List UInt8).length from rfl] at he
    have ha : Adds w (w.alloc (.cells #[] 5)) := (Adds.refl _).alloc _
    have hb := eql_some ad l.length cap w
    go_enter Try.func34, Try.ntmps34
    go_wp2_with (at_builtin; refine byte_app rfl (.tmp 5) (.tmp 6) rfl he (by simp) rfl (h'.adds ha) rfl (by simpa using hlen) ?_; intro v1 w1 h1 g1 l1)
    go_ret
    rw [List.nil_append] at h1
    exact ⟨v1, rfl, h1, adds_of_grown ha g1 (fun i hi => by simp [Value.ownBlock] at hi; omega)⟩

theorem read_some {w : World} {B : Nat} {R : Rw} (h : Mem w B R) (k : Int) (v : Value) (b : List UInt8) (hg : get k R.fs = some (k, v, b)) (hb : R.bulk ≤ 1099511627776) :
    Calls Try.prog 16 #[ptr R.p, .int .i64 k] w fun e w' => ∃ r, e = .returned (.tuple #[r, .bool true]) ∧ w'.ownsRow w.heap.size 5 1 r b.length (cellsB b) ∧ Adds w w' := by
  obtain ⟨c0, c1, c2, c3, c4, c5, c6, c7⟩ := h.cells8
  have H : Hid (Mem w B R) := h
  have hhas := dOf_has k R.fs
  rw [hg] at hhas
  simp only [Option.isSome_some] at hhas
  have hav : (dOf R.fs).atKey (.int .i64 k) (.held (.slice none 0 0)) = .held v := by rw [dOf_at, hg]
  have hkr := h.keys _ (get_some hg).1
  simp only at hkr
  have hat : R.at k v b := .inl hg
  obtain ⟨_, _, _, hsz, _⟩ := Rw.at_rest h hat
  have hbl : b.length ≤ R.bulk := by unfold Rw.bulk; omega
  have kC := clone_any v b w (row_byt (Rw.at_row h hat)) (by omega)
  clear c0 c1 c3 c4 c5 c6 c7 hsz
  go_enter Try.func16, Try.ntmps16
  go_wp2_with (first
    | (go_at_call 30; refine (given_any H.out).mono ?_; rintro e w1 ⟨rfl, rfl⟩)
    | (at_lookup; refine wpList_lookup_own_ok _ rfl _ _ 52 rfl 3 36 law3 Try.underlying52 raw (zero36 _) (.held (.slice none 0 0)) [] rfl R.m _ (dOf R.fs) rfl H.out.hm _ (.int .i64 k) rfl (key3 hkr) ?_; intro v' ps hv'; obtain rfl : v' = v := by (have e1 := hv'; rw [hav] at e1; simp [raw] at e1; exact e1.1))
    | (go_at_call 34; refine kC.mono ?_; rintro e w2 ⟨r2, rfl, h2, a2⟩))
  go_ret2
  exact ⟨r2, rfl, h2, a2⟩

theorem read_none {w : World} {B : Nat} {R : Rw} (h : Mem w B R) (k : Int) (hk : (Lit.int .i64 k).wf = true) (hg : get k R.fs = none) :
    Calls Try.prog 16 #[ptr R.p, .int .i64 k] w fun e w' => e = .returned (.tuple #[.slice none 0 0, .bool false]) ∧ w' = w := by
  obtain ⟨c0, c1, c2, c3, c4, c5, c6, c7⟩ := h.cells8
  have H : Hid (Mem w B R) := h
  have hhas := dOf_has k R.fs
  rw [hg] at hhas
  simp only [Option.isSome_none] at hhas
  have hav : (dOf R.fs).atKey (.int .i64 k) (.held (.slice none 0 0)) = .held (.slice none 0 0) := by rw [dOf_at, hg]
  clear c0 c1 c3 c4 c5 c6 c7
  go_enter Try.func16, Try.ntmps16
  go_wp2_with (first
    | (go_at_call 30; refine (given_any H.out).mono ?_; rintro e w1 ⟨rfl, rfl⟩)
    | (at_lookup; refine wpList_lookup_own_ok _ rfl _ _ 52 rfl 3 36 law3 Try.underlying52 raw (zero36 _) (.held (.slice none 0 0)) [] rfl R.m _ (dOf R.fs) rfl H.out.hm _ (.int .i64 k) rfl (key3w hk) ?_; intro v' ps hv'; obtain rfl : v' = .slice none 0 0 := by (have e1 := hv'; rw [hav] at e1; simp [raw] at e1; exact e1.1))
    | (go_at_call 34; refine (clone_nil _ _ _).mono ?_; rintro e w2 ⟨rfl, rfl⟩))
  go_ret2
  exact ⟨rfl, rfl⟩

/-- An empty reel. -/
def Rw.fresh (p m room : Nat) : Rw := ⟨p, m, room, .slice none 0 0, [], [], [], 0, false, 0, false⟩

theorem new_any (room : Nat) (hr : room ≤ 1048576) (w : World) :
    Calls Try.prog 6 #[.int .i64 (room : Int)] w fun e w' => e = .returned (.tuple #[ptr (w.heap.size + 1), .int .i64 0]) ∧ Mem w' w.heap.size (Rw.fresh (w.heap.size + 1) w.heap.size room) ∧ Adds w w' := by
  have hmm := @run_makeMap Try.prog
  go_enter Try.func6, Try.ntmps6
  go_wp2
  go_ret2
  refine ⟨rfl, ⟨?_, ?_, ?_, ?_, ?_, ?_, ?_, ?_, ?_, ?_, hr, ?_, ?_⟩, ((Adds.refl _).alloc _).alloc _⟩
  · exact heap_alloc2_new _ _ _
  · exact (World.ownsMap_made w Try.prog 3 raw).alloc _
  · exact World.ownsRow_nil _ _ _ _
  · intro x hx
    simp [Rw.rows, Rw.fresh] at hx
  · simp [blocks, Rw.rows, Rw.fresh]
  · exact Nat.le_succ _
  · exact Nat.le_refl _
  · exact List.Pairwise.nil
  · intro x hx
    cases hx
  · intro x hx
    cases hx
  · intro e
    cases e
  · exact (wf64 (x := 0)).2 (by decide)

theorem new_bad (room : Int) (hr : room < 0 ∨ 1048576 < room) (w : World) :
    Calls Try.prog 6 #[.int .i64 room] w fun e w' => e = .returned (.tuple #[.pointer none, .int .i64 1]) ∧ w' = w := by
  by_cases h0 : room < 0
  · go_enter Try.func6, Try.ntmps6
    go_wp2
    go_ret2
    exact ⟨rfl, rfl⟩
  · have h1 : 1048576 < room := by omega
    go_enter Try.func6, Try.ntmps6
    go_wp2
    go_ret2
    exact ⟨rfl, rfl⟩

end Go.Proofs.Ytinfoblgojnjfaa
