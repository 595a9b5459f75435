/-
  The method Append by contract: bytes behind a file's.
-/
import Derived.Test.YtinfoblgojnjfaaRefile
namespace Go.Proofs.Ytinfoblgojnjfaa
open Go.RowKit Go.Maps

theorem law3 : Keyed Try.prog 3 := int_keyed Try.underlying3
theorem zero36 (w : World) : (zeroValue 36).run Try.prog w = .ok (.slice none 0 0) w := by kernel_rfl
theorem key3 {k : Int} (hk : 0 ≤ k ∧ k ≤ 1048576) : keyOf Try.prog 3 (.int .i64 k) = some (.int .i64 k) := keyOf_int_mk Try.underlying3 (wf64.2 (by omega))
theorem key3w {k : Int} (hk : (Lit.int .i64 k).wf = true) : keyOf Try.prog 3 (.int .i64 k) = some (.int .i64 k) := keyOf_int_mk Try.underlying3 hk

theorem byte_append (w : World) (B : Nat) (ty : TypeId) (v : Value) (l : List UInt8) (h : w.ownsRow B 5 1 v l.length (cellsB l)) (hB : B ≤ w.heap.size) (x : Value) (m : List UInt8) (hx : Byt w x m) (hlen : l.length + m.length ≤ 1099511627776) :
    ∃ v' w', (Builtin.append_ #[36, 36] ty #[v, x]).run Try.prog w = .ok v' w' ∧ w'.ownsRow B 5 1 v' (l ++ m).length (cellsB (l ++ m)) ∧ w.grownBy w' v.ownBlock ∧ (v'.ownBlock = v.ownBlock ∨ v'.ownBlock = some w.heap.size) := by
  obtain ⟨i0, hi, hz0, hzs, hzb⟩ := info_parts Try.info5
  obtain ⟨ao, cap, rfl, hcap, hxs⟩ := hx.open
  rcases hxs with rfl | ⟨b, off, rfl, hb, hl⟩
  · have hrun : (Builtin.append_ #[36, 36] ty #[v, .slice ao 0 cap]).run Try.prog w = .ok v w := by
      rcases h.2 with ⟨rfl, hn⟩ | ⟨g, cp, cur, rfl, hbb, hg, hnc, hcm, hcs, htk⟩
      · cases ao <;> simp [Builtin.append_, run_underlying Try.underlying36, sizeOf, typeInfo, hi, Builtin.lenOf, Builtin.firstCells, loadCells, loadCellsFrom]
      · cases ao <;> simp [Builtin.append_, run_underlying Try.underlying36, sizeOf, typeInfo, hi, Builtin.lenOf, Builtin.firstCells, loadCells, loadCellsFrom, hnc, storeCells]
    refine ⟨v, w, by simpa using hrun, ?_, grown_refl _ _, .inl rfl⟩
    rw [List.append_nil]
    exact h
  · have hc : ∀ j u, (cellsB m)[j]? = some u → w.cell? ((⟨b, off, none⟩ : Addr).add j) = some u := by
      intro j u hu
      obtain ⟨hj, rfl⟩ := List.getElem?_eq_some_iff.1 hu
      rw [add_at, hl j (by rw [cellsB_length] at hj; exact hj)]
      simp [cellsB]
    obtain ⟨v', w', h1, h2, h3, _, h5⟩ := run_append_own_at (P := Try.prog) w B 36 ty 5 i0 (.int .u8 0) 1 1 Try.underlying36 hi hz0 hzs hzb rfl (by decide) v l.length (cellsB l) h ⟨b, off, none⟩ m.length cap (cellsB m) (by rw [cellsB_length]; omega) hc (cellsB_one m) (by unfold maxLen; omega) (by omega) hB
    exact ⟨v', w', h1, by rw [cellsB_append, List.length_append]; exact h2, h3, h5⟩

theorem byte_step {ops : Array Oper} {o : Oper} {a : Act} {w : World} {K : Act → World → Prop} {Q : Exit → Act → World → Prop} {E : Prop} (hgd : o.guard = none) (s x : Operand) (ho : o.op = .call { callee := .builtin .append, args := #[s, x], argTypes := #[36, 36] })
    {B : Nat} {v : Value} {l : List UInt8} (h : w.ownsRow B 5 1 v l.length (cellsB l)) (hB : B ≤ w.heap.size) (hs : a.eval s = v) {x' : Value} {m : List UInt8} (hx' : Byt w x' m) (hx : a.eval x = x') (hlen : l.length + m.length ≤ 1099511627776)
    (hk : ∀ v' w', w'.ownsRow B 5 1 v' (l ++ m).length (cellsB (l ++ m)) → w.grownBy w' v.ownBlock → (v'.ownBlock = v.ownBlock ∨ v'.ownBlock = some w.heap.size) → K (a.put o.dst v') w') :
    if Region.wanted o (yielded ops a.tmps) = true then Oper.wp Try.prog o a w K Q else E := by
  have hw : Region.wanted o (yielded ops a.tmps) = true := by simp [Region.wanted, hgd]
  rw [if_pos hw]
  obtain ⟨v', w', hr, h2, h3, h5⟩ := byte_append w B o.type v l h hB x' m hx' hlen
  exact Lib.wp_append_run w s x 36 36 ho v x' hs hx v' w' hr (hk v' w' h2 h3 h5)

theorem put_pre {w W w1 : World} {B : Nat} {R : Rw} (h : Mem w B R) (ha : Adds w W) {k : Int} {v : Value} {b : List UInt8} (hat : R.at k v b) (g1 : W.grownBy w1 v.ownBlock) :
    w1.ownsMap Try.prog 3 raw R.m R.fs.length (dOf R.fs) ∧ w1.heap[R.p]? = some (.cells R.cells 55 (0, 0)) ∧ w1.cell? ⟨R.p, 2, none⟩ = some (.map (some R.m)) := by
  have hW := h.adds ha
  have hr := Rw.at_row hW hat
  have hp : w1.heap[R.p]? = some (.cells R.cells 55 (0, 0)) := by
    rw [g1.block R.p (hW.lt (.inl rfl)).2 (fun e => ?_)]
    · exact hW.hp
    · obtain ⟨C, hC⟩ := row_block hr e.symm
      rw [hW.hp] at hC
      simp at hC
  refine ⟨map_keep hW.hm (g1.block R.m hW.hm.lt (fun e => ?_)), hp, cell_of_row w1 R.p 2 _ _ _ hp⟩
  obtain ⟨C, hC⟩ := row_block hr e.symm
  obtain ⟨es, clock, hb, _⟩ := hW.hm
  rw [hC] at hb
  cases hb

theorem turned_block {w w' : World} {m : Nat} (t : w.mapTurned w' m) {i : Nat} (hi : i ≠ m) (hl : i < w.heap.size) : w'.heap[i]? = w.heap[i]? := t.grown.block i hl (fun e => hi (by simpa using e))

theorem map_ne {w : World} {B : Nat} {R : Rw} (h : Mem w B R) : R.p ≠ R.m := by
  intro e
  obtain ⟨es, clock, hb, _⟩ := h.hm
  rw [← e, h.hp] at hb
  cases hb

theorem put_post {w1 w2 : World} {B : Nat} {R : Rw} {w : World} (h : Mem w B R) (hp : w1.heap[R.p]? = some (.cells R.cells 55 (0, 0))) (t2 : w1.mapTurned w2 R.m) :
    w2.heap[R.p]? = some (.cells R.cells 55 (0, 0)) ∧ w2.cell? ⟨R.p, 1, none⟩ = some (.int .i64 (total R.fs : Int)) ∧ w2.frozen? ⟨R.p, 1, none⟩ = false := by
  have hp2 := (turned_block t2 (map_ne h) (Array.getElem?_eq_some_iff.1 hp).1).trans hp
  exact ⟨hp2, cell_of_row w2 R.p 1 _ _ _ hp2, frozen_of hp2⟩

/-- The file has bytes more, and what is used is set. -/
theorem mem_put {w W w1 w2 : World} {B : Nat} {R : Rw} (h : Mem w B R) (ha : Adds w W) {k : Int} {v : Value} {b m : List UInt8} (hk : 0 ≤ k ∧ k ≤ 1048576) (hat : R.at k v b) (v1 : Value)
    (h1 : w1.ownsRow B 5 1 v1 (b ++ m).length (cellsB (b ++ m))) (g1 : W.grownBy w1 v.ownBlock) (l1 : v1.ownBlock = v.ownBlock ∨ v1.ownBlock = some W.heap.size)
    (hm2 : w2.ownsMap Try.prog 3 raw R.m (R.fs.length + 1) ((dOf R.fs).put (.int .i64 k) (.held v1))) (t2 : w1.mapTurned w2 R.m) :
    Mem (w2.setCell ⟨R.p, 1, none⟩ (.int .i64 ((total R.fs : Int) + (m.length : Int)))) B { R with fs := put k v1 (b ++ m) R.fs } ∧ Moves w R (w2.setCell ⟨R.p, 1, none⟩ (.int .i64 ((total R.fs : Int) + (m.length : Int)))) { R with fs := put k v1 (b ++ m) R.fs } := by
  obtain ⟨hv, hn, hsub, hsz, htot⟩ := Rw.at_rest h hat
  obtain ⟨_, hp1, _⟩ := put_pre h ha hat g1
  obtain ⟨hp2, _, _⟩ := put_post h hp1 t2
  have hset := heap_setCell_at (i := 1) (.int .i64 ((total R.fs : Int) + (m.length : Int))) hp2 (by simp [Rw.cells])
  have hgs := grown_set w2 R.p 1 (.int .i64 ((total R.fs : Int) + (m.length : Int)))
  have ht2 := t2.grown
  have hsW := ha.below.size
  have hs1 := g1.size
  have hs2 := ht2.size
  have hs3 := hgs.size
  have hperm := rows_put R k v1 (b ++ m)
  have hbp := blocks_perm hperm
  rw [blocks_cons] at hbp
  have hkeep : ∀ i, i < W.heap.size → i ≠ R.p → i ≠ R.m → v.ownBlock ≠ some i → (w2.setCell ⟨R.p, 1, none⟩ (.int .i64 ((total R.fs : Int) + (m.length : Int)))).heap[i]? = W.heap[i]? := by
    intro i hi e1 e2 e3
    rw [hgs.block i (by omega) (fun e => e1 (by simpa using e)), ht2.block i (by omega) (fun e => e2 (by simpa using e))]
    exact g1.block i hi (fun e => e3 e.symm)
  refine h.refile v.ownBlock (fun i hi => (hv i hi).1) ⟨?_, ?_, ?_, by omega⟩ ?_ rfl rfl rfl rfl ?_ ?_ (h.srt.put _ _ _) ?_ h.files h.room h.arm h.wfl ?_ ?_ ?_
  · exact (hgs.os.trans ht2.os).trans (g1.os.trans ha.below.os)
  · exact (hgs.tape.trans ht2.tape).trans (g1.tape.trans ha.below.tape)
  · exact (hgs.output.trans ht2.output).trans (g1.output.trans ha.below.output)
  · intro i hi e1 e2 e3
    rw [hkeep i (by omega) e1 e2 e3]
    exact ha.below.block i hi
  · have e : (total (put k v1 (b ++ m) R.fs) : Int) = (total R.fs : Int) + (m.length : Int) := by
      rw [total_put, htot, List.length_append]
      omega
    show _ = some (Obj.cells #[.int .i64 (R.room : Int), .int .i64 (total (put k v1 (b ++ m) R.fs) : Int), .map (some R.m), R.dn, .int .i64 (R.count : Int), .bool R.armed, .int .i64 R.left, .bool R.gone] 55 (0, 0))
    rw [e]
    exact hset
  · rw [dOf_put k v1 (b ++ m)] at hm2
    have := map_tight hm2
    rw [dOf_size] at this
    exact this.setCell (fun e => map_ne h e.symm) _
  · intro x hx
    rcases (Ytinfoblgojnjfaa.mem_put_iff).1 hx with rfl | ⟨hx, _⟩
    · exact hk
    · exact h.keys x hx
  · intro x hx
    rcases List.mem_cons.1 (hperm.mem_iff.1 hx) with rfl | hx
    · refine .inr (row_keep h1 (fun i hi => ?_))
      obtain ⟨C, hC⟩ := row_block h1 hi
      have hi1 := (Array.getElem?_eq_some_iff.1 hC).1
      rw [hgs.block i (by omega) (fun e => ?_), ht2.block i hi1 (fun e => ?_)]
      · have e' : i = R.m := by simpa using e
        obtain ⟨es, clock, es', clock', hb, _⟩ := t2
        rw [e', hb] at hC
        cases hC
      · have e' : i = R.p := by simpa using e
        rw [e', hp1] at hC
        simp at hC
    · exact .inl ⟨hsub x hx, fun i hi e => (hv i e).2 (mem_blocks.2 ⟨x, hx, hi⟩)⟩
  · refine hbp.nodup_iff.2 (List.nodup_append.2 ⟨?_, hn, ?_⟩)
    · cases v1.ownBlock <;> simp
    · intro i hi j hj e
      subst e
      have hi' : v1.ownBlock = some i := by simpa using hi
      rcases l1 with l1 | l1
      · exact (hv i (l1 ▸ hi')).2 hj
      · rw [l1] at hi'
        simp only [Option.some.injEq] at hi'
        obtain ⟨x, hx, he⟩ := mem_blocks.1 hj
        have := ((h.hr x (hsub x hx)).lt i he).2
        omega
  · intro i hi
    rcases List.mem_append.1 (hbp.mem_iff.1 hi) with hi | hi
    · have hi' : v1.ownBlock = some i := by simpa using hi
      rcases l1 with l1 | l1
      · exact .inl (hv i (l1 ▸ hi')).1
      · rw [l1] at hi'
        simp only [Option.some.injEq] at hi'
        exact .inr (by omega)
    · obtain ⟨x, hx, he⟩ := mem_blocks.1 hi
      exact .inl (mem_blocks.2 ⟨x, hsub x hx, he⟩)

end Go.Proofs.Ytinfoblgojnjfaa
