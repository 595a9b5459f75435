/-
  The method note by contract: a deed behind the others.
-/
import Derived.Test.YtinfoblgojnjfaaSmall
import Derived.Deep.RegionLaw
import Derived.Deep.Cut
import Derived.Deep.CutRange
namespace Go.Proofs.Ytinfoblgojnjfaa
open Go.RowKit Go.Maps

theorem cellsD_cells (d : Dd) (v : Value) : cellsD [(d, v)] = d.cells v := by simp [cellsD]

/-- append of one deed. -/
theorem deed_append (w : World) (B : Nat) (ty : TypeId) (dn : Value) (ds : List (Dd × Value)) (h : w.ownsRow B 68 5 dn ds.length (cellsD ds)) (hB : B ≤ w.heap.size) (d : Dd) (v : Value) (hv : v.oneCell' = true) (g c : Nat)
    (hg : ∀ j u, (d.cells v)[j]? = some u → w.cell? ((⟨g, 0, none⟩ : Addr).add j) = some u) (hlen : ds.length ≤ 1099511627776) :
    ∃ dn' w', (Builtin.append_ #[53, 53] ty #[dn, .slice (some ⟨g, 0, none⟩) 1 c]).run Try.prog w = .ok dn' w' ∧ w'.ownsRow B 68 5 dn' (ds ++ [(d, v)]).length (cellsD (ds ++ [(d, v)])) ∧ w.grownBy w' dn.ownBlock ∧ (dn'.ownBlock = dn.ownBlock ∨ dn'.ownBlock = some w.heap.size) := by
  obtain ⟨i0, hi, hz0, hz1, hz2⟩ := info_parts Try.info68
  obtain ⟨v', w', h1, h2, h3, _, h5⟩ := run_append_own_at (P := Try.prog) w B 53 ty 68 i0 _ 5 48 Try.underlying53 hi hz0 hz1 hz2 rfl (by decide) dn ds.length (cellsD ds) h ⟨g, 0, none⟩ 1 c (d.cells v) (by simp [Dd.cells]) hg
    (by intro u hu; simp only [Dd.cells, List.mem_cons, List.mem_nil_iff, or_false] at hu; rcases hu with rfl | rfl | rfl | rfl | rfl <;> first | rfl | exact hv) (by unfold maxLen; omega) (by omega) hB
  refine ⟨v', w', h1, ?_, h3, h5⟩
  rw [cellsD_append, cellsD_cells, List.length_append]
  exact h2

theorem deed_step {ops : Array Oper} {o : Oper} {a : Act} {w : World} {K : Act → World → Prop} {Q : Exit → Act → World → Prop} {E : Prop} (hgd : o.guard = none) (s x : Operand) (ho : o.op = .call { callee := .builtin .append, args := #[s, x], argTypes := #[53, 53] })
    {B : Nat} {dn : Value} {ds : List (Dd × Value)} (h : w.ownsRow B 68 5 dn ds.length (cellsD ds)) (hB : B ≤ w.heap.size) (hs : a.eval s = dn) (d : Dd) (v : Value) (hv : v.oneCell' = true) (g c : Nat) (hx : a.eval x = .slice (some ⟨g, 0, none⟩) 1 c)
    (hg : ∀ j u, (d.cells v)[j]? = some u → w.cell? ((⟨g, 0, none⟩ : Addr).add j) = some u) (hlen : ds.length ≤ 1099511627776)
    (hk : ∀ dn' w', w'.ownsRow B 68 5 dn' (ds ++ [(d, v)]).length (cellsD (ds ++ [(d, v)])) → w.grownBy w' dn.ownBlock → (dn'.ownBlock = dn.ownBlock ∨ dn'.ownBlock = some w.heap.size) → K (a.put o.dst dn') w') :
    if Region.wanted o (yielded ops a.tmps) = true then Oper.wp Try.prog o a w K Q else E := by
  have hw : Region.wanted o (yielded ops a.tmps) = true := by simp [Region.wanted, hgd]
  rw [if_pos hw]
  obtain ⟨v', w', hr, h2, h3, h5⟩ := deed_append w B o.type dn ds h hB d v hv g c hg hlen
  exact Lib.wp_append_run w s x 53 53 ho dn _ hs hx v' w' hr (hk v' w' h2 h3 h5)

/-- The reel with a deed more, nothing counted yet. -/
def Rw.more (R : Rw) (d : Dd) (v dn : Value) : Rw := { R with dn := dn, ds := R.ds ++ [(d, v)] }

theorem rows_more (R : Rw) (d : Dd) (v dn : Value) : (R.more d v dn).rows = R.rows ++ [(v, d.lost)] := by simp [Rw.rows, Rw.more]

/-- What note leaves of the blocks that were there. -/
structure Near (w : World) (R : Rw) (v : Value) (w' : World) (R' : Rw) : Prop where
  os : w'.os = w.os
  tape : w'.tape = w.tape
  output : w'.output = w.output
  size : w.heap.size ≤ w'.heap.size
  block : ∀ i, i < w.heap.size → ¬ R.foot i → w'.heap[i]? = w.heap[i]? ∧ (v.ownBlock ≠ some i → ¬ R'.foot i)

/-- The deed is in the row, and the row in the struct. -/
theorem mem_more {w W w1 : World} {B : Nat} {R : Rw} (h : Mem w B R) (hdead : R.dead = []) (ha : Adds w W) (d : Dd) (v dn' : Value) (hf : 0 ≤ d.file ∧ d.file ≤ 1048576)
    (hv : w.ownsRow B 5 1 v d.lost.length (cellsB d.lost)) (hvn : ∀ i, v.ownBlock = some i → i ∉ blocks R.rows)
    (h1 : w1.ownsRow B 68 5 dn' (R.ds ++ [(d, v)]).length (cellsD (R.ds ++ [(d, v)]))) (hg : W.grownBy w1 R.dn.ownBlock) (hl : dn'.ownBlock = R.dn.ownBlock ∨ dn'.ownBlock = some W.heap.size) :
    Mem (w1.setCell ⟨R.p, 3, none⟩ dn') B (R.more d v dn') ∧ Near w R v (w1.setCell ⟨R.p, 3, none⟩ dn') (R.more d v dn') := by
  have hW := h.adds ha
  have hsz := ha.below.size
  have hdd : ∀ i, R.dn.ownBlock = some i → ∃ C, W.heap[i]? = some (.cells C 68 (0, 0)) := fun i hi => row_block hW.hd hi
  have hbl : ∀ i, i < W.heap.size → i ≠ R.p → R.dn.ownBlock ≠ some i → (w1.setCell ⟨R.p, 3, none⟩ dn').heap[i]? = W.heap[i]? := by
    intro i hi hp hd
    rw [(grown_set w1 R.p 3 dn').block i (Nat.lt_of_lt_of_le hi hg.size) (fun e => hp (by simpa using e))]
    exact hg.block i hi (fun e => hd e.symm)
  have hpd : R.dn.ownBlock ≠ some R.p := by
    intro e
    obtain ⟨C, hC⟩ := hdd _ e
    rw [hW.hp] at hC
    simp at hC
  have hpl := (Array.getElem?_eq_some_iff.1 hW.hp).1
  have hp1 : w1.heap[R.p]? = some (.cells R.cells 55 (0, 0)) := (hg.block R.p hpl (fun e => hpd e.symm)).trans hW.hp
  have hset := heap_setCell_at (i := 3) dn' hp1 (by simp [Rw.cells])
  have hmp : R.m ≠ R.p := by
    intro e
    obtain ⟨es, clock, hb, _⟩ := h.hm
    rw [e, h.hp] at hb
    cases hb
  have hmd : R.dn.ownBlock ≠ some R.m := by
    intro e
    obtain ⟨C, hC⟩ := hdd _ e
    obtain ⟨es, clock, hb, _⟩ := hW.hm
    rw [hC] at hb
    cases hb
  have hvW : W.ownsRow B 5 1 v d.lost.length (cellsB d.lost) := row_keep hv (fun i hi => ha.below.block i (hv.lt i hi).2)
  have hbyte : ∀ (x : Value) (l : List UInt8), W.ownsRow B 5 1 x l.length (cellsB l) → (w1.setCell ⟨R.p, 3, none⟩ dn').ownsRow B 5 1 x l.length (cellsB l) := by
    intro x l hx
    refine row_keep hx (fun i hi => hbl i (hx.lt i hi).2 (fun e => ?_) (fun e => ?_))
    · obtain ⟨C, hC⟩ := row_block hx hi
      rw [e, hW.hp] at hC
      simp at hC
    · obtain ⟨C, hC⟩ := row_block hx hi
      obtain ⟨C', hC'⟩ := hdd _ e
      rw [hC] at hC'
      simp at hC'
  refine ⟨⟨?_, ?_, ?_, ?_, ?_, h.bp, h.bm, h.srt, h.keys, ?_, h.room, h.arm, h.wfl⟩, ?_⟩
  · exact hset
  · exact map_keep hW.hm (hbl _ hW.hm.lt hmp hmd)
  · have : (R.more d v dn').ds ++ (R.more d v dn').dead = R.ds ++ [(d, v)] := by simp [Rw.more, hdead]
    rw [this]
    refine row_keep h1 (fun i hi => ?_)
    refine (grown_set w1 R.p 3 dn').block i (h1.lt i hi).2 (fun e => ?_)
    have hip : i = R.p := by simpa using e
    obtain ⟨C, hC⟩ := row_block h1 hi
    rw [hip, hp1] at hC
    simp at hC
  · intro x hx
    rw [rows_more] at hx
    rcases List.mem_append.1 hx with hx | hx
    · exact hbyte _ _ (hW.hr x hx)
    · simp only [List.mem_singleton] at hx
      subst hx
      exact hbyte _ _ hvW
  · rw [rows_more]
    simp only [blocks, List.filterMap_append]
    rw [List.nodup_append]
    refine ⟨h.nd, ?_, ?_⟩
    · cases hvb : v.ownBlock <;> simp [hvb]
    · intro i hi j hj e
      subst e
      cases hvb : v.ownBlock with
      | none => simp [hvb] at hj
      | some k =>
        simp [hvb] at hj
        subst hj
        exact hvn _ hvb hi
  · intro x hx
    simp only [Rw.more, List.mem_append, List.mem_singleton] at hx
    rcases hx with hx | rfl
    · exact h.files x hx
    · exact hf
  · refine ⟨hg.os.trans ha.below.os, hg.tape.trans ha.below.tape, hg.output.trans ha.below.output, ?_, fun i hi hn => ⟨?_, fun hvi => ?_⟩⟩
    · have := hg.size
      have := (grown_set w1 R.p 3 dn').size
      omega
    · rw [hbl i (Nat.lt_of_lt_of_le hi hsz) (fun e => hn (.inl e)) (fun e => hn (.inr (.inr (.inl e))))]
      exact ha.below.block i hi
    · rintro (e | e | e | e)
      · exact hn (.inl e)
      · exact hn (.inr (.inl e))
      · change dn'.ownBlock = some i at e
        rcases hl with hl | hl
        · exact hn (.inr (.inr (.inl (hl ▸ e))))
        · rw [hl] at e
          simp only [Option.some.injEq] at e
          omega
      · rw [rows_more] at e
        obtain ⟨x, hx, he⟩ := mem_blocks.1 e
        rcases List.mem_append.1 hx with hx | hx
        · exact hn (.inr (.inr (.inr (mem_blocks.2 ⟨x, hx, he⟩))))
        · simp only [List.mem_singleton] at hx
          subst hx
          exact hvi he

theorem Near.then {w w' w'' : World} {R R' R'' : Rw} {v : Value} (h : Near w R v w' R') (k : Moves w' R' w'' R'') (hv : ∀ i, v.ownBlock = some i → w''.heap[i]? = w'.heap[i]?) : Near w R v w'' R'' := by
  refine ⟨k.os.trans h.os, k.tape.trans h.tape, k.output.trans h.output, Nat.le_trans h.size k.size, fun i hi hn => ?_⟩
  obtain ⟨h1, h2⟩ := h.block i hi hn
  by_cases hvi : v.ownBlock = some i
  · exact ⟨(hv i hvi).trans h1, fun hc => absurd hvi hc⟩
  · obtain ⟨k1, k2⟩ := k.block i (Nat.lt_of_lt_of_le hi h.size) (h2 hvi)
    exact ⟨k1.trans h1, fun _ => k2⟩

end Go.Proofs.Ytinfoblgojnjfaa
