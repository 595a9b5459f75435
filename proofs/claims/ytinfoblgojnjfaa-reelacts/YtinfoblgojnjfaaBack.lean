/-
  The method takeBack by contract: a file that was dropped is there again.
-/
import Derived.Test.YtinfoblgojnjfaaRead
namespace Go.Proofs.Ytinfoblgojnjfaa
open Go.RowKit Go.Maps

/-- The last deed is undone: the files are fs now. -/
def Rw.back (R : Rw) (fs : List Fl) (ds : List (Dd × Value)) (d : Dd) (v : Value) : Rw := { R with fs := fs, ds := ds, dead := (d, v) :: R.dead }

theorem rows_last {R : Rw} {ds : List (Dd × Value)} {d : Dd} {v : Value} (he : R.ds = ds ++ [(d, v)]) : R.rows.Perm ((v, d.lost) :: (R.fs.map (·.2) ++ ds.map fun d => (d.2, d.1.lost))) := by
  unfold Rw.rows
  rw [he]
  simp only [List.map_append, List.map_cons, List.map_nil, ← List.append_assoc]
  exact List.perm_append_comm

theorem mem_back {w W w2 : World} {B : Nat} {R : Rw} (h : Mem w B R) (ha : Adds w W) {ds : List (Dd × Value)} {d : Dd} {v : Value} (he : R.ds = ds ++ [(d, v)]) (hdrop : d.drop = true) (hg : get d.file R.fs = none)
    (hm2 : w2.ownsMap Try.prog 3 raw R.m (R.fs.length + 1) ((dOf R.fs).put (.int .i64 d.file) (.held v))) (t2 : W.mapTurned w2 R.m) :
    Mem (w2.setCell ⟨R.p, 1, none⟩ (.int .i64 ((total R.fs : Int) + (d.data.length : Int)))) B (R.back (put d.file v d.data R.fs) ds d v) ∧ Moves w R (w2.setCell ⟨R.p, 1, none⟩ (.int .i64 ((total R.fs : Int) + (d.data.length : Int)))) (R.back (put d.file v d.data R.fs) ds d v) := by
  have hW := h.adds ha
  have hlost : d.lost = d.data := by simp [Dd.lost, hdrop]
  obtain ⟨hp2, _, _⟩ := put_post h hW.hp t2
  have hset := heap_setCell_at (i := 1) (.int .i64 ((total R.fs : Int) + (d.data.length : Int))) hp2 (by simp [Rw.cells])
  have hgs := grown_set w2 R.p 1 (.int .i64 ((total R.fs : Int) + (d.data.length : Int)))
  have ht2 := t2.grown
  have hsW := ha.below.size
  have hs2 := ht2.size
  have hs3 := hgs.size
  have hperm : (R.back (put d.file v d.data R.fs) ds d v).rows.Perm R.rows := by
    refine List.Perm.trans ?_ (rows_last he).symm
    rw [hlost]
    unfold Rw.rows Rw.back put
    have := ((perm_ins (d.file, v, d.data) (del d.file R.fs)).map (·.2)).append_right (ds.map fun d => (d.2, d.1.lost))
    rw [del_none (get_none hg)] at this ⊢
    simpa using this
  have hbp := blocks_perm hperm
  have hkeep : ∀ i, i < w.heap.size → i ≠ R.p → i ≠ R.m → (w2.setCell ⟨R.p, 1, none⟩ (.int .i64 ((total R.fs : Int) + (d.data.length : Int)))).heap[i]? = w.heap[i]? := by
    intro i hi e1 e2
    rw [hgs.block i (by omega) (fun e => e1 (by simpa using e)), ht2.block i (by omega) (fun e => e2 (by simpa using e))]
    exact ha.below.block i hi
  refine h.refile none (fun i hi => by cases hi) ⟨?_, ?_, ?_, by omega⟩ (fun i hi e1 e2 _ => hkeep i hi e1 e2) rfl rfl rfl (by simp [Rw.back, he]) ?_ ?_ (h.srt.put _ _ _) ?_ ?_ h.room h.arm h.wfl (fun x hx => .inl ⟨hperm.mem_iff.1 hx, fun _ _ e => by cases e⟩) (hbp.nodup_iff.2 h.nd) (fun i hi => .inl (hbp.mem_iff.1 hi))
  · exact (hgs.os.trans ht2.os).trans ha.below.os
  · exact (hgs.tape.trans ht2.tape).trans ha.below.tape
  · exact (hgs.output.trans ht2.output).trans ha.below.output
  · have e : (total (put d.file v d.data R.fs) : Int) = (total R.fs : Int) + (d.data.length : Int) := by
      rw [total_put, total_none hg]
      omega
    show _ = some (Obj.cells #[.int .i64 (R.room : Int), .int .i64 (total (put d.file v d.data R.fs) : Int), .map (some R.m), R.dn, .int .i64 (R.count : Int), .bool R.armed, .int .i64 R.left, .bool R.gone] 55 (0, 0))
    rw [e]
    exact hset
  · rw [dOf_put d.file v d.data] at hm2
    have := map_tight hm2
    rw [dOf_size] at this
    exact this.setCell (fun e => map_ne h e.symm) _
  · intro x hx
    rcases mem_put_iff.1 hx with rfl | ⟨hx, _⟩
    · exact h.files (d, v) (by rw [he]; simp)
    · exact h.keys x hx
  · intro x hx
    exact h.files x (by rw [he]; exact List.mem_append.2 (.inl hx))

theorem bulk_back {w : World} {B : Nat} {R : Rw} (h : Mem w B R) {ds : List (Dd × Value)} {d : Dd} {v : Value} (he : R.ds = ds ++ [(d, v)]) : R.bulk = size R.rows + (ds.length + 1) + R.dead.length + R.count := by
  have := h.srt
  unfold Rw.bulk
  rw [he]
  simp

end Go.Proofs.Ytinfoblgojnjfaa
