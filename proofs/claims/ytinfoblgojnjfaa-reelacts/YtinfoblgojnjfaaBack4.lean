/-
  The method takeBack by contract: the walks where bytes were appended.
-/
import Derived.Test.YtinfoblgojnjfaaBack3
namespace Go.Proofs.Ytinfoblgojnjfaa
open Go.RowKit Go.Maps

theorem set_grown {w : World} {p i : Nat} {v : Value} {o : Obj} : (w.alloc o).grownBy ((w.alloc o).setCell ⟨p, i, none⟩ v).drew (some p) := grown_drew (grown_set _ p i v)

theorem rest_last {R : Rw} {ds : List (Dd × Value)} {d : Dd} {v : Value} (he : R.ds = ds ++ [(d, v)]) (k : Int) : R.rest k = ((del k R.fs).map (·.2) ++ ds.map fun d => (d.2, d.1.lost)) ++ [(v, d.lost)] := by
  unfold Rw.rest
  rw [he]
  simp

theorem blocks_left {l m : List (Value × List UInt8)} (h : (blocks (l ++ m)).Nodup) : (blocks l).Nodup := by
  unfold blocks at h ⊢
  rw [List.filterMap_append] at h
  exact (List.nodup_append.1 h).1

theorem back_fresh {w : World} {B : Nat} {R : Rw} (h : Mem w B R) {ds : List (Dd × Value)} {d : Dd} {v : Value} (he : R.ds = ds ++ [(d, v)]) (hdrop : d.drop = false) (hfr : d.fresh = true) {vb : Value} {b : List UInt8} (hg : get d.file R.fs = some (d.file, vb, b)) (hbl : d.data.length = b.length)
    (hb : R.bulk ≤ 1099511627776) :
    Calls Try.prog 41 #[ptr R.p, .agg #[.int .i64 d.file, .int .i64 (d.units : Int), .bool d.fresh, .bool d.drop, v], .int .i64 0] w fun e w' => e = .returned (.tuple #[]) ∧
      Mem w' B (R.back (del d.file R.fs) ds d v) ∧ Moves w R w' (R.back (del d.file R.fs) ds d v) := by
  have hun : d.units = b.length := by simp [Dd.units, hdrop, hbl]
  have hfk := h.files (d, v) (by rw [he]; simp)
  simp only at hfk
  have hat : R.at d.file vb b := .inl hg
  obtain ⟨hv, hn, hsub, hsz, htot⟩ := Rw.at_rest h hat
  have htl := R.total_le
  rw [rest_last he] at hn hsub
  have hn' := blocks_left hn
  have hplt := (h.lt (.inl rfl)).2
  have hfew := h.few
  have hp0 : (w.alloc (box d v)).heap[R.p]? = some (.cells R.cells 55 (0, 0)) := (h.adds ((Adds.refl _).alloc _)).hp
  have hset := heap_setCell_at (i := 1) (.int .i64 ((total R.fs : Int) - (b.length : Int))) hp0 (by simp [Rw.cells])
  have hmX : ((w.alloc (box d v)).setCell ⟨R.p, 1, none⟩ (.int .i64 ((total R.fs : Int) - (b.length : Int)))).drew.ownsMap Try.prog 3 raw R.m R.fs.length (dOf R.fs) :=
    ((h.adds ((Adds.refl _).alloc _)).hm.setCell (fun e => map_ne h e.symm) _)
  obtain ⟨w2, r2, m2, t2⟩ := hmX.drop law3 Try.underlying52 (key3 hfk) 0
  have HM : Hid _ := mem_step h ((Adds.refl _).alloc _) set_grown he (del d.file R.fs) (by rw [show (total (del d.file R.fs) : Int) = (total R.fs : Int) - (b.length : Int) by omega]; exact hset) t2 (by rw [dOf_del] at m2; exact m2) (h.srt.del _) (fun x hx => h.keys x (mem_del_iff.1 hx).1)
    (fun x hx => h.hr x (hsub x (List.mem_append.2 (.inl hx)))) hn' (fun i hi => by
      obtain ⟨x, hx, hxe⟩ := mem_blocks.1 hi
      exact mem_blocks.2 ⟨x, hsub x (List.mem_append.2 (.inl hx)), hxe⟩)
  obtain ⟨c0, c1, c2, c3, c4, c5, c6, c7⟩ := h.cells8
  have hfz := h.thaw
  have hbt : b.length ≤ total R.fs := by omega
  have hpq : R.p ≠ w.heap.size := by omega
  rw [World.setCell_alloc_past _ _ _ _ hplt] at r2
  unfold box at r2
  rw [hdrop, hfr, hun] at r2 ⊢
  clear c0 c3 c4 c5 c6 c7 m2 t2 hmX hset hp0 hn hn' hsub hv he hsz htot hbl hun hdrop hfr
  go_enter Try.func41, Try.ntmps41
  go_wp2
  go_region_law (refine delete_step rfl (.tmp 49) (.tmp 51) rfl (.map (some R.m)) (.int .i64 d.file) rfl rfl w2 r2 ?_)
  all_goals
    go_wp2
    exact bodyPost_ret (results_none rfl _ _ _) rfl ⟨rfl, HM.out⟩

end Go.Proofs.Ytinfoblgojnjfaa
