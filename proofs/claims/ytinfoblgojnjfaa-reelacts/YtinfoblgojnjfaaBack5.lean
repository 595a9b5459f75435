/-
  The method takeBack by contract: the walk where bytes go.
-/
import Derived.Test.YtinfoblgojnjfaaBack4
namespace Go.Proofs.Ytinfoblgojnjfaa
open Go.RowKit Go.Maps

theorem set_grown2 {w : World} {p i : Nat} {v : Value} {o : Obj} : (w.alloc o).grownBy ((w.alloc o).setCell ⟨p, i, none⟩ v).drew.drew (some p) := grown_drew (grown_drew (grown_set _ p i v))

theorem back_trim {w : World} {B : Nat} {R : Rw} (h : Mem w B R) {ds : List (Dd × Value)} {d : Dd} {v : Value} (he : R.ds = ds ++ [(d, v)]) (hdrop : d.drop = false) (keep : Nat) (hfr : d.fresh = false ∨ keep ≠ 0) {ao : Option Addr} {cp : Nat} {b : List UInt8} (hg : get d.file R.fs = some (d.file, .slice ao b.length cp, b))
    (n c : Nat) (hc : (d.units : Int) - (keep : Int) = (c : Int)) (hn : b.length = n + c) (hb : R.bulk ≤ 1099511627776) (_hu : d.units ≤ 1099511627776) :
    Calls Try.prog 41 #[ptr R.p, .agg #[.int .i64 d.file, .int .i64 (d.units : Int), .bool d.fresh, .bool d.drop, v], .int .i64 (keep : Int)] w fun e w' => e = .returned (.tuple #[]) ∧
      Mem w' B (R.back (put d.file (.slice ao n cp) (b.take n) R.fs) ds d v) ∧ Moves w R w' (R.back (put d.file (.slice ao n cp) (b.take n) R.fs) ds d v) := by
  have hfk := h.files (d, v) (by rw [he]; simp)
  simp only at hfk
  have hat : R.at d.file (.slice ao b.length cp) b := .inl hg
  have hrow := Rw.at_row h hat
  obtain ⟨hv, hnd, hsub, hsz, htot⟩ := Rw.at_rest h hat
  have htl := R.total_le
  rw [rest_last he] at hnd hsub hv
  have hnd' := blocks_left hnd
  have hplt := (h.lt (.inl rfl)).2
  have hfew := h.few
  have hp0 : (w.alloc (box d v)).heap[R.p]? = some (.cells R.cells 55 (0, 0)) := (h.adds ((Adds.refl _).alloc _)).hp
  have hset := heap_setCell_at (i := 1) (.int .i64 ((total R.fs : Int) - (c : Int))) hp0 (by simp [Rw.cells])
  have hmX : ((w.alloc (box d v)).setCell ⟨R.p, 1, none⟩ (.int .i64 ((total R.fs : Int) - (c : Int)))).ownsMap Try.prog 3 raw R.m R.fs.length (dOf R.fs) :=
    ((h.adds ((Adds.refl _).alloc _)).hm.setCell (fun e => map_ne h e.symm) _)
  have hlook : (Instr.lookup 52 (.map (some R.m)) (.int .i64 d.file) false).run Try.prog ((w.alloc (box d v)).setCell ⟨R.p, 1, none⟩ (.int .i64 ((total R.fs : Int) - (c : Int)))).drew = .ok (.slice ao b.length cp) ((w.alloc (box d v)).setCell ⟨R.p, 1, none⟩ (.int .i64 ((total R.fs : Int) - (c : Int)))).drew := by
    obtain ⟨v', ps, hr, hv'⟩ := hmX.drew.lookup law3 Try.underlying52 (zero36 _) (zd := .held (.slice none 0 0)) (zp := []) rfl (key3 hfk)
    rw [dOf_at, hg] at hv'
    simp [raw] at hv'
    rw [hr, hv'.1]
  obtain ⟨w2, r2, m2, t2⟩ := hmX.drew.drew.store (val := .slice ao n cp) law3 Try.underlying52 (by unfold maxLen; omega) (key3 hfk) (d := .held (.slice ao n cp)) (ps := []) rfl
  have hperm : (R.back (put d.file (.slice ao n cp) (b.take n) R.fs) ds d v).rows.Perm ((.slice ao n cp, b.take n) :: ((del d.file R.fs).map (·.2) ++ ds.map fun d => (d.2, d.1.lost))) := by
    have := ((perm_ins (d.file, .slice ao n cp, b.take n) (del d.file R.fs)).map (·.2)).append_right (ds.map fun d => (d.2, d.1.lost))
    simpa [Rw.rows, Rw.back, put] using this
  have hbp := blocks_perm hperm
  rw [blocks_cons] at hbp
  have hob : (Value.slice ao n cp).ownBlock = (Value.slice ao b.length cp).ownBlock := by cases ao <;> rfl
  have hbn : (b.take n).length = n := by simp; omega
  have HM : Hid _ := mem_step h ((Adds.refl _).alloc _) set_grown2 he (put d.file (.slice ao n cp) (b.take n) R.fs) (by rw [show (total (put d.file (.slice ao n cp) (b.take n) R.fs) : Int) = (total R.fs : Int) - (c : Int) by rw [total_put, hbn]; omega]; exact hset) t2 (by rw [dOf_put _ _ (b.take n)] at m2; exact m2) (h.srt.put _ _ _)
    (fun x hx => by
      rcases mem_put_iff.1 hx with rfl | ⟨hx, _⟩
      · exact hfk
      · exact h.keys x hx)
    (fun x hx => by
      rcases List.mem_cons.1 (hperm.mem_iff.1 hx) with rfl | hx
      · exact row_cut hrow n (by omega)
      · exact h.hr x (hsub x (List.mem_append.2 (.inl hx))))
    (hbp.nodup_iff.2 (List.nodup_append.2 ⟨by cases (Value.slice ao n cp).ownBlock <;> simp, hnd', fun i hi j hj e => by
      subst e
      have hi' : (Value.slice ao n cp).ownBlock = some i := by simpa using hi
      rw [hob] at hi'
      obtain ⟨x, hx, hxe⟩ := mem_blocks.1 hj
      exact (hv i hi').2 (mem_blocks.2 ⟨x, List.mem_append.2 (.inl hx), hxe⟩)⟩))
    (fun i hi => by
      rcases List.mem_append.1 (hbp.mem_iff.1 hi) with hi | hi
      · have hi' : (Value.slice ao n cp).ownBlock = some i := by simpa using hi
        rw [hob] at hi'
        exact (hv i hi').1
      · obtain ⟨x, hx, hxe⟩ := mem_blocks.1 hi
        exact mem_blocks.2 ⟨x, hsub x (List.mem_append.2 (.inl hx)), hxe⟩)
  obtain ⟨c0, c1, c2, c3, c4, c5, c6, c7⟩ := h.cells8
  have hfz := h.thaw
  have hbt : b.length ≤ total R.fs := by omega
  have hpq : R.p ≠ w.heap.size := by omega
  have hbc : (b.length : Int) - (c : Int) = (n : Int) := by omega
  have hbm : b.length ≤ cp := by
    rcases hrow.2 with ⟨e, e'⟩ | ⟨g, cap, cur, e, _, _, hh, _⟩
    · simp only [Value.slice.injEq] at e
      omega
    · simp only [Value.slice.injEq] at e
      omega
  have hk : d.fresh = true → 0 < keep := by
    intro e
    rcases hfr with e' | e'
    · rw [e'] at e
      cases e
    · omega
  have hnb : n ≤ b.length := by omega
  have hcb : c ≤ b.length := by omega
  rw [World.setCell_alloc_past _ _ _ _ hplt] at r2 hlook
  unfold box at r2 hlook
  rw [hdrop] at r2 hlook ⊢
  clear c0 c3 c4 c5 c6 c7 m2 t2 hmX hset hp0 hnd hnd' hsub hv he hsz htot hdrop hrow hperm hbp hob hbn hat hn hfr
  generalize d.units = U at *
  generalize d.fresh = fr at *
  cases fr
  · clear hk
    go_enter Try.func41, Try.ntmps41
    go_wp2
    go_region
    all_goals
      go_wp2
      go_region
    all_goals
      go_wp2
      go_end0
      exact ⟨rfl, HM.out⟩
  · have hk0 : ((keep : Int) == 0) = false := by
      have := hk rfl
      simp
      omega
    clear hk
    go_enter Try.func41, Try.ntmps41
    go_wp2
    go_region
    all_goals
      go_wp2
      go_region
    all_goals
      go_wp2
      go_end0
      exact ⟨rfl, HM.out⟩

end Go.Proofs.Ytinfoblgojnjfaa
