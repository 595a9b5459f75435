/-
  The methods Drop, Read and New by contracts; what Append refuses.
-/
import Derived.Test.YtinfoblgojnjfaaAppend2
namespace Go.Proofs.Ytinfoblgojnjfaa
open Go.RowKit Go.Maps

theorem append_arg {w : World} {B : Nat} {R : Rw} (h : Mem w B R) (k : Int) (hk : ¬ (0 ≤ k ∧ k ≤ 1048576)) (x : Value) :
    Calls Try.prog 12 #[ptr R.p, .int .i64 k, x] w fun e w' => e = .returned (.int .i64 1) ∧ w' = w := by
  have H : Hid (Mem w B R) := h
  by_cases h0 : k < 0
  · go_enter Try.func12, Try.ntmps12
    go_wp2_with (go_at_call 30; refine (given_any H.out).mono ?_; rintro e w1 ⟨rfl, rfl⟩)
    go_ret
    exact ⟨rfl, rfl⟩
  · have h1 : 1048576 < k := by omega
    go_enter Try.func12, Try.ntmps12
    go_wp2_with (go_at_call 30; refine (given_any H.out).mono ?_; rintro e w1 ⟨rfl, rfl⟩)
    go_ret
    exact ⟨rfl, rfl⟩

theorem append_full {w : World} {B : Nat} {R : Rw} (h : Mem w B R) (k : Int) (hk : 0 ≤ k ∧ k ≤ 1048576) (x : Value) (m : List UInt8) (hx : Byt w x m) (hroom : (R.room : Int) - (total R.fs : Int) < (m.length : Int)) (hb : R.bulk ≤ 274877906944) :
    Calls Try.prog 12 #[ptr R.p, .int .i64 k, x] w fun e w' => e = .returned (.int .i64 2) ∧ Adds w w' := by
  have H : Hid (Mem w B R) := h
  obtain ⟨ao, cap, rfl, hcap, _⟩ := hx.open
  have kL := left_any h (by omega)
  go_enter Try.func12, Try.ntmps12
  go_wp2_with (first
    | (go_at_call 30; refine (given_any H.out).mono ?_; rintro e w1 ⟨rfl, rfl⟩)
    | (go_at_call 20; refine kL.mono ?_; rintro e wl ⟨rfl, hal⟩))
  go_ret
  exact ⟨rfl, hal⟩

theorem mem_del {w w1 : World} {B : Nat} {R : Rw} (h : Mem w B R) {k : Int} {v : Value} {b : List UInt8} (hg : get k R.fs = some (k, v, b))
    (hm1 : w1.ownsMap Try.prog 3 raw R.m R.fs.length ((dOf R.fs).del (.int .i64 k))) (t1 : w.mapTurned w1 R.m) :
    Mem (w1.setCell ⟨R.p, 1, none⟩ (.int .i64 ((total R.fs : Int) - (b.length : Int)))) B { R with fs := del k R.fs } ∧ Moves w R (w1.setCell ⟨R.p, 1, none⟩ (.int .i64 ((total R.fs : Int) - (b.length : Int)))) { R with fs := del k R.fs } ∧
    (w1.setCell ⟨R.p, 1, none⟩ (.int .i64 ((total R.fs : Int) - (b.length : Int)))).ownsRow B 5 1 v b.length (cellsB b) := by
  have hat : R.at k v b := .inl hg
  obtain ⟨hv, hn, hsub, hsz, htot⟩ := Rw.at_rest h hat
  obtain ⟨hp1, _, _⟩ := put_post h h.hp t1
  have hset := heap_setCell_at (i := 1) (.int .i64 ((total R.fs : Int) - (b.length : Int))) hp1 (by simp [Rw.cells])
  have hgs := grown_set w1 R.p 1 (.int .i64 ((total R.fs : Int) - (b.length : Int)))
  have ht1 := t1.grown
  have hs1 := ht1.size
  have hs3 := hgs.size
  have hkeep : ∀ i, i < w.heap.size → i ≠ R.p → i ≠ R.m → (w1.setCell ⟨R.p, 1, none⟩ (.int .i64 ((total R.fs : Int) - (b.length : Int)))).heap[i]? = w.heap[i]? := by
    intro i hi e1 e2
    rw [hgs.block i (by omega) (fun e => e1 (by simpa using e)), ht1.block i hi (fun e => e2 (by simpa using e))]
  have hrest : ({ R with fs := del k R.fs } : Rw).rows = R.rest k := rfl
  have hre := h.refile (w' := w1.setCell ⟨R.p, 1, none⟩ (.int .i64 ((total R.fs : Int) - (b.length : Int)))) (R' := { R with fs := del k R.fs }) none (fun i hi => by cases hi) ⟨hgs.os.trans ht1.os, hgs.tape.trans ht1.tape, hgs.output.trans ht1.output, by omega⟩
    (fun i hi e1 e2 _ => hkeep i hi e1 e2) rfl rfl rfl rfl ?_ ?_ (h.srt.del k) (fun x hx => h.keys x (Ytinfoblgojnjfaa.mem_del_iff.1 hx).1) h.files h.room h.arm h.wfl (fun x hx => .inl ⟨hsub x hx, fun _ _ e => by cases e⟩) hn (fun i hi => ?_)
  · refine ⟨hre.1, hre.2, ?_⟩
    have hr := Rw.at_row h hat
    refine row_keep hr (fun i hi => hkeep i (hr.lt i hi).2 (fun e => ?_) (fun e => ?_))
    · obtain ⟨C, hC⟩ := row_block hr hi
      rw [e, h.hp] at hC
      simp at hC
    · obtain ⟨C, hC⟩ := row_block hr hi
      obtain ⟨es, clock, hb, _⟩ := h.hm
      rw [e, hb] at hC
      cases hC
  · have e : (total (del k R.fs) : Int) = (total R.fs : Int) - (b.length : Int) := by omega
    show _ = some (Obj.cells #[.int .i64 (R.room : Int), .int .i64 (total (del k R.fs) : Int), .map (some R.m), R.dn, .int .i64 (R.count : Int), .bool R.armed, .int .i64 R.left, .bool R.gone] 55 (0, 0))
    rw [e]
    exact hset
  · rw [dOf_del k] at hm1
    have := map_tight hm1
    rw [dOf_size] at this
    exact this.setCell (fun e => map_ne h e.symm) _
  · obtain ⟨x, hx, he⟩ := mem_blocks.1 hi
    exact .inl (mem_blocks.2 ⟨x, hsub x hx, he⟩)

/-- The reel without file k. -/
def Rw.dropped (R : Rw) (k : Int) (v : Value) (b : List UInt8) (dn : Value) : Rw := ({ R with fs := del k R.fs } : Rw).noted ⟨k, true, false, b⟩ v dn

theorem drop_none {w : World} {B : Nat} {R : Rw} (h : Mem w B R) (k : Int) (hk : (Lit.int .i64 k).wf = true) (hg : get k R.fs = none) :
    Calls Try.prog 13 #[ptr R.p, .int .i64 k] w fun e w' => e = .returned (.int .i64 4) ∧ w' = w := by
  obtain ⟨c0, c1, c2, c3, c4, c5, c6, c7⟩ := h.cells8
  have H : Hid (Mem w B R) := h
  have hhas := dOf_has k R.fs
  rw [hg] at hhas
  simp only [Option.isSome_none] at hhas
  clear c0 c1 c3 c4 c5 c6 c7
  go_enter Try.func13, Try.ntmps13
  go_wp2_with (first
    | (go_at_call 30; refine (given_any H.out).mono ?_; rintro e w1 ⟨rfl, rfl⟩)
    | (at_lookup; refine wpList_lookup_own_ok _ rfl _ _ 52 rfl 3 36 law3 Try.underlying52 raw (zero36 _) (.held (.slice none 0 0)) [] rfl R.m _ (dOf R.fs) rfl H.out.hm _ (.int .i64 k) rfl (key3w hk) ?_; intro v' ps hv'))
  go_ret
  exact ⟨rfl, rfl⟩

theorem drop_any {w : World} {B : Nat} {R : Rw} (h : Mem w B R) (hdead : R.dead = []) (k : Int) (v : Value) (b : List UInt8) (hg : get k R.fs = some (k, v, b)) (hb : R.bulk ≤ 274877906944) (hB : B ≤ w.heap.size) :
    Calls Try.prog 13 #[ptr R.p, .int .i64 k] w fun e w' => e = .returned (.int .i64 0) ∧ ∃ dn, Mem w' B (R.dropped k v b dn) ∧ Moves w R w' (R.dropped k v b dn) := by
  obtain ⟨c0, c1, c2, c3, c4, c5, c6, c7⟩ := h.cells8
  have H : Hid (Mem w B R) := h
  have hhas := dOf_has k R.fs
  rw [hg] at hhas
  simp only [Option.isSome_some] at hhas
  have hav : (dOf R.fs).atKey (.int .i64 k) (.held (.slice none 0 0)) = .held v := by rw [dOf_at, hg]
  have hkr := h.keys _ (get_some hg).1
  simp only at hkr
  have hat : R.at k v b := .inl hg
  obtain ⟨hv, hn, hsub, hsz, htot⟩ := Rw.at_rest h hat
  have hrow := Rw.at_row h hat
  obtain ⟨ao, cp, n, rfl⟩ := row_slice hrow
  have hln : cp = b.length := by
    rcases hrow.2 with ⟨e, e'⟩ | ⟨g, cap, cur, e, _⟩
    · cases e; exact e'.symm
    · cases e; rfl
  subst hln
  have htl := R.total_le
  have hfoot : ∀ i, (Value.slice ao b.length n).ownBlock = some i → R.foot i := fun i hi => .inr (.inr (.inr (hv i hi).1))
  have HV : Hid _ := hv
  have HF : Hid _ := hfoot
  have hbk : ({ R with fs := del k R.fs } : Rw).bulk ≤ R.bulk := by
    unfold Rw.bulk
    rw [hsz]
    show size (R.rest k) + R.ds.length + R.dead.length + R.count ≤ _
    omega
  have hbt : b.length ≤ total R.fs := by omega
  clear c0 c3 c4 c5 c6 c7 hv hn hsub hsz hrow hfoot htot
  go_enter Try.func13, Try.ntmps13
  go_wp2_with (first
    | (go_at_call 30; refine (given_any H.out).mono ?_; rintro e w1 ⟨rfl, rfl⟩)
    | (at_lookup; refine wpList_lookup_own_ok _ rfl _ _ 52 rfl 3 36 law3 Try.underlying52 raw (zero36 _) (.held (.slice none 0 0)) [] rfl R.m _ (dOf R.fs) rfl H.out.hm _ (.int .i64 k) rfl (key3 hkr) ?_; intro v' ps hv'; obtain rfl : v' = .slice ao b.length n := by (have e1 := hv'; rw [hav] at e1; simp [raw] at e1; exact e1.1))
    | (at_delete; refine wpList_delete_own _ rfl _ _ 52 3 rfl 36 law3 Try.underlying52 raw R.m _ (dOf R.fs) rfl H.out.hm _ (.int .i64 k) rfl (key3 hkr) ?_; intro w2 hm2 t2; obtain ⟨p2, x2, y2⟩ := put_post H.out H.out.hp t2; obtain ⟨m3, n3, r3⟩ := mem_del H.out hg hm2 t2; have kN := note_any (d := ⟨k, true, false, b⟩) (v := .slice ao b.length n) m3 hdead hkr r3 (fun i hi => (HV.out i hi).2) rfl (by omega) (Nat.le_trans hB n3.size) (by simp [Dd.units]); have kN : Calls Try.prog 31 #[ptr R.p, .agg #[.int .i64 k, .int .i64 1, .bool false, .bool true, .slice ao b.length n]] _ _ := kN; have HN : Hid _ := n3; clear hm2 t2 p2 m3 r3 n3)
    | (go_at_call 31; refine kN.mono ?_; rintro e w9 ⟨rfl, dn, hm9, hn9⟩))
  go_ret
  refine ⟨rfl, dn, hm9, ?_⟩
  have n3 := HN.out
  refine ⟨hn9.os.trans n3.os, hn9.tape.trans n3.tape, hn9.output.trans n3.output, Nat.le_trans n3.size hn9.size, fun i hi hnf => ?_⟩
  obtain ⟨a1, a2⟩ := n3.block i hi hnf
  obtain ⟨b1, b2⟩ := hn9.block i (Nat.lt_of_lt_of_le hi n3.size) a2
  exact ⟨b1.trans a1, b2 (fun e => hnf (HF.out i e))⟩

end Go.Proofs.Ytinfoblgojnjfaa
