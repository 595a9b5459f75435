/-
  The reference's functions New, Arm, Sync and Drop by contracts.
-/
import Derived.Test.YtelkkpomehgcjaaGreatUat
namespace Go.Proofs.YtelkkpomehgcjaaGreat
open Go.RowKit Go.Maps
attribute [local go_sem] cell?_more frozen?_more setCell_more size_more tape_more drew_more drewN_more more_drew more_drewN more_more one_out plus_out plus_end lt_one le_p2 le_p3 le_p4 le_p5 le_p6 le_p7 le_p8 le_p9 le_p10 le_p11 le_p12 le_p13 le_p14 le_p15 le_p16 le_p17 le_p18 le_p19 le_p20 le_p21 le_p22 le_p23 le_p24 le_q0 le_q1 lt_q1 le_q2 lt_q2 le_q3 lt_q3 le_q4 lt_q4 le_q5 lt_q5 le_q6 lt_q6 le_q7 lt_q7 le_q8 lt_q8 le_q9 lt_q9 le_q10 lt_q10 le_q11 lt_q11 le_q12 lt_q12 le_q13 lt_q13 le_q14 lt_q14 le_q15 lt_q15 le_q16 lt_q16 le_q17 lt_q17 le_q18 lt_q18 le_q19 lt_q19 le_q20 lt_q20 le_q21 lt_q21 le_q22 lt_q22 le_q23 lt_q23 le_q24 lt_q24

theorem refNew_any (w : World) (room : Int) :
    Calls Tryz.prog 11 #[.int .i64 room] w fun e w' => e = .returned (.agg #[.int .i64 room, .slice none 0 0, .slice none 0 0, .int .i64 0, .bool false, .int .i64 (-1)]) ∧ Adds w w' := by
  go_enter Tryz.func11, Tryz.ntmps11
  go_wp2
  exact bodyPost_ret (v := .agg #[.int .i64 room, .slice none 0 0, .slice none 0 0, .int .i64 0, .bool false, .int .i64 (-1)]) (by simp [results, Tryz.results11, go_sem]) rfl ⟨rfl, by repeat (first | with_reducible exact Adds.refl _ | with_reducible refine Adds.alloc ?_ _ | with_reducible refine Adds.more ?_ _ _ | with_reducible refine Adds.drew ?_ | with_reducible refine Adds.drewN ?_ _)⟩

theorem refArm_any (w : World) (room live armed : Int) (gone : Bool) (ko dO : Option Addr) (kn kc dn dc : Nat) (n : Int) :
    Calls Tryz.prog 13 #[.agg #[.int .i64 room, .slice ko kn kc, .slice dO dn dc, .int .i64 live, .bool gone, .int .i64 armed], .int .i64 n] w fun e w' => e = .returned (.agg #[.int .i64 room, .slice ko kn kc, .slice dO dn dc, .int .i64 live, .bool gone, .int .i64 (if gone then armed else if n < 0 then -1 else n)]) ∧ Adds w w' := by
  cases gone
  · by_cases hn : n < 0
    · simp only [hn, if_true, Bool.false_eq_true, if_false]
      go_enter Tryz.func13, Tryz.ntmps13
      go_wp2
      exact bodyPost_ret (v := .agg #[.int .i64 room, .slice ko kn kc, .slice dO dn dc, .int .i64 live, .bool false, .int .i64 (-1)]) (by simp [results, Tryz.results13, go_sem]) rfl ⟨rfl, by repeat (first | with_reducible exact Adds.refl _ | with_reducible refine Adds.alloc ?_ _ | with_reducible refine Adds.more ?_ _ _ | with_reducible refine Adds.drew ?_ | with_reducible refine Adds.drewN ?_ _)⟩
    · simp only [hn, Bool.false_eq_true, if_false]
      go_enter Tryz.func13, Tryz.ntmps13
      go_wp2
      exact bodyPost_ret (v := .agg #[.int .i64 room, .slice ko kn kc, .slice dO dn dc, .int .i64 live, .bool false, .int .i64 n]) (by simp [results, Tryz.results13, go_sem]) rfl ⟨rfl, by repeat (first | with_reducible exact Adds.refl _ | with_reducible refine Adds.alloc ?_ _ | with_reducible refine Adds.more ?_ _ _ | with_reducible refine Adds.drew ?_ | with_reducible refine Adds.drewN ?_ _)⟩
  · simp only [if_true]
    go_enter Tryz.func13, Tryz.ntmps13
    go_wp2
    exact bodyPost_ret (v := .agg #[.int .i64 room, .slice ko kn kc, .slice dO dn dc, .int .i64 live, .bool true, .int .i64 armed]) (by simp [results, Tryz.results13, go_sem]) rfl ⟨rfl, by repeat (first | with_reducible exact Adds.refl _ | with_reducible refine Adds.alloc ?_ _ | with_reducible refine Adds.more ?_ _ _ | with_reducible refine Adds.drew ?_ | with_reducible refine Adds.drewN ?_ _)⟩

theorem FilesV.turn {w w' : World} {R : Rw} {v : Value} {l : List Fl} {p q : Nat} (h : FilesV w R v l) (h1 : ∃ C, w.heap[p]? = some (.cells C 36 (0, 0))) (h2 : ∃ C, w.heap[q]? = some (.cells C 36 (0, 0))) (ht : Turn2 p q w w') : FilesV w' R v l := by
  obtain ⟨C1, h1⟩ := h1
  obtain ⟨C2, h2⟩ := h2
  refine ⟨h.row.keep fun b C hb => ht.block b (Array.getElem?_eq_some_iff.1 hb).1 (fun e => ?_) (fun e => ?_), fun x hx => (h.bytes x hx).keep fun b C hb hf => ⟨ht.block b (Array.getElem?_eq_some_iff.1 hb).1 (fun e => ?_) (fun e => ?_), hf⟩⟩
  all_goals first | (rw [e, h1] at hb; simp at hb; done) | (rw [e, h2] at hb; simp at hb; done)

theorem sync_end {w w5 w' : World} {R : Rw} {v : Value} {l : List Fl} {k : Kf} (h : FilesV w5 R v l) (hk : kf l = k) (ha : Adds w w5) (h1 : ∃ C, w5.heap[w.heap.size]? = some (.cells C 36 (0, 0))) (h2 : ∃ C, w5.heap[w.heap.size + 1]? = some (.cells C 36 (0, 0))) (ht : Turn2 w.heap.size (w.heap.size + 1) w5 w') :
    FilesV w' R v l ∧ kf l = k ∧ Adds w w' :=
  ⟨h.turn h1 h2 ht, hk, Adds.of ⟨ht.os.trans ha.below.os, ht.tape.trans ha.below.tape, ht.output.trans ha.below.output, Nat.le_trans ha.below.size ht.size, fun i hi => (ht.block i (Nat.lt_of_lt_of_le hi ha.below.size) (by omega) (by omega)).trans (ha.below.block i hi)⟩⟩

theorem refSync_any {w : World} {R : Rw} {kv dv : Value} {kept : List Fl} {done : List Un} (h : RefV w R kv dv kept done) (hF : ∀ i, R.foot i → i < w.heap.size) (hk : kept.length + done.length ≤ 1000000) (hb : ∀ p ∈ kept, p.2.2.length ≤ 100000) (hd : done.length ≤ 800000) (room live armed : Int) :
    Calls Tryz.prog 51 #[.agg #[.int .i64 room, kv, dv, .int .i64 live, .bool false, .int .i64 armed]] w fun e w' => ∃ r l', e = .returned (.agg #[.int .i64 room, r, .slice none 0 0, .int .i64 0, .bool false, .int .i64 armed]) ∧ FilesV w' R r l' ∧ kf l' = done.foldl unitK (kf kept) ∧ Adds w w' := by
  have HR : Hid (RefV w R kv dv kept done) := h
  have HFt : Hid (∀ i, R.foot i → i < w.heap.size) := hF
  obtain ⟨ko, kc, rfl, _⟩ := h.kept.slice
  obtain ⟨dO, dc, rfl, _, _, _⟩ := h.done
  have kk := fun (w1 : World) (h1 : Adds w w1) => refSeen_any (w := w1) (R := R) (HR.out.adds h1) (fun i hi => Nat.lt_of_lt_of_le (HFt.out i hi) h1.below.size) hk hb hd room live armed false
  clear h hF hb
  have hb1 : ((w.alloc (.cells #[.int .i64 room, Value.slice ko kept.length kc, Value.slice dO done.length dc, .int .i64 live, .bool false, .int .i64 armed] 36)).alloc (.cells #[.int .i64 0, .slice none 0 0, .slice none 0 0, .int .i64 0, .bool false, .int .i64 0] 36)).heap[w.heap.size]? = some (.cells #[.int .i64 room, Value.slice ko kept.length kc, Value.slice dO done.length dc, .int .i64 live, .bool false, .int .i64 armed] 36 (0, 0)) := blk_old
  have hb2 : ((w.alloc (.cells #[.int .i64 room, Value.slice ko kept.length kc, Value.slice dO done.length dc, .int .i64 live, .bool false, .int .i64 armed] 36)).alloc (.cells #[.int .i64 0, .slice none 0 0, .slice none 0 0, .int .i64 0, .bool false, .int .i64 0] 36)).heap[w.heap.size + 1]? = some (.cells #[.int .i64 0, .slice none 0 0, .slice none 0 0, .int .i64 0, .bool false, .int .i64 0] 36 (0, 0)) := blk_new
  have HB1 : Hid _ := hb1
  have HB2 : Hid _ := hb2
  clear hb1 hb2
  go_enter Tryz.func51, Tryz.ntmps51
  go_wp2_with (go_at_call 21; refine (kk _ (by repeat (first | with_reducible exact Adds.refl _ | with_reducible refine Adds.alloc ?_ _ | with_reducible refine Adds.more ?_ _ _ | with_reducible refine Adds.drew ?_ | with_reducible refine Adds.drewN ?_ _))).mono ?_; rintro e w5 ⟨r5, l5, rfl, f5, k5, a5⟩; obtain ⟨so, sc, rfl, _⟩ := f5.slice; have b5 := a5.at HB1.out; have e5 := a5.at HB2.out; have c0 : w5.cell? ⟨w.heap.size, 0, none⟩ = some (.int .i64 room) := cell_of_row w5 _ 0 _ _ _ b5; have c1 : w5.cell? ⟨w.heap.size, 1, none⟩ = some (.slice ko kept.length kc) := cell_of_row w5 _ 1 _ _ _ b5; have c2 : w5.cell? ⟨w.heap.size, 2, none⟩ = some (.slice dO done.length dc) := cell_of_row w5 _ 2 _ _ _ b5; have c3 : w5.cell? ⟨w.heap.size, 3, none⟩ = some (.int .i64 live) := cell_of_row w5 _ 3 _ _ _ b5; have c4 : w5.cell? ⟨w.heap.size, 4, none⟩ = some (.bool false) := cell_of_row w5 _ 4 _ _ _ b5; have c5 : w5.cell? ⟨w.heap.size, 5, none⟩ = some (.int .i64 armed) := cell_of_row w5 _ 5 _ _ _ b5; have d0 : w5.cell? ⟨w.heap.size + 1, 0, none⟩ = some (.int .i64 0) := cell_of_row w5 _ 0 _ _ _ e5; have d1 : w5.cell? ⟨w.heap.size + 1, 1, none⟩ = some (.slice none 0 0) := cell_of_row w5 _ 1 _ _ _ e5; have d2 : w5.cell? ⟨w.heap.size + 1, 2, none⟩ = some (.slice none 0 0) := cell_of_row w5 _ 2 _ _ _ e5; have d3 : w5.cell? ⟨w.heap.size + 1, 3, none⟩ = some (.int .i64 0) := cell_of_row w5 _ 3 _ _ _ e5; have d4 : w5.cell? ⟨w.heap.size + 1, 4, none⟩ = some (.bool false) := cell_of_row w5 _ 4 _ _ _ e5; have d5 : w5.cell? ⟨w.heap.size + 1, 5, none⟩ = some (.int .i64 0) := cell_of_row w5 _ 5 _ _ _ e5; have f1 : ∀ i, w5.frozen? ⟨w.heap.size, i, none⟩ = false := fun i => frozen_of b5; have f3 : ∀ i, w5.frozen? ⟨w.heap.size + 1, i, none⟩ = false := fun i => frozen_of e5; have HN : Hid (FilesV w5 R (.slice so l5.length sc) l5 ∧ kf l5 = done.foldl unitK (kf kept) ∧ Adds w w5) := ⟨f5, k5, Adds.trans (by repeat (first | with_reducible exact Adds.refl _ | with_reducible refine Adds.alloc ?_ _ | with_reducible refine Adds.more ?_ _ _ | with_reducible refine Adds.drew ?_ | with_reducible refine Adds.drewN ?_ _)) a5⟩; have HK : Hid ((∃ C, w5.heap[w.heap.size]? = some (.cells C 36 (0, 0))) ∧ ∃ C, w5.heap[w.heap.size + 1]? = some (.cells C 36 (0, 0))) := ⟨⟨_, b5⟩, ⟨_, e5⟩⟩; clear f5 k5 a5 b5 e5 kk)
  refine bodyPost_ret (v := .agg #[.int .i64 room, .slice so l5.length sc, .slice none 0 0, .int .i64 0, .bool false, .int .i64 armed]) (by simp [results, Tryz.results51, go_sem, d0, d1, d2, d3, d4, d5]) rfl ⟨_, l5, rfl, ?_⟩
  exact sync_end HN.out.1 HN.out.2.1 HN.out.2.2 HK.out.1 HK.out.2 (by repeat (first | with_reducible exact Turn2.refl _ _ _ | with_reducible refine Turn2.set1 ?_ _ _ | with_reducible refine Turn2.set2 ?_ _ _))

theorem refSync_gone (w : World) (room live armed : Int) (ko dO : Option Addr) (kn kc dn dc : Nat) :
    Calls Tryz.prog 51 #[.agg #[.int .i64 room, .slice ko kn kc, .slice dO dn dc, .int .i64 live, .bool true, .int .i64 armed]] w fun e w' => e = .returned (.agg #[.int .i64 room, .slice ko kn kc, .slice dO dn dc, .int .i64 live, .bool true, .int .i64 armed]) ∧ Adds w w' := by
  go_enter Tryz.func51, Tryz.ntmps51
  go_wp2
  exact bodyPost_ret (v := .agg #[.int .i64 room, .slice ko kn kc, .slice dO dn dc, .int .i64 live, .bool true, .int .i64 armed]) (by simp [results, Tryz.results51, go_sem]) rfl ⟨rfl, by repeat (first | with_reducible exact Adds.refl _ | with_reducible refine Adds.alloc ?_ _ | with_reducible refine Adds.more ?_ _ _ | with_reducible refine Adds.drew ?_ | with_reducible refine Adds.drewN ?_ _)⟩

end Go.Proofs.YtelkkpomehgcjaaGreat
