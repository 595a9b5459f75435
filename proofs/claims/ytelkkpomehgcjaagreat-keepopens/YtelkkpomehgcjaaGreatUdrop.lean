/-
  The reference's function Drop by contract.
-/
import Derived.Test.YtelkkpomehgcjaaGreatUops
namespace Go.Proofs.YtelkkpomehgcjaaGreat
open Go.RowKit Go.Maps
attribute [local go_sem] cell?_more frozen?_more setCell_more size_more tape_more drew_more drewN_more more_drew more_drewN more_more one_out plus_out plus_end lt_one le_p2 le_p3 le_p4 le_p5 le_p6 le_p7 le_p8 le_p9 le_p10 le_p11 le_p12 le_p13 le_p14 le_p15 le_p16 le_p17 le_p18 le_p19 le_p20 le_p21 le_p22 le_p23 le_p24 le_q0 le_q1 lt_q1 le_q2 lt_q2 le_q3 lt_q3 le_q4 lt_q4 le_q5 lt_q5 le_q6 lt_q6 le_q7 lt_q7 le_q8 lt_q8 le_q9 lt_q9 le_q10 lt_q10 le_q11 lt_q11 le_q12 lt_q12 le_q13 lt_q13 le_q14 lt_q14 le_q15 lt_q15 le_q16 lt_q16 le_q17 lt_q17 le_q18 lt_q18 le_q19 lt_q19 le_q20 lt_q20 le_q21 lt_q21 le_q22 lt_q22 le_q23 lt_q23 le_q24 lt_q24

theorem turn_adds {w w5 w' : World} {q : Nat} (hq : w.heap.size ≤ q) (ha : Adds w w5) (ht : Turn2 q q w5 w') : Adds w w' :=
  Adds.of ⟨ht.os.trans ha.below.os, ht.tape.trans ha.below.tape, ht.output.trans ha.below.output, Nat.le_trans ha.below.size ht.size, fun i hi => (ht.block i (Nat.lt_of_lt_of_le hi ha.below.size) (by omega) (by omega)).trans (ha.below.block i hi)⟩

theorem ref_turn {w w7 w' : World} {R : Rw} {kv dv : Value} {kept : List Fl} {done : List Un} {q : Nat} (hq : w.heap.size ≤ q) (h : RefV w7 R kv dv kept done) (ha : Adds w w7) (h1 : ∃ C, w7.heap[q]? = some (.cells C 36 (0, 0))) (ht : Turn2 q q w7 w') : RefV w' R kv dv kept done ∧ Adds w w' := by
  refine ⟨⟨h.kept.turn h1 h1 ht, h.done.keep fun b C hb => ?_⟩, turn_adds hq ha ht⟩
  obtain ⟨C1, h1⟩ := h1
  have hne : b ≠ q := by
    intro e
    rw [e, h1] at hb
    simp at hb
  exact ht.block b (Array.getElem?_eq_some_iff.1 hb).1 hne hne

theorem refDrop_any {w : World} {R : Rw} {kv dv : Value} {kept : List Fl} {r : Rf} (h : RefV w R kv dv kept r.done) (hF : ∀ i, R.foot i → i < w.heap.size) (hk : kept.length + r.done.length ≤ 1000000) (hb : ∀ p ∈ kept, p.2.2.length ≤ 100000) (hd : r.done.length ≤ 800000) (ha : -1 ≤ r.armed) (ha' : r.armed ≤ 9223372036854775807) (file : Int) :
    Calls Tryz.prog 72 #[.agg #[.int .i64 r.room, kv, dv, .int .i64 (r.live : Int), .bool r.gone, .int .i64 r.armed], .int .i64 file] w fun e w' => ((∀ p ∈ r.done.foldl unitK (kf kept), p.1 ≠ file) ∧ e = .returned (.tuple #[.agg #[.int .i64 r.room, kv, dv, .int .i64 (r.live : Int), .bool r.gone, .int .i64 r.armed], .int .i64 4]) ∧ Adds w w') ∨ ((∃ p ∈ r.done.foldl unitK (kf kept), p.1 = file) ∧ ∃ dv', e = .returned (.tuple #[.agg #[.int .i64 r.room, kv, dv', .int .i64 ((r.put ⟨file, 0, true, false⟩).live : Int), .bool (r.put ⟨file, 0, true, false⟩).gone, .int .i64 (r.put ⟨file, 0, true, false⟩).armed], .int .i64 0]) ∧ RefV w' R kv dv' kept (r.put ⟨file, 0, true, false⟩).done ∧ Adds w w') := by
  have HR : Hid (RefV w R kv dv kept r.done) := h
  have HFt : Hid (∀ i, R.foot i → i < w.heap.size) := hF
  have HB : Hid (∀ p ∈ kept, p.2.2.length ≤ 100000) := hb
  obtain ⟨ko, kc, rfl, _⟩ := h.kept.slice
  obtain ⟨dO, dc, rfl, _, _, _⟩ := h.done
  have k1 := fun (w1 : World) (h1 : Adds w w1) => refSeen_any (w := w1) (R := R) (HR.out.adds h1) (fun i hi => Nat.lt_of_lt_of_le (HFt.out i hi) h1.below.size) hk hb hd r.room r.live r.armed r.gone
  have k2 := fun (w1 : World) (v : Value) (l : List Fl) (h1 : FilesV w1 R v l) (h2 : l.length ≤ 1000000) => refAt_any h1 h2 file
  have k3 := fun (w1 : World) (h1 : Adds w w1) => refDo_any (w := w1) (R := R) (HR.out.adds h1) hd ha ha' ⟨file, 0, true, false⟩
  have HL : Hid (∀ l5 : List Fl, kf l5 = r.done.foldl unitK (kf kept) → l5.length ≤ 1000000) := by
    intro l5 h5
    have h1 := foldl_length r.done (kf kept)
    rw [← h5, kf_length, kf_length] at h1
    omega
  clear h hF hb
  obtain ⟨room, rkept, done, live, gone, armed⟩ := r
  simp only at *
  have HB1 : Hid (((w.alloc (.cells #[.int .i64 room, Value.slice ko kept.length kc, Value.slice dO done.length dc, .int .i64 (live : Int), .bool gone, .int .i64 armed] 36)).alloc (.cells #[.int .i64 0, .slice none 0 0, .slice none 0 0, .int .i64 0, .bool false, .int .i64 0] 36)).heap[w.heap.size]? = some (.cells #[.int .i64 room, Value.slice ko kept.length kc, Value.slice dO done.length dc, .int .i64 (live : Int), .bool gone, .int .i64 armed] 36 (0, 0))) := blk_old
  have HB2 : Hid (((w.alloc (.cells #[.int .i64 room, Value.slice ko kept.length kc, Value.slice dO done.length dc, .int .i64 (live : Int), .bool gone, .int .i64 armed] 36)).alloc (.cells #[.int .i64 0, .slice none 0 0, .slice none 0 0, .int .i64 0, .bool false, .int .i64 0] 36)).heap[w.heap.size + 1]? = some (.cells #[.int .i64 0, .slice none 0 0, .slice none 0 0, .int .i64 0, .bool false, .int .i64 0] 36 (0, 0))) := blk_new
  go_enter Tryz.func72, Tryz.ntmps72
  go_wp2_with (first
    | (go_at_call 21; refine (k1 _ (by repeat (first | with_reducible exact Adds.refl _ | with_reducible refine Adds.alloc ?_ _ | with_reducible refine Adds.more ?_ _ _ | with_reducible refine Adds.drew ?_ | with_reducible refine Adds.drewN ?_ _))).mono ?_; rintro e w5 ⟨r5, l5, rfl, f5, k5, a5⟩; obtain ⟨so, sc, rfl, _⟩ := f5.slice; have b5 := a5.at HB1.out; have e5 := a5.at HB2.out; have c0 : w5.cell? ⟨w.heap.size, 0, none⟩ = some (.int .i64 room) := cell_of_row w5 _ 0 _ _ _ b5; have c1 : w5.cell? ⟨w.heap.size, 1, none⟩ = some (.slice ko kept.length kc) := cell_of_row w5 _ 1 _ _ _ b5; have c2 : w5.cell? ⟨w.heap.size, 2, none⟩ = some (.slice dO done.length dc) := cell_of_row w5 _ 2 _ _ _ b5; have c3 : w5.cell? ⟨w.heap.size, 3, none⟩ = some (.int .i64 (live : Int)) := cell_of_row w5 _ 3 _ _ _ b5; have c4 : w5.cell? ⟨w.heap.size, 4, none⟩ = some (.bool gone) := cell_of_row w5 _ 4 _ _ _ b5; have c5 : w5.cell? ⟨w.heap.size, 5, none⟩ = some (.int .i64 armed) := cell_of_row w5 _ 5 _ _ _ b5; have d0 : w5.cell? ⟨w.heap.size + 1, 0, none⟩ = some (.int .i64 0) := cell_of_row w5 _ 0 _ _ _ e5; have d1 : w5.cell? ⟨w.heap.size + 1, 1, none⟩ = some (.slice none 0 0) := cell_of_row w5 _ 1 _ _ _ e5; have d2 : w5.cell? ⟨w.heap.size + 1, 2, none⟩ = some (.slice none 0 0) := cell_of_row w5 _ 2 _ _ _ e5; have d3 : w5.cell? ⟨w.heap.size + 1, 3, none⟩ = some (.int .i64 0) := cell_of_row w5 _ 3 _ _ _ e5; have d4 : w5.cell? ⟨w.heap.size + 1, 4, none⟩ = some (.bool false) := cell_of_row w5 _ 4 _ _ _ e5; have d5 : w5.cell? ⟨w.heap.size + 1, 5, none⟩ = some (.int .i64 0) := cell_of_row w5 _ 5 _ _ _ e5; have f3 : ∀ i, w5.frozen? ⟨w.heap.size + 1, i, none⟩ = false := fun i => frozen_of e5; have HN : Hid (FilesV w5 R (.slice so l5.length sc) l5 ∧ kf l5 = done.foldl unitK (kf kept) ∧ Adds w w5) := ⟨f5, k5, Adds.trans (by repeat (first | with_reducible exact Adds.refl _ | with_reducible refine Adds.alloc ?_ _ | with_reducible refine Adds.more ?_ _ _ | with_reducible refine Adds.drew ?_ | with_reducible refine Adds.drewN ?_ _)) a5⟩; have HK : Hid (w5.heap[w.heap.size + 1]? = some (.cells #[.int .i64 0, .slice none 0 0, .slice none 0 0, .int .i64 0, .bool false, .int .i64 0] 36 (0, 0))) := e5; clear f5 k5 a5 b5 e5 k1)
    | (go_at_call 92; refine (k2 _ _ _ HN.out.1 (HL.out l5 HN.out.2.1)).mono ?_; rintro e w6 ⟨i6, rfl, rfl, h6⟩; rcases h6 with ⟨rfl, h6⟩ | ⟨j6, rfl, hj6, h6⟩)
    | (go_at_call 76; refine (k3 _ (HN.out.2.2.trans (by repeat (first | with_reducible exact Adds.refl _ | with_reducible refine Adds.alloc ?_ _ | with_reducible refine Adds.more ?_ _ _ | with_reducible refine Adds.drew ?_ | with_reducible refine Adds.drewN ?_ _)))).mono ?_; rintro e w7 ⟨v7, rfl, r7, a7⟩; obtain ⟨o7, cc7, rfl, _, _, _⟩ := r7.done; have e7 := a7.at (((by repeat (first | with_reducible exact Adds.refl _ | with_reducible refine Adds.alloc ?_ _ | with_reducible refine Adds.more ?_ _ _ | with_reducible refine Adds.drew ?_ | with_reducible refine Adds.drewN ?_ _)) : Adds _ _).at HK.out); have g0 : w7.cell? ⟨w.heap.size + 1, 0, none⟩ = some (.int .i64 0) := cell_of_row w7 _ 0 _ _ _ e7; have g1 : w7.cell? ⟨w.heap.size + 1, 1, none⟩ = some (.slice none 0 0) := cell_of_row w7 _ 1 _ _ _ e7; have g2 : w7.cell? ⟨w.heap.size + 1, 2, none⟩ = some (.slice none 0 0) := cell_of_row w7 _ 2 _ _ _ e7; have g3 : w7.cell? ⟨w.heap.size + 1, 3, none⟩ = some (.int .i64 0) := cell_of_row w7 _ 3 _ _ _ e7; have g4 : w7.cell? ⟨w.heap.size + 1, 4, none⟩ = some (.bool false) := cell_of_row w7 _ 4 _ _ _ e7; have g5 : w7.cell? ⟨w.heap.size + 1, 5, none⟩ = some (.int .i64 0) := cell_of_row w7 _ 5 _ _ _ e7; have f7 : ∀ i, w7.frozen? ⟨w.heap.size + 1, i, none⟩ = false := fun i => frozen_of e7))
  · refine bodyPost_ret (v := .tuple #[.agg #[.int .i64 room, .slice ko kept.length kc, .slice dO done.length dc, .int .i64 (live : Int), .bool gone, .int .i64 armed], .int .i64 4]) (by simp [results, Tryz.results72, go_sem, d0, d1, d2, d3, d4, d5]) rfl (.inl ⟨fun p hp => ?_, rfl, ?_⟩)
    · rw [← HN.out.2.1] at hp
      obtain ⟨x, hx, rfl⟩ := List.mem_map.1 hp
      exact h6 x hx
    · exact turn_adds (Nat.le_succ _) HN.out.2.2 (by repeat (first | with_reducible exact Turn2.refl _ _ _ | with_reducible refine Turn2.set1 ?_ _ _ | with_reducible refine Turn2.set2 ?_ _ _))
  · generalize hu : (⟨file, 0, true, false⟩ : Un) = u at *
    generalize hp : Rf.put ⟨room, rkept, done, live, gone, armed⟩ u = P at *
    refine bodyPost_ret (v := .tuple #[.agg #[.int .i64 room, .slice ko kept.length kc, .slice o7 P.done.length cc7, .int .i64 (P.live : Int), .bool P.gone, .int .i64 P.armed], .int .i64 0]) (by simp [results, Tryz.results72, go_sem, g0, g1, g2, g3, g4, g5]) rfl (.inr ⟨?_, _, rfl, ?_⟩)
    · rw [← HN.out.2.1]
      exact ⟨_, List.mem_map.2 ⟨_, List.getElem_mem hj6, rfl⟩, h6⟩
    · have hA : Adds w w7 := HN.out.2.2.trans (Adds.trans (by repeat (first | with_reducible exact Adds.refl _ | with_reducible refine Adds.alloc ?_ _ | with_reducible refine Adds.more ?_ _ _ | with_reducible refine Adds.drew ?_ | with_reducible refine Adds.drewN ?_ _)) a7)
      exact ref_turn (Nat.le_succ _) r7 hA ⟨_, e7⟩ (by repeat (first | with_reducible exact Turn2.refl _ _ _ | with_reducible refine Turn2.set1 ?_ _ _ | with_reducible refine Turn2.set2 ?_ _ _))

end Go.Proofs.YtelkkpomehgcjaaGreat
