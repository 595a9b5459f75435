/-
  The reference's function Append by contract.
-/
import Derived.Test.YtelkkpomehgcjaaGreatUdrop
namespace Go.Proofs.YtelkkpomehgcjaaGreat
open Go.RowKit Go.Maps
attribute [local go_sem] cell?_more frozen?_more setCell_more size_more tape_more drew_more drewN_more more_drew more_drewN more_more one_out plus_out plus_end lt_one le_p2 le_p3 le_p4 le_p5 le_p6 le_p7 le_p8 le_p9 le_p10 le_p11 le_p12 le_p13 le_p14 le_p15 le_p16 le_p17 le_p18 le_p19 le_p20 le_p21 le_p22 le_p23 le_p24 le_q0 le_q1 lt_q1 le_q2 lt_q2 le_q3 lt_q3 le_q4 lt_q4 le_q5 lt_q5 le_q6 lt_q6 le_q7 lt_q7 le_q8 lt_q8 le_q9 lt_q9 le_q10 lt_q10 le_q11 lt_q11 le_q12 lt_q12 le_q13 lt_q13 le_q14 lt_q14 le_q15 lt_q15 le_q16 lt_q16 le_q17 lt_q17 le_q18 lt_q18 le_q19 lt_q19 le_q20 lt_q20 le_q21 lt_q21 le_q22 lt_q22 le_q23 lt_q23 le_q24 lt_q24

/-- The units of an appending. -/
def unitsApp (file : Int) (b : List UInt8) : List Un := if b = [] then [⟨file, 0, false, true⟩] else b.map fun c => ⟨file, c, false, false⟩

theorem put_armed (r : Rf) (u : Un) (h1 : -1 ≤ r.armed) (h2 : r.armed ≤ 9223372036854775807) : -1 ≤ (r.put u).armed ∧ (r.put u).armed ≤ 9223372036854775807 := by
  unfold Rf.put
  split
  · exact ⟨h1, h2⟩
  · split
    · exact ⟨h1, h2⟩
    · split
      · exact ⟨h1, h2⟩
      · simp only
        split <;> omega

theorem put_room (r : Rf) (u : Un) : (r.put u).room = r.room := by
  unfold Rf.put
  split
  · rfl
  · split
    · rfl
    · split <;> rfl

theorem refAppend_arg (w : World) (room live armed : Int) (gone : Bool) (ko dO bo : Option Addr) (kn kc dn dc bn bc : Nat) (file : Int) (hf : file < 0 ∨ 1048576 < file) :
    Calls Tryz.prog 50 #[.agg #[.int .i64 room, .slice ko kn kc, .slice dO dn dc, .int .i64 live, .bool gone, .int .i64 armed], .int .i64 file, .slice bo bn bc] w fun e w' => e = .returned (.tuple #[.agg #[.int .i64 room, .slice ko kn kc, .slice dO dn dc, .int .i64 live, .bool gone, .int .i64 armed], .int .i64 1]) ∧ Adds w w' := by
  by_cases h0 : file < 0
  · go_enter Tryz.func50, Tryz.ntmps50
    go_wp2
    refine bodyPost_ret (v := .tuple #[.agg #[.int .i64 room, .slice ko kn kc, .slice dO dn dc, .int .i64 live, .bool gone, .int .i64 armed], .int .i64 1]) (by simp [results, Tryz.results50, go_sem]) rfl ⟨rfl, by repeat (first | with_reducible exact Adds.refl _ | with_reducible refine Adds.alloc ?_ _ | with_reducible refine Adds.more ?_ _ _ | with_reducible refine Adds.drew ?_ | with_reducible refine Adds.drewN ?_ _)⟩
  · have h1 : file > 1048576 := by omega
    go_enter Tryz.func50, Tryz.ntmps50
    go_wp2
    refine bodyPost_ret (v := .tuple #[.agg #[.int .i64 room, .slice ko kn kc, .slice dO dn dc, .int .i64 live, .bool gone, .int .i64 armed], .int .i64 1]) (by simp [results, Tryz.results50, go_sem]) rfl ⟨rfl, by repeat (first | with_reducible exact Adds.refl _ | with_reducible refine Adds.alloc ?_ _ | with_reducible refine Adds.more ?_ _ _ | with_reducible refine Adds.drew ?_ | with_reducible refine Adds.drewN ?_ _)⟩

theorem refAppend_full {w : World} {R : Rw} {kv dv : Value} {kept : List Fl} {r : Rf} (h : RefV w R kv dv kept r.done) (hF : ∀ i, R.foot i → i < w.heap.size) (hk : kept.length + r.done.length ≤ 1000000) (hb : ∀ p ∈ kept, p.2.2.length ≤ 100000) (hd : r.done.length ≤ 800000) (hr : 0 ≤ r.room ∧ r.room ≤ 1000000000000) (file : Int) (hf : 0 ≤ file ∧ file ≤ 1048576) (bo : Option Addr) (bn bc : Nat) (hfull : (bn : Int) > r.room - sizeKf (r.done.foldl unitK (kf kept))) :
    Calls Tryz.prog 50 #[.agg #[.int .i64 r.room, kv, dv, .int .i64 (r.live : Int), .bool r.gone, .int .i64 r.armed], .int .i64 file, .slice bo bn bc] w fun e w' => e = .returned (.tuple #[.agg #[.int .i64 r.room, kv, dv, .int .i64 (r.live : Int), .bool r.gone, .int .i64 r.armed], .int .i64 2]) ∧ Adds w w' := by
  have HR : Hid (RefV w R kv dv kept r.done) := h
  have HFt : Hid (∀ i, R.foot i → i < w.heap.size) := hF
  obtain ⟨ko, kc, rfl, _⟩ := h.kept.slice
  obtain ⟨dO, dc, rfl, _, _, _⟩ := h.done
  have k1 := fun (w1 : World) (h1 : Adds w w1) => refLeft_any (w := w1) (R := R) (HR.out.adds h1) (fun i hi => Nat.lt_of_lt_of_le (HFt.out i hi) h1.below.size) hk hb hd r.room r.live r.armed r.gone hr
  clear h hF hb
  obtain ⟨room, rkept, done, live, gone, armed⟩ := r
  simp only at *
  have HB1 : Hid (((w.alloc (.cells #[.int .i64 room, Value.slice ko kept.length kc, Value.slice dO done.length dc, .int .i64 (live : Int), .bool gone, .int .i64 armed] 36)).alloc (.cells #[.int .i64 0, .slice none 0 0, .slice none 0 0, .int .i64 0, .bool false, .int .i64 0] 36)).heap[w.heap.size]? = some (.cells #[.int .i64 room, Value.slice ko kept.length kc, Value.slice dO done.length dc, .int .i64 (live : Int), .bool gone, .int .i64 armed] 36 (0, 0))) := blk_old
  have HB2 : Hid (((w.alloc (.cells #[.int .i64 room, Value.slice ko kept.length kc, Value.slice dO done.length dc, .int .i64 (live : Int), .bool gone, .int .i64 armed] 36)).alloc (.cells #[.int .i64 0, .slice none 0 0, .slice none 0 0, .int .i64 0, .bool false, .int .i64 0] 36)).heap[w.heap.size + 1]? = some (.cells #[.int .i64 0, .slice none 0 0, .slice none 0 0, .int .i64 0, .bool false, .int .i64 0] 36 (0, 0))) := blk_new
  have i1 : ¬ file < 0 := by omega
  have i2 : ¬ file > 1048576 := by omega
  generalize (sizeKf (done.foldl unitK (kf kept)) : Int) = S at *
  go_enter Tryz.func50, Tryz.ntmps50
  go_wp2_with (go_at_call 75; refine (k1 _ (by repeat (first | with_reducible exact Adds.refl _ | with_reducible refine Adds.alloc ?_ _ | with_reducible refine Adds.more ?_ _ _ | with_reducible refine Adds.drew ?_ | with_reducible refine Adds.drewN ?_ _))).mono ?_; rintro e w5 ⟨rfl, a5⟩; have b5 := a5.at HB1.out; have e5 := a5.at HB2.out; have c0 : w5.cell? ⟨w.heap.size, 0, none⟩ = some (.int .i64 room) := cell_of_row w5 _ 0 _ _ _ b5; have c1 : w5.cell? ⟨w.heap.size, 1, none⟩ = some (.slice ko kept.length kc) := cell_of_row w5 _ 1 _ _ _ b5; have c2 : w5.cell? ⟨w.heap.size, 2, none⟩ = some (.slice dO done.length dc) := cell_of_row w5 _ 2 _ _ _ b5; have c3 : w5.cell? ⟨w.heap.size, 3, none⟩ = some (.int .i64 (live : Int)) := cell_of_row w5 _ 3 _ _ _ b5; have c4 : w5.cell? ⟨w.heap.size, 4, none⟩ = some (.bool gone) := cell_of_row w5 _ 4 _ _ _ b5; have c5 : w5.cell? ⟨w.heap.size, 5, none⟩ = some (.int .i64 armed) := cell_of_row w5 _ 5 _ _ _ b5; have d0 : w5.cell? ⟨w.heap.size + 1, 0, none⟩ = some (.int .i64 0) := cell_of_row w5 _ 0 _ _ _ e5; have d1 : w5.cell? ⟨w.heap.size + 1, 1, none⟩ = some (.slice none 0 0) := cell_of_row w5 _ 1 _ _ _ e5; have d2 : w5.cell? ⟨w.heap.size + 1, 2, none⟩ = some (.slice none 0 0) := cell_of_row w5 _ 2 _ _ _ e5; have d3 : w5.cell? ⟨w.heap.size + 1, 3, none⟩ = some (.int .i64 0) := cell_of_row w5 _ 3 _ _ _ e5; have d4 : w5.cell? ⟨w.heap.size + 1, 4, none⟩ = some (.bool false) := cell_of_row w5 _ 4 _ _ _ e5; have d5 : w5.cell? ⟨w.heap.size + 1, 5, none⟩ = some (.int .i64 0) := cell_of_row w5 _ 5 _ _ _ e5; have f3 : ∀ i, w5.frozen? ⟨w.heap.size + 1, i, none⟩ = false := fun i => frozen_of e5; have HN : Hid (Adds w w5) := Adds.trans (by repeat (first | with_reducible exact Adds.refl _ | with_reducible refine Adds.alloc ?_ _ | with_reducible refine Adds.more ?_ _ _ | with_reducible refine Adds.drew ?_ | with_reducible refine Adds.drewN ?_ _)) a5; clear a5 b5 e5 k1)
  exact bodyPost_ret (v := .tuple #[.agg #[.int .i64 room, .slice ko kept.length kc, .slice dO done.length dc, .int .i64 (live : Int), .bool gone, .int .i64 armed], .int .i64 2]) (by simp [results, Tryz.results50, go_sem, d0, d1, d2, d3, d4, d5]) rfl ⟨rfl, turn_adds (Nat.le_succ _) HN.out (by repeat (first | with_reducible exact Turn2.refl _ _ _ | with_reducible refine Turn2.set1 ?_ _ _ | with_reducible refine Turn2.set2 ?_ _ _))⟩

end Go.Proofs.YtelkkpomehgcjaaGreat
