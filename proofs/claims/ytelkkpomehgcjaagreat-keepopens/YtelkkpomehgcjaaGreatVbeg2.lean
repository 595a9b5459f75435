/-
  The reference's function Begin by a contract, walked.
-/
import Derived.Test.YtelkkpomehgcjaaGreatVbeg
namespace Go.Proofs.YtelkkpomehgcjaaGreat
open Go.RowKit Go.Maps
attribute [local go_sem] cell?_more frozen?_more setCell_more size_more tape_more drew_more drewN_more more_drew more_drewN more_more one_out plus_out plus_end lt_one le_p2 le_p3 le_p4 le_p5 le_p6 le_p7 le_p8 le_p9 le_p10 le_p11 le_p12 le_p13 le_p14 le_p15 le_p16 le_p17 le_p18 le_p19 le_p20 le_p21 le_p22 le_p23 le_p24 le_q0 le_q1 lt_q1 le_q2 lt_q2 le_q3 lt_q3 le_q4 lt_q4 le_q5 lt_q5 le_q6 lt_q6 le_q7 lt_q7 le_q8 lt_q8 le_q9 lt_q9 le_q10 lt_q10 le_q11 lt_q11 le_q12 lt_q12 le_q13 lt_q13 le_q14 lt_q14 le_q15 lt_q15 le_q16 lt_q16 le_q17 lt_q17 le_q18 lt_q18 le_q19 lt_q19 le_q20 lt_q20 le_q21 lt_q21 le_q22 lt_q22 le_q23 lt_q23 le_q24 lt_q24

set_option maxHeartbeats 4000000 in
theorem refBegin_any {w : World} {R : Rw} {ko dO : Option Addr} {kn kc dn dc : Nat} {kept : List Fl} {r : Rf} {M : Nat} (h : RefB w R r (.slice ko kn kc) (.slice dO dn dc) kept M) (hF : ∀ i, R.foot i → i < w.heap.size) (hM : M ≤ 30000) {room : Nat} (hrm : room ≤ 1000000) {d : Dk} (hl : LikesD room d r) {K : Kf} (hK : SrtK K) (hf : filesK K = d.now) (hkr : ∀ k ∈ keysK K, 0 ≤ k ∧ k ≤ 1048576) (hKl : K.length ≤ 4000) (f0 b0 : Int) (mo lo : Option Addr) (mn mc lc : Nat) (ls : List (List UInt8)) (hL : Rws w (.slice lo ls.length lc) ls) (hfit : fits ls) (hseg : segLen ls ≤ 30000) :
    Calls Tryz.prog 20 #[.agg #[.int .i64 r.room, .slice ko kn kc, .slice dO dn dc, .int .i64 (r.live : Int), .bool r.gone, .int .i64 r.armed, .int .i64 f0, .slice mo mn mc, .int .i64 b0], .slice lo ls.length lc] w (BegTold w R room d K ls (.agg #[.int .i64 r.room, .slice ko kn kc, .slice dO dn dc, .int .i64 (r.live : Int), .bool r.gone, .int .i64 r.armed, .int .i64 f0, .slice mo mn mc, .int .i64 b0]) (.slice lo ls.length lc) (M + segLen ls + K.length + 3)) := by
  have HB : Hid (RefB w R r (.slice ko kn kc) (.slice dO dn dc) kept M) := h
  have HFt : Hid (∀ i, R.foot i → i < w.heap.size) := hF
  have HLk : Hid (LikesD room d r) := hl
  have HKs : Hid (SrtK K ∧ filesK K = d.now) := ⟨hK, hf⟩
  obtain ⟨g1, g2, g3⟩ := h.few (by omega)
  have HS : Hid (r.done.foldl unitK (kf kept) = K) := by
    show r.done.foldl unitK (kf kept) = K
    rw [h.same]
    exact likesD_K hl hK hf
  have HRm : Hid (r.room = (room : Int)) := hl.room
  have k36 := fun (w1 : World) (h1 : Adds w w1) => refSeen_any (HB.out.adds h1).ref (fun i hi => Nat.lt_of_lt_of_le (HFt.out i hi) h1.below.size) g1 g2 (by omega) r.room (r.live : Int) r.armed r.gone
  have HB1 : Hid (((w.alloc (.cells #[.int .i64 r.room, .slice ko kn kc, .slice dO dn dc, .int .i64 (r.live : Int), .bool r.gone, .int .i64 r.armed, .int .i64 f0, .slice mo mn mc, .int .i64 b0] 39)).alloc (.cells #[.int .i64 0, .slice none 0 0, .slice none 0 0, .int .i64 0, .bool false, .int .i64 0, .int .i64 0, .slice none 0 0, .int .i64 0] 39)).heap[w.heap.size]? = some (.cells #[.int .i64 r.room, .slice ko kn kc, .slice dO dn dc, .int .i64 (r.live : Int), .bool r.gone, .int .i64 r.armed, .int .i64 f0, .slice mo mn mc, .int .i64 b0] 39 (0, 0))) := blk_old
  have HB2 : Hid (((w.alloc (.cells #[.int .i64 r.room, .slice ko kn kc, .slice dO dn dc, .int .i64 (r.live : Int), .bool r.gone, .int .i64 r.armed, .int .i64 f0, .slice mo mn mc, .int .i64 b0] 39)).alloc (.cells #[.int .i64 0, .slice none 0 0, .slice none 0 0, .int .i64 0, .bool false, .int .i64 0, .int .i64 0, .slice none 0 0, .int .i64 0] 39)).heap[w.heap.size + 1]? = some (.cells #[.int .i64 0, .slice none 0 0, .slice none 0 0, .int .i64 0, .bool false, .int .i64 0, .int .i64 0, .slice none 0 0, .int .i64 0] 39 (0, 0))) := blk_new
  have HLs : Hid (Rws w (.slice lo ls.length lc) ls) := hL
  have HFi : Hid (fits ls) := hfit
  have hn : ls.length ≤ 30000 := by unfold segLen at hseg; omega
  have HSg : Hid (segLen ls ≤ 30000) := hseg
  have HG : Hid (kept.length + r.done.length ≤ 1000000 ∧ (∀ p ∈ kept, p.2.2.length ≤ 100000) ∧ r.done.length ≤ 600000) := ⟨g1, g2, g3⟩
  have HKl : Hid (K.length ≤ 4000 ∧ M ≤ 30000 ∧ room ≤ 1000000) := ⟨hKl, hM, hrm⟩
  clear h hF hl hK hf g1 g2 g3 hL hfit hseg
  go_enter Tryz.func20, Tryz.ntmps20
  go_wp2_with (first
    | (go_at_call 21; refine (k36 _ (by repeat (first | with_reducible exact Adds.refl _ | with_reducible refine Adds.alloc ?_ _ | with_reducible refine Adds.more ?_ _ _ | with_reducible refine Adds.drew ?_ | with_reducible refine Adds.drewN ?_ _))).mono ?_; rintro e w5 ⟨r5, l5, rfl, f5, k5, a5⟩; obtain ⟨so, sc, rfl, _⟩ := f5.slice; have HX5 : Hid _ := And.intro (a5.at HB1.out) (a5.at HB2.out); have HA5 : Hid (Adds w w5) := Adds.trans (by repeat (first | with_reducible exact Adds.refl _ | with_reducible refine Adds.alloc ?_ _ | with_reducible refine Adds.more ?_ _ _ | with_reducible refine Adds.drew ?_ | with_reducible refine Adds.drewN ?_ _)) a5; have HF5 : Hid (FilesV w5 R (.slice so l5.length sc) l5 ∧ kf l5 = K) := ⟨f5, k5.trans HS.out⟩; clear f5 k5 a5 k36; have hl5 : l5.length ≤ 5000 := (by have e := congrArg List.length HF5.out.2; rw [kf_length] at e; omega); rcases begin_next HF5.out.1 HF5.out.2 hkr hl5 with ⟨hz, HNk⟩ | ⟨hz, b, off, rfl, hbl, kk, hw1, e0, hk0, hk1, HNk⟩)
    | (go_at_call 49; refine (refRecordO _ (four ls.length) _ (four_cells hn (new_block _ _)) (by simp [four])).mono ?_; rintro e w8 ⟨v8, W0, rfl, a8, h8⟩; have HA8 : Hid (Adds w5 W0) := Adds.trans (by repeat (first | with_reducible exact Adds.refl _ | with_reducible refine Adds.alloc ?_ _ | with_reducible refine Adds.more ?_ _ _ | with_reducible refine Adds.drew ?_ | with_reducible refine Adds.drewN ?_ _)) a8; clear a8))
  · clear HB1 HB2 hz hl5 hkr hM hrm hKl
    have HNf : Hid (nextK K = 0) := HNk
    have hF1 : 0 ≤ (0 : Int) ∧ (0 : Int) ≤ 1048576 := by omega
    clear HNk
    go_loopw [9, 10] (fun s i W => ∃ k : Nat, k ≤ ls.length ∧ i = .int .i64 k ∧ OwnV W0.heap.size 5 s (cellsB (seg ls.length (ls.take k))) W0 W) (fun _ i _ => (ls.length - intOf i).toNat)
    case atStart => exact ⟨0, by omega, rfl, by simpa [seg, recs] using h8⟩
    case round =>
      obtain ⟨k, hk, rfl, hs⟩ := hrel
      have HA : Hid (Adds w5 wr) := HA8.out.trans hs.added
      by_cases hlt : k < ls.length
      · obtain ⟨bb, boff, x, rfl, hb, hc, hx⟩ := (HLs.out.adds (HA5.out.trans HA.out)).at hlt
        have hle : ls[k].length ≤ 16384 := HFi.out _ (List.getElem_mem hlt)
        have kR := refRecordO _ _ _ hx hle
        obtain ⟨xo, xc, rfl, _, _⟩ := hx.open
        have hsl : (seg ls.length (ls.take k)).length + (record ls[k]).length ≤ 1000000 := by
          rw [seg_length, record_length]
          have h1 : tot (ls.take k) + ls[k].length ≤ tot ls := by
            rw [← tot_next hlt]
            exact tot_take ls (k + 1)
          have hlen := HSg.out
          unfold segLen at hlen ⊢
          simp
          omega
        have HN : Hid (seg ls.length (ls.take (k + 1)) = seg ls.length (ls.take k) ++ record ls[k]) := by
          show _ = _
          unfold seg
          rw [recs_cons, recs_cons, recs_next hlt, List.append_assoc]
        have i1 : (k : Int) < (ls.length : Int) := by omega
        have i2 : ¬ (16384 : Int) < (ls[k].length : Int) := by omega
        go_wp2_with (first
          | (go_at_call 49; refine kR.mono ?_; rintro e w4 ⟨v4, W4, rfl, a4, h4⟩)
          | (at_builtin; refine byt_app rfl (.tmp 54) (.tmp 59) rfl (hs.adds (Adds.trans a4 h4.added)) rfl h4.byt rfl hsl ?_; intro v5 w6 h6))
        go_roundw
        case rel => exact ⟨k + 1, by omega, by go_num, by rw [HN.out]; exact h6⟩
        case measure => simp [intOf]; omega
      · obtain rfl : k = ls.length := by omega
        rw [List.take_length] at hs
        have HY : Hid (Byt wr u9 (seg ls.length ls)) := hs.byt
        obtain ⟨bo, bc, rfl, _, _⟩ := hs.byt.open
        clear hs h8 hlt hk
        have hX : wr.heap[w.heap.size]? = some (.cells #[.int .i64 r.room, .slice ko kn kc, .slice dO dn dc, .int .i64 (r.live : Int), .bool r.gone, .int .i64 r.armed, .int .i64 f0, .slice mo mn mc, .int .i64 b0] 39 (0, 0)) ∧ wr.heap[w.heap.size + 1]? = some (.cells #[.int .i64 0, .slice none 0 0, .slice none 0 0, .int .i64 0, .bool false, .int .i64 0, .int .i64 0, .slice none 0 0, .int .i64 0] 39 (0, 0)) := ⟨HA.out.at HX5.out.1, HA.out.at HX5.out.2⟩
        have HX : Hid (wr.heap[w.heap.size]? = some (.cells #[.int .i64 r.room, .slice ko kn kc, .slice dO dn dc, .int .i64 (r.live : Int), .bool r.gone, .int .i64 r.armed, .int .i64 f0, .slice mo mn mc, .int .i64 b0] 39 (0, 0)) ∧ wr.heap[w.heap.size + 1]? = some (.cells #[.int .i64 0, .slice none 0 0, .slice none 0 0, .int .i64 0, .bool false, .int .i64 0, .int .i64 0, .slice none 0 0, .int .i64 0] 39 (0, 0))) := hX
        have HW : Hid (Adds w wr) := HA5.out.trans HA.out
        have HFw : Hid (∀ i, R.foot i → i < wr.heap.size) := fun i hi => Nat.lt_of_lt_of_le (HFt.out i hi) HW.out.below.size
        have HBr : Hid (RefB wr R r (.slice ko kn kc) (.slice dO dn dc) kept M) := HB.out.adds HW.out
        have pc0 : wr.cell? ⟨w.heap.size, 0, none⟩ = some (.int .i64 r.room) := cell_of_row wr _ 0 _ _ _ hX.1
        have pd0 : wr.cell? ⟨w.heap.size + 1, 0, none⟩ = some (.int .i64 0) := cell_of_row wr _ 0 _ _ _ hX.2
        have pc1 : wr.cell? ⟨w.heap.size, 1, none⟩ = some (.slice ko kn kc) := cell_of_row wr _ 1 _ _ _ hX.1
        have pd1 : wr.cell? ⟨w.heap.size + 1, 1, none⟩ = some (.slice none 0 0) := cell_of_row wr _ 1 _ _ _ hX.2
        have pc2 : wr.cell? ⟨w.heap.size, 2, none⟩ = some (.slice dO dn dc) := cell_of_row wr _ 2 _ _ _ hX.1
        have pd2 : wr.cell? ⟨w.heap.size + 1, 2, none⟩ = some (.slice none 0 0) := cell_of_row wr _ 2 _ _ _ hX.2
        have pc3 : wr.cell? ⟨w.heap.size, 3, none⟩ = some (.int .i64 (r.live : Int)) := cell_of_row wr _ 3 _ _ _ hX.1
        have pd3 : wr.cell? ⟨w.heap.size + 1, 3, none⟩ = some (.int .i64 0) := cell_of_row wr _ 3 _ _ _ hX.2
        have pc4 : wr.cell? ⟨w.heap.size, 4, none⟩ = some (.bool r.gone) := cell_of_row wr _ 4 _ _ _ hX.1
        have pd4 : wr.cell? ⟨w.heap.size + 1, 4, none⟩ = some (.bool false) := cell_of_row wr _ 4 _ _ _ hX.2
        have pc5 : wr.cell? ⟨w.heap.size, 5, none⟩ = some (.int .i64 r.armed) := cell_of_row wr _ 5 _ _ _ hX.1
        have pd5 : wr.cell? ⟨w.heap.size + 1, 5, none⟩ = some (.int .i64 0) := cell_of_row wr _ 5 _ _ _ hX.2
        have pc6 : wr.cell? ⟨w.heap.size, 6, none⟩ = some (.int .i64 f0) := cell_of_row wr _ 6 _ _ _ hX.1
        have pd6 : wr.cell? ⟨w.heap.size + 1, 6, none⟩ = some (.int .i64 0) := cell_of_row wr _ 6 _ _ _ hX.2
        have pc7 : wr.cell? ⟨w.heap.size, 7, none⟩ = some (.slice mo mn mc) := cell_of_row wr _ 7 _ _ _ hX.1
        have pd7 : wr.cell? ⟨w.heap.size + 1, 7, none⟩ = some (.slice none 0 0) := cell_of_row wr _ 7 _ _ _ hX.2
        have pc8 : wr.cell? ⟨w.heap.size, 8, none⟩ = some (.int .i64 b0) := cell_of_row wr _ 8 _ _ _ hX.1
        have pd8 : wr.cell? ⟨w.heap.size + 1, 8, none⟩ = some (.int .i64 0) := cell_of_row wr _ 8 _ _ _ hX.2
        have pfd : ∀ i, wr.frozen? ⟨w.heap.size + 1, i, none⟩ = false := fun i => frozen_of hX.2
        have psz : w.heap.size + 1 < wr.heap.size := (Array.getElem?_eq_some_iff.1 hX.2).1
        have ps0 : w.heap.size < wr.heap.size := (Array.getElem?_eq_some_iff.1 hX.1).1
        have i1 : ¬ (ls.length : Int) < (ls.length : Int) := by omega
        clear hX HA HX5 HA5 HF5 HA8 HB HFt
        by_cases hroom : segLen ls + sizeK K ≤ room
        · have HRo : Hid (segLen ls + sizeK K ≤ room) := hroom
          have kA : ∀ (W1 : World) (h1 : Adds wr W1), Calls Tryz.prog 50 #[.agg #[.int .i64 r.room, .slice ko kn kc, .slice dO dn dc, .int .i64 (r.live : Int), .bool r.gone, .int .i64 r.armed], .int .i64 (0), .slice bo (seg ls.length ls).length bc] W1 fun e w' => ∃ dO dn dc, e = .returned (.tuple #[.agg #[.int .i64 (r.putAll (unitsApp (0) (seg ls.length ls))).room, .slice ko kn kc, .slice dO dn dc, .int .i64 ((r.putAll (unitsApp (0) (seg ls.length ls))).live : Int), .bool (r.putAll (unitsApp (0) (seg ls.length ls))).gone, .int .i64 (r.putAll (unitsApp (0) (seg ls.length ls))).armed], .int .i64 0]) ∧ RefB w' R (r.putAll (unitsApp (0) (seg ls.length ls))) (.slice ko kn kc) (.slice dO dn dc) kept (M + (seg ls.length ls).length + 1) ∧ Adds W1 w' := fun W1 h1 => refAppend_B (HBr.out.adds h1) (fun i hi => Nat.lt_of_lt_of_le (HFw.out i hi) h1.below.size) (by have := HKl.out; omega) (HY.out.adds h1) (by rw [seg_length]; have := HSg.out; omega) (by rw [HRm.out]; have := HKl.out; omega) (0) hF1 (by rw [HRm.out, HS.out, seg_length]; show ((segLen ls : Nat) : Int) ≤ (room : Int) - ((sizeK K : Nat) : Int); omega)
          have HL1 : Hid (LikesD room ((d.app (0) (seg ls.length ls)).sync) (r.putAll (unitsApp (0) (seg ls.length ls))).sync) := likesD_sync (likesD_app HLk.out _ _)
          generalize r.putAll (unitsApp (0) (seg ls.length ls)) = rn at *
          have HK2 : Hid (SrtK (K ++ [((0 : Int), seg ls.length ls)]) ∧ filesK (K ++ [((0 : Int), seg ls.length ls)]) = ((d.app (0) (seg ls.length ls)).sync).now ∧ (0 : Int) ∈ keysK (K ++ [((0 : Int), seg ls.length ls)]) ∧ (K ++ [((0 : Int), seg ls.length ls)]).length ≤ 5000) := by
            rw [← HNf.out]
            refine ⟨srt_next HKs.out.1 _, begun_now HKs.out.1 HKs.out.2 _, by rw [keys_next]; simp, ?_⟩
            have := HKl.out.1
            rw [List.length_append, List.length_singleton]
            omega
          clear hroom hF1
          have i3 : ¬ (1048576 : Int) < (0 : Int) := by omega
          go_wp2_with (first
            | (go_at_call 50; refine (kA _ (by repeat (first | with_reducible exact Adds.refl _ | with_reducible refine Adds.alloc ?_ _ | with_reducible refine Adds.more ?_ _ _ | with_reducible refine Adds.drew ?_ | with_reducible refine Adds.drewN ?_ _))).mono ?_; rintro e w9 ⟨dO9, dn9, dc9, rfl, rb9, a9⟩; have HA9 : Hid (Adds wr w9) := Adds.trans (by repeat (first | with_reducible exact Adds.refl _ | with_reducible refine Adds.alloc ?_ _ | with_reducible refine Adds.more ?_ _ _ | with_reducible refine Adds.drew ?_ | with_reducible refine Adds.drewN ?_ _)) a9; have HR9 : Hid (RefB w9 R rn (.slice ko kn kc) (.slice dO9 dn9 dc9) kept (M + (seg ls.length ls).length + 1)) := rb9; have kS := fun (W1 : World) (h1 : Adds w9 W1) => refSync_B (rb9.adds h1) (fun i hi => Nat.lt_of_lt_of_le ((Hid.out HFw) i hi) ((Hid.out HA9).trans h1).below.size) (by rw [seg_length]; have := HKl.out; have := HSg.out; omega); clear a9 rb9 kA; have hX9 : w9.heap[w.heap.size]? = some (.cells #[.int .i64 r.room, .slice ko kn kc, .slice dO dn dc, .int .i64 (r.live : Int), .bool r.gone, .int .i64 r.armed, .int .i64 f0, .slice mo mn mc, .int .i64 b0] 39 (0, 0)) ∧ w9.heap[w.heap.size + 1]? = some (.cells #[.int .i64 0, .slice none 0 0, .slice none 0 0, .int .i64 0, .bool false, .int .i64 0, .int .i64 0, .slice none 0 0, .int .i64 0] 39 (0, 0)) := ⟨Hid.out HA9 |>.at (Hid.out HX).1, Hid.out HA9 |>.at (Hid.out HX).2⟩; have qd0 : w9.cell? ⟨w.heap.size + 1, 0, none⟩ = some (.int .i64 0) := cell_of_row w9 _ 0 _ _ _ hX9.2; have qd1 : w9.cell? ⟨w.heap.size + 1, 1, none⟩ = some (.slice none 0 0) := cell_of_row w9 _ 1 _ _ _ hX9.2; have qd2 : w9.cell? ⟨w.heap.size + 1, 2, none⟩ = some (.slice none 0 0) := cell_of_row w9 _ 2 _ _ _ hX9.2; have qd3 : w9.cell? ⟨w.heap.size + 1, 3, none⟩ = some (.int .i64 0) := cell_of_row w9 _ 3 _ _ _ hX9.2; have qd4 : w9.cell? ⟨w.heap.size + 1, 4, none⟩ = some (.bool false) := cell_of_row w9 _ 4 _ _ _ hX9.2; have qd5 : w9.cell? ⟨w.heap.size + 1, 5, none⟩ = some (.int .i64 0) := cell_of_row w9 _ 5 _ _ _ hX9.2; have qd6 : w9.cell? ⟨w.heap.size + 1, 6, none⟩ = some (.int .i64 0) := cell_of_row w9 _ 6 _ _ _ hX9.2; have qd7 : w9.cell? ⟨w.heap.size + 1, 7, none⟩ = some (.slice none 0 0) := cell_of_row w9 _ 7 _ _ _ hX9.2; have qd8 : w9.cell? ⟨w.heap.size + 1, 8, none⟩ = some (.int .i64 0) := cell_of_row w9 _ 8 _ _ _ hX9.2; have qfd : ∀ i, w9.frozen? ⟨w.heap.size + 1, i, none⟩ = false := fun i => frozen_of hX9.2; have qsz : w.heap.size + 1 < w9.heap.size := (Array.getElem?_eq_some_iff.1 hX9.2).1; clear hX9)
            | (go_at_call 51; refine (kS _ (by repeat (first | with_reducible exact Adds.refl _ | with_reducible refine Adds.alloc ?_ _ | with_reducible refine Adds.more ?_ _ _ | with_reducible refine Adds.drew ?_ | with_reducible refine Adds.drewN ?_ _))).mono ?_; rintro e w10 ⟨koA, knA, kcA, dOA, dnA, dcA, keptA, rfl, rbA, aA⟩; have HAA : Hid (Adds wr w10) := (Hid.out HA9).trans (Adds.trans (by repeat (first | with_reducible exact Adds.refl _ | with_reducible refine Adds.alloc ?_ _ | with_reducible refine Adds.more ?_ _ _ | with_reducible refine Adds.drew ?_ | with_reducible refine Adds.drewN ?_ _)) aA); have kO := fun (W1 : World) (h1 : Adds w10 W1) => refOthers_any (rbA.adds h1) (fun i hi => Nat.lt_of_lt_of_le ((Hid.out HFw) i hi) ((Hid.out HAA).trans h1).below.size) (by rw [seg_length]; have := HKl.out; have := HSg.out; omega) HL1.out HK2.out.1 HK2.out.2.1 (0) (ls.length : Int) HK2.out.2.2.1 HK2.out.2.2.2 lo ls.length lc; clear rbA aA kS)
            | (go_at_call 48; refine (kO _ (by repeat (first | with_reducible exact Adds.refl _ | with_reducible refine Adds.alloc ?_ _ | with_reducible refine Adds.more ?_ _ _ | with_reducible refine Adds.drew ?_ | with_reducible refine Adds.drewN ?_ _))).mono ?_; rintro e wB ⟨rB, koB, knB, kcB, dOB, dnB, dcB, keptB, rfl, rbB, lkB, aB⟩; have HRB : Hid (RefB wB R rB (.slice koB knB kcB) (.slice dOB dnB dcB) keptB (M + (seg ls.length ls).length + 1 + (K ++ [((0 : Int), seg ls.length ls)]).length)) := rbB; have HLB : Hid (LikesD room (((d.app (0) (seg ls.length ls)).sync).others (0) (keysK (K ++ [((0 : Int), seg ls.length ls)]))) rB) := lkB; have HAB : Hid (Adds wr wB) := (Hid.out HAA).trans (Adds.trans (by repeat (first | with_reducible exact Adds.refl _ | with_reducible refine Adds.alloc ?_ _ | with_reducible refine Adds.more ?_ _ _ | with_reducible refine Adds.drew ?_ | with_reducible refine Adds.drewN ?_ _)) aB); clear aB rbB lkB kO; have hX9 : wB.heap[w.heap.size]? = some (.cells #[.int .i64 r.room, .slice ko kn kc, .slice dO dn dc, .int .i64 (r.live : Int), .bool r.gone, .int .i64 r.armed, .int .i64 f0, .slice mo mn mc, .int .i64 b0] 39 (0, 0)) ∧ wB.heap[w.heap.size + 1]? = some (.cells #[.int .i64 0, .slice none 0 0, .slice none 0 0, .int .i64 0, .bool false, .int .i64 0, .int .i64 0, .slice none 0 0, .int .i64 0] 39 (0, 0)) := ⟨Hid.out HAB |>.at (Hid.out HX).1, Hid.out HAB |>.at (Hid.out HX).2⟩; have zd0 : wB.cell? ⟨w.heap.size + 1, 0, none⟩ = some (.int .i64 0) := cell_of_row wB _ 0 _ _ _ hX9.2; have zd1 : wB.cell? ⟨w.heap.size + 1, 1, none⟩ = some (.slice none 0 0) := cell_of_row wB _ 1 _ _ _ hX9.2; have zd2 : wB.cell? ⟨w.heap.size + 1, 2, none⟩ = some (.slice none 0 0) := cell_of_row wB _ 2 _ _ _ hX9.2; have zd3 : wB.cell? ⟨w.heap.size + 1, 3, none⟩ = some (.int .i64 0) := cell_of_row wB _ 3 _ _ _ hX9.2; have zd4 : wB.cell? ⟨w.heap.size + 1, 4, none⟩ = some (.bool false) := cell_of_row wB _ 4 _ _ _ hX9.2; have zd5 : wB.cell? ⟨w.heap.size + 1, 5, none⟩ = some (.int .i64 0) := cell_of_row wB _ 5 _ _ _ hX9.2; have zd6 : wB.cell? ⟨w.heap.size + 1, 6, none⟩ = some (.int .i64 0) := cell_of_row wB _ 6 _ _ _ hX9.2; have zd7 : wB.cell? ⟨w.heap.size + 1, 7, none⟩ = some (.slice none 0 0) := cell_of_row wB _ 7 _ _ _ hX9.2; have zd8 : wB.cell? ⟨w.heap.size + 1, 8, none⟩ = some (.int .i64 0) := cell_of_row wB _ 8 _ _ _ hX9.2; have zfd : ∀ i, wB.frozen? ⟨w.heap.size + 1, i, none⟩ = false := fun i => frozen_of hX9.2; have zsz : w.heap.size + 1 < wB.heap.size := (Array.getElem?_eq_some_iff.1 hX9.2).1; clear hX9))
          refine bodyPost_ret (v := .tuple #[.agg #[.int .i64 rB.room, .slice koB knB kcB, .slice dOB dnB dcB, .int .i64 (rB.live : Int), .bool rB.gone, .int .i64 rB.armed, .int .i64 (0), .slice lo ls.length lc, .int .i64 (ls.length : Int)], .int .i64 0]) (by simp [results, Tryz.results20, go_sem, zd0, zd1, zd2, zd3, zd4, zd5, zd6, zd7, zd8]) rfl (Or.inl ⟨⟨HRo.out, by rw [HNf.out]; omega⟩, rB, koB, knB, kcB, dOB, dnB, dcB, keptB, by rw [HNf.out], ?_, ?_, ?_⟩)
          · refine RefB.mono (HRB.out.turn (p := w.heap.size + 1) (.inr rfl) ⟨_, HAB.out.at HX.out.2⟩ (by repeat (first | with_reducible refine Turn2.set1 ?_ _ _ | with_reducible refine Turn2.set2 ?_ _ _ | with_reducible exact Turn2.refl _ _ _))) ?_
            rw [seg_length, List.length_append, List.length_singleton]
            omega
          · have := HLB.out
            unfold Dk.begun
            rw [← HNf.out, keys_next] at this
            exact this
          · exact turn2_adds (p := w.heap.size + 1) (q := w.heap.size + 1) (HW.out.trans HAB.out) (Nat.le_succ _) (Nat.le_succ _) (by repeat (first | with_reducible refine Turn2.set1 ?_ _ _ | with_reducible refine Turn2.set2 ?_ _ _ | with_reducible exact Turn2.refl _ _ _))
        · have HRo : Hid (¬ segLen ls + sizeK K ≤ room) := hroom
          have kA : ∀ (W1 : World) (h1 : Adds wr W1), Calls Tryz.prog 50 #[.agg #[.int .i64 r.room, .slice ko kn kc, .slice dO dn dc, .int .i64 (r.live : Int), .bool r.gone, .int .i64 r.armed], .int .i64 (0), .slice bo (seg ls.length ls).length bc] W1 fun e w' => e = .returned (.tuple #[.agg #[.int .i64 r.room, .slice ko kn kc, .slice dO dn dc, .int .i64 (r.live : Int), .bool r.gone, .int .i64 r.armed], .int .i64 2]) ∧ Adds W1 w' := fun W1 h1 => refAppend_full (HBr.out.adds h1).ref (fun i hi => Nat.lt_of_lt_of_le (HFw.out i hi) h1.below.size) HG.out.1 HG.out.2.1 (by have := HG.out.2.2; omega) (by rw [HRm.out]; have := HKl.out; omega) (0) hF1 bo _ bc (by rw [HRm.out, HS.out, seg_length]; show ((segLen ls : Nat) : Int) > (room : Int) - ((sizeK K : Nat) : Int); omega)
          clear hroom hF1
          have i3 : ¬ (1048576 : Int) < (0 : Int) := by omega
          go_wp2_with (go_at_call 50; refine (kA _ (by repeat (first | with_reducible exact Adds.refl _ | with_reducible refine Adds.alloc ?_ _ | with_reducible refine Adds.more ?_ _ _ | with_reducible refine Adds.drew ?_ | with_reducible refine Adds.drewN ?_ _))).mono ?_; rintro e w9 ⟨rfl, a9⟩; have HA9 : Hid (Adds wr w9) := Adds.trans (by repeat (first | with_reducible exact Adds.refl _ | with_reducible refine Adds.alloc ?_ _ | with_reducible refine Adds.more ?_ _ _ | with_reducible refine Adds.drew ?_ | with_reducible refine Adds.drewN ?_ _)) a9; clear a9 kA; have hX9 : w9.heap[w.heap.size]? = some (.cells #[.int .i64 r.room, .slice ko kn kc, .slice dO dn dc, .int .i64 (r.live : Int), .bool r.gone, .int .i64 r.armed, .int .i64 f0, .slice mo mn mc, .int .i64 b0] 39 (0, 0)) ∧ w9.heap[w.heap.size + 1]? = some (.cells #[.int .i64 0, .slice none 0 0, .slice none 0 0, .int .i64 0, .bool false, .int .i64 0, .int .i64 0, .slice none 0 0, .int .i64 0] 39 (0, 0)) := ⟨Hid.out HA9 |>.at (Hid.out HX).1, Hid.out HA9 |>.at (Hid.out HX).2⟩; have qc0 : w9.cell? ⟨w.heap.size, 0, none⟩ = some (.int .i64 r.room) := cell_of_row w9 _ 0 _ _ _ hX9.1; have qd0 : w9.cell? ⟨w.heap.size + 1, 0, none⟩ = some (.int .i64 0) := cell_of_row w9 _ 0 _ _ _ hX9.2; have qc1 : w9.cell? ⟨w.heap.size, 1, none⟩ = some (.slice ko kn kc) := cell_of_row w9 _ 1 _ _ _ hX9.1; have qd1 : w9.cell? ⟨w.heap.size + 1, 1, none⟩ = some (.slice none 0 0) := cell_of_row w9 _ 1 _ _ _ hX9.2; have qc2 : w9.cell? ⟨w.heap.size, 2, none⟩ = some (.slice dO dn dc) := cell_of_row w9 _ 2 _ _ _ hX9.1; have qd2 : w9.cell? ⟨w.heap.size + 1, 2, none⟩ = some (.slice none 0 0) := cell_of_row w9 _ 2 _ _ _ hX9.2; have qc3 : w9.cell? ⟨w.heap.size, 3, none⟩ = some (.int .i64 (r.live : Int)) := cell_of_row w9 _ 3 _ _ _ hX9.1; have qd3 : w9.cell? ⟨w.heap.size + 1, 3, none⟩ = some (.int .i64 0) := cell_of_row w9 _ 3 _ _ _ hX9.2; have qc4 : w9.cell? ⟨w.heap.size, 4, none⟩ = some (.bool r.gone) := cell_of_row w9 _ 4 _ _ _ hX9.1; have qd4 : w9.cell? ⟨w.heap.size + 1, 4, none⟩ = some (.bool false) := cell_of_row w9 _ 4 _ _ _ hX9.2; have qc5 : w9.cell? ⟨w.heap.size, 5, none⟩ = some (.int .i64 r.armed) := cell_of_row w9 _ 5 _ _ _ hX9.1; have qd5 : w9.cell? ⟨w.heap.size + 1, 5, none⟩ = some (.int .i64 0) := cell_of_row w9 _ 5 _ _ _ hX9.2; have qc6 : w9.cell? ⟨w.heap.size, 6, none⟩ = some (.int .i64 f0) := cell_of_row w9 _ 6 _ _ _ hX9.1; have qd6 : w9.cell? ⟨w.heap.size + 1, 6, none⟩ = some (.int .i64 0) := cell_of_row w9 _ 6 _ _ _ hX9.2; have qc7 : w9.cell? ⟨w.heap.size, 7, none⟩ = some (.slice mo mn mc) := cell_of_row w9 _ 7 _ _ _ hX9.1; have qd7 : w9.cell? ⟨w.heap.size + 1, 7, none⟩ = some (.slice none 0 0) := cell_of_row w9 _ 7 _ _ _ hX9.2; have qc8 : w9.cell? ⟨w.heap.size, 8, none⟩ = some (.int .i64 b0) := cell_of_row w9 _ 8 _ _ _ hX9.1; have qd8 : w9.cell? ⟨w.heap.size + 1, 8, none⟩ = some (.int .i64 0) := cell_of_row w9 _ 8 _ _ _ hX9.2; have qfd : ∀ i, w9.frozen? ⟨w.heap.size + 1, i, none⟩ = false := fun i => frozen_of hX9.2; have qsz : w.heap.size + 1 < w9.heap.size := (Array.getElem?_eq_some_iff.1 hX9.2).1; have qs0 : w.heap.size < w9.heap.size := (Array.getElem?_eq_some_iff.1 hX9.1).1; clear hX9)
          refine bodyPost_ret (v := .tuple #[.agg #[.int .i64 r.room, .slice ko kn kc, .slice dO dn dc, .int .i64 (r.live : Int), .bool r.gone, .int .i64 r.armed, .int .i64 f0, .slice mo mn mc, .int .i64 b0], .int .i64 2]) (by simp [results, Tryz.results20, go_sem, qd0, qd1, qd2, qd3, qd4, qd5, qd6, qd7, qd8, qsz]) rfl (Or.inr ⟨fun hh => HRo.out hh.1, rfl, ?_⟩)
          exact Adds.alloc (turn2_adds (p := w.heap.size + 1) (q := w.heap.size + 1) (HW.out.trans HA9.out) (Nat.le_succ _) (Nat.le_succ _) (by repeat (first | with_reducible refine Turn2.set1 ?_ _ _ | with_reducible refine Turn2.set2 ?_ _ _ | with_reducible exact Turn2.refl _ _ _))) _
  · by_cases hkm : kk + 1 ≤ 1048576
    · clear HB1 HB2 hz hl5 hkr hM hrm hKl hbl hw1 e0
      have HNf : Hid (nextK K = kk + 1) := HNk
      have hF1 : 0 ≤ (kk + 1 : Int) ∧ (kk + 1 : Int) ≤ 1048576 := by omega
      clear HNk
      go_loopw [9, 10] (fun s i W => ∃ k : Nat, k ≤ ls.length ∧ i = .int .i64 k ∧ OwnV W0.heap.size 5 s (cellsB (seg ls.length (ls.take k))) W0 W) (fun _ i _ => (ls.length - intOf i).toNat)
      case atStart => exact ⟨0, by omega, rfl, by simpa [seg, recs] using h8⟩
      case round =>
        obtain ⟨k, hk, rfl, hs⟩ := hrel
        have HA : Hid (Adds w5 wr) := HA8.out.trans hs.added
        by_cases hlt : k < ls.length
        · obtain ⟨bb, boff, x, rfl, hb, hc, hx⟩ := (HLs.out.adds (HA5.out.trans HA.out)).at hlt
          have hle : ls[k].length ≤ 16384 := HFi.out _ (List.getElem_mem hlt)
          have kR := refRecordO _ _ _ hx hle
          obtain ⟨xo, xc, rfl, _, _⟩ := hx.open
          have hsl : (seg ls.length (ls.take k)).length + (record ls[k]).length ≤ 1000000 := by
            rw [seg_length, record_length]
            have h1 : tot (ls.take k) + ls[k].length ≤ tot ls := by
              rw [← tot_next hlt]
              exact tot_take ls (k + 1)
            have hlen := HSg.out
            unfold segLen at hlen ⊢
            simp
            omega
          have HN : Hid (seg ls.length (ls.take (k + 1)) = seg ls.length (ls.take k) ++ record ls[k]) := by
            show _ = _
            unfold seg
            rw [recs_cons, recs_cons, recs_next hlt, List.append_assoc]
          have i1 : (k : Int) < (ls.length : Int) := by omega
          have i2 : ¬ (16384 : Int) < (ls[k].length : Int) := by omega
          go_wp2_with (first
            | (go_at_call 49; refine kR.mono ?_; rintro e w4 ⟨v4, W4, rfl, a4, h4⟩)
            | (at_builtin; refine byt_app rfl (.tmp 54) (.tmp 59) rfl (hs.adds (Adds.trans a4 h4.added)) rfl h4.byt rfl hsl ?_; intro v5 w6 h6))
          go_roundw
          case rel => exact ⟨k + 1, by omega, by go_num, by rw [HN.out]; exact h6⟩
          case measure => simp [intOf]; omega
        · obtain rfl : k = ls.length := by omega
          rw [List.take_length] at hs
          have HY : Hid (Byt wr u9 (seg ls.length ls)) := hs.byt
          obtain ⟨bo, bc, rfl, _, _⟩ := hs.byt.open
          clear hs h8 hlt hk
          have hX : wr.heap[w.heap.size]? = some (.cells #[.int .i64 r.room, .slice ko kn kc, .slice dO dn dc, .int .i64 (r.live : Int), .bool r.gone, .int .i64 r.armed, .int .i64 f0, .slice mo mn mc, .int .i64 b0] 39 (0, 0)) ∧ wr.heap[w.heap.size + 1]? = some (.cells #[.int .i64 0, .slice none 0 0, .slice none 0 0, .int .i64 0, .bool false, .int .i64 0, .int .i64 0, .slice none 0 0, .int .i64 0] 39 (0, 0)) := ⟨HA.out.at HX5.out.1, HA.out.at HX5.out.2⟩
          have HX : Hid (wr.heap[w.heap.size]? = some (.cells #[.int .i64 r.room, .slice ko kn kc, .slice dO dn dc, .int .i64 (r.live : Int), .bool r.gone, .int .i64 r.armed, .int .i64 f0, .slice mo mn mc, .int .i64 b0] 39 (0, 0)) ∧ wr.heap[w.heap.size + 1]? = some (.cells #[.int .i64 0, .slice none 0 0, .slice none 0 0, .int .i64 0, .bool false, .int .i64 0, .int .i64 0, .slice none 0 0, .int .i64 0] 39 (0, 0))) := hX
          have HW : Hid (Adds w wr) := HA5.out.trans HA.out
          have HFw : Hid (∀ i, R.foot i → i < wr.heap.size) := fun i hi => Nat.lt_of_lt_of_le (HFt.out i hi) HW.out.below.size
          have HBr : Hid (RefB wr R r (.slice ko kn kc) (.slice dO dn dc) kept M) := HB.out.adds HW.out
          have pc0 : wr.cell? ⟨w.heap.size, 0, none⟩ = some (.int .i64 r.room) := cell_of_row wr _ 0 _ _ _ hX.1
          have pd0 : wr.cell? ⟨w.heap.size + 1, 0, none⟩ = some (.int .i64 0) := cell_of_row wr _ 0 _ _ _ hX.2
          have pc1 : wr.cell? ⟨w.heap.size, 1, none⟩ = some (.slice ko kn kc) := cell_of_row wr _ 1 _ _ _ hX.1
          have pd1 : wr.cell? ⟨w.heap.size + 1, 1, none⟩ = some (.slice none 0 0) := cell_of_row wr _ 1 _ _ _ hX.2
          have pc2 : wr.cell? ⟨w.heap.size, 2, none⟩ = some (.slice dO dn dc) := cell_of_row wr _ 2 _ _ _ hX.1
          have pd2 : wr.cell? ⟨w.heap.size + 1, 2, none⟩ = some (.slice none 0 0) := cell_of_row wr _ 2 _ _ _ hX.2
          have pc3 : wr.cell? ⟨w.heap.size, 3, none⟩ = some (.int .i64 (r.live : Int)) := cell_of_row wr _ 3 _ _ _ hX.1
          have pd3 : wr.cell? ⟨w.heap.size + 1, 3, none⟩ = some (.int .i64 0) := cell_of_row wr _ 3 _ _ _ hX.2
          have pc4 : wr.cell? ⟨w.heap.size, 4, none⟩ = some (.bool r.gone) := cell_of_row wr _ 4 _ _ _ hX.1
          have pd4 : wr.cell? ⟨w.heap.size + 1, 4, none⟩ = some (.bool false) := cell_of_row wr _ 4 _ _ _ hX.2
          have pc5 : wr.cell? ⟨w.heap.size, 5, none⟩ = some (.int .i64 r.armed) := cell_of_row wr _ 5 _ _ _ hX.1
          have pd5 : wr.cell? ⟨w.heap.size + 1, 5, none⟩ = some (.int .i64 0) := cell_of_row wr _ 5 _ _ _ hX.2
          have pc6 : wr.cell? ⟨w.heap.size, 6, none⟩ = some (.int .i64 f0) := cell_of_row wr _ 6 _ _ _ hX.1
          have pd6 : wr.cell? ⟨w.heap.size + 1, 6, none⟩ = some (.int .i64 0) := cell_of_row wr _ 6 _ _ _ hX.2
          have pc7 : wr.cell? ⟨w.heap.size, 7, none⟩ = some (.slice mo mn mc) := cell_of_row wr _ 7 _ _ _ hX.1
          have pd7 : wr.cell? ⟨w.heap.size + 1, 7, none⟩ = some (.slice none 0 0) := cell_of_row wr _ 7 _ _ _ hX.2
          have pc8 : wr.cell? ⟨w.heap.size, 8, none⟩ = some (.int .i64 b0) := cell_of_row wr _ 8 _ _ _ hX.1
          have pd8 : wr.cell? ⟨w.heap.size + 1, 8, none⟩ = some (.int .i64 0) := cell_of_row wr _ 8 _ _ _ hX.2
          have pfd : ∀ i, wr.frozen? ⟨w.heap.size + 1, i, none⟩ = false := fun i => frozen_of hX.2
          have psz : w.heap.size + 1 < wr.heap.size := (Array.getElem?_eq_some_iff.1 hX.2).1
          have ps0 : w.heap.size < wr.heap.size := (Array.getElem?_eq_some_iff.1 hX.1).1
          have i1 : ¬ (ls.length : Int) < (ls.length : Int) := by omega
          clear hX HA HX5 HA5 HF5 HA8 HB HFt
          by_cases hroom : segLen ls + sizeK K ≤ room
          · have HRo : Hid (segLen ls + sizeK K ≤ room) := hroom
            have kA : ∀ (W1 : World) (h1 : Adds wr W1), Calls Tryz.prog 50 #[.agg #[.int .i64 r.room, .slice ko kn kc, .slice dO dn dc, .int .i64 (r.live : Int), .bool r.gone, .int .i64 r.armed], .int .i64 (kk + 1), .slice bo (seg ls.length ls).length bc] W1 fun e w' => ∃ dO dn dc, e = .returned (.tuple #[.agg #[.int .i64 (r.putAll (unitsApp (kk + 1) (seg ls.length ls))).room, .slice ko kn kc, .slice dO dn dc, .int .i64 ((r.putAll (unitsApp (kk + 1) (seg ls.length ls))).live : Int), .bool (r.putAll (unitsApp (kk + 1) (seg ls.length ls))).gone, .int .i64 (r.putAll (unitsApp (kk + 1) (seg ls.length ls))).armed], .int .i64 0]) ∧ RefB w' R (r.putAll (unitsApp (kk + 1) (seg ls.length ls))) (.slice ko kn kc) (.slice dO dn dc) kept (M + (seg ls.length ls).length + 1) ∧ Adds W1 w' := fun W1 h1 => refAppend_B (HBr.out.adds h1) (fun i hi => Nat.lt_of_lt_of_le (HFw.out i hi) h1.below.size) (by have := HKl.out; omega) (HY.out.adds h1) (by rw [seg_length]; have := HSg.out; omega) (by rw [HRm.out]; have := HKl.out; omega) (kk + 1) hF1 (by rw [HRm.out, HS.out, seg_length]; show ((segLen ls : Nat) : Int) ≤ (room : Int) - ((sizeK K : Nat) : Int); omega)
            have HL1 : Hid (LikesD room ((d.app (kk + 1) (seg ls.length ls)).sync) (r.putAll (unitsApp (kk + 1) (seg ls.length ls))).sync) := likesD_sync (likesD_app HLk.out _ _)
            generalize r.putAll (unitsApp (kk + 1) (seg ls.length ls)) = rn at *
            have HK2 : Hid (SrtK (K ++ [((kk + 1 : Int), seg ls.length ls)]) ∧ filesK (K ++ [((kk + 1 : Int), seg ls.length ls)]) = ((d.app (kk + 1) (seg ls.length ls)).sync).now ∧ (kk + 1 : Int) ∈ keysK (K ++ [((kk + 1 : Int), seg ls.length ls)]) ∧ (K ++ [((kk + 1 : Int), seg ls.length ls)]).length ≤ 5000) := by
              rw [← HNf.out]
              refine ⟨srt_next HKs.out.1 _, begun_now HKs.out.1 HKs.out.2 _, by rw [keys_next]; simp, ?_⟩
              have := HKl.out.1
              rw [List.length_append, List.length_singleton]
              omega
            clear hroom hF1
            have i3 : ¬ (1048576 : Int) < (kk + 1 : Int) := by omega
            go_wp2_with (first
              | (go_at_call 50; refine (kA _ (by repeat (first | with_reducible exact Adds.refl _ | with_reducible refine Adds.alloc ?_ _ | with_reducible refine Adds.more ?_ _ _ | with_reducible refine Adds.drew ?_ | with_reducible refine Adds.drewN ?_ _))).mono ?_; rintro e w9 ⟨dO9, dn9, dc9, rfl, rb9, a9⟩; have HA9 : Hid (Adds wr w9) := Adds.trans (by repeat (first | with_reducible exact Adds.refl _ | with_reducible refine Adds.alloc ?_ _ | with_reducible refine Adds.more ?_ _ _ | with_reducible refine Adds.drew ?_ | with_reducible refine Adds.drewN ?_ _)) a9; have HR9 : Hid (RefB w9 R rn (.slice ko kn kc) (.slice dO9 dn9 dc9) kept (M + (seg ls.length ls).length + 1)) := rb9; have kS := fun (W1 : World) (h1 : Adds w9 W1) => refSync_B (rb9.adds h1) (fun i hi => Nat.lt_of_lt_of_le ((Hid.out HFw) i hi) ((Hid.out HA9).trans h1).below.size) (by rw [seg_length]; have := HKl.out; have := HSg.out; omega); clear a9 rb9 kA; have hX9 : w9.heap[w.heap.size]? = some (.cells #[.int .i64 r.room, .slice ko kn kc, .slice dO dn dc, .int .i64 (r.live : Int), .bool r.gone, .int .i64 r.armed, .int .i64 f0, .slice mo mn mc, .int .i64 b0] 39 (0, 0)) ∧ w9.heap[w.heap.size + 1]? = some (.cells #[.int .i64 0, .slice none 0 0, .slice none 0 0, .int .i64 0, .bool false, .int .i64 0, .int .i64 0, .slice none 0 0, .int .i64 0] 39 (0, 0)) := ⟨Hid.out HA9 |>.at (Hid.out HX).1, Hid.out HA9 |>.at (Hid.out HX).2⟩; have qd0 : w9.cell? ⟨w.heap.size + 1, 0, none⟩ = some (.int .i64 0) := cell_of_row w9 _ 0 _ _ _ hX9.2; have qd1 : w9.cell? ⟨w.heap.size + 1, 1, none⟩ = some (.slice none 0 0) := cell_of_row w9 _ 1 _ _ _ hX9.2; have qd2 : w9.cell? ⟨w.heap.size + 1, 2, none⟩ = some (.slice none 0 0) := cell_of_row w9 _ 2 _ _ _ hX9.2; have qd3 : w9.cell? ⟨w.heap.size + 1, 3, none⟩ = some (.int .i64 0) := cell_of_row w9 _ 3 _ _ _ hX9.2; have qd4 : w9.cell? ⟨w.heap.size + 1, 4, none⟩ = some (.bool false) := cell_of_row w9 _ 4 _ _ _ hX9.2; have qd5 : w9.cell? ⟨w.heap.size + 1, 5, none⟩ = some (.int .i64 0) := cell_of_row w9 _ 5 _ _ _ hX9.2; have qd6 : w9.cell? ⟨w.heap.size + 1, 6, none⟩ = some (.int .i64 0) := cell_of_row w9 _ 6 _ _ _ hX9.2; have qd7 : w9.cell? ⟨w.heap.size + 1, 7, none⟩ = some (.slice none 0 0) := cell_of_row w9 _ 7 _ _ _ hX9.2; have qd8 : w9.cell? ⟨w.heap.size + 1, 8, none⟩ = some (.int .i64 0) := cell_of_row w9 _ 8 _ _ _ hX9.2; have qfd : ∀ i, w9.frozen? ⟨w.heap.size + 1, i, none⟩ = false := fun i => frozen_of hX9.2; have qsz : w.heap.size + 1 < w9.heap.size := (Array.getElem?_eq_some_iff.1 hX9.2).1; clear hX9)
              | (go_at_call 51; refine (kS _ (by repeat (first | with_reducible exact Adds.refl _ | with_reducible refine Adds.alloc ?_ _ | with_reducible refine Adds.more ?_ _ _ | with_reducible refine Adds.drew ?_ | with_reducible refine Adds.drewN ?_ _))).mono ?_; rintro e w10 ⟨koA, knA, kcA, dOA, dnA, dcA, keptA, rfl, rbA, aA⟩; have HAA : Hid (Adds wr w10) := (Hid.out HA9).trans (Adds.trans (by repeat (first | with_reducible exact Adds.refl _ | with_reducible refine Adds.alloc ?_ _ | with_reducible refine Adds.more ?_ _ _ | with_reducible refine Adds.drew ?_ | with_reducible refine Adds.drewN ?_ _)) aA); have kO := fun (W1 : World) (h1 : Adds w10 W1) => refOthers_any (rbA.adds h1) (fun i hi => Nat.lt_of_lt_of_le ((Hid.out HFw) i hi) ((Hid.out HAA).trans h1).below.size) (by rw [seg_length]; have := HKl.out; have := HSg.out; omega) HL1.out HK2.out.1 HK2.out.2.1 (kk + 1) (ls.length : Int) HK2.out.2.2.1 HK2.out.2.2.2 lo ls.length lc; clear rbA aA kS)
              | (go_at_call 48; refine (kO _ (by repeat (first | with_reducible exact Adds.refl _ | with_reducible refine Adds.alloc ?_ _ | with_reducible refine Adds.more ?_ _ _ | with_reducible refine Adds.drew ?_ | with_reducible refine Adds.drewN ?_ _))).mono ?_; rintro e wB ⟨rB, koB, knB, kcB, dOB, dnB, dcB, keptB, rfl, rbB, lkB, aB⟩; have HRB : Hid (RefB wB R rB (.slice koB knB kcB) (.slice dOB dnB dcB) keptB (M + (seg ls.length ls).length + 1 + (K ++ [((kk + 1 : Int), seg ls.length ls)]).length)) := rbB; have HLB : Hid (LikesD room (((d.app (kk + 1) (seg ls.length ls)).sync).others (kk + 1) (keysK (K ++ [((kk + 1 : Int), seg ls.length ls)]))) rB) := lkB; have HAB : Hid (Adds wr wB) := (Hid.out HAA).trans (Adds.trans (by repeat (first | with_reducible exact Adds.refl _ | with_reducible refine Adds.alloc ?_ _ | with_reducible refine Adds.more ?_ _ _ | with_reducible refine Adds.drew ?_ | with_reducible refine Adds.drewN ?_ _)) aB); clear aB rbB lkB kO; have hX9 : wB.heap[w.heap.size]? = some (.cells #[.int .i64 r.room, .slice ko kn kc, .slice dO dn dc, .int .i64 (r.live : Int), .bool r.gone, .int .i64 r.armed, .int .i64 f0, .slice mo mn mc, .int .i64 b0] 39 (0, 0)) ∧ wB.heap[w.heap.size + 1]? = some (.cells #[.int .i64 0, .slice none 0 0, .slice none 0 0, .int .i64 0, .bool false, .int .i64 0, .int .i64 0, .slice none 0 0, .int .i64 0] 39 (0, 0)) := ⟨Hid.out HAB |>.at (Hid.out HX).1, Hid.out HAB |>.at (Hid.out HX).2⟩; have zd0 : wB.cell? ⟨w.heap.size + 1, 0, none⟩ = some (.int .i64 0) := cell_of_row wB _ 0 _ _ _ hX9.2; have zd1 : wB.cell? ⟨w.heap.size + 1, 1, none⟩ = some (.slice none 0 0) := cell_of_row wB _ 1 _ _ _ hX9.2; have zd2 : wB.cell? ⟨w.heap.size + 1, 2, none⟩ = some (.slice none 0 0) := cell_of_row wB _ 2 _ _ _ hX9.2; have zd3 : wB.cell? ⟨w.heap.size + 1, 3, none⟩ = some (.int .i64 0) := cell_of_row wB _ 3 _ _ _ hX9.2; have zd4 : wB.cell? ⟨w.heap.size + 1, 4, none⟩ = some (.bool false) := cell_of_row wB _ 4 _ _ _ hX9.2; have zd5 : wB.cell? ⟨w.heap.size + 1, 5, none⟩ = some (.int .i64 0) := cell_of_row wB _ 5 _ _ _ hX9.2; have zd6 : wB.cell? ⟨w.heap.size + 1, 6, none⟩ = some (.int .i64 0) := cell_of_row wB _ 6 _ _ _ hX9.2; have zd7 : wB.cell? ⟨w.heap.size + 1, 7, none⟩ = some (.slice none 0 0) := cell_of_row wB _ 7 _ _ _ hX9.2; have zd8 : wB.cell? ⟨w.heap.size + 1, 8, none⟩ = some (.int .i64 0) := cell_of_row wB _ 8 _ _ _ hX9.2; have zfd : ∀ i, wB.frozen? ⟨w.heap.size + 1, i, none⟩ = false := fun i => frozen_of hX9.2; have zsz : w.heap.size + 1 < wB.heap.size := (Array.getElem?_eq_some_iff.1 hX9.2).1; clear hX9))
            refine bodyPost_ret (v := .tuple #[.agg #[.int .i64 rB.room, .slice koB knB kcB, .slice dOB dnB dcB, .int .i64 (rB.live : Int), .bool rB.gone, .int .i64 rB.armed, .int .i64 (kk + 1), .slice lo ls.length lc, .int .i64 (ls.length : Int)], .int .i64 0]) (by simp [results, Tryz.results20, go_sem, zd0, zd1, zd2, zd3, zd4, zd5, zd6, zd7, zd8]) rfl (Or.inl ⟨⟨HRo.out, by rw [HNf.out]; omega⟩, rB, koB, knB, kcB, dOB, dnB, dcB, keptB, by rw [HNf.out], ?_, ?_, ?_⟩)
            · refine RefB.mono (HRB.out.turn (p := w.heap.size + 1) (.inr rfl) ⟨_, HAB.out.at HX.out.2⟩ (by repeat (first | with_reducible refine Turn2.set1 ?_ _ _ | with_reducible refine Turn2.set2 ?_ _ _ | with_reducible exact Turn2.refl _ _ _))) ?_
              rw [seg_length, List.length_append, List.length_singleton]
              omega
            · have := HLB.out
              unfold Dk.begun
              rw [← HNf.out, keys_next] at this
              exact this
            · exact turn2_adds (p := w.heap.size + 1) (q := w.heap.size + 1) (HW.out.trans HAB.out) (Nat.le_succ _) (Nat.le_succ _) (by repeat (first | with_reducible refine Turn2.set1 ?_ _ _ | with_reducible refine Turn2.set2 ?_ _ _ | with_reducible exact Turn2.refl _ _ _))
          · have HRo : Hid (¬ segLen ls + sizeK K ≤ room) := hroom
            have kA : ∀ (W1 : World) (h1 : Adds wr W1), Calls Tryz.prog 50 #[.agg #[.int .i64 r.room, .slice ko kn kc, .slice dO dn dc, .int .i64 (r.live : Int), .bool r.gone, .int .i64 r.armed], .int .i64 (kk + 1), .slice bo (seg ls.length ls).length bc] W1 fun e w' => e = .returned (.tuple #[.agg #[.int .i64 r.room, .slice ko kn kc, .slice dO dn dc, .int .i64 (r.live : Int), .bool r.gone, .int .i64 r.armed], .int .i64 2]) ∧ Adds W1 w' := fun W1 h1 => refAppend_full (HBr.out.adds h1).ref (fun i hi => Nat.lt_of_lt_of_le (HFw.out i hi) h1.below.size) HG.out.1 HG.out.2.1 (by have := HG.out.2.2; omega) (by rw [HRm.out]; have := HKl.out; omega) (kk + 1) hF1 bo _ bc (by rw [HRm.out, HS.out, seg_length]; show ((segLen ls : Nat) : Int) > (room : Int) - ((sizeK K : Nat) : Int); omega)
            clear hroom hF1
            have i3 : ¬ (1048576 : Int) < (kk + 1 : Int) := by omega
            go_wp2_with (go_at_call 50; refine (kA _ (by repeat (first | with_reducible exact Adds.refl _ | with_reducible refine Adds.alloc ?_ _ | with_reducible refine Adds.more ?_ _ _ | with_reducible refine Adds.drew ?_ | with_reducible refine Adds.drewN ?_ _))).mono ?_; rintro e w9 ⟨rfl, a9⟩; have HA9 : Hid (Adds wr w9) := Adds.trans (by repeat (first | with_reducible exact Adds.refl _ | with_reducible refine Adds.alloc ?_ _ | with_reducible refine Adds.more ?_ _ _ | with_reducible refine Adds.drew ?_ | with_reducible refine Adds.drewN ?_ _)) a9; clear a9 kA; have hX9 : w9.heap[w.heap.size]? = some (.cells #[.int .i64 r.room, .slice ko kn kc, .slice dO dn dc, .int .i64 (r.live : Int), .bool r.gone, .int .i64 r.armed, .int .i64 f0, .slice mo mn mc, .int .i64 b0] 39 (0, 0)) ∧ w9.heap[w.heap.size + 1]? = some (.cells #[.int .i64 0, .slice none 0 0, .slice none 0 0, .int .i64 0, .bool false, .int .i64 0, .int .i64 0, .slice none 0 0, .int .i64 0] 39 (0, 0)) := ⟨Hid.out HA9 |>.at (Hid.out HX).1, Hid.out HA9 |>.at (Hid.out HX).2⟩; have qc0 : w9.cell? ⟨w.heap.size, 0, none⟩ = some (.int .i64 r.room) := cell_of_row w9 _ 0 _ _ _ hX9.1; have qd0 : w9.cell? ⟨w.heap.size + 1, 0, none⟩ = some (.int .i64 0) := cell_of_row w9 _ 0 _ _ _ hX9.2; have qc1 : w9.cell? ⟨w.heap.size, 1, none⟩ = some (.slice ko kn kc) := cell_of_row w9 _ 1 _ _ _ hX9.1; have qd1 : w9.cell? ⟨w.heap.size + 1, 1, none⟩ = some (.slice none 0 0) := cell_of_row w9 _ 1 _ _ _ hX9.2; have qc2 : w9.cell? ⟨w.heap.size, 2, none⟩ = some (.slice dO dn dc) := cell_of_row w9 _ 2 _ _ _ hX9.1; have qd2 : w9.cell? ⟨w.heap.size + 1, 2, none⟩ = some (.slice none 0 0) := cell_of_row w9 _ 2 _ _ _ hX9.2; have qc3 : w9.cell? ⟨w.heap.size, 3, none⟩ = some (.int .i64 (r.live : Int)) := cell_of_row w9 _ 3 _ _ _ hX9.1; have qd3 : w9.cell? ⟨w.heap.size + 1, 3, none⟩ = some (.int .i64 0) := cell_of_row w9 _ 3 _ _ _ hX9.2; have qc4 : w9.cell? ⟨w.heap.size, 4, none⟩ = some (.bool r.gone) := cell_of_row w9 _ 4 _ _ _ hX9.1; have qd4 : w9.cell? ⟨w.heap.size + 1, 4, none⟩ = some (.bool false) := cell_of_row w9 _ 4 _ _ _ hX9.2; have qc5 : w9.cell? ⟨w.heap.size, 5, none⟩ = some (.int .i64 r.armed) := cell_of_row w9 _ 5 _ _ _ hX9.1; have qd5 : w9.cell? ⟨w.heap.size + 1, 5, none⟩ = some (.int .i64 0) := cell_of_row w9 _ 5 _ _ _ hX9.2; have qc6 : w9.cell? ⟨w.heap.size, 6, none⟩ = some (.int .i64 f0) := cell_of_row w9 _ 6 _ _ _ hX9.1; have qd6 : w9.cell? ⟨w.heap.size + 1, 6, none⟩ = some (.int .i64 0) := cell_of_row w9 _ 6 _ _ _ hX9.2; have qc7 : w9.cell? ⟨w.heap.size, 7, none⟩ = some (.slice mo mn mc) := cell_of_row w9 _ 7 _ _ _ hX9.1; have qd7 : w9.cell? ⟨w.heap.size + 1, 7, none⟩ = some (.slice none 0 0) := cell_of_row w9 _ 7 _ _ _ hX9.2; have qc8 : w9.cell? ⟨w.heap.size, 8, none⟩ = some (.int .i64 b0) := cell_of_row w9 _ 8 _ _ _ hX9.1; have qd8 : w9.cell? ⟨w.heap.size + 1, 8, none⟩ = some (.int .i64 0) := cell_of_row w9 _ 8 _ _ _ hX9.2; have qfd : ∀ i, w9.frozen? ⟨w.heap.size + 1, i, none⟩ = false := fun i => frozen_of hX9.2; have qsz : w.heap.size + 1 < w9.heap.size := (Array.getElem?_eq_some_iff.1 hX9.2).1; have qs0 : w.heap.size < w9.heap.size := (Array.getElem?_eq_some_iff.1 hX9.1).1; clear hX9)
            refine bodyPost_ret (v := .tuple #[.agg #[.int .i64 r.room, .slice ko kn kc, .slice dO dn dc, .int .i64 (r.live : Int), .bool r.gone, .int .i64 r.armed, .int .i64 f0, .slice mo mn mc, .int .i64 b0], .int .i64 2]) (by simp [results, Tryz.results20, go_sem, qd0, qd1, qd2, qd3, qd4, qd5, qd6, qd7, qd8, qsz]) rfl (Or.inr ⟨fun hh => HRo.out hh.1, rfl, ?_⟩)
            exact Adds.alloc (turn2_adds (p := w.heap.size + 1) (q := w.heap.size + 1) (HW.out.trans HA9.out) (Nat.le_succ _) (Nat.le_succ _) (by repeat (first | with_reducible refine Turn2.set1 ?_ _ _ | with_reducible refine Turn2.set2 ?_ _ _ | with_reducible exact Turn2.refl _ _ _))) _
    · clear HB1 HB2 hz hl5 hkr hM hrm hKl hbl hw1 e0
      go_loopw [9, 10] (fun s i W => ∃ k : Nat, k ≤ ls.length ∧ i = .int .i64 k ∧ OwnV W0.heap.size 5 s (cellsB (seg ls.length (ls.take k))) W0 W) (fun _ i _ => (ls.length - intOf i).toNat)
      case atStart => exact ⟨0, by omega, rfl, by simpa [seg, recs] using h8⟩
      case round =>
        obtain ⟨k, hk, rfl, hs⟩ := hrel
        have HA : Hid (Adds w5 wr) := HA8.out.trans hs.added
        by_cases hlt : k < ls.length
        · obtain ⟨bb, boff, x, rfl, hb, hc, hx⟩ := (HLs.out.adds (HA5.out.trans HA.out)).at hlt
          have hle : ls[k].length ≤ 16384 := HFi.out _ (List.getElem_mem hlt)
          have kR := refRecordO _ _ _ hx hle
          obtain ⟨xo, xc, rfl, _, _⟩ := hx.open
          have hsl : (seg ls.length (ls.take k)).length + (record ls[k]).length ≤ 1000000 := by
            rw [seg_length, record_length]
            have h1 : tot (ls.take k) + ls[k].length ≤ tot ls := by
              rw [← tot_next hlt]
              exact tot_take ls (k + 1)
            have hlen := HSg.out
            unfold segLen at hlen ⊢
            simp
            omega
          have HN : Hid (seg ls.length (ls.take (k + 1)) = seg ls.length (ls.take k) ++ record ls[k]) := by
            show _ = _
            unfold seg
            rw [recs_cons, recs_cons, recs_next hlt, List.append_assoc]
          have i1 : (k : Int) < (ls.length : Int) := by omega
          have i2 : ¬ (16384 : Int) < (ls[k].length : Int) := by omega
          go_wp2_with (first
            | (go_at_call 49; refine kR.mono ?_; rintro e w4 ⟨v4, W4, rfl, a4, h4⟩)
            | (at_builtin; refine byt_app rfl (.tmp 54) (.tmp 59) rfl (hs.adds (Adds.trans a4 h4.added)) rfl h4.byt rfl hsl ?_; intro v5 w6 h6))
          go_roundw
          case rel => exact ⟨k + 1, by omega, by go_num, by rw [HN.out]; exact h6⟩
          case measure => simp [intOf]; omega
        · obtain rfl : k = ls.length := by omega
          rw [List.take_length] at hs
          have HY : Hid (Byt wr u9 (seg ls.length ls)) := hs.byt
          obtain ⟨bo, bc, rfl, _, _⟩ := hs.byt.open
          clear hs h8 hlt hk
          have hX : wr.heap[w.heap.size]? = some (.cells #[.int .i64 r.room, .slice ko kn kc, .slice dO dn dc, .int .i64 (r.live : Int), .bool r.gone, .int .i64 r.armed, .int .i64 f0, .slice mo mn mc, .int .i64 b0] 39 (0, 0)) ∧ wr.heap[w.heap.size + 1]? = some (.cells #[.int .i64 0, .slice none 0 0, .slice none 0 0, .int .i64 0, .bool false, .int .i64 0, .int .i64 0, .slice none 0 0, .int .i64 0] 39 (0, 0)) := ⟨HA.out.at HX5.out.1, HA.out.at HX5.out.2⟩
          have HX : Hid (wr.heap[w.heap.size]? = some (.cells #[.int .i64 r.room, .slice ko kn kc, .slice dO dn dc, .int .i64 (r.live : Int), .bool r.gone, .int .i64 r.armed, .int .i64 f0, .slice mo mn mc, .int .i64 b0] 39 (0, 0)) ∧ wr.heap[w.heap.size + 1]? = some (.cells #[.int .i64 0, .slice none 0 0, .slice none 0 0, .int .i64 0, .bool false, .int .i64 0, .int .i64 0, .slice none 0 0, .int .i64 0] 39 (0, 0))) := hX
          have HW : Hid (Adds w wr) := HA5.out.trans HA.out
          have HFw : Hid (∀ i, R.foot i → i < wr.heap.size) := fun i hi => Nat.lt_of_lt_of_le (HFt.out i hi) HW.out.below.size
          have HBr : Hid (RefB wr R r (.slice ko kn kc) (.slice dO dn dc) kept M) := HB.out.adds HW.out
          have pc0 : wr.cell? ⟨w.heap.size, 0, none⟩ = some (.int .i64 r.room) := cell_of_row wr _ 0 _ _ _ hX.1
          have pd0 : wr.cell? ⟨w.heap.size + 1, 0, none⟩ = some (.int .i64 0) := cell_of_row wr _ 0 _ _ _ hX.2
          have pc1 : wr.cell? ⟨w.heap.size, 1, none⟩ = some (.slice ko kn kc) := cell_of_row wr _ 1 _ _ _ hX.1
          have pd1 : wr.cell? ⟨w.heap.size + 1, 1, none⟩ = some (.slice none 0 0) := cell_of_row wr _ 1 _ _ _ hX.2
          have pc2 : wr.cell? ⟨w.heap.size, 2, none⟩ = some (.slice dO dn dc) := cell_of_row wr _ 2 _ _ _ hX.1
          have pd2 : wr.cell? ⟨w.heap.size + 1, 2, none⟩ = some (.slice none 0 0) := cell_of_row wr _ 2 _ _ _ hX.2
          have pc3 : wr.cell? ⟨w.heap.size, 3, none⟩ = some (.int .i64 (r.live : Int)) := cell_of_row wr _ 3 _ _ _ hX.1
          have pd3 : wr.cell? ⟨w.heap.size + 1, 3, none⟩ = some (.int .i64 0) := cell_of_row wr _ 3 _ _ _ hX.2
          have pc4 : wr.cell? ⟨w.heap.size, 4, none⟩ = some (.bool r.gone) := cell_of_row wr _ 4 _ _ _ hX.1
          have pd4 : wr.cell? ⟨w.heap.size + 1, 4, none⟩ = some (.bool false) := cell_of_row wr _ 4 _ _ _ hX.2
          have pc5 : wr.cell? ⟨w.heap.size, 5, none⟩ = some (.int .i64 r.armed) := cell_of_row wr _ 5 _ _ _ hX.1
          have pd5 : wr.cell? ⟨w.heap.size + 1, 5, none⟩ = some (.int .i64 0) := cell_of_row wr _ 5 _ _ _ hX.2
          have pc6 : wr.cell? ⟨w.heap.size, 6, none⟩ = some (.int .i64 f0) := cell_of_row wr _ 6 _ _ _ hX.1
          have pd6 : wr.cell? ⟨w.heap.size + 1, 6, none⟩ = some (.int .i64 0) := cell_of_row wr _ 6 _ _ _ hX.2
          have pc7 : wr.cell? ⟨w.heap.size, 7, none⟩ = some (.slice mo mn mc) := cell_of_row wr _ 7 _ _ _ hX.1
          have pd7 : wr.cell? ⟨w.heap.size + 1, 7, none⟩ = some (.slice none 0 0) := cell_of_row wr _ 7 _ _ _ hX.2
          have pc8 : wr.cell? ⟨w.heap.size, 8, none⟩ = some (.int .i64 b0) := cell_of_row wr _ 8 _ _ _ hX.1
          have pd8 : wr.cell? ⟨w.heap.size + 1, 8, none⟩ = some (.int .i64 0) := cell_of_row wr _ 8 _ _ _ hX.2
          have pfd : ∀ i, wr.frozen? ⟨w.heap.size + 1, i, none⟩ = false := fun i => frozen_of hX.2
          have psz : w.heap.size + 1 < wr.heap.size := (Array.getElem?_eq_some_iff.1 hX.2).1
          have ps0 : w.heap.size < wr.heap.size := (Array.getElem?_eq_some_iff.1 hX.1).1
          have i1 : ¬ (ls.length : Int) < (ls.length : Int) := by omega
          clear hX HA HX5 HA5 HF5 HA8 HB HFt
          have i3 : (1048576 : Int) < (kk + 1 : Int) := by omega
          go_wp2
          refine bodyPost_ret (v := .tuple #[.agg #[.int .i64 r.room, .slice ko kn kc, .slice dO dn dc, .int .i64 (r.live : Int), .bool r.gone, .int .i64 r.armed, .int .i64 f0, .slice mo mn mc, .int .i64 b0], .int .i64 2]) (by simp [results, Tryz.results20, go_sem, pd0, pd1, pd2, pd3, pd4, pd5, pd6, pd7, pd8]) rfl (Or.inr ⟨fun hh => by have h2 := hh.2; rw [HNk.out] at h2; omega, rfl, ?_⟩)
          exact turn2_adds (p := w.heap.size + 1) (q := w.heap.size + 1) (HW.out.trans (by repeat (first | with_reducible exact Adds.refl _ | with_reducible refine Adds.alloc ?_ _ | with_reducible refine Adds.more ?_ _ _ | with_reducible refine Adds.drew ?_ | with_reducible refine Adds.drewN ?_ _))) (Nat.le_succ _) (Nat.le_succ _) (by repeat (first | with_reducible refine Turn2.set1 ?_ _ _ | with_reducible refine Turn2.set2 ?_ _ _ | with_reducible exact Turn2.refl _ _ _))

end Go.Proofs.YtelkkpomehgcjaaGreat
