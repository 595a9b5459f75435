/-
  The reference's function Open by a contract, walked.
-/
import Derived.Test.YtelkkpomehgcjaaGreatVopn
namespace Go.Proofs.YtelkkpomehgcjaaGreat
open Go.RowKit Go.Maps
attribute [local go_sem] cell?_more frozen?_more setCell_more size_more tape_more drew_more drewN_more more_drew more_drewN more_more one_out plus_out plus_end lt_one le_p2 le_p3 le_p4 le_p5 le_p6 le_p7 le_p8 le_p9 le_p10 le_p11 le_p12 le_p13 le_p14 le_p15 le_p16 le_p17 le_p18 le_p19 le_p20 le_p21 le_p22 le_p23 le_p24 le_q0 le_q1 lt_q1 le_q2 lt_q2 le_q3 lt_q3 le_q4 lt_q4 le_q5 lt_q5 le_q6 lt_q6 le_q7 lt_q7 le_q8 lt_q8 le_q9 lt_q9 le_q10 lt_q10 le_q11 lt_q11 le_q12 lt_q12 le_q13 lt_q13 le_q14 lt_q14 le_q15 lt_q15 le_q16 lt_q16 le_q17 lt_q17 le_q18 lt_q18 le_q19 lt_q19 le_q20 lt_q20 le_q21 lt_q21 le_q22 lt_q22 le_q23 lt_q23 le_q24 lt_q24

set_option maxHeartbeats 4000000 in
theorem refOpen_any {w : World} {R : Rw} {ko dO : Option Addr} {kn kc dn dc : Nat} {kept : List Fl} {r : Rf} {M : Nat} (h : RefB w R r (.slice ko kn kc) (.slice dO dn dc) kept M) (hF : ∀ i, R.foot i → i < w.heap.size) (hM : M ≤ 30000) {room : Nat} (hrm : room ≤ 1000000) {d : Dk} (hl : LikesD room d r) {K : Kf} (hK : SrtK K) (hf : filesK K = d.now) (hkr : ∀ k ∈ keysK K, 0 ≤ k ∧ k ≤ 1048576) (hKl : K.length ≤ 4000) (hby : ∀ p ∈ K, p.2.length ≤ 1000000) (hsg : ∀ s, newK K = some s → segLen s.2.2.1 ≤ 30000) :
    Calls Tryz.prog 19 #[.agg #[.int .i64 r.room, .slice ko kn kc, .slice dO dn dc, .int .i64 (r.live : Int), .bool r.gone, .int .i64 r.armed]] w (OpnTold w R room d K (M + 30000 + K.length + 3)) := by
  have HB : Hid (RefB w R r (.slice ko kn kc) (.slice dO dn dc) kept M) := h
  have HFt : Hid (∀ i, R.foot i → i < w.heap.size) := hF
  have HLk : Hid (LikesD room d r) := hl
  have HKs : Hid (SrtK K ∧ filesK K = d.now ∧ (∀ k ∈ keysK K, 0 ≤ k ∧ k ≤ 1048576)) := ⟨hK, hf, hkr⟩
  obtain ⟨g1, g2, g3⟩ := h.few (by omega)
  have HS : Hid (r.done.foldl unitK (kf kept) = K) := by
    show r.done.foldl unitK (kf kept) = K
    rw [h.same]
    exact likesD_K hl hK hf
  have k36 := fun (w1 : World) (h1 : Adds w w1) => refSeen_any (HB.out.adds h1).ref (fun i hi => Nat.lt_of_lt_of_le (HFt.out i hi) h1.below.size) g1 g2 (by omega) r.room (r.live : Int) r.armed r.gone
  have HB1 : Hid ((((w.alloc (.cells #[.int .i64 r.room, .slice ko kn kc, .slice dO dn dc, .int .i64 (r.live : Int), .bool r.gone, .int .i64 r.armed] 36)).alloc (.cells #[.int .i64 0, .slice none 0 0, .slice none 0 0, .int .i64 0, .bool false, .int .i64 0, .int .i64 0, .slice none 0 0, .int .i64 0] 39)).alloc (.cells #[.int .i64 r.room, .slice ko kn kc, .slice dO dn dc, .int .i64 (r.live : Int), .bool r.gone, .int .i64 r.armed, .int .i64 (-1), .slice none 0 0, .int .i64 0] 39)).heap[w.heap.size]? = some (.cells #[.int .i64 r.room, .slice ko kn kc, .slice dO dn dc, .int .i64 (r.live : Int), .bool r.gone, .int .i64 r.armed] 36 (0, 0))) := blk3_one.trans blk_old
  have HB2 : Hid ((((w.alloc (.cells #[.int .i64 r.room, .slice ko kn kc, .slice dO dn dc, .int .i64 (r.live : Int), .bool r.gone, .int .i64 r.armed] 36)).alloc (.cells #[.int .i64 0, .slice none 0 0, .slice none 0 0, .int .i64 0, .bool false, .int .i64 0, .int .i64 0, .slice none 0 0, .int .i64 0] 39)).alloc (.cells #[.int .i64 r.room, .slice ko kn kc, .slice dO dn dc, .int .i64 (r.live : Int), .bool r.gone, .int .i64 r.armed, .int .i64 (-1), .slice none 0 0, .int .i64 0] 39)).heap[w.heap.size + 1]? = some (.cells #[.int .i64 0, .slice none 0 0, .slice none 0 0, .int .i64 0, .bool false, .int .i64 0, .int .i64 0, .slice none 0 0, .int .i64 0] 39 (0, 0))) := blk3_two.trans blk_new
  have HB3 : Hid ((((w.alloc (.cells #[.int .i64 r.room, .slice ko kn kc, .slice dO dn dc, .int .i64 (r.live : Int), .bool r.gone, .int .i64 r.armed] 36)).alloc (.cells #[.int .i64 0, .slice none 0 0, .slice none 0 0, .int .i64 0, .bool false, .int .i64 0, .int .i64 0, .slice none 0 0, .int .i64 0] 39)).alloc (.cells #[.int .i64 r.room, .slice ko kn kc, .slice dO dn dc, .int .i64 (r.live : Int), .bool r.gone, .int .i64 r.armed, .int .i64 (-1), .slice none 0 0, .int .i64 0] 39)).heap[w.heap.size + 2]? = some (.cells #[.int .i64 r.room, .slice ko kn kc, .slice dO dn dc, .int .i64 (r.live : Int), .bool r.gone, .int .i64 r.armed, .int .i64 (-1), .slice none 0 0, .int .i64 0] 39 (0, 0))) := blk3_new
  have HBy : Hid (∀ p ∈ K, p.2.length ≤ 1000000) := hby
  have HSg : Hid (∀ s, newK K = some s → segLen s.2.2.1 ≤ 30000) := hsg
  have HKl : Hid (K.length ≤ 4000 ∧ M ≤ 30000 ∧ room ≤ 1000000) := ⟨hKl, hM, hrm⟩
  clear h hF hl hK hf g1 g2 g3 hsg hby hkr
  go_enter Tryz.func19, Tryz.ntmps19
  go_wp2_with (go_at_call 21; refine (k36 _ (by repeat (first | with_reducible exact Adds.refl _ | with_reducible refine Adds.alloc ?_ _ | with_reducible refine Adds.more ?_ _ _ | with_reducible refine Adds.drew ?_ | with_reducible refine Adds.drewN ?_ _))).mono ?_; rintro e w5 ⟨r5, l5, rfl, f5, k5, a5⟩; obtain ⟨so, sc, rfl, _⟩ := f5.slice; have HM0 : Hid (OpnM w R r (.slice ko kn kc) (.slice dO dn dc) kept M K (.slice so l5.length sc) l5 0 w5 (-1) (.slice none 0 0) 0 false) := ⟨a5.at HB1.out, a5.at HB2.out, a5.at HB3.out, HB.out.adds (Adds.trans (by repeat (first | with_reducible exact Adds.refl _ | with_reducible refine Adds.alloc ?_ _ | with_reducible refine Adds.more ?_ _ _ | with_reducible refine Adds.drew ?_ | with_reducible refine Adds.drewN ?_ _)) a5), f5, ⟨rfl, rfl, rfl, rfl⟩, Adds.trans (by repeat (first | with_reducible exact Adds.refl _ | with_reducible refine Adds.alloc ?_ _ | with_reducible refine Adds.more ?_ _ _ | with_reducible refine Adds.drew ?_ | with_reducible refine Adds.drewN ?_ _)) a5⟩; have HK5 : Hid (kf l5 = K) := k5.trans HS.out; clear f5 k5 a5 k36)
  have HL5 : Hid (l5.length = K.length) := by show l5.length = K.length; rw [← HK5.out, kf_length]
  have hl5b : l5.length ≤ 5000 := by have := HKl.out.1; rw [HL5.out]; omega
  clear HB1 HB2 HB3 hM hrm hKl
  go_loopw [5, 7] (fun t i W => ∃ (j : Nat) (fi : Int) (lv : Value) (bs : Int) (td : Bool), j ≤ l5.length ∧ i = .int .i64 (j : Int) ∧ t = .bool td ∧ OpnM w R r (.slice ko kn kc) (.slice dO dn dc) kept M K (.slice so l5.length sc) l5 j W fi lv bs td) (fun _ i _ => (l5.length - intOf i).toNat)
  case atStart => exact ⟨0, -1, _, 0, false, by omega, rfl, rfl, HM0.out⟩
  case round =>
    obtain ⟨j, fi, lv, bs, td, hj, rfl, rfl, hm⟩ := hrel
    clear HM0
    obtain ⟨lo, ln, lc, rfl⟩ := hm.new.slice
    have HM : Hid (OpnM w R r (.slice ko kn kc) (.slice dO dn dc) kept M K (.slice so l5.length sc) l5 j wr fi (.slice lo ln lc) bs td) := hm
    have pa0 : wr.cell? ⟨w.heap.size, 0, none⟩ = some (.int .i64 r.room) := cell_of_row wr _ 0 _ _ _ (OpnM.one hm)
    have pa1 : wr.cell? ⟨w.heap.size, 1, none⟩ = some (.slice ko kn kc) := cell_of_row wr _ 1 _ _ _ (OpnM.one hm)
    have pa2 : wr.cell? ⟨w.heap.size, 2, none⟩ = some (.slice dO dn dc) := cell_of_row wr _ 2 _ _ _ (OpnM.one hm)
    have pa3 : wr.cell? ⟨w.heap.size, 3, none⟩ = some (.int .i64 (r.live : Int)) := cell_of_row wr _ 3 _ _ _ (OpnM.one hm)
    have pa4 : wr.cell? ⟨w.heap.size, 4, none⟩ = some (.bool r.gone) := cell_of_row wr _ 4 _ _ _ (OpnM.one hm)
    have pa5 : wr.cell? ⟨w.heap.size, 5, none⟩ = some (.int .i64 r.armed) := cell_of_row wr _ 5 _ _ _ (OpnM.one hm)
    have pc0 : wr.cell? ⟨w.heap.size + 2, 0, none⟩ = some (.int .i64 r.room) := cell_of_row wr _ 0 _ _ _ (OpnM.box hm)
    have pc1 : wr.cell? ⟨w.heap.size + 2, 1, none⟩ = some (.slice ko kn kc) := cell_of_row wr _ 1 _ _ _ (OpnM.box hm)
    have pc2 : wr.cell? ⟨w.heap.size + 2, 2, none⟩ = some (.slice dO dn dc) := cell_of_row wr _ 2 _ _ _ (OpnM.box hm)
    have pc3 : wr.cell? ⟨w.heap.size + 2, 3, none⟩ = some (.int .i64 (r.live : Int)) := cell_of_row wr _ 3 _ _ _ (OpnM.box hm)
    have pc4 : wr.cell? ⟨w.heap.size + 2, 4, none⟩ = some (.bool r.gone) := cell_of_row wr _ 4 _ _ _ (OpnM.box hm)
    have pc5 : wr.cell? ⟨w.heap.size + 2, 5, none⟩ = some (.int .i64 r.armed) := cell_of_row wr _ 5 _ _ _ (OpnM.box hm)
    have pc6 : wr.cell? ⟨w.heap.size + 2, 6, none⟩ = some (.int .i64 (fi)) := cell_of_row wr _ 6 _ _ _ (OpnM.box hm)
    have pc7 : wr.cell? ⟨w.heap.size + 2, 7, none⟩ = some (.slice lo ln lc) := cell_of_row wr _ 7 _ _ _ (OpnM.box hm)
    have pc8 : wr.cell? ⟨w.heap.size + 2, 8, none⟩ = some (.int .i64 (bs)) := cell_of_row wr _ 8 _ _ _ (OpnM.box hm)
    have pfb : ∀ i, wr.frozen? ⟨w.heap.size + 2, i, none⟩ = false := fun i => frozen_of (OpnM.box hm)
    have psb : w.heap.size + 2 < wr.heap.size := (Array.getElem?_eq_some_iff.1 (OpnM.box hm)).1
    by_cases hlt : j < l5.length
    · obtain ⟨b, off, cap', he, _, hbl, e0, e1, hsf⟩ := FilesV.at hm.files hlt
      simp only [Value.slice.injEq, true_and] at he
      obtain ⟨rfl, x2⟩ := he
      clear x2
      obtain ⟨hjk, hk1, hk2⟩ := file_key HK5.out hlt
      have k37 := refSegment_any 0 _ _ wr hsf.bytO (Nat.zero_le _) (by rw [← hk2]; exact HBy.out _ (List.getElem_mem hjk))
      obtain ⟨xo, xc, hxv, _, _⟩ := id hsf
      rw [hxv] at e1 k37
      have HE0 : Hid (wr.cell? ⟨b, off + j * 2, none⟩ = some (.int .i64 l5[j].1)) := e0
      have HK1 : Hid (K[j].1 = l5[j].1) := hk1
      have HK2 : Hid (K[j].2 = l5[j].2.2) := hk2
      have i1 : (j : Int) < (l5.length : Int) := by omega
      clear hxv hsf hm hk1 hk2
      generalize l5[j].2.2 = bb at *
      generalize hkk : l5[j].1 = kk at *
      clear hkk
      cases hs : segOf bb with
      | none =>
        have HSeg : Hid (segOf K[j].2 = none) := by show segOf K[j].2 = none; rw [HK2.out]; exact hs
        rw [show SegTold 0 bb = SegTold 0 bb from rfl] at k37
        have k37' : Calls Tryz.prog 47 #[.slice xo bb.length xc] wr fun e w' => ∃ ao n cap base cl, e = .returned (.tuple #[.slice ao n cap, .int .i64 base, .bool false, .bool cl]) ∧ Adds wr w' := by
          refine k37.mono ?_
          rintro e w' ⟨⟨ao, n, cap, base, wh, cl, rfl, hw, _⟩, ha⟩
          rw [hs] at hw
          subst hw
          exact ⟨ao, n, cap, base, cl, rfl, ha⟩
        clear k37 hs
        go_wp2_with (go_at_call 47; refine k37'.mono ?_; rintro e w7 ⟨ao7, n7, c7, bs7, cl7, rfl, a7⟩; have HA7 : Hid (Adds wr w7) := a7; clear a7 k37')
        go_roundw
        case rel => exact ⟨j + 1, fi, _, bs, td, by omega, by go_num, rfl, (HM.out.more HA7.out).skip hjk HSeg.out⟩
        case measure => simp [intOf]; omega
      | some s =>
        have HSeg : Hid (segOf K[j].2 = some s) := by show segOf K[j].2 = some s; rw [HK2.out]; exact hs
        have k37' : Calls Tryz.prog 47 #[.slice xo bb.length xc] wr fun e w' => ∃ ao n cap, e = .returned (.tuple #[.slice ao n cap, .int .i64 (s.1 : Int), .bool true, .bool s.2.2]) ∧ RwsO 0 w' (.slice ao n cap) s.2.1 ∧ Adds wr w' := by
          refine k37.mono ?_
          rintro e w' ⟨⟨ao, n, cap, base, wh, cl, rfl, hw, hh⟩, ha⟩
          rw [hs] at hw
          subst hw
          obtain ⟨q1, q2, q3⟩ := hh s hs
          subst q1
          subst q3
          exact ⟨ao, n, cap, rfl, q2, ha⟩
        clear k37 hs
        go_wp2_with (go_at_call 47; refine k37'.mono ?_; rintro e w7 ⟨ao7, n7, c7, rfl, rw7, a7⟩; have HA7 : Hid (Adds wr w7) := a7; have HR7 : Hid (RwsO 0 w7 (.slice ao7 n7 c7) s.2.1) := rw7; have e7 : w7.cell? ⟨b, off + j * 2, none⟩ = some (.int .i64 kk) := (by rw [World.cell?_of_block (a7.below.block b hbl)]; exact HE0.out); have hbl7 : b < w7.heap.size := Nat.lt_of_lt_of_le hbl a7.below.size; have hm7 := OpnM.more (Hid.out HM) a7; have qa0 : w7.cell? ⟨w.heap.size, 0, none⟩ = some (.int .i64 r.room) := cell_of_row w7 _ 0 _ _ _ (OpnM.one hm7); have qa1 : w7.cell? ⟨w.heap.size, 1, none⟩ = some (.slice ko kn kc) := cell_of_row w7 _ 1 _ _ _ (OpnM.one hm7); have qa2 : w7.cell? ⟨w.heap.size, 2, none⟩ = some (.slice dO dn dc) := cell_of_row w7 _ 2 _ _ _ (OpnM.one hm7); have qa3 : w7.cell? ⟨w.heap.size, 3, none⟩ = some (.int .i64 (r.live : Int)) := cell_of_row w7 _ 3 _ _ _ (OpnM.one hm7); have qa4 : w7.cell? ⟨w.heap.size, 4, none⟩ = some (.bool r.gone) := cell_of_row w7 _ 4 _ _ _ (OpnM.one hm7); have qa5 : w7.cell? ⟨w.heap.size, 5, none⟩ = some (.int .i64 r.armed) := cell_of_row w7 _ 5 _ _ _ (OpnM.one hm7); have qc0 : w7.cell? ⟨w.heap.size + 2, 0, none⟩ = some (.int .i64 r.room) := cell_of_row w7 _ 0 _ _ _ (OpnM.box hm7); have qc1 : w7.cell? ⟨w.heap.size + 2, 1, none⟩ = some (.slice ko kn kc) := cell_of_row w7 _ 1 _ _ _ (OpnM.box hm7); have qc2 : w7.cell? ⟨w.heap.size + 2, 2, none⟩ = some (.slice dO dn dc) := cell_of_row w7 _ 2 _ _ _ (OpnM.box hm7); have qc3 : w7.cell? ⟨w.heap.size + 2, 3, none⟩ = some (.int .i64 (r.live : Int)) := cell_of_row w7 _ 3 _ _ _ (OpnM.box hm7); have qc4 : w7.cell? ⟨w.heap.size + 2, 4, none⟩ = some (.bool r.gone) := cell_of_row w7 _ 4 _ _ _ (OpnM.box hm7); have qc5 : w7.cell? ⟨w.heap.size + 2, 5, none⟩ = some (.int .i64 r.armed) := cell_of_row w7 _ 5 _ _ _ (OpnM.box hm7); have qc6 : w7.cell? ⟨w.heap.size + 2, 6, none⟩ = some (.int .i64 (fi)) := cell_of_row w7 _ 6 _ _ _ (OpnM.box hm7); have qc7 : w7.cell? ⟨w.heap.size + 2, 7, none⟩ = some (.slice lo ln lc) := cell_of_row w7 _ 7 _ _ _ (OpnM.box hm7); have qc8 : w7.cell? ⟨w.heap.size + 2, 8, none⟩ = some (.int .i64 (bs)) := cell_of_row w7 _ 8 _ _ _ (OpnM.box hm7); have qfb : ∀ i, w7.frozen? ⟨w.heap.size + 2, i, none⟩ = false := fun i => frozen_of (OpnM.box hm7); have qsb : w.heap.size + 2 < w7.heap.size := (Array.getElem?_eq_some_iff.1 (OpnM.box hm7)).1; clear a7 k37' rw7 hm7)
        go_region
        all_goals
          go_wp2
          go_roundw
          case rel =>
            have hx := (HM.out.more HA7.out).next hjk HSeg.out HR7.out
            rw [HK1.out] at hx
            exact ⟨j + 1, kk, _, _, _, by omega, by go_num, rfl, hx.more ((Adds.refl _).drew)⟩
          case measure => simp [intOf]; omega
    · obtain rfl : j = l5.length := by omega
      have hnw := hm.new
      rw [List.take_of_length_le (by have := HL5.out; omega)] at hnw
      have HNw : Hid (NewAt wr (newK K) fi (.slice lo ln lc) bs td) := hnw
      have i1 : ¬ ((l5.length : Int) < (l5.length : Int)) := by omega
      have pd0 : wr.cell? ⟨w.heap.size + 1, 0, none⟩ = some (.int .i64 0) := cell_of_row wr _ 0 _ _ _ (OpnM.two hm)
      have pd1 : wr.cell? ⟨w.heap.size + 1, 1, none⟩ = some (.slice none 0 0) := cell_of_row wr _ 1 _ _ _ (OpnM.two hm)
      have pd2 : wr.cell? ⟨w.heap.size + 1, 2, none⟩ = some (.slice none 0 0) := cell_of_row wr _ 2 _ _ _ (OpnM.two hm)
      have pd3 : wr.cell? ⟨w.heap.size + 1, 3, none⟩ = some (.int .i64 0) := cell_of_row wr _ 3 _ _ _ (OpnM.two hm)
      have pd4 : wr.cell? ⟨w.heap.size + 1, 4, none⟩ = some (.bool false) := cell_of_row wr _ 4 _ _ _ (OpnM.two hm)
      have pd5 : wr.cell? ⟨w.heap.size + 1, 5, none⟩ = some (.int .i64 0) := cell_of_row wr _ 5 _ _ _ (OpnM.two hm)
      have pd6 : wr.cell? ⟨w.heap.size + 1, 6, none⟩ = some (.int .i64 0) := cell_of_row wr _ 6 _ _ _ (OpnM.two hm)
      have pd7 : wr.cell? ⟨w.heap.size + 1, 7, none⟩ = some (.slice none 0 0) := cell_of_row wr _ 7 _ _ _ (OpnM.two hm)
      have pd8 : wr.cell? ⟨w.heap.size + 1, 8, none⟩ = some (.int .i64 0) := cell_of_row wr _ 8 _ _ _ (OpnM.two hm)
      have pfd : ∀ i, wr.frozen? ⟨w.heap.size + 1, i, none⟩ = false := fun i => frozen_of (OpnM.two hm)
      have psd : w.heap.size + 1 < wr.heap.size := (Array.getElem?_eq_some_iff.1 (OpnM.two hm)).1
      clear hm hnw
      cases hnk : newK K with
      | none =>
        have hq := HNw.out
        rw [hnk] at hq
        obtain ⟨rfl, hlv, rfl, rfl⟩ := hq
        simp only [Value.slice.injEq] at hlv
        obtain ⟨rfl, rfl, rfl⟩ := hlv
        have HRw : Hid (RwsO 0 wr (.slice none 0 0) []) := rwsO_nil 0 wr
        have HFi : Hid (fits []) := fun x hx => by cases hx
        have HSl : Hid (segLen [] ≤ 30000) := by show segLen [] ≤ 30000; simp [segLen, tot]
        have HEo : Hid (d.opened K = ⟨nextK K, ([] : List (List UInt8)).length, [], d.begun K []⟩) := by show d.opened K = _; unfold Dk.opened; rw [hnk]; rfl
        have HRy : Hid (roomy room K ↔ segLen [] + sizeK K ≤ room ∧ nextK K ≤ 1048576) := by
          show roomy room K ↔ _
          unfold roomy
          rw [hnk]
          simp [segLen, tot]
        clear hnk
        have k18 : Calls Tryz.prog 20 #[.agg #[.int .i64 r.room, .slice ko kn kc, .slice dO dn dc, .int .i64 (r.live : Int), .bool r.gone, .int .i64 r.armed, .int .i64 (-1), .slice none 0 0, .int .i64 (0)], .slice none 0 0] wr (BegTold wr R room d K ([] : List (List UInt8)) (.agg #[.int .i64 r.room, .slice ko kn kc, .slice dO dn dc, .int .i64 (r.live : Int), .bool r.gone, .int .i64 r.armed, .int .i64 (-1), .slice none 0 0, .int .i64 (0)]) (.slice none 0 0) (M + segLen ([] : List (List UInt8)) + K.length + 3)) := refBegin_any HM.out.refb (fun i hi => Nat.lt_of_lt_of_le (HFt.out i hi) HM.out.adds.below.size) HKl.out.2.1 HKl.out.2.2 HLk.out HKs.out.1 HKs.out.2.1 HKs.out.2.2 HKl.out.1 (-1) (0) none none 0 0 0 ([] : List (List UInt8)) (HRw.out.rws (Nat.zero_le _)) HFi.out HSl.out
        clear HNw
        go_wp2_with (go_at_call 20; refine k18.mono ?_; clear k18; rintro e w7 (⟨hro, rB, koB, knB, kcB, dOB, dnB, dcB, keptB, rfl, rbB, lkB, aB⟩ | ⟨hro, rfl, aB⟩) <;> (first | (have HRB : Hid (RefB w7 R rB (.slice koB knB kcB) (.slice dOB dnB dcB) keptB (M + segLen ([] : List (List UInt8)) + K.length + 3)) := rbB; have HLB : Hid (LikesD room (d.begun K ([] : List (List UInt8))) rB) := lkB; clear rbB lkB) | skip) <;> (have HAB : Hid (Adds wr w7) := aB; have HRo : Hid _ := hro; have t7 := Adds.at aB (OpnM.two (Hid.out HM)); have HT7 : Hid _ := t7; have zd0 : w7.cell? ⟨w.heap.size + 1, 0, none⟩ = some (.int .i64 0) := cell_of_row w7 _ 0 _ _ _ t7; have zd1 : w7.cell? ⟨w.heap.size + 1, 1, none⟩ = some (.slice none 0 0) := cell_of_row w7 _ 1 _ _ _ t7; have zd2 : w7.cell? ⟨w.heap.size + 1, 2, none⟩ = some (.slice none 0 0) := cell_of_row w7 _ 2 _ _ _ t7; have zd3 : w7.cell? ⟨w.heap.size + 1, 3, none⟩ = some (.int .i64 0) := cell_of_row w7 _ 3 _ _ _ t7; have zd4 : w7.cell? ⟨w.heap.size + 1, 4, none⟩ = some (.bool false) := cell_of_row w7 _ 4 _ _ _ t7; have zd5 : w7.cell? ⟨w.heap.size + 1, 5, none⟩ = some (.int .i64 0) := cell_of_row w7 _ 5 _ _ _ t7; have zd6 : w7.cell? ⟨w.heap.size + 1, 6, none⟩ = some (.int .i64 0) := cell_of_row w7 _ 6 _ _ _ t7; have zd7 : w7.cell? ⟨w.heap.size + 1, 7, none⟩ = some (.slice none 0 0) := cell_of_row w7 _ 7 _ _ _ t7; have zd8 : w7.cell? ⟨w.heap.size + 1, 8, none⟩ = some (.int .i64 0) := cell_of_row w7 _ 8 _ _ _ t7; have zfd : ∀ i, w7.frozen? ⟨w.heap.size + 1, i, none⟩ = false := fun i => frozen_of t7; have zsd : w.heap.size + 1 < w7.heap.size := (Array.getElem?_eq_some_iff.1 t7).1; clear aB hro t7))
        · refine bodyPost_ret (v := .tuple #[.agg #[.int .i64 rB.room, .slice koB knB kcB, .slice dOB dnB dcB, .int .i64 (rB.live : Int), .bool rB.gone, .int .i64 rB.armed, .int .i64 (nextK K), .slice none 0 0, .int .i64 ((([] : List (List UInt8))).length : Int)], .int .i64 0]) (by simp [results, Tryz.results19, go_sem, zd0, zd1, zd2, zd3, zd4, zd5, zd6, zd7, zd8]) rfl (Or.inl ⟨HRy.out.2 HRo.out, rB, koB, knB, kcB, dOB, dnB, dcB, keptB, .slice none 0 0, by rw [HEo.out], ?_, by rw [HEo.out]; exact HLB.out, ?_, ?_⟩)
          · refine RefB.mono (HRB.out.turn (p := w.heap.size + 1) (.inr rfl) ⟨_, HT7.out⟩ (by repeat (first | with_reducible refine Turn2.set1 ?_ _ _ | with_reducible refine Turn2.set2 ?_ _ _ | with_reducible exact Turn2.refl _ _ _))) ?_
            have := HSl.out
            omega
          · rw [HEo.out]
            exact ((HRw.out.adds HAB.out).turn (p := w.heap.size + 1) ⟨_, HT7.out⟩ (by repeat (first | with_reducible refine Turn2.set1 ?_ _ _ | with_reducible refine Turn2.set2 ?_ _ _ | with_reducible exact Turn2.refl _ _ _)))
          · exact turn2_adds (p := w.heap.size + 1) (q := w.heap.size + 1) (HM.out.adds.trans HAB.out) (Nat.le_succ _) (Nat.le_succ _) (by repeat (first | with_reducible refine Turn2.set1 ?_ _ _ | with_reducible refine Turn2.set2 ?_ _ _ | with_reducible exact Turn2.refl _ _ _))
        · refine bodyPost_ret (v := .tuple #[.agg #[.int .i64 r.room, .slice ko kn kc, .slice dO dn dc, .int .i64 (r.live : Int), .bool r.gone, .int .i64 r.armed, .int .i64 (-1), .slice none 0 0, .int .i64 (0)], .int .i64 2]) (by simp [results, Tryz.results19, go_sem, zd0, zd1, zd2, zd3, zd4, zd5, zd6, zd7, zd8]) rfl (Or.inr ⟨fun hh => HRo.out (HRy.out.1 hh), _, _, _, _, _, _, _, _, _, _, _, _, _, _, _, rfl, ?_⟩)
          exact turn2_adds (p := w.heap.size + 1) (q := w.heap.size + 1) (HM.out.adds.trans HAB.out) (Nat.le_succ _) (Nat.le_succ _) (by repeat (first | with_reducible refine Turn2.set1 ?_ _ _ | with_reducible refine Turn2.set2 ?_ _ _ | with_reducible exact Turn2.refl _ _ _))
      | some s =>
        obtain ⟨file, base, ls, cl⟩ := s
        have hq := HNw.out
        rw [hnk] at hq
        obtain ⟨hf1, hrw, hb1, ht1⟩ := hq
        simp only at hf1 hrw hb1 ht1
        subst hf1
        subst hb1
        subst ht1
        obtain ⟨lo', lc', hlv, _⟩ := hrw.slice
        simp only [Value.slice.injEq] at hlv
        obtain ⟨rfl, rfl, rfl⟩ := hlv
        have HRw : Hid (RwsO 0 wr (.slice lo ls.length lc) ls) := hrw
        have HKy : Hid (fi ∈ keysK K) := newK_key hnk
        have i2 : ¬ fi < 0 := by have := (HKs.out.2.2 fi HKy.out).1; omega
        clear hrw
        cases td with
        | true =>
          have HEo : Hid (d.opened K = ⟨fi, base, ls, d.others fi (keysK K)⟩) := by show d.opened K = _; unfold Dk.opened; rw [hnk]
          have HRy : Hid (roomy room K) := by show roomy room K; unfold roomy; rw [hnk]; trivial
          have k38 := refOthers_any HM.out.refb (fun i hi => Nat.lt_of_lt_of_le (HFt.out i hi) HM.out.adds.below.size) (by have := HKl.out; omega) HLk.out HKs.out.1 HKs.out.2.1 fi (base : Int) HKy.out (by have := HKl.out; omega) lo ls.length lc
          clear hnk HNw
          go_wp2_with (go_at_call 48; refine k38.mono ?_; clear k38; rintro e w7 ⟨rB, koB, knB, kcB, dOB, dnB, dcB, keptB, rfl, rbB, lkB, aB⟩; have HRB : Hid (RefB w7 R rB (.slice koB knB kcB) (.slice dOB dnB dcB) keptB (M + K.length)) := rbB; have HLB : Hid (LikesD room (d.others fi (keysK K)) rB) := lkB; have HAB : Hid (Adds wr w7) := aB; have t7 := Adds.at aB (OpnM.two (Hid.out HM)); have HT7 : Hid _ := t7; have zd0 : w7.cell? ⟨w.heap.size + 1, 0, none⟩ = some (.int .i64 0) := cell_of_row w7 _ 0 _ _ _ t7; have zd1 : w7.cell? ⟨w.heap.size + 1, 1, none⟩ = some (.slice none 0 0) := cell_of_row w7 _ 1 _ _ _ t7; have zd2 : w7.cell? ⟨w.heap.size + 1, 2, none⟩ = some (.slice none 0 0) := cell_of_row w7 _ 2 _ _ _ t7; have zd3 : w7.cell? ⟨w.heap.size + 1, 3, none⟩ = some (.int .i64 0) := cell_of_row w7 _ 3 _ _ _ t7; have zd4 : w7.cell? ⟨w.heap.size + 1, 4, none⟩ = some (.bool false) := cell_of_row w7 _ 4 _ _ _ t7; have zd5 : w7.cell? ⟨w.heap.size + 1, 5, none⟩ = some (.int .i64 0) := cell_of_row w7 _ 5 _ _ _ t7; have zd6 : w7.cell? ⟨w.heap.size + 1, 6, none⟩ = some (.int .i64 0) := cell_of_row w7 _ 6 _ _ _ t7; have zd7 : w7.cell? ⟨w.heap.size + 1, 7, none⟩ = some (.slice none 0 0) := cell_of_row w7 _ 7 _ _ _ t7; have zd8 : w7.cell? ⟨w.heap.size + 1, 8, none⟩ = some (.int .i64 0) := cell_of_row w7 _ 8 _ _ _ t7; have zfd : ∀ i, w7.frozen? ⟨w.heap.size + 1, i, none⟩ = false := fun i => frozen_of t7; have zsd : w.heap.size + 1 < w7.heap.size := (Array.getElem?_eq_some_iff.1 t7).1; clear aB t7 rbB lkB)
          refine bodyPost_ret (v := .tuple #[.agg #[.int .i64 rB.room, .slice koB knB kcB, .slice dOB dnB dcB, .int .i64 (rB.live : Int), .bool rB.gone, .int .i64 rB.armed, .int .i64 fi, .slice lo ls.length lc, .int .i64 (base : Int)], .int .i64 0]) (by simp [results, Tryz.results19, go_sem, zd0, zd1, zd2, zd3, zd4, zd5, zd6, zd7, zd8]) rfl (Or.inl ⟨HRy.out, rB, koB, knB, kcB, dOB, dnB, dcB, keptB, .slice lo ls.length lc, by rw [HEo.out], ?_, by rw [HEo.out]; exact HLB.out, ?_, ?_⟩)
          · exact RefB.mono (HRB.out.turn (p := w.heap.size + 1) (.inr rfl) ⟨_, HT7.out⟩ (by repeat (first | with_reducible refine Turn2.set1 ?_ _ _ | with_reducible refine Turn2.set2 ?_ _ _ | with_reducible exact Turn2.refl _ _ _))) (by omega)
          · rw [HEo.out]
            exact ((HRw.out.adds HAB.out).turn (p := w.heap.size + 1) ⟨_, HT7.out⟩ (by repeat (first | with_reducible refine Turn2.set1 ?_ _ _ | with_reducible refine Turn2.set2 ?_ _ _ | with_reducible exact Turn2.refl _ _ _)))
          · exact turn2_adds (p := w.heap.size + 1) (q := w.heap.size + 1) (HM.out.adds.trans HAB.out) (Nat.le_succ _) (Nat.le_succ _) (by repeat (first | with_reducible refine Turn2.set1 ?_ _ _ | with_reducible refine Turn2.set2 ?_ _ _ | with_reducible exact Turn2.refl _ _ _))
        | false =>
          have HFi : Hid (fits ls) := newK_fits hnk
          have HSl : Hid (segLen ls ≤ 30000) := HSg.out _ hnk
          have HEo : Hid (d.opened K = ⟨nextK K, ls.length, ls, d.begun K ls⟩) := by show d.opened K = _; unfold Dk.opened; rw [hnk]
          have HRy : Hid (roomy room K ↔ segLen ls + sizeK K ≤ room ∧ nextK K ≤ 1048576) := by
            show roomy room K ↔ _
            unfold roomy
            rw [hnk]
          clear hnk
          have k18 : Calls Tryz.prog 20 #[.agg #[.int .i64 r.room, .slice ko kn kc, .slice dO dn dc, .int .i64 (r.live : Int), .bool r.gone, .int .i64 r.armed, .int .i64 (fi), .slice lo ls.length lc, .int .i64 (base : Int)], .slice lo ls.length lc] wr (BegTold wr R room d K ls (.agg #[.int .i64 r.room, .slice ko kn kc, .slice dO dn dc, .int .i64 (r.live : Int), .bool r.gone, .int .i64 r.armed, .int .i64 (fi), .slice lo ls.length lc, .int .i64 (base : Int)]) (.slice lo ls.length lc) (M + segLen ls + K.length + 3)) := refBegin_any HM.out.refb (fun i hi => Nat.lt_of_lt_of_le (HFt.out i hi) HM.out.adds.below.size) HKl.out.2.1 HKl.out.2.2 HLk.out HKs.out.1 HKs.out.2.1 HKs.out.2.2 HKl.out.1 (fi) (base : Int) lo lo ls.length lc lc ls (HRw.out.rws (Nat.zero_le _)) HFi.out HSl.out
          clear HNw
          go_wp2_with (go_at_call 20; refine k18.mono ?_; clear k18; rintro e w7 (⟨hro, rB, koB, knB, kcB, dOB, dnB, dcB, keptB, rfl, rbB, lkB, aB⟩ | ⟨hro, rfl, aB⟩) <;> (first | (have HRB : Hid (RefB w7 R rB (.slice koB knB kcB) (.slice dOB dnB dcB) keptB (M + segLen ls + K.length + 3)) := rbB; have HLB : Hid (LikesD room (d.begun K ls) rB) := lkB; clear rbB lkB) | skip) <;> (have HAB : Hid (Adds wr w7) := aB; have HRo : Hid _ := hro; have t7 := Adds.at aB (OpnM.two (Hid.out HM)); have HT7 : Hid _ := t7; have zd0 : w7.cell? ⟨w.heap.size + 1, 0, none⟩ = some (.int .i64 0) := cell_of_row w7 _ 0 _ _ _ t7; have zd1 : w7.cell? ⟨w.heap.size + 1, 1, none⟩ = some (.slice none 0 0) := cell_of_row w7 _ 1 _ _ _ t7; have zd2 : w7.cell? ⟨w.heap.size + 1, 2, none⟩ = some (.slice none 0 0) := cell_of_row w7 _ 2 _ _ _ t7; have zd3 : w7.cell? ⟨w.heap.size + 1, 3, none⟩ = some (.int .i64 0) := cell_of_row w7 _ 3 _ _ _ t7; have zd4 : w7.cell? ⟨w.heap.size + 1, 4, none⟩ = some (.bool false) := cell_of_row w7 _ 4 _ _ _ t7; have zd5 : w7.cell? ⟨w.heap.size + 1, 5, none⟩ = some (.int .i64 0) := cell_of_row w7 _ 5 _ _ _ t7; have zd6 : w7.cell? ⟨w.heap.size + 1, 6, none⟩ = some (.int .i64 0) := cell_of_row w7 _ 6 _ _ _ t7; have zd7 : w7.cell? ⟨w.heap.size + 1, 7, none⟩ = some (.slice none 0 0) := cell_of_row w7 _ 7 _ _ _ t7; have zd8 : w7.cell? ⟨w.heap.size + 1, 8, none⟩ = some (.int .i64 0) := cell_of_row w7 _ 8 _ _ _ t7; have zfd : ∀ i, w7.frozen? ⟨w.heap.size + 1, i, none⟩ = false := fun i => frozen_of t7; have zsd : w.heap.size + 1 < w7.heap.size := (Array.getElem?_eq_some_iff.1 t7).1; clear aB hro t7))
          · refine bodyPost_ret (v := .tuple #[.agg #[.int .i64 rB.room, .slice koB knB kcB, .slice dOB dnB dcB, .int .i64 (rB.live : Int), .bool rB.gone, .int .i64 rB.armed, .int .i64 (nextK K), .slice lo ls.length lc, .int .i64 ((ls).length : Int)], .int .i64 0]) (by simp [results, Tryz.results19, go_sem, zd0, zd1, zd2, zd3, zd4, zd5, zd6, zd7, zd8]) rfl (Or.inl ⟨HRy.out.2 HRo.out, rB, koB, knB, kcB, dOB, dnB, dcB, keptB, .slice lo ls.length lc, by rw [HEo.out], ?_, by rw [HEo.out]; exact HLB.out, ?_, ?_⟩)
            · refine RefB.mono (HRB.out.turn (p := w.heap.size + 1) (.inr rfl) ⟨_, HT7.out⟩ (by repeat (first | with_reducible refine Turn2.set1 ?_ _ _ | with_reducible refine Turn2.set2 ?_ _ _ | with_reducible exact Turn2.refl _ _ _))) ?_
              have := HSl.out
              omega
            · rw [HEo.out]
              exact ((HRw.out.adds HAB.out).turn (p := w.heap.size + 1) ⟨_, HT7.out⟩ (by repeat (first | with_reducible refine Turn2.set1 ?_ _ _ | with_reducible refine Turn2.set2 ?_ _ _ | with_reducible exact Turn2.refl _ _ _)))
            · exact turn2_adds (p := w.heap.size + 1) (q := w.heap.size + 1) (HM.out.adds.trans HAB.out) (Nat.le_succ _) (Nat.le_succ _) (by repeat (first | with_reducible refine Turn2.set1 ?_ _ _ | with_reducible refine Turn2.set2 ?_ _ _ | with_reducible exact Turn2.refl _ _ _))
          · refine bodyPost_ret (v := .tuple #[.agg #[.int .i64 r.room, .slice ko kn kc, .slice dO dn dc, .int .i64 (r.live : Int), .bool r.gone, .int .i64 r.armed, .int .i64 (fi), .slice lo ls.length lc, .int .i64 (base : Int)], .int .i64 2]) (by simp [results, Tryz.results19, go_sem, zd0, zd1, zd2, zd3, zd4, zd5, zd6, zd7, zd8]) rfl (Or.inr ⟨fun hh => HRo.out (HRy.out.1 hh), _, _, _, _, _, _, _, _, _, _, _, _, _, _, _, rfl, ?_⟩)
            exact turn2_adds (p := w.heap.size + 1) (q := w.heap.size + 1) (HM.out.adds.trans HAB.out) (Nat.le_succ _) (Nat.le_succ _) (by repeat (first | with_reducible refine Turn2.set1 ?_ _ _ | with_reducible refine Turn2.set2 ?_ _ _ | with_reducible exact Turn2.refl _ _ _))

end Go.Proofs.YtelkkpomehgcjaaGreat
