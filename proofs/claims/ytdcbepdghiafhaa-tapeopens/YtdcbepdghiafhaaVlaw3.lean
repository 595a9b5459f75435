/-
  The law TapeOpens, walked.
-/
import Derived.Test.YtdcbepdghiafhaaVlaw2
namespace Go.Proofs.Ytdcbepdghiafhaa
open Go.RowKit Go.Maps
attribute [local go_sem] cell?_more frozen?_more setCell_more size_more tape_more drew_more drewN_more more_drew more_drewN more_more one_out plus_out plus_end lt_one le_p2 le_p3 le_p4 le_p5 le_p6 le_p7 le_p8 le_p9 le_p10 le_p11 le_p12 le_p13 le_p14 le_p15 le_p16 le_p17 le_p18 le_p19 le_p20 le_p21 le_p22 le_p23 le_p24 le_q0 le_q1 lt_q1 le_q2 lt_q2 le_q3 lt_q3 le_q4 lt_q4 le_q5 lt_q5 le_q6 lt_q6 le_q7 lt_q7 le_q8 lt_q8 le_q9 lt_q9 le_q10 lt_q10 le_q11 lt_q11 le_q12 lt_q12 le_q13 lt_q13 le_q14 lt_q14 le_q15 lt_q15 le_q16 lt_q16 le_q17 lt_q17 le_q18 lt_q18 le_q19 lt_q19 le_q20 lt_q20 le_q21 lt_q21 le_q22 lt_q22 le_q23 lt_q23 le_q24 lt_q24

set_option maxHeartbeats 4000000 in
theorem tapeOpens_any (fo : Option Addr) (fc : Nat) (ls : List (List UInt8)) (w : World) (h : Rws w (.slice fo ls.length fc) ls) (hmx : ls.length ≤ 9223372036854775807) (room : Nat) (hrm : room ≤ 65535) :
    Calls Try.prog 5 #[.slice fo ls.length fc, .int .u16 (room : Int)] w fun e w' => e = .returned (.bool true) ∧ Adds w w' := by
  have HL : Hid (Rws w (.slice fo ls.length fc) ls) := h
  have HRm : Hid (room ≤ 65535) := hrm
  clear h
  go_enter Try.func5, Try.ntmps5
  go_wp2_with (first
    | (go_at_call 8; refine (st_new room (by omega) _).mono ?_; rintro e w1 ⟨rfl, R1, p1, s1, rm1, bk1, a1⟩; have HP1 : Hid (R1.p = w.heap.size + 1 ∧ St w1 w.heap.size R1 (calm [] 0) ∧ R1.room = room ∧ R1.bulk = 0 ∧ Adds w w1) := ⟨p1, s1, rm1, bk1, a1⟩; clear p1 s1 rm1 bk1 a1)
    | (go_at_call 13; refine (refNew_any _ _).mono ?_; rintro e w2 ⟨rfl, a2⟩; have HA2 : Hid (Adds w1 w2) := Adds.trans (by repeat (first | with_reducible exact Adds.refl _ | with_reducible refine Adds.alloc ?_ _ | with_reducible refine Adds.more ?_ _ _ | with_reducible refine Adds.drew ?_ | with_reducible refine Adds.drewN ?_ _)) a2; clear a2))
  have HB0 : Hid (Bx w w2.heap.size room 1 none none 0 0 0 0 (rf0 room) (w2.alloc (.cells #[.int .i64 (room : Int), .slice none 0 0, .slice none 0 0, .int .i64 0, .bool false, .int .i64 (-1)] 36))) := by
    have ha := (HA2.out).trans ((Adds.refl w2).alloc (.cells #[.int .i64 (room : Int), .slice none 0 0, .slice none 0 0, .int .i64 0, .bool false, .int .i64 (-1)] 36))
    exact ⟨R1, _, [], pr0 (HP1.out.2.1.adds ha) HP1.out.2.2.1 HP1.out.1 HP1.out.2.2.2.1 (HP1.out.2.2.2.2.trans ha), new_block _ _⟩
  have HQ : Hid (w.heap.size ≤ w2.heap.size) := (HP1.out.2.2.2.2.trans HA2.out).below.size
  clear HP1 HA2 hrm
  go_loopw [8, 9] (fun s i W => ∃ (j n M : Nat) (ko dO : Option Addr) (kn kc dn dc : Nat) (r : Rf), j ≤ ls.length ∧ j ≤ 6 ∧ i = .int .i64 (j : Int) ∧ s = .int .i64 (n : Int) ∧ n ≤ 2000 ∧ M ≤ n + j + 1 ∧ Bx w w2.heap.size room M ko dO kn kc dn dc r W) (fun _ i _ => (ls.length - intOf i).toNat)
  case atStart => exact ⟨0, 0, 1, none, none, 0, 0, 0, 0, rf0 room, by omega, by omega, rfl, rfl, by omega, by omega, HB0.out⟩
  case round =>
    obtain ⟨j, n, M, ko, dO, kn, kc, dn, dc, r, hj, hj6, rfl, rfl, hn, hMn, hbx⟩ := hrel
    have HB : Hid (Bx w w2.heap.size room M ko dO kn kc dn dc r wr) := hbx
    have hbox := hbx.box
    have x0 : wr.cell? ⟨w2.heap.size, 0, none⟩ = some (.int .i64 r.room) := cell_of_row wr _ 0 _ _ _ hbox
    have x1 : wr.cell? ⟨w2.heap.size, 1, none⟩ = some (.slice ko kn kc) := cell_of_row wr _ 1 _ _ _ hbox
    have x2 : wr.cell? ⟨w2.heap.size, 2, none⟩ = some (.slice dO dn dc) := cell_of_row wr _ 2 _ _ _ hbox
    have x3 : wr.cell? ⟨w2.heap.size, 3, none⟩ = some (.int .i64 (r.live : Int)) := cell_of_row wr _ 3 _ _ _ hbox
    have x4 : wr.cell? ⟨w2.heap.size, 4, none⟩ = some (.bool r.gone) := cell_of_row wr _ 4 _ _ _ hbox
    have x5 : wr.cell? ⟨w2.heap.size, 5, none⟩ = some (.int .i64 r.armed) := cell_of_row wr _ 5 _ _ _ hbox
    have xf : ∀ i, wr.frozen? ⟨w2.heap.size, i, none⟩ = false := fun i => frozen_of hbox
    have xs : w2.heap.size < wr.heap.size := (Array.getElem?_eq_some_iff.1 hbox).1
    have HMn : Hid (M ≤ n + j + 1) := hMn
    clear HB0 hbx hbox hMn
    by_cases hlt : j < ls.length ∧ j < 6
    · obtain ⟨bb, off, x, rfl, hb0, hc0, hx0⟩ := HL.out.at hlt.1
      obtain ⟨xo, xc, rfl, _, _⟩ := hx0.open
      have HX : Hid (Byt w (.slice xo ls[j].length xc) ls[j]) := hx0
      have HC : Hid (w.cell? ⟨bb, off + j, none⟩ = some (.slice xo ls[j].length xc)) := hc0
      have hcr : wr.cell? ⟨bb, off + j, none⟩ = some (.slice xo ls[j].length xc) := (World.cell?_of_block (HB.out.adds.below.block bb hb0)).trans HC.out
      have hbr : bb < wr.heap.size := Nat.lt_of_lt_of_le hb0 HB.out.adds.below.size
      have i1 : (j : Int) < (ls.length : Int) := by omega
      have i2 : (j : Int) < 6 := by omega
      clear hx0 hc0
      generalize hm : ls[j] = m at *
      clear hm
      by_cases hlong : (2000 : Int) - (n : Int) < (m.length : Int)
      · go_wp2_with (go_at_call 10; refine (awake_any _).mono ?_; rintro e w9 ⟨rfl, a9⟩)
        go_ret
        exact ⟨rfl, HB.out.adds.trans a9⟩
      · have hml : m.length ≤ 2000 := by omega
        have k25 := bx_append HB.out (by have := HMn.out; omega) (2 * (j : Int)) (by omega) (.slice xo m.length xc) m (HX.out.adds HB.out.adds)
        go_wp2_with (go_at_call 25; refine k25.mono ?_; clear k25; rintro e w7 ⟨n7, rfl, h7⟩; have HH : Hid (Hx w w2.heap.size room M ko dO kn kc dn dc r (2 * (j : Int)) m w7) := h7; have b7 := Hx.box h7; have y0 : w7.cell? ⟨w2.heap.size, 0, none⟩ = some (.int .i64 r.room) := cell_of_row w7 _ 0 _ _ _ b7; have y1 : w7.cell? ⟨w2.heap.size, 1, none⟩ = some (.slice ko kn kc) := cell_of_row w7 _ 1 _ _ _ b7; have y2 : w7.cell? ⟨w2.heap.size, 2, none⟩ = some (.slice dO dn dc) := cell_of_row w7 _ 2 _ _ _ b7; have y3 : w7.cell? ⟨w2.heap.size, 3, none⟩ = some (.int .i64 (r.live : Int)) := cell_of_row w7 _ 3 _ _ _ b7; have y4 : w7.cell? ⟨w2.heap.size, 4, none⟩ = some (.bool r.gone) := cell_of_row w7 _ 4 _ _ _ b7; have y5 : w7.cell? ⟨w2.heap.size, 5, none⟩ = some (.int .i64 r.armed) := cell_of_row w7 _ 5 _ _ _ b7; have yf : ∀ i, w7.frozen? ⟨w2.heap.size, i, none⟩ = false := fun i => frozen_of b7; have ys : w2.heap.size < w7.heap.size := (Array.getElem?_eq_some_iff.1 b7).1; have hc7 : w7.cell? ⟨bb, off + j, none⟩ = some (.slice xo m.length xc) := (World.cell?_of_block ((Hx.adds h7).below.block bb hb0)).trans HC.out; have hb7 : bb < w7.heap.size := Nat.lt_of_lt_of_le hb0 (Hx.adds h7).below.size; clear h7 b7)
        have HN : Hid (n ≤ 2000 ∧ m.length ≤ 2000 ∧ n + m.length ≤ 2000 ∧ j < ls.length ∧ j < 6) := ⟨hn, hml, by omega, hlt.1, hlt.2⟩
        have hwr : IntKind.i64.wrap (2 * (j : Int)) = 2 * (j : Int) := by rw [IntKind.wrap_i64]; omega
        clear hn hml hlong hj6 hlt hj hmx
        have k26 := fun (W1 : World) (h1 : Adds w7 W1) => hx_append (Hx.more HH.out h1) (by have := HMn.out; have := HN.out; omega) (by have := HN.out; omega) (by have := HRm.out; omega) (by have := HN.out; omega) (.slice xo m.length xc) (HX.out.adds ((Hx.adds HH.out).trans h1))
        go_region_with (go_at_call 26; refine (k26 _ (by repeat (first | with_reducible exact Adds.refl _ | with_reducible refine Adds.alloc ?_ _ | with_reducible refine Adds.more ?_ _ _ | with_reducible refine Adds.drew ?_ | with_reducible refine Adds.drewN ?_ _))).mono ?_; rintro e w8 ⟨r8, ko8, dO8, kn8, kc8, dn8, dc8, n8, rfl, a8, p8⟩; have HP8 : Hid (Px w w2.heap.size room (M + m.length + 1) ko dO kn kc dn dc r ko8 dO8 kn8 kc8 dn8 dc8 r8 w8) := p8; have b8 := Px.box p8; have z0 : w8.cell? ⟨w2.heap.size, 0, none⟩ = some (.int .i64 r.room) := cell_of_row w8 _ 0 _ _ _ b8; have z1 : w8.cell? ⟨w2.heap.size, 1, none⟩ = some (.slice ko kn kc) := cell_of_row w8 _ 1 _ _ _ b8; have z2 : w8.cell? ⟨w2.heap.size, 2, none⟩ = some (.slice dO dn dc) := cell_of_row w8 _ 2 _ _ _ b8; have z3 : w8.cell? ⟨w2.heap.size, 3, none⟩ = some (.int .i64 (r.live : Int)) := cell_of_row w8 _ 3 _ _ _ b8; have z4 : w8.cell? ⟨w2.heap.size, 4, none⟩ = some (.bool r.gone) := cell_of_row w8 _ 4 _ _ _ b8; have z5 : w8.cell? ⟨w2.heap.size, 5, none⟩ = some (.int .i64 r.armed) := cell_of_row w8 _ 5 _ _ _ b8; have zf : ∀ i, w8.frozen? ⟨w2.heap.size, i, none⟩ = false := fun i => frozen_of b8; have zs : w2.heap.size < w8.heap.size := (Array.getElem?_eq_some_iff.1 b8).1; clear p8 b8 a8)
        all_goals
          go_wp2
          go_roundw
          case rel => exact ⟨j + 1, n + m.length, M + m.length + 1, ko8, dO8, kn8, kc8, dn8, dc8, r8, by have := HN.out; omega, by have := HN.out; omega, by go_num, by have := HN.out; go_num, by have := HN.out; omega, by have := HMn.out; omega, (Px.set HP8.out HQ.out).more (by repeat (first | with_reducible exact Adds.refl _ | with_reducible refine Adds.alloc ?_ _ | with_reducible refine Adds.more ?_ _ _ | with_reducible refine Adds.drew ?_ | with_reducible refine Adds.drewN ?_ _))⟩
          case measure => have := HN.out; simp [intOf]; omega
    · have hi : (¬ (j : Int) < (ls.length : Int)) ∨ ((j : Int) < (ls.length : Int) ∧ ¬ (j : Int) < 6) := by omega
      have k27 := bx_sync HB.out
      have HM3 : Hid (M ≤ 3000) := by have := HMn.out; show M ≤ 3000; omega
      clear hlt hj hj6 hn
      rcases hi with i1 | ⟨i1, i2⟩
      all_goals
        go_wp2_with (first
          | (go_at_call 27; refine k27.mono ?_; clear k27; rintro e w7 ⟨rfl, h7⟩; have HS7 : Hid (Sx w w2.heap.size room M ko dO kn kc dn dc r w7) := h7; have b7 := Sx.box h7; have y0 : w7.cell? ⟨w2.heap.size, 0, none⟩ = some (.int .i64 r.room) := cell_of_row w7 _ 0 _ _ _ b7; have y1 : w7.cell? ⟨w2.heap.size, 1, none⟩ = some (.slice ko kn kc) := cell_of_row w7 _ 1 _ _ _ b7; have y2 : w7.cell? ⟨w2.heap.size, 2, none⟩ = some (.slice dO dn dc) := cell_of_row w7 _ 2 _ _ _ b7; have y3 : w7.cell? ⟨w2.heap.size, 3, none⟩ = some (.int .i64 (r.live : Int)) := cell_of_row w7 _ 3 _ _ _ b7; have y4 : w7.cell? ⟨w2.heap.size, 4, none⟩ = some (.bool r.gone) := cell_of_row w7 _ 4 _ _ _ b7; have y5 : w7.cell? ⟨w2.heap.size, 5, none⟩ = some (.int .i64 r.armed) := cell_of_row w7 _ 5 _ _ _ b7; have yf : ∀ i, w7.frozen? ⟨w2.heap.size, i, none⟩ = false := fun i => frozen_of b7; have ys : w2.heap.size < w7.heap.size := (Array.getElem?_eq_some_iff.1 b7).1; clear h7 b7)
          | (go_at_call 28; refine (sx_sync (Hid.out HS7) (by have := HM3.out; omega)).mono ?_; rintro e w8 ⟨ko8, dO8, kn8, kc8, dn8, dc8, rfl, a8, p8⟩; have b8 := Px.box p8; have z0 : w8.cell? ⟨w2.heap.size, 0, none⟩ = some (.int .i64 r.room) := cell_of_row w8 _ 0 _ _ _ b8; have z1 : w8.cell? ⟨w2.heap.size, 1, none⟩ = some (.slice ko kn kc) := cell_of_row w8 _ 1 _ _ _ b8; have z2 : w8.cell? ⟨w2.heap.size, 2, none⟩ = some (.slice dO dn dc) := cell_of_row w8 _ 2 _ _ _ b8; have z3 : w8.cell? ⟨w2.heap.size, 3, none⟩ = some (.int .i64 (r.live : Int)) := cell_of_row w8 _ 3 _ _ _ b8; have z4 : w8.cell? ⟨w2.heap.size, 4, none⟩ = some (.bool r.gone) := cell_of_row w8 _ 4 _ _ _ b8; have z5 : w8.cell? ⟨w2.heap.size, 5, none⟩ = some (.int .i64 r.armed) := cell_of_row w8 _ 5 _ _ _ b8; have zf : ∀ i, w8.frozen? ⟨w2.heap.size, i, none⟩ = false := fun i => frozen_of b8; have zs : w2.heap.size < w8.heap.size := (Array.getElem?_eq_some_iff.1 b8).1; have kOp := bx_open (Px.set p8 HQ.out) HM3.out HRm.out; clear p8 b8 a8; generalize Rf.sync r = rs at *; rcases kOp with kOk | kNo <;> (first | unfold OpenOk at kOk | unfold OpenNo at kNo))
          | (go_at_call 11; refine kOk.mono ?_; clear kOk; rintro e w9 ⟨p9, rfl, a9, b9, k12⟩; have v0 : w9.cell? ⟨w2.heap.size, 0, none⟩ = some (.int .i64 rs.room) := cell_of_row w9 _ 0 _ _ _ b9; have v1 : w9.cell? ⟨w2.heap.size, 1, none⟩ = some (.slice ko8 kn8 kc8) := cell_of_row w9 _ 1 _ _ _ b9; have v2 : w9.cell? ⟨w2.heap.size, 2, none⟩ = some (.slice dO8 dn8 dc8) := cell_of_row w9 _ 2 _ _ _ b9; have v3 : w9.cell? ⟨w2.heap.size, 3, none⟩ = some (.int .i64 (rs.live : Int)) := cell_of_row w9 _ 3 _ _ _ b9; have v4 : w9.cell? ⟨w2.heap.size, 4, none⟩ = some (.bool rs.gone) := cell_of_row w9 _ 4 _ _ _ b9; have v5 : w9.cell? ⟨w2.heap.size, 5, none⟩ = some (.int .i64 rs.armed) := cell_of_row w9 _ 5 _ _ _ b9; have vf : ∀ i, w9.frozen? ⟨w2.heap.size, i, none⟩ = false := fun i => frozen_of b9; have vs : w2.heap.size < w9.heap.size := (Array.getElem?_eq_some_iff.1 b9).1; have HA9 : Hid (Adds w w9) := a9; clear a9 b9)
          | (go_at_call 11; refine kNo.mono ?_; clear kNo; rintro e w9 ⟨rfl, a9, b9, k12n⟩; have v0 : w9.cell? ⟨w2.heap.size, 0, none⟩ = some (.int .i64 rs.room) := cell_of_row w9 _ 0 _ _ _ b9; have v1 : w9.cell? ⟨w2.heap.size, 1, none⟩ = some (.slice ko8 kn8 kc8) := cell_of_row w9 _ 1 _ _ _ b9; have v2 : w9.cell? ⟨w2.heap.size, 2, none⟩ = some (.slice dO8 dn8 dc8) := cell_of_row w9 _ 2 _ _ _ b9; have v3 : w9.cell? ⟨w2.heap.size, 3, none⟩ = some (.int .i64 (rs.live : Int)) := cell_of_row w9 _ 3 _ _ _ b9; have v4 : w9.cell? ⟨w2.heap.size, 4, none⟩ = some (.bool rs.gone) := cell_of_row w9 _ 4 _ _ _ b9; have v5 : w9.cell? ⟨w2.heap.size, 5, none⟩ = some (.int .i64 rs.armed) := cell_of_row w9 _ 5 _ _ _ b9; have vf : ∀ i, w9.frozen? ⟨w2.heap.size, i, none⟩ = false := fun i => frozen_of b9; have vs : w2.heap.size < w9.heap.size := (Array.getElem?_eq_some_iff.1 b9).1; have HA9 : Hid (Adds w w9) := a9; clear a9 b9)
          | (go_at_call 12; refine (k12 _ (by repeat (first | with_reducible exact Adds.refl _ | with_reducible refine Adds.alloc ?_ _ | with_reducible refine Adds.more ?_ _ _ | with_reducible refine Adds.drew ?_ | with_reducible refine Adds.drewN ?_ _))).mono ?_; clear k12; rintro e wa ⟨f0, so, sn, sc, xo, tn, tc, f1, bz, f2, f3, uo, un, uc, f4, rfl, aa, k14⟩; have HAa : Hid (Adds w wa) := (Hid.out HA9).trans (Adds.trans (by repeat (first | with_reducible exact Adds.refl _ | with_reducible refine Adds.alloc ?_ _ | with_reducible refine Adds.more ?_ _ _ | with_reducible refine Adds.drew ?_ | with_reducible refine Adds.drewN ?_ _)) aa); clear aa)
          | (go_at_call 12; refine (k12n _ (by repeat (first | with_reducible exact Adds.refl _ | with_reducible refine Adds.alloc ?_ _ | with_reducible refine Adds.more ?_ _ _ | with_reducible refine Adds.drew ?_ | with_reducible refine Adds.drewN ?_ _))).mono ?_; clear k12n; rintro e wa ⟨f0, so, sn, sc, xo, tn, tc, f1, bz, f2, f3, uo, un, uc, f4, rfl, aa⟩; have HAa : Hid (Adds w wa) := (Hid.out HA9).trans (Adds.trans (by repeat (first | with_reducible exact Adds.refl _ | with_reducible refine Adds.alloc ?_ _ | with_reducible refine Adds.more ?_ _ _ | with_reducible refine Adds.drew ?_ | with_reducible refine Adds.drewN ?_ _)) aa); clear aa)
          | (go_at_call 14; refine (k14 _ (by repeat (first | with_reducible exact Adds.refl _ | with_reducible refine Adds.alloc ?_ _ | with_reducible refine Adds.more ?_ _ _ | with_reducible refine Adds.drew ?_ | with_reducible refine Adds.drewN ?_ _))).mono ?_; clear k14; rintro e wb ⟨rfl, ab⟩; have HAb : Hid (Adds w wb) := (Hid.out HAa).trans (Adds.trans (by repeat (first | with_reducible exact Adds.refl _ | with_reducible refine Adds.alloc ?_ _ | with_reducible refine Adds.more ?_ _ _ | with_reducible refine Adds.drew ?_ | with_reducible refine Adds.drewN ?_ _)) ab); clear ab)
          | (go_at_call 10; refine (awake_any _).mono ?_; rintro e wc ⟨rfl, ac⟩))
        all_goals
          go_ret
          first
            | exact ⟨rfl, HAb.out.trans (Adds.trans (by repeat (first | with_reducible exact Adds.refl _ | with_reducible refine Adds.alloc ?_ _ | with_reducible refine Adds.more ?_ _ _ | with_reducible refine Adds.drew ?_ | with_reducible refine Adds.drewN ?_ _)) ac)⟩
            | exact ⟨rfl, HAa.out.trans (Adds.trans (by repeat (first | with_reducible exact Adds.refl _ | with_reducible refine Adds.alloc ?_ _ | with_reducible refine Adds.more ?_ _ _ | with_reducible refine Adds.drew ?_ | with_reducible refine Adds.drewN ?_ _)) ac)⟩

end Go.Proofs.Ytdcbepdghiafhaa
