/-
  The law KeepOpens, walked.
-/
import Derived.Test.YtelkkpomehgcjaaGreatKside
namespace Go.Proofs.YtelkkpomehgcjaaGreat
open Go.RowKit Go.Maps
attribute [local go_sem] cell?_more frozen?_more setCell_more size_more tape_more drew_more drewN_more more_drew more_drewN more_more one_out plus_out plus_end lt_one le_p2 le_p3 le_p4 le_p5 le_p6 le_p7 le_p8 le_p9 le_p10 le_p11 le_p12 le_p13 le_p14 le_p15 le_p16 le_p17 le_p18 le_p19 le_p20 le_p21 le_p22 le_p23 le_p24 le_q0 le_q1 lt_q1 le_q2 lt_q2 le_q3 lt_q3 le_q4 lt_q4 le_q5 lt_q5 le_q6 lt_q6 le_q7 lt_q7 le_q8 lt_q8 le_q9 lt_q9 le_q10 lt_q10 le_q11 lt_q11 le_q12 lt_q12 le_q13 lt_q13 le_q14 lt_q14 le_q15 lt_q15 le_q16 lt_q16 le_q17 lt_q17 le_q18 lt_q18 le_q19 lt_q19 le_q20 lt_q20 le_q21 lt_q21 le_q22 lt_q22 le_q23 lt_q23 le_q24 lt_q24

theorem Kd.turn {w W W' : World} {R : Rw} {d dr : Dk} {r : Rf} {kv dv : Value} {kept : List Fl} {M : Nat} {q : Nat} {C : Array Value} (h : Kd w W R d dr r kv dv kept M) (hq : W.heap[q]? = some (.cells C 39 (0, 0))) (hlow : w.heap.size ≤ q) (t : Turn2 q q W W') : Kd w W' R d dr r kv dv kept M := by
  have hn : ∀ i, R.foot i → i ≠ q := fun i hi e => by
    subst e
    exact tape_out h.st.live.mem hq odd39 hi
  exact ⟨h.st.keep t.size fun i hi => t.block i (h.st.live.mem.lt hi).2 (hn i hi) (hn i hi), h.rp, h.room, h.bulk, h.refb.turn (.inr rfl) ⟨_, hq⟩ t, h.likes, turn2_adds h.adds hlow hlow t⟩

theorem tot_takeK {ls : List (List UInt8)} {j : Nat} (h : j < ls.length) : tot (ls.take (j + 1)) = tot (ls.take j) + ls[j].length := by
  unfold tot
  rw [List.take_succ_eq_append_getElem h, List.map_append, List.sum_append]
  simp

theorem mem_tot {ls : List (List UInt8)} {x : List UInt8} (h : x ∈ ls) : x.length ≤ tot ls := by
  unfold tot
  exact le_sum_mem (List.mem_map.2 ⟨x, h, rfl⟩)

set_option maxRecDepth 20000 in
set_option maxHeartbeats 4000000 in
theorem keepOpens_any (lo : Option Addr) (lc : Nat) (ls : List (List UInt8)) (w : World) (hv : Rws w (.slice lo ls.length lc) ls) (hmx : ls.length ≤ 9223372036854775807) :
    Calls Tryz.prog 5 #[.slice lo ls.length lc] w fun e w' => e = .returned (.bool true) ∧ Adds w w' := by
  have HV : Hid (Rws w (.slice lo ls.length lc) ls) := hv
  clear hv
  go_enter Tryz.func5, Tryz.ntmps5
  go_wp2
  go_loopw [3, 4] (fun n i W => ∃ j : Nat, j ≤ ls.length ∧ j ≤ 60 ∧ i = .int .i64 (j : Int) ∧ n = .int .i64 (tot (ls.take j) : Int) ∧ tot (ls.take j) ≤ 1500 ∧ W = w) (fun _ i _ => (60 - intOf i).toNat)
  case atStart => exact ⟨0, by omega, by omega, rfl, rfl, by simp [tot], rfl⟩
  case round =>
    obtain ⟨j, hj, hj60, rfl, rfl, htot, rfl⟩ := hrel
    by_cases hlt : j < ls.length ∧ j < 60
    · obtain ⟨b, off, x, rfl, hb, hc, hx⟩ := Rws.at HV.out hlt.1
      obtain ⟨ax, cx, rfl, hcx, hox⟩ := hx.open
      clear hcx hox
      have HT : Hid (tot (ls.take (j + 1)) = tot (ls.take j) + ls[j].length) := tot_takeK hlt.1
      have i1 : (j : Int) < (ls.length : Int) := by omega
      have i2 : (j : Int) < 60 := by omega
      have hwr : IntKind.i64.wrap ((1500 : Int) - (tot (ls.take j) : Int)) = (1500 : Int) - (tot (ls.take j) : Int) := by rw [IntKind.wrap_i64]; omega
      by_cases hlong : ls[j].length ≤ 1500 - tot (ls.take j)
      · have i3 : ¬ (1500 : Int) - (tot (ls.take j) : Int) < (ls[j].length : Int) := by omega
        have hw2 : IntKind.i64.wrap ((tot (ls.take j) : Int) + (ls[j].length : Int)) = (tot (ls.take j) : Int) + (ls[j].length : Int) := by rw [IntKind.wrap_i64]; omega
        have HN : Hid (tot (ls.take (j + 1)) ≤ 1500) := by
          show _ ≤ _
          rw [HT.out]
          omega
        have HJ : Hid (j + 1 ≤ ls.length ∧ j + 1 ≤ 60) := by
          show _ ∧ _
          omega
        clear hx hlong
        generalize ls[j].length = m at *
        clear hlt hj hj60
        generalize tot (ls.take j) = s at *
        go_wp2
        go_roundw
        case rel => exact ⟨j + 1, HJ.out.1, HJ.out.2, by go_num, by rw [HT.out]; go_num, HN.out, trivial⟩
        case measure => simp [intOf]; omega
      · have i3 : (1500 : Int) - (tot (ls.take j) : Int) < (ls[j].length : Int) := by omega
        clear hx hlong
        generalize ls[j].length = m at *
        clear hlt hj hj60
        generalize tot (ls.take j) = s at *
        go_wp2_with (go_at_call 8; refine (awake_any _).mono ?_; rintro e w9 ⟨rfl, a9⟩)
        go_ret
        exact ⟨rfl, a9⟩
    · by_cases h60 : ls.length ≤ 60
      · have hjl : j = ls.length := by omega
        subst hjl
        rw [List.take_length] at htot ⊢
        have hseg : segLen ls ≤ 3000 := by unfold segLen; omega
        have hfit : fits ls := fun x hx => by have := mem_tot hx; omega
        obtain ⟨W0, hW0⟩ : ∃ W0, W0 = wr := ⟨_, rfl⟩
        rw [← hW0]
        rw [← hW0] at HV
        have HW0 : Hid (W0 = wr) := hW0
        clear hW0
        have kN := st_new 20000 (by decide) W0
        rw [show ((20000 : Nat) : Int) = 20000 from rfl] at kN
        have i1 : ¬ (ls.length : Int) < (ls.length : Int) := by omega
        have i2 : ¬ (60 : Int) < (ls.length : Int) := by omega
        have HSF : Hid (fits ls ∧ segLen ls ≤ 3000 ∧ ls.length ≤ 60) := ⟨hfit, hseg, h60⟩
        clear hlt hj hj60 hseg hfit htot h60 hmx
        generalize tot ls = s at *
        go_wp2_with (first
          | (go_at_call 6; refine kN.mono ?_; clear kN; rintro e w1 ⟨rfl, R1, p1, s1, r1, b1, a1⟩; have HB1 : Hid (R1.bulk = 0) := b1; have HK1 : Hid (Kd W0 w1 R1 (calm [] 0) (calm [] 0) (rf0 20000) (.slice none 0 0) (.slice none 0 0) [] 1) := ⟨s1, p1, r1, by omega, refb0 _ _ _, likes0 _, a1⟩; clear p1 s1 r1 b1 a1)
          | (go_at_call 11; refine (refNew_any _ _).mono ?_; rintro e w2 ⟨rfl, a2⟩; have HA2 : Hid (Adds w1 w2) := Adds.trans (by repeat (first | with_reducible exact Adds.refl _ | with_reducible refine Adds.alloc ?_ _ | with_reducible refine Adds.more ?_ _ _ | with_reducible refine Adds.drew ?_ | with_reducible refine Adds.drewN ?_ _)) a2; clear a2)
          | (go_at_call 19; refine (kd_open (Kd.more HK1.out (HA2.out.trans (by repeat (first | with_reducible exact Adds.refl _ | with_reducible refine Adds.alloc ?_ _ | with_reducible refine Adds.more ?_ _ _ | with_reducible refine Adds.drew ?_ | with_reducible refine Adds.drewN ?_ _))))).mono ?_; rintro e w3 ⟨r3, ko3, kn3, kc3, dO3, dn3, dc3, kept3, lo3, lc3, rfl, k3, a3⟩; have HK3 : Hid _ := k3; have HA3 : Hid (Adds W0 w3) := Kd.adds k3; clear k3 a3)
          | (go_at_call 20; refine (kd_begin (Kd.more HK3.out (by repeat (first | with_reducible exact Adds.refl _ | with_reducible refine Adds.alloc ?_ _ | with_reducible refine Adds.more ?_ _ _ | with_reducible refine Adds.drew ?_ | with_reducible refine Adds.drewN ?_ _))) (Rws.adds HV.out (HA3.out.trans (by repeat (first | with_reducible exact Adds.refl _ | with_reducible refine Adds.alloc ?_ _ | with_reducible refine Adds.more ?_ _ _ | with_reducible refine Adds.drew ?_ | with_reducible refine Adds.drewN ?_ _)))) HSF.out.1 HSF.out.2.1).mono ?_; rintro e w4 ⟨r4, ko4, kn4, kc4, dO4, dn4, dc4, kept4, rfl, k4, kf4, hd4, a4⟩; have HQ4 : Hid (w4.heap[w3.heap.size]? = some (.cells #[.int .i64 r3.room, .slice ko3 kn3 kc3, .slice dO3 dn3 dc3, .int .i64 (r3.live : Int), .bool r3.gone, .int .i64 r3.armed, .int .i64 0, .slice lo3 0 lc3, .int .i64 0] 39 (0, 0))) := Adds.at a4 (new_block w3 _); have HK4 : Hid _ := k4; have HF4 : Hid (kf kept4 = [(1, seg ls.length ls)] ∧ r4.done = []) := ⟨kf4, hd4⟩; have x40 : w4.cell? ⟨w3.heap.size, 0, none⟩ = some (.int .i64 r3.room) := cell_of_row w4 _ 0 _ _ _ HQ4.out; have x41 : w4.cell? ⟨w3.heap.size, 1, none⟩ = some (.slice ko3 kn3 kc3) := cell_of_row w4 _ 1 _ _ _ HQ4.out; have x42 : w4.cell? ⟨w3.heap.size, 2, none⟩ = some (.slice dO3 dn3 dc3) := cell_of_row w4 _ 2 _ _ _ HQ4.out; have x43 : w4.cell? ⟨w3.heap.size, 3, none⟩ = some (.int .i64 (r3.live : Int)) := cell_of_row w4 _ 3 _ _ _ HQ4.out; have x44 : w4.cell? ⟨w3.heap.size, 4, none⟩ = some (.bool r3.gone) := cell_of_row w4 _ 4 _ _ _ HQ4.out; have x45 : w4.cell? ⟨w3.heap.size, 5, none⟩ = some (.int .i64 r3.armed) := cell_of_row w4 _ 5 _ _ _ HQ4.out; have x46 : w4.cell? ⟨w3.heap.size, 6, none⟩ = some (.int .i64 0) := cell_of_row w4 _ 6 _ _ _ HQ4.out; have x47 : w4.cell? ⟨w3.heap.size, 7, none⟩ = some (.slice lo3 0 lc3) := cell_of_row w4 _ 7 _ _ _ HQ4.out; have x48 : w4.cell? ⟨w3.heap.size, 8, none⟩ = some (.int .i64 0) := cell_of_row w4 _ 8 _ _ _ HQ4.out; have xf4 : ∀ i, w4.frozen? ⟨w3.heap.size, i, none⟩ = false := (fun i => frozen_of HQ4.out); clear k4 a4 kf4 hd4))
        refine (kd_seen (m := seg ls.length ls) (Kd.turn HK4.out HQ4.out HA3.out.below.size (by repeat (first | with_reducible refine Turn2.set1 ?_ _ _ | with_reducible exact Turn2.refl _ _ _))) HF4.out.1 HF4.out.2).mono ?_
        rintro e w5 ⟨so, sc, x5, rfl, fv5, k5, a5⟩
        have HQ5 : Hid (w5.heap[w3.heap.size]? = some (.cells #[.int .i64 r4.room, .slice ko4 kn4 kc4, .slice dO4 dn4 dc4, .int .i64 (r4.live : Int), .bool r4.gone, .int .i64 r4.armed, .int .i64 1, .slice lo ls.length lc, .int .i64 (ls.length : Int)] 39 (0, 0))) := Adds.at a5 (box_all9 HQ4.out _ _ _ _ _ _ _ _ _)
        have HK5 : Hid _ := k5
        have HF5 : Hid _ := fv5
        clear k5 fv5 a5 x40 x41 x42 x43 x44 x45 x46 x47 x48 xf4 HQ4 HK4 HF4 HK3 HK1 HA2
        go_wp2
        go_loopw [11] (fun i W => (i = .int .i64 0 ∧ W = w5) ∨ (i = .int .i64 1 ∧ ∃ R', Kd W0 W R' ((calm [] 0).app 1 (seg ls.length ls)) (calm [(1, seg ls.length ls)] 0) r4 (.slice ko4 kn4 kc4) (.slice dO4 dn4 dc4) kept4 5000 ∧ W.heap[w3.heap.size]? = some (.cells #[.int .i64 r4.room, .slice ko4 kn4 kc4, .slice dO4 dn4 dc4, .int .i64 (r4.live : Int), .bool r4.gone, .int .i64 r4.armed, .int .i64 1, .slice lo ls.length lc, .int .i64 (ls.length : Int)] 39 (0, 0)))) (fun i _ => (1 - intOf i).toNat)
        case atStart => exact .inl ⟨rfl, rfl⟩
        case round =>
          have HSg : Hid ((seg ls.length ls).length ≤ 3000) := by
            show _ ≤ _
            rw [seg_length]
            exact HSF.out.2.1
          rcases hrel with ⟨rfl, hwr⟩ | ⟨rfl, R6, k6, q6⟩
          · obtain ⟨b, off, cap', he, _, hbl, e0, e1, hsf⟩ := FilesV.at HF5.out (i := 0) (by simp)
            simp only [Value.slice.injEq, List.getElem_cons_zero, Nat.zero_mul, Nat.add_zero] at he e0 e1 hsf
            obtain ⟨rfl, x1, rfl⟩ := he
            clear x1
            obtain ⟨xo, xc, hval, _, _⟩ := id hsf
            rw [hval] at e1 hsf
            have HSx : Hid _ := hsf.byt
            clear hval hsf
            rw [← hwr] at HQ5 HK5 HSx e0 e1 hbl
            have kA : ∀ W, Adds wr W → Calls Tryz.prog 22 #[ptr (W0.heap.size + 1), .int .i64 1, .slice xo (seg ls.length ls).length xc] W fun e w' => ∃ u, e = .returned u ∧ ∃ R', Kd W0 w' R' ((calm [] 0).app 1 (seg ls.length ls)) (calm [(1, seg ls.length ls)] 0) r4 (.slice ko4 kn4 kc4) (.slice dO4 dn4 dc4) kept4 5000 ∧ w'.heap[w3.heap.size]? = some (.cells #[.int .i64 r4.room, .slice ko4 kn4 kc4, .slice dO4 dn4 dc4, .int .i64 (r4.live : Int), .bool r4.gone, .int .i64 r4.armed, .int .i64 1, .slice lo ls.length lc, .int .i64 (ls.length : Int)] 39 (0, 0)) := fun W hW => by
              refine (kd_append (Kd.more HK5.out hW) HB1.out (Byt.adds HSx.out hW) HSg.out (hW.at HQ5.out)).mono ?_
              rintro e w' ⟨rfl, R', k', q'⟩
              exact ⟨_, rfl, R', k', q'⟩
            have d0 : wr.drew.cell? ⟨b, off, none⟩ = some (.int .i64 1) := e0
            have d1 : wr.drew.cell? ⟨b, off + 1, none⟩ = some (.slice xo (seg ls.length ls).length xc) := e1
            clear hwr HF5
            generalize (seg ls.length ls).length = mm at *
            go_wp2
            go_region_with (go_at_call 22; refine (kA _ (by repeat (first | with_reducible exact Adds.refl _ | with_reducible refine Adds.alloc ?_ _ | with_reducible refine Adds.more ?_ _ _ | with_reducible refine Adds.drew ?_ | with_reducible refine Adds.drewN ?_ _))).mono ?_; rintro e w6 ⟨u6, rfl, R6, k6, q6⟩; have HK6 : Hid _ := k6; have HQ6 : Hid _ := q6; clear k6 q6)
            all_goals go_wp2
            all_goals go_roundw
            all_goals first
              | exact .inr ⟨by go_num, R6, HK6.out, HQ6.out⟩
              | (simp [intOf])
          · have HK6 : Hid _ := k6
            have HQ6 : Hid (wr.heap[w3.heap.size]? = some (.cells #[.int .i64 r4.room, .slice ko4 kn4 kc4, .slice dO4 dn4 dc4, .int .i64 (r4.live : Int), .bool r4.gone, .int .i64 r4.armed, .int .i64 1, .slice lo ls.length lc, .int .i64 (ls.length : Int)] 39 (0, 0))) := q6
            have kS := kd_sync k6 q6
            clear k6 q6 HK5 HQ5 HF5 HB1
            have HLk : Hid (LikesD 20000 (calm [(1, seg ls.length ls)] 0) r4) := Kd.likes HK6.out
            by_cases hsn : ls.all knownK = true
            · have HSn : Hid (ls.all knownK = true) := hsn
              have kR : ∀ W8 R8 d8, St W8 W0.heap.size R8 d8 → RefB W8 R8 r4 (.slice ko4 kn4 kc4) (.slice dO4 dn4 dc4) kept4 5000 → ∀ W, Adds W8 W → Calls Tryz.prog 10 #[.agg #[.int .i64 r4.room, .slice ko4 kn4 kc4, .slice dO4 dn4 dc4, .int .i64 (r4.live : Int), .bool r4.gone, .int .i64 r4.armed]] W fun e w' => ∃ (i0 : Int) (ko : Option Addr) (kn kc : Nat) (dO : Option Addr) (dn dc : Nat) (i3 : Int) (g4 : Bool) (i5 i6 : Int) (l7 : Option Addr) (n7 c7 : Nat) (i8 : Int) (Lo : Option Addr) (Lc : Nat) (No : Option Addr) (Nc : Nat), e = .returned (.tuple #[.agg #[.int .i64 i0, .slice ko kn kc, .slice dO dn dc, .int .i64 i3, .bool g4, .int .i64 i5, .int .i64 i6, .slice l7 n7 c7, .int .i64 i8, .slice Lo (viewK (foldT ls)).1.length Lc, .slice No (viewK (foldT ls)).2.length Nc], .int .i64 0]) ∧ Rws w' (.slice Lo (viewK (foldT ls)).1.length Lc) (viewK (foldT ls)).1 ∧ Byt w' (.slice No (viewK (foldT ls)).2.length Nc) (viewK (foldT ls)).2 ∧ Adds W w' := fun W8 R8 d8 s8 rb8 W hW => by
                refine Calls.mono (kd_refopen (s8.adds hW) (rb8.adds hW) HLk.out HSF.out.1 HSF.out.2.1) ?_
                rintro e w' ⟨i0, ko, kn, kc, dO, dn, dc, i3, g4, i5, i6, lo', lc', i8, Lo, Ln, Lc, No, Nn, Nc, rfl, hv, ha⟩
                obtain ⟨h1, h2⟩ := hv HSn.out
                obtain ⟨ao1, cp1, e1, _⟩ := h1.slice
                obtain ⟨ao2, cp2, e2, _⟩ := h2.open
                rw [HSn.out]
                rw [e1, e2]
                rw [e1] at h1
                rw [e2] at h2
                exact ⟨_, _, _, _, _, _, _, _, _, _, _, _, _, _, _, _, _, _, _, rfl, h1, h2, ha⟩
              have kL : ∀ W8 K8, Kr W8 K8 → (K8.es, K8.nt) = foldT ls → ∀ W, Adds W8 W → ∀ (i0 : Int) (ko : Option Addr) (kn kc : Nat) (dO : Option Addr) (dn dc : Nat) (i3 : Int) (g4 : Bool) (i5 i6 : Int) (l7 : Option Addr) (n7 c7 : Nat) (i8 : Int) (Lo : Option Addr) (Lc : Nat) (No : Option Addr) (Nc : Nat), Rws W (.slice Lo (viewK (foldT ls)).1.length Lc) (viewK (foldT ls)).1 → Byt W (.slice No (viewK (foldT ls)).2.length Nc) (viewK (foldT ls)).2 → Calls Tryz.prog 18 #[ptr K8.p, .agg #[.int .i64 i0, .slice ko kn kc, .slice dO dn dc, .int .i64 i3, .bool g4, .int .i64 i5, .int .i64 i6, .slice l7 n7 c7, .int .i64 i8, .slice Lo (viewK (foldT ls)).1.length Lc, .slice No (viewK (foldT ls)).2.length Nc]] W fun e w' => e = .returned (.bool true) ∧ Adds W w' := fun W8 K8 kr hst W hW i0 ko kn kc dO dn dc i3 g4 i5 i6 l7 n7 c7 i8 Lo Lc No Nc h1 h2 => by
                have hm := foldT_mem (P := fun x => x.length ≤ 16384) HSF.out.1 (by decide)
                rw [← hst] at hm
                have hl := foldT_length ls
                rw [← hst] at hl
                have := HSF.out.2.2
                exact likeK_any (kr.adds hW) hm.1 (Nat.le_trans hm.2 (by decide)) (by simp only at hl; omega) (by rw [hst]) h1 h2
              clear hsn HK6
              go_wp2_with (first
                | (go_at_call 23; refine kS.mono ?_; clear kS; rintro e w7 ⟨rfl, R7, k7, q7⟩; have kK := kd_keep k7 q7 HSF.out.1 HSF.out.2.1 HSn.out; clear k7 q7)
                | (go_at_call 9; refine kK.mono ?_; clear kK; rintro e w8 ⟨K8, R8, rfl, kr8, st8, ⟨d8, s8⟩, rb8, q8, a8⟩; have y0 : w8.cell? ⟨w3.heap.size, 0, none⟩ = some (.int .i64 r4.room) := cell_of_row w8 _ 0 _ _ _ q8; have y1 : w8.cell? ⟨w3.heap.size, 1, none⟩ = some (.slice ko4 kn4 kc4) := cell_of_row w8 _ 1 _ _ _ q8; have y2 : w8.cell? ⟨w3.heap.size, 2, none⟩ = some (.slice dO4 dn4 dc4) := cell_of_row w8 _ 2 _ _ _ q8; have y3 : w8.cell? ⟨w3.heap.size, 3, none⟩ = some (.int .i64 (r4.live : Int)) := cell_of_row w8 _ 3 _ _ _ q8; have y4 : w8.cell? ⟨w3.heap.size, 4, none⟩ = some (.bool r4.gone) := cell_of_row w8 _ 4 _ _ _ q8; have y5 : w8.cell? ⟨w3.heap.size, 5, none⟩ = some (.int .i64 r4.armed) := cell_of_row w8 _ 5 _ _ _ q8; have kR8 := kR w8 R8 d8 s8 rb8; have kL8 := kL w8 K8 kr8 st8; have HA8 : Hid (Adds W0 w8) := a8; clear kr8 st8 s8 rb8 q8 a8 kR kL)
                | (go_at_call 10; refine (kR8 _ (by repeat (first | with_reducible exact Adds.refl _ | with_reducible refine Adds.alloc ?_ _ | with_reducible refine Adds.more ?_ _ _ | with_reducible refine Adds.drew ?_ | with_reducible refine Adds.drewN ?_ _))).mono ?_; clear kR8; rintro e w9 ⟨i0, ko, kn, kc, dO, dn, dc, i3, g4, i5, i6, l7, n7, c7, i8, Lo, Lc, No, Nc, rfl, h91, h92, a9⟩; have HA9 : Hid (Adds w8 w9) := Adds.trans (by repeat (first | with_reducible exact Adds.refl _ | with_reducible refine Adds.alloc ?_ _ | with_reducible refine Adds.more ?_ _ _ | with_reducible refine Adds.drew ?_ | with_reducible refine Adds.drewN ?_ _)) a9; have HR9 : Hid _ := h91; have HN9 : Hid _ := h92; clear h91 h92 a9)
                | (go_at_call 18; refine (kL8 _ (HA9.out.trans (by repeat (first | with_reducible exact Adds.refl _ | with_reducible refine Adds.alloc ?_ _ | with_reducible refine Adds.more ?_ _ _ | with_reducible refine Adds.drew ?_ | with_reducible refine Adds.drewN ?_ _))) _ _ _ _ _ _ _ _ _ _ _ _ _ _ _ _ _ _ _ (Rws.adds HR9.out (by repeat (first | with_reducible exact Adds.refl _ | with_reducible refine Adds.alloc ?_ _ | with_reducible refine Adds.more ?_ _ _ | with_reducible refine Adds.drew ?_ | with_reducible refine Adds.drewN ?_ _))) (Byt.adds HN9.out (by repeat (first | with_reducible exact Adds.refl _ | with_reducible refine Adds.alloc ?_ _ | with_reducible refine Adds.more ?_ _ _ | with_reducible refine Adds.drew ?_ | with_reducible refine Adds.drewN ?_ _)))).mono ?_; clear kL8; rintro e wA ⟨rfl, aA⟩; have HAA : Hid (Adds w9 wA) := Adds.trans (by repeat (first | with_reducible exact Adds.refl _ | with_reducible refine Adds.alloc ?_ _ | with_reducible refine Adds.more ?_ _ _ | with_reducible refine Adds.drew ?_ | with_reducible refine Adds.drewN ?_ _)) aA; clear aA)
                | (go_at_call 8; refine (awake_any _).mono ?_; rintro e wB ⟨rfl, aB⟩))
              go_ret
              rw [← HW0.out]
              exact ⟨rfl, HA8.out.trans (HA9.out.trans (HAA.out.trans aB))⟩
            · have hsf : ls.all knownK = false := by simpa using hsn
              have HSn : Hid (ls.all knownK = false) := hsf
              have kR : ∀ W8 R8 d8, St W8 W0.heap.size R8 d8 → RefB W8 R8 r4 (.slice ko4 kn4 kc4) (.slice dO4 dn4 dc4) kept4 5000 → ∀ W, Adds W8 W → Calls Tryz.prog 10 #[.agg #[.int .i64 r4.room, .slice ko4 kn4 kc4, .slice dO4 dn4 dc4, .int .i64 (r4.live : Int), .bool r4.gone, .int .i64 r4.armed]] W fun e w' => ∃ (i0 : Int) (ko : Option Addr) (kn kc : Nat) (dO : Option Addr) (dn dc : Nat) (i3 : Int) (g4 : Bool) (i5 i6 : Int) (l7 : Option Addr) (n7 c7 : Nat) (i8 : Int) (Lo : Option Addr) (Ln Lc : Nat) (No : Option Addr) (Nn Nc : Nat), e = .returned (.tuple #[.agg #[.int .i64 i0, .slice ko kn kc, .slice dO dn dc, .int .i64 i3, .bool g4, .int .i64 i5, .int .i64 i6, .slice l7 n7 c7, .int .i64 i8, .slice Lo Ln Lc, .slice No Nn Nc], .int .i64 5]) ∧ Adds W w' := fun W8 R8 d8 s8 rb8 W hW => by
                refine Calls.mono (kd_refopen (s8.adds hW) (rb8.adds hW) HLk.out HSF.out.1 HSF.out.2.1) ?_
                rintro e w' ⟨i0, ko, kn, kc, dO, dn, dc, i3, g4, i5, i6, lo', lc', i8, Lo, Ln, Lc, No, Nn, Nc, rfl, hv, ha⟩
                rw [HSn.out]
                exact ⟨_, _, _, _, _, _, _, _, _, _, _, _, _, _, _, _, _, _, _, _, _, rfl, ha⟩
              clear hsn hsf HK6
              go_wp2_with (first
                | (go_at_call 23; refine kS.mono ?_; clear kS; rintro e w7 ⟨rfl, R7, k7, q7⟩; have kK := kd_strange k7 q7 HSF.out.1 HSF.out.2.1 HSn.out; clear k7 q7)
                | (go_at_call 9; refine kK.mono ?_; clear kK; rintro e w8 ⟨R8, rfl, ⟨d8, s8⟩, rb8, q8, a8⟩; have y0 : w8.cell? ⟨w3.heap.size, 0, none⟩ = some (.int .i64 r4.room) := cell_of_row w8 _ 0 _ _ _ q8; have y1 : w8.cell? ⟨w3.heap.size, 1, none⟩ = some (.slice ko4 kn4 kc4) := cell_of_row w8 _ 1 _ _ _ q8; have y2 : w8.cell? ⟨w3.heap.size, 2, none⟩ = some (.slice dO4 dn4 dc4) := cell_of_row w8 _ 2 _ _ _ q8; have y3 : w8.cell? ⟨w3.heap.size, 3, none⟩ = some (.int .i64 (r4.live : Int)) := cell_of_row w8 _ 3 _ _ _ q8; have y4 : w8.cell? ⟨w3.heap.size, 4, none⟩ = some (.bool r4.gone) := cell_of_row w8 _ 4 _ _ _ q8; have y5 : w8.cell? ⟨w3.heap.size, 5, none⟩ = some (.int .i64 r4.armed) := cell_of_row w8 _ 5 _ _ _ q8; have kR8 := kR w8 R8 d8 s8 rb8; have HA8 : Hid (Adds W0 w8) := a8; clear s8 rb8 q8 a8 kR)
                | (go_at_call 10; refine (kR8 _ (by repeat (first | with_reducible exact Adds.refl _ | with_reducible refine Adds.alloc ?_ _ | with_reducible refine Adds.more ?_ _ _ | with_reducible refine Adds.drew ?_ | with_reducible refine Adds.drewN ?_ _))).mono ?_; clear kR8; rintro e w9 ⟨i0, ko, kn, kc, dO, dn, dc, i3, g4, i5, i6, l7, n7, c7, i8, Lo, Ln, Lc, No, Nn, Nc, rfl, a9⟩; have HA9 : Hid (Adds w8 w9) := Adds.trans (by repeat (first | with_reducible exact Adds.refl _ | with_reducible refine Adds.alloc ?_ _ | with_reducible refine Adds.more ?_ _ _ | with_reducible refine Adds.drew ?_ | with_reducible refine Adds.drewN ?_ _)) a9; clear a9)
                | (go_at_call 8; refine (awake_any _).mono ?_; rintro e wB ⟨rfl, aB⟩))
              go_ret
              rw [← HW0.out]
              exact ⟨rfl, HA8.out.trans (HA9.out.trans (Adds.trans (by repeat (first | with_reducible exact Adds.refl _ | with_reducible refine Adds.alloc ?_ _ | with_reducible refine Adds.more ?_ _ _ | with_reducible refine Adds.drew ?_ | with_reducible refine Adds.drewN ?_ _)) aB))⟩
      · have hjl : j = 60 := by omega
        subst hjl
        have i1 : ((60 : Nat) : Int) < (ls.length : Int) := by omega
        have i2 : (60 : Int) < (ls.length : Int) := by omega
        clear hlt hj hj60 htot
        generalize tot (ls.take 60) = s at *
        go_wp2_with (go_at_call 8; refine (awake_any _).mono ?_; rintro e w9 ⟨rfl, a9⟩)
        go_ret
        exact ⟨rfl, a9⟩

end Go.Proofs.YtelkkpomehgcjaaGreat
