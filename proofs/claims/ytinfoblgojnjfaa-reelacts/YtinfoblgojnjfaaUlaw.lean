/-
  The walk of the statement ReelActs: it returns true, whatever is handed in, and leaves all that was there as it was.
-/
import Derived.Test.YtinfoblgojnjfaaUacts
namespace Go.Proofs.Ytinfoblgojnjfaa
open Go.RowKit Go.Maps
attribute [local go_sem] cell?_more frozen?_more setCell_more size_more tape_more drew_more drewN_more more_drew more_drewN more_more one_out plus_out plus_end lt_one le_p2 le_p3 le_p4 le_p5 le_p6 le_p7 le_p8 le_p9 le_p10 le_p11 le_p12 le_p13 le_p14 le_p15 le_p16 le_p17 le_p18 le_p19 le_p20 le_p21 le_p22 le_p23 le_p24 le_q0 le_q1 lt_q1 le_q2 lt_q2 le_q3 lt_q3 le_q4 lt_q4 le_q5 lt_q5 le_q6 lt_q6 le_q7 lt_q7 le_q8 lt_q8 le_q9 lt_q9 le_q10 lt_q10 le_q11 lt_q11 le_q12 lt_q12 le_q13 lt_q13 le_q14 lt_q14 le_q15 lt_q15 le_q16 lt_q16 le_q17 lt_q17 le_q18 lt_q18 le_q19 lt_q19 le_q20 lt_q20 le_q21 lt_q21 le_q22 lt_q22 le_q23 lt_q23 le_q24 lt_q24

/-- The value that is stored. -/
theorem box_set {w : World} {P : Nat} {C : Array Value} (hC : C.size = 6) (h : w.heap[P]? = some (.cells C 32 (0, 0))) (a0 a1 a2 a3 a4 a5 : Value) :
    ((((((w.setCell ⟨P, 0, none⟩ a0).setCell ⟨P, 1, none⟩ a1).setCell ⟨P, 2, none⟩ a2).setCell ⟨P, 3, none⟩ a3).setCell ⟨P, 4, none⟩ a4).setCell ⟨P, 5, none⟩ a5).heap[P]? = some (.cells #[a0, a1, a2, a3, a4, a5] 32 (0, 0)) := by
  obtain ⟨C⟩ := C
  match C, hC with
  | [c0, c1, c2, c3, c4, c5], _ =>
    have e1 := heap_setCell_at a0 h (i := 0) (by simp)
    have e2 := heap_setCell_at a1 e1 (i := 1) (by simp)
    have e3 := heap_setCell_at a2 e2 (i := 2) (by simp)
    have e4 := heap_setCell_at a3 e3 (i := 3) (by simp)
    have e5 := heap_setCell_at a4 e4 (i := 4) (by simp)
    have e6 := heap_setCell_at a5 e5 (i := 5) (by simp)
    rw [e6]
    rfl

/-- Where the loop stands. -/
def At (w : World) (P : Nat) (j : Nat) (W : World) : Prop :=
  ∃ (M : Nat) (r : Rf) (kv dv : Value), M ≤ j * 601 ∧ Goes w w.heap.size (w.heap.size + 1) M r W kv dv ∧ W.heap[P]? = some (.cells #[.int .i64 r.room, kv, dv, .int .i64 (r.live : Int), .bool r.gone, .int .i64 r.armed] 32 (0, 0))

theorem like_at {w5 W : World} {B : Nat} {f : Fs} {R : Rw} {r : Rf} {kv dv : Value} {kept : List Fl} {M P p : Nat} (hb : Both w5 B f R r kv dv kept M) (hp : R.p = p) (hM : M ≤ 90000) (hx : ∃ C, w5.heap[P]? = some (.cells C 32 (0, 0))) (ht : Turn2 P P w5 W) :
    Calls Try.prog 11 #[ptr p, .agg #[.int .i64 r.room, kv, dv, .int .i64 (r.live : Int), .bool r.gone, .int .i64 r.armed]] W fun e w' => e = .returned (.bool true) ∧ Both w' B f R r kv dv kept M ∧ Adds W w' := by
  subst hp
  have h := hb.turn hx hx ht
  exact (like_any h hM).mono fun e w' ⟨he, ha⟩ => ⟨he, h.adds ha, ha⟩

set_option maxHeartbeats 4000000 in
theorem reelActs_any (room : Int) (v : Value) (l : List A) (w : World) (h : LstA w v l) :
    Calls Try.prog 3 #[.int .i64 room, v] w fun e w' => e = .returned (.bool true) ∧ Adds w w' := by
  have HL : Hid (LstA w v l) := h
  have kL := fun w' (hA : Adds w w') => light_any v l w' (HL.out.adds hA)
  obtain ⟨⟨ao, cap, rfl, hcap, hmx, _⟩, _⟩ := h
  by_cases hr : 0 ≤ room ∧ room ≤ 1048576
  · obtain ⟨N, rfl⟩ : ∃ N : Nat, room = (N : Int) := ⟨room.toNat, by omega⟩
    have kN := live_new N (by omega) w
    have kM := fun w' => refNew_any w' (N : Int)
    have i1 : ¬ (N : Int) < 0 := by omega
    have i2 : ¬ (1048576 : Int) < (N : Int) := by omega
    clear hr
    go_enter Try.func3, Try.ntmps3
    go_wp2_with (first
      | (go_at_call 6; refine kN.mono ?_; rintro e w1 ⟨rfl, R, hp, L1, hd, hfs, hroom, hpw, hbk, a1⟩; have HA1 : Hid (Adds w w1) := a1; have HB1 : Hid (Both w1 w.heap.size (fun _ => none) R ⟨(N : Int), [], [], 0, false, -1⟩ (.slice none 0 0) (.slice none 0 0) [] 0 ∧ R.p = w.heap.size + 1) := ⟨both_new L1 hd hroom hpw hbk, hp⟩; clear hp L1 hd hfs hroom hpw hbk a1 kN)
      | (go_at_call 8; refine (kL _ HA1.out).mono ?_; rintro e w2 ⟨t, rfl, hw2, ht⟩; subst hw2; have HT : Hid (t = true → ∀ j (h : j < l.length), j < 60 → l[j].b.length ≤ 600) := ht; clear ht kL; cases t)
      | (go_at_call 9; refine (kM _).mono ?_; rintro e w3 ⟨rfl, a3⟩; have HA3 : Hid (Adds w2 w3) := a3; clear a3 kM)
      | (go_at_call 7; refine (awake_any _).mono ?_; rintro e w9 ⟨rfl, a9⟩))
    · go_ret
      exact ⟨rfl, HA1.out.trans a9⟩
    · have HW3 : Hid (w.heap.size ≤ w3.heap.size) := (HA1.out.trans HA3.out).below.size
      go_loopw [8] (fun i W => ∃ j : Nat, j ≤ 60 ∧ j ≤ l.length ∧ i = .int .i64 (j : Int) ∧ At w w3.heap.size j W) (fun i _ => (60 - intOf i).toNat)
      case atStart =>
        refine ⟨0, by omega, by omega, rfl, 0, ⟨(N : Int), [], [], 0, false, -1⟩, _, _, by omega, ⟨_, R, [], (HB1.out.1.adds (HA3.out.trans ((Adds.refl _).alloc _))), HB1.out.2, HA1.out.trans (HA3.out.trans ((Adds.refl _).alloc _))⟩, ?_⟩
        exact new_block _ _
      case round =>
        obtain ⟨j, hj6, hjl, rfl, M, r, kv, dv, hM, ⟨f, R2, kept, hb, hp, ha⟩, hP⟩ := hrel
        obtain ⟨ko, kn, kc, dO, dn, dc, rfl, rfl⟩ := hb.slices
        have HA : Hid (Adds w wr) := ha
        have HP : Hid _ := hP
        by_cases hlt : j < l.length ∧ j < 60
        · obtain ⟨hlt, h60⟩ := hlt
          obtain ⟨b, off, cap', hv, _, hbl, e0, e1, e2, e3, hbyt, wf1, wf2⟩ := LstA.at (HL.out.adds ha) hlt
          simp only [Value.slice.injEq, true_and] at hv
          obtain ⟨rfl, x2⟩ := hv
          clear x2
          have hbyt0 : Byt w l[j].val l[j].b := (HL.out.2 _ (List.getElem_mem hlt)).1
          have hlen := HT.out trivial j hlt h60
          generalize l[j] = a at *
          have kD := fun W (hW : Adds wr W) => act_any (hb.adds hW) (by omega) (ha.trans hW) rfl a hbyt0 hlen wf1 wf2
          rw [hp] at kD
          obtain ⟨vo, vc, hval, _⟩ := hbyt
          rw [hval] at e2 kD
          have i3 : (j : Int) < (l.length : Int) := by omega
          have i4 : (j : Int) < 60 := by omega
          have c0 : wr.cell? ⟨w3.heap.size, 0, none⟩ = some (.int .i64 r.room) := cell_of_row wr _ 0 _ _ _ hP
          have c1 : wr.cell? ⟨w3.heap.size, 1, none⟩ = some (.slice ko kn kc) := cell_of_row wr _ 1 _ _ _ hP
          have c2 : wr.cell? ⟨w3.heap.size, 2, none⟩ = some (.slice dO dn dc) := cell_of_row wr _ 2 _ _ _ hP
          have c3 : wr.cell? ⟨w3.heap.size, 3, none⟩ = some (.int .i64 (r.live : Int)) := cell_of_row wr _ 3 _ _ _ hP
          have c4 : wr.cell? ⟨w3.heap.size, 4, none⟩ = some (.bool r.gone) := cell_of_row wr _ 4 _ _ _ hP
          have c5 : wr.cell? ⟨w3.heap.size, 5, none⟩ = some (.int .i64 r.armed) := cell_of_row wr _ 5 _ _ _ hP
          have f1 : ∀ i, wr.frozen? ⟨w3.heap.size, i, none⟩ = false := fun i => frozen_of hP
          have s3 : w3.heap.size < wr.heap.size := (Array.getElem?_eq_some_iff.1 hP).1
          have HMb : Hid (M + a.b.length + 1 ≤ (j + 1) * 601 ∧ M + a.b.length + 1 ≤ 90000) := ⟨by omega, by omega⟩
          generalize M + a.b.length + 1 = M5 at *
          clear hb hp ha hP hbyt0 hlen wf1 wf2 hval
          generalize r.room = q0 at *
          generalize r.live = q3 at *
          generalize r.gone = q4 at *
          generalize r.armed = q5 at *
          generalize a.act = y0 at *
          generalize a.file = y1 at *
          generalize a.n = y3 at *
          go_wp2
          go_region_with (go_at_call 10; refine (kD _ (by repeat (first | with_reducible exact Adds.refl _ | with_reducible refine Adds.alloc ?_ _ | with_reducible refine Adds.more ?_ _ _ | with_reducible refine Adds.drew ?_ | with_reducible refine Adds.drewN ?_ _))).mono ?_; rintro e w5 ⟨r5, kv5, dv5, rfl, ⟨f5, R5, kept5, hb5, hp5, ha5⟩, hs5⟩; obtain ⟨ko5, kn5, kc5, dO5, dn5, dc5, rfl, rfl⟩ := hb5.slices; have b5 := hs5 _ _ _ odd32 (Adds.at (by repeat (first | with_reducible exact Adds.refl _ | with_reducible refine Adds.alloc ?_ _ | with_reducible refine Adds.more ?_ _ _ | with_reducible refine Adds.drew ?_ | with_reducible refine Adds.drewN ?_ _)) HP.out); have d0 : w5.cell? ⟨w3.heap.size, 0, none⟩ = some (.int .i64 q0) := cell_of_row w5 _ 0 _ _ _ b5; have d1 : w5.cell? ⟨w3.heap.size, 1, none⟩ = some (.slice ko kn kc) := cell_of_row w5 _ 1 _ _ _ b5; have d2 : w5.cell? ⟨w3.heap.size, 2, none⟩ = some (.slice dO dn dc) := cell_of_row w5 _ 2 _ _ _ b5; have d3 : w5.cell? ⟨w3.heap.size, 3, none⟩ = some (.int .i64 (q3 : Int)) := cell_of_row w5 _ 3 _ _ _ b5; have d4 : w5.cell? ⟨w3.heap.size, 4, none⟩ = some (.bool q4) := cell_of_row w5 _ 4 _ _ _ b5; have d5 : w5.cell? ⟨w3.heap.size, 5, none⟩ = some (.int .i64 q5) := cell_of_row w5 _ 5 _ _ _ b5; have z5 : ∀ i, w5.frozen? ⟨w3.heap.size, i, none⟩ = false := fun i => frozen_of b5; have s5 : w3.heap.size < w5.heap.size := (Array.getElem?_eq_some_iff.1 b5).1; have HB5 : Hid (Both w5 w.heap.size f5 R5 r5 (.slice ko5 kn5 kc5) (.slice dO5 dn5 dc5) kept5 M5 ∧ R5.p = w.heap.size + 1 ∧ Adds w w5) := ⟨hb5, hp5, ha5⟩; have HX5 : Hid _ := b5; clear hb5 hp5 ha5 hs5 b5 kD)
          all_goals
            go_wp2_with (go_at_call 11; refine (like_at HB5.out.1 HB5.out.2.1 HMb.out.2 ⟨_, HX5.out⟩ (by repeat (first | with_reducible exact Turn2.refl _ _ _ | with_reducible refine Turn2.set1 ?_ _ _))).mono ?_; rintro e w7 ⟨rfl, hb7, a7⟩; have HB7 : Hid (Both w7 w.heap.size f5 R5 r5 (.slice ko5 kn5 kc5) (.slice dO5 dn5 dc5) kept5 M5) := hb7; have HX7 : Hid _ := a7.at (box_set rfl HX5.out _ _ _ _ _ _); have HA7 : Hid (Adds w w7) := Adds.trans (turn2_adds HB5.out.2.2 HW3.out HW3.out (by repeat (first | with_reducible exact Turn2.refl _ _ _ | with_reducible refine Turn2.set1 ?_ _ _))) a7; clear hb7 a7)
            go_roundw
            case rel => exact ⟨j + 1, by omega, by omega, by go_num, M5, r5, _, _, HMb.out.1, ⟨f5, R5, kept5, HB7.out, HB5.out.2.1, HA7.out⟩, HX7.out⟩
            case measure => simp [intOf]; omega
        · clear hb hp ha hP
          by_cases hlf : j < l.length
          · have i3 : (j : Int) < (l.length : Int) := by omega
            have i4 : ¬ (j : Int) < 60 := by omega
            go_wp2_with (go_at_call 7; refine (awake_any _).mono ?_; rintro e w9 ⟨rfl, a9⟩)
            go_ret
            exact ⟨rfl, Adds.trans HA.out a9⟩
          · have i3 : ¬ (j : Int) < (l.length : Int) := by omega
            go_wp2_with (go_at_call 7; refine (awake_any _).mono ?_; rintro e w9 ⟨rfl, a9⟩)
            go_ret
            exact ⟨rfl, Adds.trans HA.out a9⟩
  · have kN := new_bad room (by omega) w
    have hr' : room < 0 ∨ 1048576 < room := by omega
    clear hr
    go_enter Try.func3, Try.ntmps3
    rcases hr' with hr | hr
    · go_wp2_with (first
        | (go_at_call 6; refine kN.mono ?_; rintro e w1 ⟨rfl, hw1⟩; subst hw1)
        | (go_at_call 7; refine (awake_any _).mono ?_; rintro e w9 ⟨rfl, a9⟩))
      go_ret
      exact ⟨rfl, a9⟩
    · have hr0 : ¬ room < 0 := by omega
      go_wp2_with (first
        | (go_at_call 6; refine kN.mono ?_; rintro e w1 ⟨rfl, hw1⟩; subst hw1)
        | (go_at_call 7; refine (awake_any _).mono ?_; rintro e w9 ⟨rfl, a9⟩))
      go_ret
      exact ⟨rfl, a9⟩

end Go.Proofs.Ytinfoblgojnjfaa
