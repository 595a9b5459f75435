/-
  The reference's Update, by contract.
  The reference's Update, by contract: what may be.
-/
import Derived.Test.YtbedmlimbcfnnaaGreatDoorQ45
import Derived.Test.YtbedmlimbcfnnaaGreatDoorQ38
namespace Go.Proofs.YtbedmlimbcfnnaaGreatDoor
open Go.RowKit
attribute [local go_sem] cell?_more frozen?_more setCell_more size_more tape_more drew_more drewN_more more_drew more_drewN one_out plus_out plus_end lt_one le_p2 le_p3 le_p4 le_p5 le_p6 le_p7 le_p8 le_p9 le_p10 le_p11 le_p12 le_p13 le_p14 le_p15 le_p16 le_p17 le_p18 le_p19 le_p20 le_p21 le_p22 le_p23 le_p24 le_q0 le_q1 lt_q1 le_q2 lt_q2 le_q3 lt_q3 le_q4 lt_q4 le_q5 lt_q5 le_q6 lt_q6 le_q7 lt_q7 le_q8 lt_q8 le_q9 lt_q9 le_q10 lt_q10 le_q11 lt_q11 le_q12 lt_q12 le_q13 lt_q13 le_q14 lt_q14 le_q15 lt_q15 le_q16 lt_q16 le_q17 lt_q17 le_q18 lt_q18 le_q19 lt_q19 le_q20 lt_q20 le_q21 lt_q21 le_q22 lt_q22 le_q23 lt_q23 le_q24 lt_q24

theorem updE_with (xs : List E) (es : List Sh.F) (key : ByteArray) (has : Bool) (doc : List F) : updE xs es key has doc = if has then withE xs (es.filter (Sh.isNot key)) key doc else es.filter (Sh.isNot key) := by
  unfold updE withE
  cases has with
  | false => rfl
  | true => cases entryOf xs key doc <;> rfl

theorem isKey_no {key : ByteArray} (h : ¬ isKey key = true) : key.size < 1 ∨ 64 < key.size := by
  unfold isKey at h
  rw [decide_eq_true_eq] at h
  omega

theorem isKey_yes {key : ByteArray} (h : isKey key = true) : 1 ≤ key.size ∧ key.size ≤ 64 := by
  unfold isKey at h
  rw [decide_eq_true_eq] at h
  exact h

set_option maxHeartbeats 2000000 in
set_option maxRecDepth 20000 in
theorem rUpdate_none (s : ByteArray) (ev : Value) (pos : Int) (key : ByteArray) (has : Bool) (dv : Value) (w : World) (hs : s.size ≤ 2000) (c : Int) (hx : parseA s.toList = .error c) (h : ∃ ao n cap, ev = .slice ao n cap) (hd : ∃ ao n cap, dv = .slice ao n cap) :
    Calls Tryz.prog 16 #[.string s, ev, .agg #[.int .i64 pos, .string key, .bool has, dv]] w fun e w' => e = .returned (.tuple #[.slice none 0 0, .int .i64 c]) ∧ Adds w w' := by
  have kP := fun w' => rParseAll_any s hs w'
  have hc := parseA_err hx
  have hcb : (c != 0) = true := by simpa using hc
  have hcb' : (c == 0) = false := by simpa using hc
  rw [hx] at kP
  simp only [GaveR] at kP
  obtain ⟨ao, n, cap, rfl⟩ := h
  obtain ⟨vo, nd, vc, rfl⟩ := hd
  clear hx
  go_enter Tryz.func16, Tryz.ntmps16
  go_wp2_with (go_at_call 27; refine (kP _).mono ?_; rintro e w1 ⟨rfl, os1, n1, rfl⟩)
  go_ret2
  exact ⟨rfl, (by repeat (first | with_reducible exact Adds.refl _ | with_reducible refine Adds.alloc ?_ _ | with_reducible refine Adds.more ?_ _ _ | with_reducible refine Adds.drew ?_ | with_reducible refine Adds.drewN ?_ _))⟩

set_option maxHeartbeats 4000000 in
set_option maxRecDepth 20000 in
theorem rUpdate_bad (s : ByteArray) (ev : Value) (es : List Sh.F) (pos : Int) (key : ByteArray) (has : Bool) (dv : Value) (doc : List F) (w : World) (hs : s.size ≤ 2000) (h : Sh.Lst w ev es) (hle : es.length ≤ 900) (hd : Lst w dv doc) (hd6 : doc.length ≤ 1000) (xs : List E) (hx : parseA s.toList = .ok xs) (hM : ¬ (Sh.May es ∧ MayC key has doc)) :
    Calls Tryz.prog 16 #[.string s, ev, .agg #[.int .i64 pos, .string key, .bool has, dv]] w fun e w' => e = .returned (.tuple #[.slice none 0 0, .int .i64 1]) ∧ Adds w w' := by
  have kP := fun w' => rParseAll_any s hs w'
  rw [hx] at kP
  simp only [GaveR] at kP
  have kC := fun w' hA => Sh.refMay_any ev es w' (h.adds hA) (by omega)
  have kM := fun w' hA => refMay_any dv doc w' (hd.adds hA) hd6
  obtain ⟨ao, cap, rfl, hcap, _⟩ := h
  obtain ⟨vo, vc, rfl, _, _⟩ := hd
  clear hx
  by_cases h1 : Sh.May es
  · have h2 : ¬ MayC key has doc := fun h => hM ⟨h1, h⟩
    rw [decide_eq_true h1] at kC
    have hor : (key.size : Int) < 1 ∨ (¬ (key.size : Int) < 1 ∧ (64 : Int) < (key.size : Int)) ∨ (¬ (key.size : Int) < 1 ∧ ¬ (64 : Int) < (key.size : Int) ∧ has = true ∧ ¬ May doc) := by
      by_cases hk : isKey key = true
      · right; right
        have := isKey_yes hk
        refine ⟨by omega, by omega, ?_⟩
        cases has with
        | false => exact absurd ⟨hk, fun h => by cases h⟩ h2
        | true => exact ⟨rfl, fun hd => h2 ⟨hk, fun _ => hd⟩⟩
      · have := isKey_no hk
        by_cases h0 : key.size < 1
        · exact .inl (by omega)
        · exact .inr (.inl ⟨by omega, by omega⟩)
    clear hM h1 h2
    rcases hor with hk | ⟨hk, hk2⟩ | ⟨hk, hk2, rfl, hD⟩
    · clear kM
      generalize es.length = n at *
      generalize doc.length = nd at *
      go_enter Tryz.func16, Tryz.ntmps16
      go_wp2_with (first
        | (go_at_call 27; refine (kP _).mono ?_; rintro e w1 ⟨⟨no, nc, D, rfl, hT, hok⟩, os1, n1, rfl⟩; clear hT hok; generalize xs.length = nx at *)
        | (go_at_call 18; refine (kC _ (by repeat (first | with_reducible exact Adds.refl _ | with_reducible refine Adds.alloc ?_ _ | with_reducible refine Adds.more ?_ _ _ | with_reducible refine Adds.drew ?_ | with_reducible refine Adds.drewN ?_ _))).mono ?_; rintro e w2 ⟨rfl, os2, n2, rfl⟩))
      go_ret2
      exact ⟨rfl, (by repeat (first | with_reducible exact Adds.refl _ | with_reducible refine Adds.alloc ?_ _ | with_reducible refine Adds.more ?_ _ _ | with_reducible refine Adds.drew ?_ | with_reducible refine Adds.drewN ?_ _))⟩
    · clear kM
      generalize es.length = n at *
      generalize doc.length = nd at *
      go_enter Tryz.func16, Tryz.ntmps16
      go_wp2_with (first
        | (go_at_call 27; refine (kP _).mono ?_; rintro e w1 ⟨⟨no, nc, D, rfl, hT, hok⟩, os1, n1, rfl⟩; clear hT hok; generalize xs.length = nx at *)
        | (go_at_call 18; refine (kC _ (by repeat (first | with_reducible exact Adds.refl _ | with_reducible refine Adds.alloc ?_ _ | with_reducible refine Adds.more ?_ _ _ | with_reducible refine Adds.drew ?_ | with_reducible refine Adds.drewN ?_ _))).mono ?_; rintro e w2 ⟨rfl, os2, n2, rfl⟩))
      go_ret2
      exact ⟨rfl, (by repeat (first | with_reducible exact Adds.refl _ | with_reducible refine Adds.alloc ?_ _ | with_reducible refine Adds.more ?_ _ _ | with_reducible refine Adds.drew ?_ | with_reducible refine Adds.drewN ?_ _))⟩
    · rw [decide_eq_false hD] at kM
      clear hD
      generalize es.length = n at *
      generalize doc.length = nd at *
      go_enter Tryz.func16, Tryz.ntmps16
      go_wp2_with (first
        | (go_at_call 27; refine (kP _).mono ?_; rintro e w1 ⟨⟨no, nc, D, rfl, hT, hok⟩, os1, n1, rfl⟩; clear hT hok; generalize xs.length = nx at *)
        | (go_at_call 18; refine (kC _ (by repeat (first | with_reducible exact Adds.refl _ | with_reducible refine Adds.alloc ?_ _ | with_reducible refine Adds.more ?_ _ _ | with_reducible refine Adds.drew ?_ | with_reducible refine Adds.drewN ?_ _))).mono ?_; rintro e w2 ⟨rfl, os2, n2, rfl⟩)
        | (go_at_call 31; refine (kM _ (by repeat (first | with_reducible exact Adds.refl _ | with_reducible refine Adds.alloc ?_ _ | with_reducible refine Adds.more ?_ _ _ | with_reducible refine Adds.drew ?_ | with_reducible refine Adds.drewN ?_ _))).mono ?_; rintro e w3 ⟨rfl, os3, n3, rfl⟩))
      go_ret2
      exact ⟨rfl, (by repeat (first | with_reducible exact Adds.refl _ | with_reducible refine Adds.alloc ?_ _ | with_reducible refine Adds.more ?_ _ _ | with_reducible refine Adds.drew ?_ | with_reducible refine Adds.drewN ?_ _))⟩
  · rw [decide_eq_false h1] at kC
    clear hM h1 kM
    generalize es.length = n at *
    generalize doc.length = nd at *
    go_enter Tryz.func16, Tryz.ntmps16
    go_wp2_with (first
      | (go_at_call 27; refine (kP _).mono ?_; rintro e w1 ⟨⟨no, nc, D, rfl, hT, hok⟩, os1, n1, rfl⟩; clear hT hok; generalize xs.length = nx at *)
      | (go_at_call 18; refine (kC _ (by repeat (first | with_reducible exact Adds.refl _ | with_reducible refine Adds.alloc ?_ _ | with_reducible refine Adds.more ?_ _ _ | with_reducible refine Adds.drew ?_ | with_reducible refine Adds.drewN ?_ _))).mono ?_; rintro e w2 ⟨rfl, os2, n2, rfl⟩))
    go_ret2
    exact ⟨rfl, (by repeat (first | with_reducible exact Adds.refl _ | with_reducible refine Adds.alloc ?_ _ | with_reducible refine Adds.more ?_ _ _ | with_reducible refine Adds.drew ?_ | with_reducible refine Adds.drewN ?_ _))⟩

end Go.Proofs.YtbedmlimbcfnnaaGreatDoor

namespace Go.Proofs.YtbedmlimbcfnnaaGreatDoor
open Go.RowKit
attribute [local go_sem] cell?_more frozen?_more setCell_more size_more tape_more drew_more drewN_more more_drew more_drewN one_out plus_out plus_end lt_one le_p2 le_p3 le_p4 le_p5 le_p6 le_p7 le_p8 le_p9 le_p10 le_p11 le_p12 le_p13 le_p14 le_p15 le_p16 le_p17 le_p18 le_p19 le_p20 le_p21 le_p22 le_p23 le_p24 le_q0 le_q1 lt_q1 le_q2 lt_q2 le_q3 lt_q3 le_q4 lt_q4 le_q5 lt_q5 le_q6 lt_q6 le_q7 lt_q7 le_q8 lt_q8 le_q9 lt_q9 le_q10 lt_q10 le_q11 lt_q11 le_q12 lt_q12 le_q13 lt_q13 le_q14 lt_q14 le_q15 lt_q15 le_q16 lt_q16 le_q17 lt_q17 le_q18 lt_q18 le_q19 lt_q19 le_q20 lt_q20 le_q21 lt_q21 le_q22 lt_q22 le_q23 lt_q23 le_q24 lt_q24

theorem Sh.own_empty_at (W : World) (k : Nat) (hk : k = W.heap.size) : Sh.Own W.heap.size (.slice (some ⟨k, 0, none⟩) 0 0) [] W (W.alloc (.cells #[] 52)) := by
  subst hk
  exact Sh.own_empty W

set_option maxHeartbeats 4000000 in
set_option maxRecDepth 20000 in
theorem rUpdate_put (s : ByteArray) (ev : Value) (es : List Sh.F) (pos : Int) (key : ByteArray) (dv : Value) (doc : List F) (w : World) (hs : s.size ≤ 2000) (h : Sh.Lst w ev es) (hle : es.length ≤ 900) (hd : Lst w dv doc) (hd6 : doc.length ≤ 1000) (xs : List E) (hx : parseA s.toList = .ok xs) (hM : Sh.May es) (hC : MayC key true doc) :
    Calls Tryz.prog 16 #[.string s, ev, .agg #[.int .i64 pos, .string key, .bool true, dv]] w fun e w' => (∃ v, e = .returned (.tuple #[v, .int .i64 0]) ∧ Sh.Lst w' v (withE xs (es.filter (Sh.isNot key)) key doc)) ∧ Adds w w' := by
  have kP := fun w' => rParseAll_any s hs w'
  rw [hx] at kP
  simp only [GaveR] at kP
  have hx4 := parseA_len hx
  have kC := fun w' hA => Sh.refMay_any ev es w' (h.adds hA) (by omega)
  rw [decide_eq_true hM] at kC
  have kM := fun w' hA => refMay_any dv doc w' (hd.adds hA) hd6
  rw [decide_eq_true (hC.2 rfl)] at kM
  have hk1 : ¬ (key.size : Int) < 1 := by have := isKey_yes hC.1; omega
  have hk2 : ¬ (64 : Int) < (key.size : Int) := by have := isKey_yes hC.1; omega
  have HD : Hid (Lst w dv doc) := hd
  obtain ⟨ao, cap, rfl, hcap, hlo⟩ := h
  obtain ⟨vo, vc, rfl, _, _⟩ := hd
  clear hx hM hC
  have HX4 : Hid (xs.length ≤ 4) := hx4
  have HD6 : Hid (doc.length ≤ 1000) := hd6
  clear hx4 hd6
  go_enter Tryz.func16, Tryz.ntmps16
  go_wp2_with (first
    | (go_at_call 27; refine (kP _).mono ?_; rintro e w1 ⟨⟨no, nc, D, rfl, hT, hok⟩, os1, n1, rfl⟩; have HT : Hid _ := hT; have HK : Hid (∀ x ∈ xs, x.ok ∧ ∀ d, cntN d [x.toN] ≤ 256) := hok; clear hT hok)
    | (go_at_call 18; refine (kC _ (by repeat (first | with_reducible exact Adds.refl _ | with_reducible refine Adds.alloc ?_ _ | with_reducible refine Adds.more ?_ _ _ | with_reducible refine Adds.drew ?_ | with_reducible refine Adds.drewN ?_ _))).mono ?_; rintro e w2 ⟨rfl, os2, n2, rfl⟩)
    | (go_at_call 31; refine (kM _ (by repeat (first | with_reducible exact Adds.refl _ | with_reducible refine Adds.alloc ?_ _ | with_reducible refine Adds.more ?_ _ _ | with_reducible refine Adds.drew ?_ | with_reducible refine Adds.drewN ?_ _))).mono ?_; rintro e w3 ⟨rfl, os3, n3, rfl⟩))
  obtain ⟨W, hW⟩ : ∃ W, W = more (more (more (w.alloc (.cells #[.int .i64 pos, .string key, .bool true, .slice vo doc.length vc] 35)) os1 n1) os2 n2) os3 n3 := ⟨_, rfl⟩
  have hWA : Adds w W := by rw [hW]; exact (by repeat (first | with_reducible exact Adds.refl _ | with_reducible refine Adds.alloc ?_ _ | with_reducible refine Adds.more ?_ _ _ | with_reducible refine Adds.drew ?_ | with_reducible refine Adds.drewN ?_ _))
  have hWs : w.heap.size < W.heap.size := by rw [hW]; simp only [size_more, alloc_sz]; omega
  have hWz : Hid (W.heap.size = w.heap.size + 1 + os1.size + os2.size + os3.size) := by show _ = _; rw [hW]; simp only [size_more, alloc_sz]
  have e1 : W.cell? ⟨w.heap.size, 1, none⟩ = some (.string key) := by rw [hW]; simp [go_sem]
  have e2 : W.cell? ⟨w.heap.size, 2, none⟩ = some (.bool true) := by rw [hW]; simp [go_sem]
  have e3 : W.cell? ⟨w.heap.size, 3, none⟩ = some (.slice vo doc.length vc) := by rw [hW]; simp [go_sem]
  have HT2 : Hid (Tn (fun _ => True) D W (.slice no xs.length nc) (xs.map E.toN)) := by
    rw [hW]
    exact HT.out.adds (by repeat (first | with_reducible exact Adds.refl _ | with_reducible refine Adds.alloc ?_ _ | with_reducible refine Adds.more ?_ _ _ | with_reducible refine Adds.drew ?_ | with_reducible refine Adds.drewN ?_ _))
  have HWA : Hid (Adds w W) := hWA
  rw [← hW]
  clear hW HT hWA kP kC kM
  go_loopw [10, 11] (fun nv i wr => ∃ j : Nat, j ≤ es.length ∧ i = .int .i64 j ∧ Sh.Own W.heap.size nv ((es.take j).filter (Sh.isNot key)) W wr) (fun _ i _ => es.length - (intOf i).toNat)
  case atStart => exact ⟨0, Nat.zero_le _, rfl, by simpa using Sh.own_empty_at W _ (by rw [hWz.out]; omega)⟩
  case round =>
    obtain ⟨j, hj, rfl, hown⟩ := hrel
    have hAr : Adds W wr := Adds.of hown.2.1
    have HAr : Hid (Adds W wr) := hAr
    have hwl : w.heap.size < wr.heap.size := Nat.lt_of_lt_of_le hWs hAr.below.size
    have d1 : wr.cell? ⟨w.heap.size, 1, none⟩ = some (.string key) := (hAr.below.cell (p := ⟨w.heap.size, 1, none⟩) hWs).trans e1
    have d2 : wr.cell? ⟨w.heap.size, 2, none⟩ = some (.bool true) := (hAr.below.cell (p := ⟨w.heap.size, 2, none⟩) hWs).trans e2
    have d3 : wr.cell? ⟨w.heap.size, 3, none⟩ = some (.slice vo doc.length vc) := (hAr.below.cell (p := ⟨w.heap.size, 3, none⟩) hWs).trans e3
    clear hAr
    by_cases hlt : j < es.length
    · rcases hlo with rfl | ⟨b, off, rfl, hbb, hl⟩
      · simp at hlt
      obtain ⟨c0, c1⟩ := hl.below (HWA.out.trans HAr.out).below hbb j hlt
      have hbl : b < wr.heap.size := Nat.lt_of_lt_of_le hbb (HWA.out.trans HAr.out).below.size
      have HJ : Hid _ := Sh.filter_next hlt (Sh.isNot key)
      have hla : ((es.take j).filter (Sh.isNot key)).length ≤ es.length := Nat.le_trans (List.length_filter_le _ _) (by rw [List.length_take]; omega)
      have hlt' : (j : Int) < (es.length : Int) := by omega
      generalize es[j] = x at *
      generalize (es.take j).filter (Sh.isNot key) = A at *
      have HI : Hid (Sh.isNot key x = !decide (x.val.toList = key.toList)) := rfl
      obtain ⟨uo, uc, rfl⟩ := hown.lst.slice
      by_cases he : x.val.toList = key.toList
      · have hin : Hid (Sh.isNot key x = false) := by
          show _ = _
          rw [HI.out, decide_eq_true he]
          rfl
        have he1 : (x.val.toList == key.toList) = true := by simpa using he
        have he2 : (x.val.toList != key.toList) = false := by simpa using he
        clear he
        go_wp2
        go_quiet (fail)
        go_wp2
        go_roundw
        case rel => exact ⟨j + 1, by omega, by go_num, by rw [HJ.out, hin.out]; simp only [Bool.false_eq_true, if_false, List.append_nil]; exact hown.adds (by repeat (first | with_reducible exact Adds.refl _ | with_reducible refine Adds.alloc ?_ _ | with_reducible refine Adds.more ?_ _ _ | with_reducible refine Adds.drew ?_ | with_reducible refine Adds.drewN ?_ _))⟩
        case measure => simp [intOf]; omega
      · have hin : Hid (Sh.isNot key x = true) := by
          show _ = _
          rw [HI.out, decide_eq_false he]
          rfl
        have he1 : (x.val.toList == key.toList) = false := by simpa using he
        have he2 : (x.val.toList != key.toList) = true := by simpa using he
        clear he
        go_wp2
        go_quiet (fail)
        go_wp2_with (at_builtin; refine Sh.own_app rfl (.tmp 60) (.tmp 65) rfl (hown.adds (by repeat (first | with_reducible exact Adds.refl _ | with_reducible refine Adds.alloc ?_ _ | with_reducible refine Adds.more ?_ _ _ | with_reducible refine Adds.drew ?_ | with_reducible refine Adds.drewN ?_ _))) rfl (Sh.lst_new (f := x) (by simp [go_sem])) rfl (by simp only [List.length_singleton]; omega) ?_; intro v2 w2 hown2)
        go_roundw
        case rel => exact ⟨j + 1, by omega, by go_num, by rw [HJ.out, hin.out]; simp only [if_true]; exact hown2⟩
        case measure => simp [intOf]; omega
    · have hlt' : ¬ (j : Int) < (es.length : Int) := by omega
      have hj' : j = es.length := by omega
      subst hj'
      rw [List.take_length] at hown
      have hle2 : (es.filter (Sh.isNot key)).length ≤ 1000 := Nat.le_trans (List.length_filter_le _ _) (by omega)
      have kW := fun W' v (hv : Sh.Lst W' v (es.filter (Sh.isNot key))) (hA : Adds wr W') => with_any v _ xs HX4.out no nc key (.slice vo doc.length vc) doc W' hv hle2 (HT2.out.adds (HAr.out.trans hA)) HK.out (HD.out.adds ((HWA.out.trans HAr.out).trans hA)) HD6.out
      clear hle2
      go_wp2_with (go_at_call 28; refine (kW _ _ (Sh.Lst.adds hown.lst (by repeat (first | with_reducible exact Adds.refl _ | with_reducible refine Adds.alloc ?_ _ | with_reducible refine Adds.more ?_ _ _ | with_reducible refine Adds.drew ?_ | with_reducible refine Adds.drewN ?_ _))) (by repeat (first | with_reducible exact Adds.refl _ | with_reducible refine Adds.alloc ?_ _ | with_reducible refine Adds.more ?_ _ _ | with_reducible refine Adds.drew ?_ | with_reducible refine Adds.drewN ?_ _))).mono ?_; rintro e w5 ⟨⟨v5, rfl, hL5⟩, os5, n5, rfl⟩; have HL5 : Hid _ := hL5; clear hL5)
      go_ret2
      exact ⟨⟨_, rfl, HL5.out⟩, (HWA.out.trans HAr.out).trans (by repeat (first | with_reducible exact Adds.refl _ | with_reducible refine Adds.alloc ?_ _ | with_reducible refine Adds.more ?_ _ _ | with_reducible refine Adds.drew ?_ | with_reducible refine Adds.drewN ?_ _))⟩

set_option maxHeartbeats 4000000 in
set_option maxRecDepth 20000 in
theorem rUpdate_gone (s : ByteArray) (ev : Value) (es : List Sh.F) (pos : Int) (key : ByteArray) (dv : Value) (doc : List F) (w : World) (hs : s.size ≤ 2000) (h : Sh.Lst w ev es) (hle : es.length ≤ 900) (hd : Lst w dv doc) (hd6 : doc.length ≤ 1000) (xs : List E) (hx : parseA s.toList = .ok xs) (hM : Sh.May es) (hC : MayC key false doc) :
    Calls Tryz.prog 16 #[.string s, ev, .agg #[.int .i64 pos, .string key, .bool false, dv]] w fun e w' => (∃ v, e = .returned (.tuple #[v, .int .i64 0]) ∧ Sh.Lst w' v (es.filter (Sh.isNot key))) ∧ Adds w w' := by
  have kP := fun w' => rParseAll_any s hs w'
  rw [hx] at kP
  simp only [GaveR] at kP
  have hx4 := parseA_len hx
  have kC := fun w' hA => Sh.refMay_any ev es w' (h.adds hA) (by omega)
  rw [decide_eq_true hM] at kC
  have hk1 : ¬ (key.size : Int) < 1 := by have := isKey_yes hC.1; omega
  have hk2 : ¬ (64 : Int) < (key.size : Int) := by have := isKey_yes hC.1; omega
  have HD : Hid (Lst w dv doc) := hd
  obtain ⟨ao, cap, rfl, hcap, hlo⟩ := h
  obtain ⟨vo, vc, rfl, _, _⟩ := hd
  clear hx hM hC
  have HX4 : Hid (xs.length ≤ 4) := hx4
  have HD6 : Hid (doc.length ≤ 1000) := hd6
  clear hx4 hd6
  go_enter Tryz.func16, Tryz.ntmps16
  go_wp2_with (first
    | (go_at_call 27; refine (kP _).mono ?_; rintro e w1 ⟨⟨no, nc, D, rfl, hT, hok⟩, os1, n1, rfl⟩; have HT : Hid _ := hT; have HK : Hid (∀ x ∈ xs, x.ok ∧ ∀ d, cntN d [x.toN] ≤ 256) := hok; clear hT hok)
    | (go_at_call 18; refine (kC _ (by repeat (first | with_reducible exact Adds.refl _ | with_reducible refine Adds.alloc ?_ _ | with_reducible refine Adds.more ?_ _ _ | with_reducible refine Adds.drew ?_ | with_reducible refine Adds.drewN ?_ _))).mono ?_; rintro e w2 ⟨rfl, os2, n2, rfl⟩))
  obtain ⟨W, hW⟩ : ∃ W, W = more (more (w.alloc (.cells #[.int .i64 pos, .string key, .bool false, .slice vo doc.length vc] 35)) os1 n1) os2 n2 := ⟨_, rfl⟩
  have hWA : Adds w W := by rw [hW]; exact (by repeat (first | with_reducible exact Adds.refl _ | with_reducible refine Adds.alloc ?_ _ | with_reducible refine Adds.more ?_ _ _ | with_reducible refine Adds.drew ?_ | with_reducible refine Adds.drewN ?_ _))
  have hWs : w.heap.size < W.heap.size := by rw [hW]; simp only [size_more, alloc_sz]; omega
  have hWz : Hid (W.heap.size = w.heap.size + 1 + os1.size + os2.size) := by show _ = _; rw [hW]; simp only [size_more, alloc_sz]
  have e1 : W.cell? ⟨w.heap.size, 1, none⟩ = some (.string key) := by rw [hW]; simp [go_sem]
  have e2 : W.cell? ⟨w.heap.size, 2, none⟩ = some (.bool false) := by rw [hW]; simp [go_sem]
  have e3 : W.cell? ⟨w.heap.size, 3, none⟩ = some (.slice vo doc.length vc) := by rw [hW]; simp [go_sem]
  have HT2 : Hid (Tn (fun _ => True) D W (.slice no xs.length nc) (xs.map E.toN)) := by
    rw [hW]
    exact HT.out.adds (by repeat (first | with_reducible exact Adds.refl _ | with_reducible refine Adds.alloc ?_ _ | with_reducible refine Adds.more ?_ _ _ | with_reducible refine Adds.drew ?_ | with_reducible refine Adds.drewN ?_ _))
  have HWA : Hid (Adds w W) := hWA
  rw [← hW]
  clear hW HT hWA kP kC
  go_loopw [10, 11] (fun nv i wr => ∃ j : Nat, j ≤ es.length ∧ i = .int .i64 j ∧ Sh.Own W.heap.size nv ((es.take j).filter (Sh.isNot key)) W wr) (fun _ i _ => es.length - (intOf i).toNat)
  case atStart => exact ⟨0, Nat.zero_le _, rfl, by simpa using Sh.own_empty_at W _ (by rw [hWz.out]; omega)⟩
  case round =>
    obtain ⟨j, hj, rfl, hown⟩ := hrel
    have hAr : Adds W wr := Adds.of hown.2.1
    have HAr : Hid (Adds W wr) := hAr
    have hwl : w.heap.size < wr.heap.size := Nat.lt_of_lt_of_le hWs hAr.below.size
    have d1 : wr.cell? ⟨w.heap.size, 1, none⟩ = some (.string key) := (hAr.below.cell (p := ⟨w.heap.size, 1, none⟩) hWs).trans e1
    have d2 : wr.cell? ⟨w.heap.size, 2, none⟩ = some (.bool false) := (hAr.below.cell (p := ⟨w.heap.size, 2, none⟩) hWs).trans e2
    have d3 : wr.cell? ⟨w.heap.size, 3, none⟩ = some (.slice vo doc.length vc) := (hAr.below.cell (p := ⟨w.heap.size, 3, none⟩) hWs).trans e3
    clear hAr
    by_cases hlt : j < es.length
    · rcases hlo with rfl | ⟨b, off, rfl, hbb, hl⟩
      · simp at hlt
      obtain ⟨c0, c1⟩ := hl.below (HWA.out.trans HAr.out).below hbb j hlt
      have hbl : b < wr.heap.size := Nat.lt_of_lt_of_le hbb (HWA.out.trans HAr.out).below.size
      have HJ : Hid _ := Sh.filter_next hlt (Sh.isNot key)
      have hla : ((es.take j).filter (Sh.isNot key)).length ≤ es.length := Nat.le_trans (List.length_filter_le _ _) (by rw [List.length_take]; omega)
      have hlt' : (j : Int) < (es.length : Int) := by omega
      generalize es[j] = x at *
      generalize (es.take j).filter (Sh.isNot key) = A at *
      have HI : Hid (Sh.isNot key x = !decide (x.val.toList = key.toList)) := rfl
      obtain ⟨uo, uc, rfl⟩ := hown.lst.slice
      by_cases he : x.val.toList = key.toList
      · have hin : Hid (Sh.isNot key x = false) := by
          show _ = _
          rw [HI.out, decide_eq_true he]
          rfl
        have he1 : (x.val.toList == key.toList) = true := by simpa using he
        have he2 : (x.val.toList != key.toList) = false := by simpa using he
        clear he
        go_wp2
        go_quiet (fail)
        go_wp2
        go_roundw
        case rel => exact ⟨j + 1, by omega, by go_num, by rw [HJ.out, hin.out]; simp only [Bool.false_eq_true, if_false, List.append_nil]; exact hown.adds (by repeat (first | with_reducible exact Adds.refl _ | with_reducible refine Adds.alloc ?_ _ | with_reducible refine Adds.more ?_ _ _ | with_reducible refine Adds.drew ?_ | with_reducible refine Adds.drewN ?_ _))⟩
        case measure => simp [intOf]; omega
      · have hin : Hid (Sh.isNot key x = true) := by
          show _ = _
          rw [HI.out, decide_eq_false he]
          rfl
        have he1 : (x.val.toList == key.toList) = false := by simpa using he
        have he2 : (x.val.toList != key.toList) = true := by simpa using he
        clear he
        go_wp2
        go_quiet (fail)
        go_wp2_with (at_builtin; refine Sh.own_app rfl (.tmp 60) (.tmp 65) rfl (hown.adds (by repeat (first | with_reducible exact Adds.refl _ | with_reducible refine Adds.alloc ?_ _ | with_reducible refine Adds.more ?_ _ _ | with_reducible refine Adds.drew ?_ | with_reducible refine Adds.drewN ?_ _))) rfl (Sh.lst_new (f := x) (by simp [go_sem])) rfl (by simp only [List.length_singleton]; omega) ?_; intro v2 w2 hown2)
        go_roundw
        case rel => exact ⟨j + 1, by omega, by go_num, by rw [HJ.out, hin.out]; simp only [if_true]; exact hown2⟩
        case measure => simp [intOf]; omega
    · have hlt' : ¬ (j : Int) < (es.length : Int) := by omega
      have hj' : j = es.length := by omega
      subst hj'
      rw [List.take_length] at hown
      go_wp2
      go_ret2
      exact ⟨⟨_, rfl, hown.lst⟩, HWA.out.trans HAr.out⟩

theorem rUpdate_any (s : ByteArray) (ev : Value) (es : List Sh.F) (pos : Int) (key : ByteArray) (has : Bool) (dv : Value) (doc : List F) (w : World) (hs : s.size ≤ 2000) (h : Sh.Lst w ev es) (hle : es.length ≤ 900) (hd : Lst w dv doc) (hd6 : doc.length ≤ 1000) :
    Calls Tryz.prog 16 #[.string s, ev, .agg #[.int .i64 pos, .string key, .bool has, dv]] w fun e w' => GaveB (updA s.toList es key has doc) e w' ∧ Adds w w' := by
  unfold updA
  cases hx : parseA s.toList with
  | error c =>
    simp only [GaveB]
    exact rUpdate_none s ev pos key has dv w hs c hx (by obtain ⟨ao, cap, e, _⟩ := h; exact ⟨ao, _, cap, e⟩) (by obtain ⟨ao, cap, e, _⟩ := hd; exact ⟨ao, _, cap, e⟩)
  | ok xs =>
    by_cases hM : Sh.May es ∧ MayC key has doc
    · simp only [if_pos hM, GaveB]
      rw [updE_with]
      cases has with
      | false => exact rUpdate_gone s ev es pos key dv doc w hs h hle hd hd6 xs hx hM.1 hM.2
      | true => exact rUpdate_put s ev es pos key dv doc w hs h hle hd hd6 xs hx hM.1 hM.2
    · simp only [if_neg hM, GaveB]
      exact rUpdate_bad s ev es pos key has dv doc w hs h hle hd hd6 xs hx hM

end Go.Proofs.YtbedmlimbcfnnaaGreatDoor
