/-
  A change that may be, by contract; entries behind a change.
  The function Update of package index, by a contract.
  The function Update of package index, by a contract: whatever is asked.
  The function Update of package index, by one contract.
-/
import Derived.Test.YtiacnmcdfpmcfaaGreatDoorT34
import Derived.Test.YtiacnmcdfpmcfaaGreatDoorT08
import Derived.Test.YtiacnmcdfpmcfaaGreatDoorT09
import Derived.Test.YtiacnmcdfpmcfaaGreatDoorT35
import Derived.Test.YtiacnmcdfpmcfaaGreatDoorT37
namespace Go.Proofs.YtiacnmcdfpmcfaaGreatDoor
open Go.RowKit
attribute [local go_sem] cell?_more frozen?_more setCell_more size_more tape_more drew_more drewN_more more_drew more_drewN one_out plus_out plus_end lt_one le_p2 le_p3 le_p4 le_p5 le_p6 le_p7 le_p8 le_p9 le_p10 le_p11 le_p12 le_p13 le_p14 le_p15 le_p16 le_p17 le_p18 le_p19 le_p20 le_p21 le_p22 le_p23 le_p24 le_q0 le_q1 lt_q1 le_q2 lt_q2 le_q3 lt_q3 le_q4 lt_q4 le_q5 lt_q5 le_q6 lt_q6 le_q7 lt_q7 le_q8 lt_q8 le_q9 lt_q9 le_q10 lt_q10 le_q11 lt_q11 le_q12 lt_q12 le_q13 lt_q13 le_q14 lt_q14 le_q15 lt_q15 le_q16 lt_q16 le_q17 lt_q17 le_q18 lt_q18 le_q19 lt_q19 le_q20 lt_q20 le_q21 lt_q21 le_q22 lt_q22 le_q23 lt_q23 le_q24 lt_q24

/-- May a change be? -/
def MayC (key : ByteArray) (has : Bool) (doc : List F) : Prop := isKey key = true ∧ (has = true → May doc)

instance (key : ByteArray) (has : Bool) (doc : List F) : Decidable (MayC key has doc) := by unfold MayC; infer_instance

set_option maxHeartbeats 2000000 in
set_option maxRecDepth 20000 in
theorem mayBe_any (pos : Int) (key : ByteArray) (has : Bool) (dv : Value) (doc : List F) (w : World) (hd : Lst w dv doc) :
    Calls Tryz.prog 80 #[.agg #[.int .i64 pos, .string key, .bool has, dv]] w fun e w' => e = .returned (.bool (decide (MayC key has doc))) ∧ Adds w w' := by
  have hK := key_any key
  have hC := fun w' hA => check_doc dv doc w' (hd.adds hA)
  obtain ⟨vo, vc, rfl, _, _⟩ := hd
  by_cases h1 : isKey key = true
  rotate_left
  · rw [show isKey key = false by simpa using h1] at hK
    rw [decide_eq_false (fun h : MayC key has doc => h1 h.1)]
    clear hC h1
    generalize doc.length = nd at *
    go_enter Tryz.func80, Tryz.ntmps80
    go_wp2_with (go_at_call 103; refine (hK _).mono ?_; rintro e w1 ⟨rfl, hw⟩; subst w1)
    go_ret
    exact ⟨rfl, (by repeat (first | with_reducible exact Adds.refl _ | with_reducible refine Adds.alloc ?_ _ | with_reducible refine Adds.more ?_ _ _ | with_reducible refine Adds.drew ?_ | with_reducible refine Adds.drewN ?_ _))⟩
  rw [h1] at hK
  cases has
  · rw [decide_eq_true (show MayC key false doc from ⟨h1, fun h => by cases h⟩)]
    clear hC h1
    generalize doc.length = nd at *
    go_enter Tryz.func80, Tryz.ntmps80
    go_wp2_with (go_at_call 103; refine (hK _).mono ?_; rintro e w1 ⟨rfl, hw⟩; subst w1)
    go_ret
    exact ⟨rfl, (by repeat (first | with_reducible exact Adds.refl _ | with_reducible refine Adds.alloc ?_ _ | with_reducible refine Adds.more ?_ _ _ | with_reducible refine Adds.drew ?_ | with_reducible refine Adds.drewN ?_ _))⟩
  · by_cases h2 : May doc
    · rw [err_ok h2] at hC
      rw [decide_eq_true (show MayC key true doc from ⟨h1, fun _ => h2⟩)]
      clear h1 h2
      generalize doc.length = nd at *
      go_enter Tryz.func80, Tryz.ntmps80
      go_wp2_with (first | (go_at_call 103; refine (hK _).mono ?_; rintro e w1 ⟨rfl, hw⟩; subst w1) | (go_at_call 104; refine (hC _ (by repeat (first | with_reducible exact Adds.refl _ | with_reducible refine Adds.alloc ?_ _ | with_reducible refine Adds.more ?_ _ _ | with_reducible refine Adds.drew ?_ | with_reducible refine Adds.drewN ?_ _))).mono ?_; rintro e w2 ⟨rfl, os2, n2, rfl⟩))
      go_ret
      exact ⟨rfl, (by repeat (first | with_reducible exact Adds.refl _ | with_reducible refine Adds.alloc ?_ _ | with_reducible refine Adds.more ?_ _ _ | with_reducible refine Adds.drew ?_ | with_reducible refine Adds.drewN ?_ _))⟩
    · rw [err_bad h2] at hC
      rw [decide_eq_false (fun h : MayC key true doc => h2 (h.2 rfl))]
      clear h1 h2
      generalize doc.length = nd at *
      go_enter Tryz.func80, Tryz.ntmps80
      go_wp2_with (first | (go_at_call 103; refine (hK _).mono ?_; rintro e w1 ⟨rfl, hw⟩; subst w1) | (go_at_call 104; refine (hC _ (by repeat (first | with_reducible exact Adds.refl _ | with_reducible refine Adds.alloc ?_ _ | with_reducible refine Adds.more ?_ _ _ | with_reducible refine Adds.drew ?_ | with_reducible refine Adds.drewN ?_ _))).mono ?_; rintro e w2 ⟨rfl, os2, n2, rfl⟩))
      go_ret
      exact ⟨rfl, (by repeat (first | with_reducible exact Adds.refl _ | with_reducible refine Adds.alloc ?_ _ | with_reducible refine Adds.more ?_ _ _ | with_reducible refine Adds.drew ?_ | with_reducible refine Adds.drewN ?_ _))⟩

/-- One entry put among others, in their order. -/
noncomputable def putE (f : Sh.F) (l : List Sh.F) : List Sh.F := l.take (Sh.cutE f l) ++ f :: l.drop (Sh.cutE f l)

/-- Entries behind a change. -/
noncomputable def updE (xs : List E) (es : List Sh.F) (key : ByteArray) (has : Bool) (doc : List F) : List Sh.F :=
  match has, entryOf xs key doc with
  | true, some f => putE f (es.filter (Sh.isNot key))
  | _, _ => es.filter (Sh.isNot key)

noncomputable def updA (s : List UInt8) (es : List Sh.F) (key : ByteArray) (has : Bool) (doc : List F) : Except Int (List Sh.F) :=
  match parseA s with
  | .error c => .error c
  | .ok xs => if Sh.May es ∧ MayC key has doc then .ok (updE xs es key has doc) else .error 1

theorem Sh.climbsE_filter {l : List Sh.F} (h : Sh.ClimbsE l) (q : Sh.F → Bool) : Sh.ClimbsE (l.filter q) := by
  have hp : l.Pairwise (fun a b => Sh.lessE a b = true) := List.pairwise_iff_getElem.2 (fun i j hi hj hij => h i j hi hj hij)
  have hq := hp.filter q
  intro i j hi hj hij
  exact List.pairwise_iff_getElem.1 hq i j hi hj hij

theorem Sh.Alone1.of_alloc (f : Sh.F) (W : World) : Sh.Alone1 (W.alloc (.cells #[.string f.path, .string f.val] 70)) W.heap.size f := Sh.new_block2 W _

theorem Sh.Own.block_lt {B : Nat} {v : Value} {fs : List Sh.F} {W0 w : World} (h : Sh.Own B v fs W0 w) {k : Nat} (hk : w.heap.size ≤ k) : v.ownBlock ≠ some k := fun e => by
  have := h.1.lt k e
  omega

set_option maxHeartbeats 4000000 in
set_option maxRecDepth 20000 in
theorem update_gone (s : ByteArray) (ev : Value) (es : List Sh.F) (pos : Int) (key : ByteArray) (dv : Value) (doc : List F) (w : World) (hs : s.size ≤ 2000) (h : Sh.Lst w ev es) (hle : es.length ≤ 900) (hd : Lst w dv doc) (xs : List E) (hx : parseA s.toList = .ok xs) (hM : Sh.May es) (hC : MayC key false doc) :
    Calls Tryz.prog 59 #[.string s, ev, .agg #[.int .i64 pos, .string key, .bool false, dv]] w fun e w' => (∃ v, e = .returned (.tuple #[v, .int .i64 0]) ∧ Sh.Lst w' v (es.filter (Sh.isNot key))) ∧ Adds w w' := by
  have kP := fun w' => parseAll_any s hs w'
  rw [hx] at kP
  simp only [GaveR] at kP
  have kC := fun w' hA => Sh.check_any ev es w' (h.adds hA) (by omega)
  rw [Sh.err_ok hM] at kC
  have kM := fun w' hA => mayBe_any pos key false dv doc w' (hd.adds hA)
  rw [decide_eq_true hC] at kM
  have kW := fun w' hA => Sh.without_any ev es key w' (h.adds hA) (by omega)
  obtain ⟨ao, cap, rfl, hcap, _⟩ := h
  obtain ⟨vo, vc, rfl, _, _⟩ := hd
  clear hx hM hC
  generalize es.filter (Sh.isNot key) = R at *
  generalize es.length = n at *
  generalize doc.length = nd at *
  go_enter Tryz.func59, Tryz.ntmps59
  go_wp2_with (first
    | (go_at_call 28; refine (kP _).mono ?_; rintro e w1 ⟨⟨no, nc, D, rfl, hT, hok⟩, os1, n1, rfl⟩; clear hT hok; generalize xs.length = nx at *)
    | (go_at_call 29; refine (kC _ (by repeat (first | with_reducible exact Adds.refl _ | with_reducible refine Adds.alloc ?_ _ | with_reducible refine Adds.more ?_ _ _ | with_reducible refine Adds.drew ?_ | with_reducible refine Adds.drewN ?_ _))).mono ?_; rintro e w2 ⟨rfl, os2, n2, rfl⟩)
    | (go_at_call 80; refine (kM _ (by repeat (first | with_reducible exact Adds.refl _ | with_reducible refine Adds.alloc ?_ _ | with_reducible refine Adds.more ?_ _ _ | with_reducible refine Adds.drew ?_ | with_reducible refine Adds.drewN ?_ _))).mono ?_; rintro e w3 ⟨rfl, os3, n3, rfl⟩)
    | (go_at_call 81; refine (kW _ (by repeat (first | with_reducible exact Adds.refl _ | with_reducible refine Adds.alloc ?_ _ | with_reducible refine Adds.more ?_ _ _ | with_reducible refine Adds.drew ?_ | with_reducible refine Adds.drewN ?_ _))).mono ?_; rintro e w4 ⟨v4, rfl, hown⟩; have HL : Hid _ := hown.lst; obtain ⟨os4, n4, rfl⟩ := Adds.of hown.2.1; clear hown))
  go_ret2
  exact ⟨⟨_, rfl, HL.out⟩, (by repeat (first | with_reducible exact Adds.refl _ | with_reducible refine Adds.alloc ?_ _ | with_reducible refine Adds.more ?_ _ _ | with_reducible refine Adds.drew ?_ | with_reducible refine Adds.drewN ?_ _))⟩

set_option maxHeartbeats 4000000 in
set_option maxRecDepth 20000 in
theorem update_bare (s : ByteArray) (ev : Value) (es : List Sh.F) (pos : Int) (key : ByteArray) (dv : Value) (doc : List F) (w : World) (hs : s.size ≤ 2000) (h : Sh.Lst w ev es) (hle : es.length ≤ 900) (hd : Lst w dv doc) (xs : List E) (hx : parseA s.toList = .ok xs) (hM : Sh.May es) (hC : MayC key true doc) (hE : entryOf xs key doc = none) :
    Calls Tryz.prog 59 #[.string s, ev, .agg #[.int .i64 pos, .string key, .bool true, dv]] w fun e w' => (∃ v, e = .returned (.tuple #[v, .int .i64 0]) ∧ Sh.Lst w' v (es.filter (Sh.isNot key))) ∧ Adds w w' := by
  have kP := fun w' => parseAll_any s hs w'
  rw [hx] at kP
  simp only [GaveR] at kP
  have kC := fun w' hA => Sh.check_any ev es w' (h.adds hA) (by omega)
  rw [Sh.err_ok hM] at kC
  have kM := fun w' hA => mayBe_any pos key true dv doc w' (hd.adds hA)
  rw [decide_eq_true hC] at kM
  have kW := fun w' hA => Sh.without_any ev es key w' (h.adds hA) (by omega)
  have kE := fun (D : Nat) no nc w' hT hok hA => entry_any (D := D) xs no nc key dv doc w' hT hok (hd.adds hA)
  rw [hE] at kE
  simp only [GaveE] at kE
  obtain ⟨ao, cap, rfl, hcap, _⟩ := h
  obtain ⟨vo, vc, rfl, _, _⟩ := hd
  clear hx hM hC hE
  generalize es.filter (Sh.isNot key) = R at *
  generalize es.length = n at *
  generalize doc.length = nd at *
  go_enter Tryz.func59, Tryz.ntmps59
  go_wp2_with (first
    | (go_at_call 28; refine (kP _).mono ?_; rintro e w1 ⟨⟨no, nc, D, rfl, hT, hok⟩, os1, n1, rfl⟩; have kE' := fun w' hA => kE D no nc w' (hT.adds hA) hok; clear hT hok kE; generalize xs.length = nx at *)
    | (go_at_call 29; refine (kC _ (by repeat (first | with_reducible exact Adds.refl _ | with_reducible refine Adds.alloc ?_ _ | with_reducible refine Adds.more ?_ _ _ | with_reducible refine Adds.drew ?_ | with_reducible refine Adds.drewN ?_ _))).mono ?_; rintro e w2 ⟨rfl, os2, n2, rfl⟩)
    | (go_at_call 80; refine (kM _ (by repeat (first | with_reducible exact Adds.refl _ | with_reducible refine Adds.alloc ?_ _ | with_reducible refine Adds.more ?_ _ _ | with_reducible refine Adds.drew ?_ | with_reducible refine Adds.drewN ?_ _))).mono ?_; rintro e w3 ⟨rfl, os3, n3, rfl⟩)
    | (go_at_call 81; refine (kW _ (by repeat (first | with_reducible exact Adds.refl _ | with_reducible refine Adds.alloc ?_ _ | with_reducible refine Adds.more ?_ _ _ | with_reducible refine Adds.drew ?_ | with_reducible refine Adds.drewN ?_ _))).mono ?_; rintro e w4 ⟨v4, rfl, hown⟩; have HL : Hid _ := hown.lst; obtain ⟨os4, n4, rfl⟩ := Adds.of hown.2.1; clear hown)
    | (go_at_call 77; refine (kE' _ (by repeat (first | with_reducible exact Adds.refl _ | with_reducible refine Adds.alloc ?_ _ | with_reducible refine Adds.more ?_ _ _ | with_reducible refine Adds.drew ?_ | with_reducible refine Adds.drewN ?_ _)) (by repeat (first | with_reducible exact Adds.refl _ | with_reducible refine Adds.alloc ?_ _ | with_reducible refine Adds.more ?_ _ _ | with_reducible refine Adds.drew ?_ | with_reducible refine Adds.drewN ?_ _))).mono ?_; rintro e w5 ⟨rfl, os5, n5, rfl⟩))
  go_ret2
  exact ⟨⟨_, rfl, Sh.Lst.adds HL.out (by repeat (first | with_reducible exact Adds.refl _ | with_reducible refine Adds.alloc ?_ _ | with_reducible refine Adds.more ?_ _ _ | with_reducible refine Adds.drew ?_ | with_reducible refine Adds.drewN ?_ _))⟩, (by repeat (first | with_reducible exact Adds.refl _ | with_reducible refine Adds.alloc ?_ _ | with_reducible refine Adds.more ?_ _ _ | with_reducible refine Adds.drew ?_ | with_reducible refine Adds.drewN ?_ _))⟩

theorem alloc_sz (w : World) (o : Obj) : (w.alloc o).heap.size = w.heap.size + 1 := by simp

theorem Sh.Alone1.at_alloc (f : Sh.F) (W : World) (k : Nat) (hk : k = W.heap.size) : Sh.Alone1 (W.alloc (.cells #[.string f.path, .string f.val] 70)) k f := by
  subst hk
  exact Sh.Alone1.of_alloc f W

set_option maxHeartbeats 4000000 in
set_option maxRecDepth 20000 in
theorem update_put (s : ByteArray) (ev : Value) (es : List Sh.F) (pos : Int) (key : ByteArray) (dv : Value) (doc : List F) (w : World) (hs : s.size ≤ 2000) (h : Sh.Lst w ev es) (hle : es.length ≤ 900) (hd : Lst w dv doc) (xs : List E) (hx : parseA s.toList = .ok xs) (hM : Sh.May es) (hC : MayC key true doc) (f : Sh.F) (hE : entryOf xs key doc = some f) :
    Calls Tryz.prog 59 #[.string s, ev, .agg #[.int .i64 pos, .string key, .bool true, dv]] w fun e w' => (∃ v, e = .returned (.tuple #[v, .int .i64 0]) ∧ Sh.Lst w' v (putE f (es.filter (Sh.isNot key)))) ∧ Adds w w' := by
  have kP := fun w' => parseAll_any s hs w'
  rw [hx] at kP
  simp only [GaveR] at kP
  have kC := fun w' hA => Sh.check_any ev es w' (h.adds hA) (by omega)
  rw [Sh.err_ok hM] at kC
  have kM := fun w' hA => mayBe_any pos key true dv doc w' (hd.adds hA)
  rw [decide_eq_true hC] at kM
  have kW := fun w' hA => Sh.without_any ev es key w' (h.adds hA) (by omega)
  have kE := fun (D : Nat) no nc w' hT hok hA => entry_any (D := D) xs no nc key dv doc w' hT hok (hd.adds hA)
  rw [hE] at kE
  simp only [GaveE] at kE
  have hcl := Sh.climbsE_filter hM.climbsE (Sh.isNot key)
  have hRl : (es.filter (Sh.isNot key)).length ≤ 900 := Nat.le_trans (List.length_filter_le _ _) hle
  have kS := fun v W (hv : Sh.Lst W v (es.filter (Sh.isNot key))) => Sh.searchE_any v _ f W hv (by omega) hcl
  obtain ⟨ao, cap, rfl, hcap, _⟩ := h
  obtain ⟨vo, vc, rfl, _, _⟩ := hd
  clear hx hM hC hE hcl
  have hcut := Sh.cutE_le f (es.filter (Sh.isNot key))
  have HP : Hid (putE f (es.filter (Sh.isNot key)) = (es.filter (Sh.isNot key)).take (Sh.cutE f (es.filter (Sh.isNot key))) ++ f :: (es.filter (Sh.isNot key)).drop (Sh.cutE f (es.filter (Sh.isNot key)))) := rfl
  generalize putE f (es.filter (Sh.isNot key)) = RR at *
  generalize es.filter (Sh.isNot key) = R at *
  have kI := fun B v W0 W k hown hk hv => Sh.insert_any B v R W0 W hown f k hk hv (Sh.cutE f R) hcut (by omega)
  generalize Sh.cutE f R = cu at *
  rw [← HP.out] at kI
  clear HP hcut hRl
  generalize es.length = n at *
  generalize doc.length = nd at *
  obtain ⟨fp, fv⟩ := f
  go_enter Tryz.func59, Tryz.ntmps59
  go_wp2_with (first
    | (go_at_call 28; refine (kP _).mono ?_; rintro e w1 ⟨⟨no, nc, D, rfl, hT, hok⟩, os1, n1, rfl⟩; have kE' := fun w' hA => kE D no nc w' (hT.adds hA) hok; clear hT hok kE; generalize xs.length = nx at *)
    | (go_at_call 29; refine (kC _ (by repeat (first | with_reducible exact Adds.refl _ | with_reducible refine Adds.alloc ?_ _ | with_reducible refine Adds.more ?_ _ _ | with_reducible refine Adds.drew ?_ | with_reducible refine Adds.drewN ?_ _))).mono ?_; rintro e w2 ⟨rfl, os2, n2, rfl⟩)
    | (go_at_call 80; refine (kM _ (by repeat (first | with_reducible exact Adds.refl _ | with_reducible refine Adds.alloc ?_ _ | with_reducible refine Adds.more ?_ _ _ | with_reducible refine Adds.drew ?_ | with_reducible refine Adds.drewN ?_ _))).mono ?_; rintro e w3 ⟨rfl, os3, n3, rfl⟩)
    | (go_at_call 81; refine (kW _ (by repeat (first | with_reducible exact Adds.refl _ | with_reducible refine Adds.alloc ?_ _ | with_reducible refine Adds.more ?_ _ _ | with_reducible refine Adds.drew ?_ | with_reducible refine Adds.drewN ?_ _))).mono ?_; rintro e w4 ⟨v4, rfl, hown⟩; obtain ⟨os4, n4, rfl⟩ := Adds.of hown.2.1)
    | (go_at_call 77; refine (kE' _ (by repeat (first | with_reducible exact Adds.refl _ | with_reducible refine Adds.alloc ?_ _ | with_reducible refine Adds.more ?_ _ _ | with_reducible refine Adds.drew ?_ | with_reducible refine Adds.drewN ?_ _)) (by repeat (first | with_reducible exact Adds.refl _ | with_reducible refine Adds.alloc ?_ _ | with_reducible refine Adds.more ?_ _ _ | with_reducible refine Adds.drew ?_ | with_reducible refine Adds.drewN ?_ _))).mono ?_; rintro e w5 ⟨rfl, os5, n5, rfl⟩)
    | (go_at_call 82; refine (kS _ _ (Sh.Lst.adds hown.lst (by repeat (first | with_reducible exact Adds.refl _ | with_reducible refine Adds.alloc ?_ _ | with_reducible refine Adds.more ?_ _ _ | with_reducible refine Adds.drew ?_ | with_reducible refine Adds.drewN ?_ _)))).mono ?_; rintro e w6 ⟨⟨q, rfl⟩, os6, n6, rfl⟩)
    | (go_at_call 83; refine (kI _ _ _ _ _ ((hown.adds (by repeat (first | with_reducible exact Adds.refl _ | with_reducible refine Adds.alloc ?_ _ | with_reducible refine Adds.more ?_ _ _ | with_reducible refine Adds.drew ?_ | with_reducible refine Adds.drewN ?_ _))).alloc _) (Sh.Alone1.at_alloc ⟨fp, fv⟩ _ _ (by simp only [size_more, alloc_sz]; omega)) (Sh.Own.block_lt hown (by simp only [size_more, alloc_sz]; omega))).mono ?_; rintro e w7 ⟨v7, rfl, hown7⟩))
  go_ret2
  exact ⟨⟨_, rfl, hown7.lst⟩, Adds.trans (by repeat (first | with_reducible exact Adds.refl _ | with_reducible refine Adds.alloc ?_ _ | with_reducible refine Adds.more ?_ _ _ | with_reducible refine Adds.drew ?_ | with_reducible refine Adds.drewN ?_ _)) (Adds.of hown7.2.1)⟩

set_option maxHeartbeats 2000000 in
set_option maxRecDepth 20000 in
theorem update_none (s : ByteArray) (ev : Value) (pos : Int) (key : ByteArray) (has : Bool) (dv : Value) (w : World) (hs : s.size ≤ 2000) (c : Int) (hx : parseA s.toList = .error c) (h : ∃ ao n cap, ev = .slice ao n cap) (hd : ∃ ao n cap, dv = .slice ao n cap) :
    Calls Tryz.prog 59 #[.string s, ev, .agg #[.int .i64 pos, .string key, .bool has, dv]] w fun e w' => e = .returned (.tuple #[.slice none 0 0, .int .i64 c]) ∧ Adds w w' := by
  have kP := fun w' => parseAll_any s hs w'
  have hc := parseA_err hx
  have hcb : (c != 0) = true := by simpa using hc
  have hcb' : (c == 0) = false := by simpa using hc
  rw [hx] at kP
  simp only [GaveR] at kP
  obtain ⟨ao, n, cap, rfl⟩ := h
  obtain ⟨vo, nd, vc, rfl⟩ := hd
  clear hx
  go_enter Tryz.func59, Tryz.ntmps59
  go_wp2_with (go_at_call 28; refine (kP _).mono ?_; rintro e w1 ⟨rfl, os1, n1, rfl⟩)
  go_ret2
  exact ⟨rfl, (by repeat (first | with_reducible exact Adds.refl _ | with_reducible refine Adds.alloc ?_ _ | with_reducible refine Adds.more ?_ _ _ | with_reducible refine Adds.drew ?_ | with_reducible refine Adds.drewN ?_ _))⟩

set_option maxHeartbeats 2000000 in
set_option maxRecDepth 20000 in
theorem update_bad (s : ByteArray) (ev : Value) (es : List Sh.F) (pos : Int) (key : ByteArray) (has : Bool) (dv : Value) (doc : List F) (w : World) (hs : s.size ≤ 2000) (h : Sh.Lst w ev es) (hle : es.length ≤ 900) (hd : Lst w dv doc) (xs : List E) (hx : parseA s.toList = .ok xs) (hM : ¬ (Sh.May es ∧ MayC key has doc)) :
    Calls Tryz.prog 59 #[.string s, ev, .agg #[.int .i64 pos, .string key, .bool has, dv]] w fun e w' => e = .returned (.tuple #[.slice none 0 0, .int .i64 1]) ∧ Adds w w' := by
  have kP := fun w' => parseAll_any s hs w'
  rw [hx] at kP
  simp only [GaveR] at kP
  have kC := fun w' hA => Sh.check_any ev es w' (h.adds hA) (by omega)
  have kM := fun w' hA => mayBe_any pos key has dv doc w' (hd.adds hA)
  obtain ⟨ao, cap, rfl, hcap, _⟩ := h
  obtain ⟨vo, vc, rfl, _, _⟩ := hd
  clear hx
  by_cases h1 : Sh.May es
  · have h2 : ¬ MayC key has doc := fun h => hM ⟨h1, h⟩
    rw [Sh.err_ok h1] at kC
    rw [decide_eq_false h2] at kM
    clear hM h1 h2
    generalize es.length = n at *
    generalize doc.length = nd at *
    go_enter Tryz.func59, Tryz.ntmps59
    go_wp2_with (first
      | (go_at_call 28; refine (kP _).mono ?_; rintro e w1 ⟨⟨no, nc, D, rfl, hT, hok⟩, os1, n1, rfl⟩; clear hT hok; generalize xs.length = nx at *)
      | (go_at_call 29; refine (kC _ (by repeat (first | with_reducible exact Adds.refl _ | with_reducible refine Adds.alloc ?_ _ | with_reducible refine Adds.more ?_ _ _ | with_reducible refine Adds.drew ?_ | with_reducible refine Adds.drewN ?_ _))).mono ?_; rintro e w2 ⟨rfl, os2, n2, rfl⟩)
      | (go_at_call 80; refine (kM _ (by repeat (first | with_reducible exact Adds.refl _ | with_reducible refine Adds.alloc ?_ _ | with_reducible refine Adds.more ?_ _ _ | with_reducible refine Adds.drew ?_ | with_reducible refine Adds.drewN ?_ _))).mono ?_; rintro e w3 ⟨rfl, os3, n3, rfl⟩))
    go_ret2
    exact ⟨rfl, (by repeat (first | with_reducible exact Adds.refl _ | with_reducible refine Adds.alloc ?_ _ | with_reducible refine Adds.more ?_ _ _ | with_reducible refine Adds.drew ?_ | with_reducible refine Adds.drewN ?_ _))⟩
  · rw [Sh.err_bad h1] at kC
    clear hM h1
    generalize es.length = n at *
    generalize doc.length = nd at *
    go_enter Tryz.func59, Tryz.ntmps59
    go_wp2_with (first
      | (go_at_call 28; refine (kP _).mono ?_; rintro e w1 ⟨⟨no, nc, D, rfl, hT, hok⟩, os1, n1, rfl⟩; clear hT hok; generalize xs.length = nx at *)
      | (go_at_call 29; refine (kC _ (by repeat (first | with_reducible exact Adds.refl _ | with_reducible refine Adds.alloc ?_ _ | with_reducible refine Adds.more ?_ _ _ | with_reducible refine Adds.drew ?_ | with_reducible refine Adds.drewN ?_ _))).mono ?_; rintro e w2 ⟨rfl, os2, n2, rfl⟩))
    go_ret2
    exact ⟨rfl, (by repeat (first | with_reducible exact Adds.refl _ | with_reducible refine Adds.alloc ?_ _ | with_reducible refine Adds.more ?_ _ _ | with_reducible refine Adds.drew ?_ | with_reducible refine Adds.drewN ?_ _))⟩

theorem update_any (s : ByteArray) (ev : Value) (es : List Sh.F) (pos : Int) (key : ByteArray) (has : Bool) (dv : Value) (doc : List F) (w : World) (hs : s.size ≤ 2000) (h : Sh.Lst w ev es) (hle : es.length ≤ 900) (hd : Lst w dv doc) :
    Calls Tryz.prog 59 #[.string s, ev, .agg #[.int .i64 pos, .string key, .bool has, dv]] w fun e w' => GaveB (updA s.toList es key has doc) e w' ∧ Adds w w' := by
  unfold updA
  cases hx : parseA s.toList with
  | error c =>
    simp only [GaveB]
    exact update_none s ev pos key has dv w hs c hx (by obtain ⟨ao, cap, e, _⟩ := h; exact ⟨ao, _, cap, e⟩) (by obtain ⟨ao, cap, e, _⟩ := hd; exact ⟨ao, _, cap, e⟩)
  | ok xs =>
    by_cases hM : Sh.May es ∧ MayC key has doc
    · simp only [if_pos hM, GaveB]
      unfold updE
      cases has with
      | false => exact update_gone s ev es pos key dv doc w hs h hle hd xs hx hM.1 hM.2
      | true =>
        cases hE : entryOf xs key doc with
        | none => exact update_bare s ev es pos key dv doc w hs h hle hd xs hx hM.1 hM.2 hE
        | some f => exact update_put s ev es pos key dv doc w hs h hle hd xs hx hM.1 hM.2 f hE
    · simp only [if_neg hM, GaveB]
      exact update_bad s ev es pos key has dv doc w hs h hle hd xs hx hM

end Go.Proofs.YtiacnmcdfpmcfaaGreatDoor
