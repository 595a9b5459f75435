/-
  The function Find of package index, by a contract.
-/
import Derived.Test.YtiacnmcdfpmcfaaGreatDoorQ07
namespace Go.Proofs.YtiacnmcdfpmcfaaGreatDoor.Sh
open Go.RowKit
attribute [local go_sem] cell?_more frozen?_more setCell_more size_more tape_more drew_more drewN_more more_drew more_drewN one_out plus_out plus_end lt_one le_p2 le_p3 le_p4 le_p5 le_p6 le_p7 le_p8 le_p9 le_p10 le_p11 le_p12 le_p13 le_p14 le_p15 le_p16 le_p17 le_p18 le_p19 le_p20 le_p21 le_p22 le_p23 le_p24 le_q0 le_q1 lt_q1 le_q2 lt_q2 le_q3 lt_q3 le_q4 lt_q4 le_q5 lt_q5 le_q6 lt_q6 le_q7 lt_q7 le_q8 lt_q8 le_q9 lt_q9 le_q10 lt_q10 le_q11 lt_q11 le_q12 lt_q12 le_q13 lt_q13 le_q14 lt_q14 le_q15 lt_q15 le_q16 lt_q16 le_q17 lt_q17 le_q18 lt_q18 le_q19 lt_q19 le_q20 lt_q20 le_q21 lt_q21 le_q22 lt_q22 le_q23 lt_q23 le_q24 lt_q24

/-- A row that a call has made: it may be appended to. -/
def Fresh (w : World) (v : Value) (l : List F) (w' : World) : Prop := ∃ B W0, w.heap.size ≤ B ∧ Own B v l W0 w'

theorem Fresh.adds {w w1 w2 : World} {v : Value} {l : List F} (h : Fresh w v l w1) (hA : Adds w1 w2) : Fresh w v l w2 := by
  obtain ⟨B, W0, hB, ho⟩ := h
  exact ⟨B, W0, hB, ho.adds hA⟩

theorem Fresh.lst {w w1 : World} {v : Value} {l : List F} (h : Fresh w v l w1) : Lst w1 v l := by
  obtain ⟨B, W0, hB, ho⟩ := h
  exact ho.lst

theorem Fresh.of {w w1 W0 : World} {v : Value} {l l' : List F} {B : Nat} (hl : l = l') (h : Own B v l' W0 w1) (hB : w.heap.size ≤ B) : Fresh w v l w1 := by
  subst hl
  exact ⟨B, W0, hB, h⟩

theorem Adds.size {w w' : World} (h : Adds w w') : w.heap.size ≤ w'.heap.size := h.below.size

theorem Lst.take' {w : World} {ao : Option Addr} {n cap k : Nat} {fs : List F} (h : Lst w (.slice ao n cap) fs) (hk : k ≤ n) : Lst w (.slice ao k cap) (fs.take k) := by
  have h' := h
  obtain ⟨ao', cap', he, _, _⟩ := h'
  simp only [Value.slice.injEq] at he
  obtain ⟨_, rfl, _⟩ := he
  exact h.take hk

theorem scan_bad (s : Value) (fs : List F) (p t : ByteArray) (m : Int) (w : World) (h : Lst w s fs) (hl6 : fs.length ≤ 1000) (hb : ¬ May fs ∨ m < 0) :
    Calls Tryz.prog 60 #[s, .string p, .string t, .int .i64 m] w fun e w' => e = .returned (.tuple #[.slice none 0 0, .int .i64 1]) ∧ Adds w w' := by
  by_cases hM : May fs
  · have hm : m < 0 := hb.resolve_left (fun h => h hM)
    have hd0 := check_yes s fs w h hl6 hM
    go_enter Tryz.func60, Tryz.ntmps60
    go_wp2_with (go_at_call 29; refine hd0.mono ?_; rintro e w1 ⟨rfl, os1, n1, rfl⟩)
    go_ret2
    exact ⟨rfl, ⟨_, _, rfl⟩⟩
  · have hd0 := check_no s fs w h hl6 hM
    go_enter Tryz.func60, Tryz.ntmps60
    go_wp2_with (go_at_call 29; refine hd0.mono ?_; rintro e w1 ⟨rfl, os1, n1, rfl⟩)
    go_ret2
    exact ⟨rfl, ⟨_, _, rfl⟩⟩

theorem take_cap {l : List F} {M : Nat} (h : l.length ≤ M) : l.take M = l.take l.length := by rw [List.take_of_length_le h, List.take_length]

set_option maxHeartbeats 4000000 in
set_option maxRecDepth 20000 in
theorem scan_all (s : Value) (fs : List F) (p : ByteArray) (M : Nat) (w : World) (h : Lst w s fs) (hl6 : fs.length ≤ 1000) (hM : May fs) :
    Calls Tryz.prog 60 #[s, .string p, .string ⟨#[]⟩, .int .i64 M] w fun e w' => ∃ v, e = .returned (.tuple #[v, .int .i64 0]) ∧ Fresh w v ((fs.drop (cutAt p fs)).take M) w' ∧ Adds w w' := by
  have hd0 := check_yes s fs w h hl6 hM
  have kF := fun w' hA => find_any s fs p w' (h.adds hA) hl6 hM.climbs
  have hcl := cutAt_le p fs
  have hm0 : ¬ (M : Int) < 0 := by omega
  generalize cutAt p fs = k at *
  obtain ⟨ao, cap, rfl, hcap, hlo⟩ := h
  have hfs : Lst w (.slice ao fs.length cap) fs := ⟨ao, cap, rfl, hcap, hlo⟩
  rcases hlo with rfl | ⟨b, off, rfl, hbb, hl⟩
  · have hk0 : k = 0 := by simpa using hcl
    subst hk0
    have HR : Hid (((([] : List F).drop 0)).take M = []) := by show _ = _; simp
    have hlen : ([] : List F).length ≤ 1000 := by simp
    have hM2 : M = 0 ∨ (0 : Int) < (M : Int) := by omega
    cases ao with
    | none =>
      rcases hM2 with rfl | hpos
      all_goals
        go_enter Tryz.func60, Tryz.ntmps60
        go_wp2_with (first
          | (go_at_call 29; (refine hd0.mono ?_); rintro e w1 ⟨rfl, os1, n1, rfl⟩)
          | (go_at_call 84; (refine (kF _ (by repeat (first | with_reducible exact Adds.refl _ | with_reducible refine Adds.alloc ?_ _ | with_reducible refine Adds.more ?_ _ _ | with_reducible refine Adds.drew ?_ | with_reducible refine Adds.drewN ?_ _))).mono ?_); rintro e w3 ⟨rfl, os3, n3, rfl⟩)
          | (go_at_call 85; refine (concat_any _ 1 [(_, [])] _ (pile1 (by simp [go_sem]) (Lst.empty _ _ _ _ [] rfl rfl)) (by simp) (by rw [joined1]; exact hlen)).mono ?_; rintro e w9 ⟨v9, rfl, ho9⟩; have hA9 := Adds.of ho9.2.1))
        go_ret2
        rw [joined1] at ho9
        refine ⟨_, rfl, Fresh.of (HR.out) ho9 ?_, Adds.trans (by repeat (first | with_reducible exact Adds.refl _ | with_reducible refine Adds.alloc ?_ _ | with_reducible refine Adds.more ?_ _ _ | with_reducible refine Adds.drew ?_ | with_reducible refine Adds.drewN ?_ _)) hA9⟩
        exact Adds.size (by repeat (first | with_reducible exact Adds.refl _ | with_reducible refine Adds.alloc ?_ _ | with_reducible refine Adds.more ?_ _ _ | with_reducible refine Adds.drew ?_ | with_reducible refine Adds.drewN ?_ _))
    | some a =>
      obtain ⟨b, off, spot⟩ := a
      by_cases hc0 : cap = 0
      · subst hc0
        rcases hM2 with rfl | hpos
        all_goals
          go_enter Tryz.func60, Tryz.ntmps60
          go_wp2_with (first
            | (go_at_call 29; (refine hd0.mono ?_); rintro e w1 ⟨rfl, os1, n1, rfl⟩)
            | (go_at_call 84; (refine (kF _ (by repeat (first | with_reducible exact Adds.refl _ | with_reducible refine Adds.alloc ?_ _ | with_reducible refine Adds.more ?_ _ _ | with_reducible refine Adds.drew ?_ | with_reducible refine Adds.drewN ?_ _))).mono ?_); rintro e w3 ⟨rfl, os3, n3, rfl⟩)
            | (go_at_call 85; refine (concat_any _ 1 [(_, [])] _ (pile1 (by simp [go_sem]) (Lst.empty _ _ _ _ [] rfl rfl)) (by simp) (by rw [joined1]; exact hlen)).mono ?_; rintro e w9 ⟨v9, rfl, ho9⟩; have hA9 := Adds.of ho9.2.1))
          go_ret2
          rw [joined1] at ho9
          refine ⟨_, rfl, Fresh.of (HR.out) ho9 ?_, Adds.trans (by repeat (first | with_reducible exact Adds.refl _ | with_reducible refine Adds.alloc ?_ _ | with_reducible refine Adds.more ?_ _ _ | with_reducible refine Adds.drew ?_ | with_reducible refine Adds.drewN ?_ _)) hA9⟩
          exact Adds.size (by repeat (first | with_reducible exact Adds.refl _ | with_reducible refine Adds.alloc ?_ _ | with_reducible refine Adds.more ?_ _ _ | with_reducible refine Adds.drew ?_ | with_reducible refine Adds.drewN ?_ _))
      · rcases hM2 with rfl | hpos
        all_goals
          go_enter Tryz.func60, Tryz.ntmps60
          go_wp2_with (first
            | (go_at_call 29; (refine hd0.mono ?_); rintro e w1 ⟨rfl, os1, n1, rfl⟩)
            | (go_at_call 84; (refine (kF _ (by repeat (first | with_reducible exact Adds.refl _ | with_reducible refine Adds.alloc ?_ _ | with_reducible refine Adds.more ?_ _ _ | with_reducible refine Adds.drew ?_ | with_reducible refine Adds.drewN ?_ _))).mono ?_); rintro e w3 ⟨rfl, os3, n3, rfl⟩)
            | (go_at_call 85; refine (concat_any _ 1 [(_, [])] _ (pile1 (by simp [go_sem]) (Lst.empty _ _ _ _ [] rfl rfl)) (by simp) (by rw [joined1]; exact hlen)).mono ?_; rintro e w9 ⟨v9, rfl, ho9⟩; have hA9 := Adds.of ho9.2.1))
          go_ret2
          rw [joined1] at ho9
          refine ⟨_, rfl, Fresh.of (HR.out) ho9 ?_, Adds.trans (by repeat (first | with_reducible exact Adds.refl _ | with_reducible refine Adds.alloc ?_ _ | with_reducible refine Adds.more ?_ _ _ | with_reducible refine Adds.drew ?_ | with_reducible refine Adds.drewN ?_ _)) hA9⟩
          exact Adds.size (by repeat (first | with_reducible exact Adds.refl _ | with_reducible refine Adds.alloc ?_ _ | with_reducible refine Adds.more ?_ _ _ | with_reducible refine Adds.drew ?_ | with_reducible refine Adds.drewN ?_ _))
  · by_cases hck : cap = k
    · subst hck
      have hkl : fs.length - cap = 0 := by omega
      have hdn : fs.drop cap = [] := List.drop_eq_nil_of_le (by omega)
      have HR : Hid ((fs.drop cap).take M = []) := by show _ = _; rw [hdn]; simp
      clear hdn
      have hlen : ([] : List F).length ≤ 1000 := by simp
      have hM2 : M = 0 ∨ (0 : Int) < (M : Int) := by omega
      rcases hM2 with rfl | hpos
      all_goals
        go_enter Tryz.func60, Tryz.ntmps60
        go_wp2_with (first
          | (go_at_call 29; (refine hd0.mono ?_); rintro e w1 ⟨rfl, os1, n1, rfl⟩)
          | (go_at_call 84; (with_reducible refine (kF _ (by repeat (first | with_reducible exact Adds.refl _ | with_reducible refine Adds.alloc ?_ _ | with_reducible refine Adds.more ?_ _ _ | with_reducible refine Adds.drew ?_ | with_reducible refine Adds.drewN ?_ _))).mono ?_); rintro e w3 ⟨rfl, os3, n3, rfl⟩)
          | (go_at_call 85; refine (concat_any _ 1 [(_, [])] _ (pile1 (by simp [go_sem]) (Lst.empty _ _ _ _ [] (by first | rfl | omega) rfl)) (by simp) (by rw [joined1]; exact hlen)).mono ?_; rintro e w9 ⟨v9, rfl, ho9⟩; have hA9 := Adds.of ho9.2.1))
        go_ret2
        rw [joined1] at ho9
        refine ⟨_, rfl, Fresh.of (HR.out) ho9 ?_, Adds.trans (by repeat (first | with_reducible exact Adds.refl _ | with_reducible refine Adds.alloc ?_ _ | with_reducible refine Adds.more ?_ _ _ | with_reducible refine Adds.drew ?_ | with_reducible refine Adds.drewN ?_ _)) hA9⟩
        exact Adds.size (by repeat (first | with_reducible exact Adds.refl _ | with_reducible refine Adds.alloc ?_ _ | with_reducible refine Adds.more ?_ _ _ | with_reducible refine Adds.drew ?_ | with_reducible refine Adds.drewN ?_ _))
    · have hdr := Lst.drop hbb hl hcap hcl
      by_cases hm : M ≤ fs.length - k
      · have hmin : ¬ (((fs.length - k : Nat)) : Int) < (M : Int) := by omega
        have hmc : M ≤ cap - k := by omega
        have hlen : ((fs.drop k).take M).length ≤ 1000 := by rw [List.length_take, List.length_drop]; omega
        have ht := hdr.take' hm
        go_enter Tryz.func60, Tryz.ntmps60
        go_wp2_with (first
          | (go_at_call 29; (refine hd0.mono ?_); rintro e w1 ⟨rfl, os1, n1, rfl⟩)
          | (go_at_call 84; (with_reducible refine (kF _ (by repeat (first | with_reducible exact Adds.refl _ | with_reducible refine Adds.alloc ?_ _ | with_reducible refine Adds.more ?_ _ _ | with_reducible refine Adds.drew ?_ | with_reducible refine Adds.drewN ?_ _))).mono ?_); rintro e w3 ⟨rfl, os3, n3, rfl⟩)
          | (go_at_call 85; refine (concat_any _ 1 [(_, (fs.drop k).take M)] _ (pile1 (by simp [go_sem]) (ht.adds (by repeat (first | with_reducible exact Adds.refl _ | with_reducible refine Adds.alloc ?_ _ | with_reducible refine Adds.more ?_ _ _ | with_reducible refine Adds.drew ?_ | with_reducible refine Adds.drewN ?_ _)))) (by simp) (by rw [joined1]; exact hlen)).mono ?_; rintro e w9 ⟨v9, rfl, ho9⟩; have hA9 := Adds.of ho9.2.1))
        go_ret2
        rw [joined1] at ho9
        refine ⟨_, rfl, Fresh.of (rfl) ho9 ?_, Adds.trans (by repeat (first | with_reducible exact Adds.refl _ | with_reducible refine Adds.alloc ?_ _ | with_reducible refine Adds.more ?_ _ _ | with_reducible refine Adds.drew ?_ | with_reducible refine Adds.drewN ?_ _)) hA9⟩
        exact Adds.size (by repeat (first | with_reducible exact Adds.refl _ | with_reducible refine Adds.alloc ?_ _ | with_reducible refine Adds.more ?_ _ _ | with_reducible refine Adds.drew ?_ | with_reducible refine Adds.drewN ?_ _))
      · have hmin : (((fs.length - k : Nat)) : Int) < (M : Int) := by omega
        have hmc : fs.length - k ≤ cap - k := by omega
        have HR : Hid ((fs.drop k).take M = (fs.drop k).take (fs.length - k)) := by
          show _ = _
          rw [take_cap (by rw [List.length_drop]; omega), List.length_drop]
        have hlen : ((fs.drop k).take (fs.length - k)).length ≤ 1000 := by rw [List.length_take, List.length_drop]; omega
        have ht := hdr.take' (Nat.le_refl _)
        go_enter Tryz.func60, Tryz.ntmps60
        go_wp2_with (first
          | (go_at_call 29; (refine hd0.mono ?_); rintro e w1 ⟨rfl, os1, n1, rfl⟩)
          | (go_at_call 84; (with_reducible refine (kF _ (by repeat (first | with_reducible exact Adds.refl _ | with_reducible refine Adds.alloc ?_ _ | with_reducible refine Adds.more ?_ _ _ | with_reducible refine Adds.drew ?_ | with_reducible refine Adds.drewN ?_ _))).mono ?_); rintro e w3 ⟨rfl, os3, n3, rfl⟩)
          | (go_at_call 85; refine (concat_any _ 1 [(_, (fs.drop k).take (fs.length - k))] _ (pile1 (by simp [go_sem]) (ht.adds (by repeat (first | with_reducible exact Adds.refl _ | with_reducible refine Adds.alloc ?_ _ | with_reducible refine Adds.more ?_ _ _ | with_reducible refine Adds.drew ?_ | with_reducible refine Adds.drewN ?_ _)))) (by simp) (by rw [joined1]; exact hlen)).mono ?_; rintro e w9 ⟨v9, rfl, ho9⟩; have hA9 := Adds.of ho9.2.1))
        go_ret2
        rw [joined1] at ho9
        refine ⟨_, rfl, Fresh.of (HR.out) ho9 ?_, Adds.trans (by repeat (first | with_reducible exact Adds.refl _ | with_reducible refine Adds.alloc ?_ _ | with_reducible refine Adds.more ?_ _ _ | with_reducible refine Adds.drew ?_ | with_reducible refine Adds.drewN ?_ _)) hA9⟩
        exact Adds.size (by repeat (first | with_reducible exact Adds.refl _ | with_reducible refine Adds.alloc ?_ _ | with_reducible refine Adds.more ?_ _ _ | with_reducible refine Adds.drew ?_ | with_reducible refine Adds.drewN ?_ _))

set_option maxHeartbeats 4000000 in
set_option maxRecDepth 20000 in
theorem scan_to (s : Value) (fs : List F) (p t : ByteArray) (ht : ¬ t.toList = []) (M : Nat) (w : World) (h : Lst w s fs) (hl6 : fs.length ≤ 1000) (hM : May fs) :
    Calls Tryz.prog 60 #[s, .string p, .string t, .int .i64 M] w fun e w' => ∃ v, e = .returned (.tuple #[v, .int .i64 0]) ∧ Fresh w v (((fs.take (cutAt t fs)).drop (cutAt p (fs.take (cutAt t fs)))).take M) w' ∧ Adds w w' := by
  have hd0 := check_yes s fs w h hl6 hM
  have kT := fun w' hA => find_any s fs t w' (h.adds hA) hl6 hM.climbs
  have hcl := cutAt_le t fs
  have hm0 : ¬ (M : Int) < 0 := by omega
  have ht1 : (t.toList == []) = false := by simpa using ht
  have ht2 : (t.toList != []) = true := by simpa using ht
  have hr2 := hM.climbs.take (cutAt t fs)
  have hcl2 := cutAt_le p (fs.take (cutAt t fs))
  have hlt : (fs.take (cutAt t fs)).length = cutAt t fs := by rw [List.length_take]; omega
  generalize cutAt t fs = c at *
  obtain ⟨ao, cap, rfl, hcap, hlo⟩ := h
  have hfs : Lst w (.slice ao fs.length cap) fs := ⟨ao, cap, rfl, hcap, hlo⟩
  have hft := hfs.take' hcl
  have kF := fun w' hA => find_any _ _ p w' (hft.adds hA) (by rw [hlt]; omega) hr2
  rw [hlt] at hcl2
  generalize cutAt p (fs.take c) = k at *
  rcases hlo with rfl | ⟨b, off, rfl, hbb, hl⟩
  · have hc0 : c = 0 := by simpa using hcl
    subst hc0
    have hk0 : k = 0 := by omega
    subst hk0
    clear hft hfs
    have HR : Hid ((((([] : List F).take 0).drop 0)).take M = []) := by show _ = _; simp
    have hlen : ([] : List F).length ≤ 1000 := by simp
    have hM2 : M = 0 ∨ (0 : Int) < (M : Int) := by omega
    cases ao with
    | none =>
      rcases hM2 with rfl | hpos
      all_goals
        go_enter Tryz.func60, Tryz.ntmps60
        go_wp2_with (first
          | (go_at_call 29; (refine hd0.mono ?_); rintro e w1 ⟨rfl, os1, n1, rfl⟩)
          | (go_at_call 84; (refine (kT _ (by repeat (first | with_reducible exact Adds.refl _ | with_reducible refine Adds.alloc ?_ _ | with_reducible refine Adds.more ?_ _ _ | with_reducible refine Adds.drew ?_ | with_reducible refine Adds.drewN ?_ _))).mono ?_); rintro e w2 ⟨rfl, os2, n2, rfl⟩; clear kT)
          | (go_at_call 84; (refine (kF _ (by repeat (first | with_reducible exact Adds.refl _ | with_reducible refine Adds.alloc ?_ _ | with_reducible refine Adds.more ?_ _ _ | with_reducible refine Adds.drew ?_ | with_reducible refine Adds.drewN ?_ _))).mono ?_); rintro e w3 ⟨rfl, os3, n3, rfl⟩)
          | (go_at_call 85; refine (concat_any _ 1 [(_, [])] _ (pile1 (by simp [go_sem]) (Lst.empty _ _ _ _ [] rfl rfl)) (by simp) (by rw [joined1]; exact hlen)).mono ?_; rintro e w9 ⟨v9, rfl, ho9⟩; have hA9 := Adds.of ho9.2.1))
        go_ret2
        rw [joined1] at ho9
        refine ⟨_, rfl, Fresh.of (HR.out) ho9 ?_, Adds.trans (by repeat (first | with_reducible exact Adds.refl _ | with_reducible refine Adds.alloc ?_ _ | with_reducible refine Adds.more ?_ _ _ | with_reducible refine Adds.drew ?_ | with_reducible refine Adds.drewN ?_ _)) hA9⟩
        exact Adds.size (by repeat (first | with_reducible exact Adds.refl _ | with_reducible refine Adds.alloc ?_ _ | with_reducible refine Adds.more ?_ _ _ | with_reducible refine Adds.drew ?_ | with_reducible refine Adds.drewN ?_ _))
    | some a =>
      obtain ⟨b, off, spot⟩ := a
      by_cases hc0 : cap = 0
      · subst hc0
        rcases hM2 with rfl | hpos
        all_goals
          go_enter Tryz.func60, Tryz.ntmps60
          go_wp2_with (first
            | (go_at_call 29; (refine hd0.mono ?_); rintro e w1 ⟨rfl, os1, n1, rfl⟩)
            | (go_at_call 84; (refine (kT _ (by repeat (first | with_reducible exact Adds.refl _ | with_reducible refine Adds.alloc ?_ _ | with_reducible refine Adds.more ?_ _ _ | with_reducible refine Adds.drew ?_ | with_reducible refine Adds.drewN ?_ _))).mono ?_); rintro e w2 ⟨rfl, os2, n2, rfl⟩; clear kT)
            | (go_at_call 84; (refine (kF _ (by repeat (first | with_reducible exact Adds.refl _ | with_reducible refine Adds.alloc ?_ _ | with_reducible refine Adds.more ?_ _ _ | with_reducible refine Adds.drew ?_ | with_reducible refine Adds.drewN ?_ _))).mono ?_); rintro e w3 ⟨rfl, os3, n3, rfl⟩)
            | (go_at_call 85; refine (concat_any _ 1 [(_, [])] _ (pile1 (by simp [go_sem]) (Lst.empty _ _ _ _ [] rfl rfl)) (by simp) (by rw [joined1]; exact hlen)).mono ?_; rintro e w9 ⟨v9, rfl, ho9⟩; have hA9 := Adds.of ho9.2.1))
          go_ret2
          rw [joined1] at ho9
          refine ⟨_, rfl, Fresh.of (HR.out) ho9 ?_, Adds.trans (by repeat (first | with_reducible exact Adds.refl _ | with_reducible refine Adds.alloc ?_ _ | with_reducible refine Adds.more ?_ _ _ | with_reducible refine Adds.drew ?_ | with_reducible refine Adds.drewN ?_ _)) hA9⟩
          exact Adds.size (by repeat (first | with_reducible exact Adds.refl _ | with_reducible refine Adds.alloc ?_ _ | with_reducible refine Adds.more ?_ _ _ | with_reducible refine Adds.drew ?_ | with_reducible refine Adds.drewN ?_ _))
      · rcases hM2 with rfl | hpos
        all_goals
          go_enter Tryz.func60, Tryz.ntmps60
          go_wp2_with (first
            | (go_at_call 29; (refine hd0.mono ?_); rintro e w1 ⟨rfl, os1, n1, rfl⟩)
            | (go_at_call 84; (refine (kT _ (by repeat (first | with_reducible exact Adds.refl _ | with_reducible refine Adds.alloc ?_ _ | with_reducible refine Adds.more ?_ _ _ | with_reducible refine Adds.drew ?_ | with_reducible refine Adds.drewN ?_ _))).mono ?_); rintro e w2 ⟨rfl, os2, n2, rfl⟩; clear kT)
            | (go_at_call 84; (refine (kF _ (by repeat (first | with_reducible exact Adds.refl _ | with_reducible refine Adds.alloc ?_ _ | with_reducible refine Adds.more ?_ _ _ | with_reducible refine Adds.drew ?_ | with_reducible refine Adds.drewN ?_ _))).mono ?_); rintro e w3 ⟨rfl, os3, n3, rfl⟩)
            | (go_at_call 85; refine (concat_any _ 1 [(_, [])] _ (pile1 (by simp [go_sem]) (Lst.empty _ _ _ _ [] rfl rfl)) (by simp) (by rw [joined1]; exact hlen)).mono ?_; rintro e w9 ⟨v9, rfl, ho9⟩; have hA9 := Adds.of ho9.2.1))
          go_ret2
          rw [joined1] at ho9
          refine ⟨_, rfl, Fresh.of (HR.out) ho9 ?_, Adds.trans (by repeat (first | with_reducible exact Adds.refl _ | with_reducible refine Adds.alloc ?_ _ | with_reducible refine Adds.more ?_ _ _ | with_reducible refine Adds.drew ?_ | with_reducible refine Adds.drewN ?_ _)) hA9⟩
          exact Adds.size (by repeat (first | with_reducible exact Adds.refl _ | with_reducible refine Adds.alloc ?_ _ | with_reducible refine Adds.more ?_ _ _ | with_reducible refine Adds.drew ?_ | with_reducible refine Adds.drewN ?_ _))
  · have hl2 : Lies w b off (fs.take c) := fun j hj => by
      have := hl j (by rw [hlt] at hj; omega)
      simpa using this
    by_cases hck : cap = k
    · subst hck
      have hcc : c = cap := by omega
      subst hcc
      have HR : Hid (((fs.take c).drop c).take M = []) := by show _ = _; rw [List.drop_eq_nil_of_le (by rw [hlt]; exact Nat.le_refl _)]; simp
      have hlen : ([] : List F).length ≤ 1000 := by simp
      have hM2 : M = 0 ∨ (0 : Int) < (M : Int) := by omega
      rcases hM2 with rfl | hpos
      all_goals
        go_enter Tryz.func60, Tryz.ntmps60
        go_wp2_with (first
          | (go_at_call 29; (refine hd0.mono ?_); rintro e w1 ⟨rfl, os1, n1, rfl⟩)
          | (go_at_call 84; (with_reducible refine (kT _ (by repeat (first | with_reducible exact Adds.refl _ | with_reducible refine Adds.alloc ?_ _ | with_reducible refine Adds.more ?_ _ _ | with_reducible refine Adds.drew ?_ | with_reducible refine Adds.drewN ?_ _))).mono ?_); rintro e w2 ⟨rfl, os2, n2, rfl⟩; clear kT)
          | (go_at_call 84; (with_reducible refine (kF _ (by repeat (first | with_reducible exact Adds.refl _ | with_reducible refine Adds.alloc ?_ _ | with_reducible refine Adds.more ?_ _ _ | with_reducible refine Adds.drew ?_ | with_reducible refine Adds.drewN ?_ _))).mono ?_); rintro e w3 ⟨rfl, os3, n3, rfl⟩)
          | (go_at_call 85; refine (concat_any _ 1 [(_, [])] _ (pile1 (by simp [go_sem]) (Lst.empty _ _ _ _ [] (by first | rfl | omega) rfl)) (by simp) (by rw [joined1]; exact hlen)).mono ?_; rintro e w9 ⟨v9, rfl, ho9⟩; have hA9 := Adds.of ho9.2.1))
        go_ret2
        rw [joined1] at ho9
        refine ⟨_, rfl, Fresh.of (HR.out) ho9 ?_, Adds.trans (by repeat (first | with_reducible exact Adds.refl _ | with_reducible refine Adds.alloc ?_ _ | with_reducible refine Adds.more ?_ _ _ | with_reducible refine Adds.drew ?_ | with_reducible refine Adds.drewN ?_ _)) hA9⟩
        exact Adds.size (by repeat (first | with_reducible exact Adds.refl _ | with_reducible refine Adds.alloc ?_ _ | with_reducible refine Adds.more ?_ _ _ | with_reducible refine Adds.drew ?_ | with_reducible refine Adds.drewN ?_ _))
    · have hdr := Lst.drop hbb hl2 (cap := cap) (n := k) (by rw [hlt]; omega) (by rw [hlt]; omega)
      rw [hlt] at hdr
      by_cases hm : M ≤ c - k
      · have hmin : ¬ (((c - k : Nat)) : Int) < (M : Int) := by omega
        have hmc : M ≤ cap - k := by omega
        have hlen : (((fs.take c).drop k).take M).length ≤ 1000 := by rw [List.length_take, List.length_drop, hlt]; omega
        have ht3 := hdr.take' hm
        go_enter Tryz.func60, Tryz.ntmps60
        go_wp2_with (first
          | (go_at_call 29; (refine hd0.mono ?_); rintro e w1 ⟨rfl, os1, n1, rfl⟩)
          | (go_at_call 84; (with_reducible refine (kT _ (by repeat (first | with_reducible exact Adds.refl _ | with_reducible refine Adds.alloc ?_ _ | with_reducible refine Adds.more ?_ _ _ | with_reducible refine Adds.drew ?_ | with_reducible refine Adds.drewN ?_ _))).mono ?_); rintro e w2 ⟨rfl, os2, n2, rfl⟩; clear kT)
          | (go_at_call 84; (with_reducible refine (kF _ (by repeat (first | with_reducible exact Adds.refl _ | with_reducible refine Adds.alloc ?_ _ | with_reducible refine Adds.more ?_ _ _ | with_reducible refine Adds.drew ?_ | with_reducible refine Adds.drewN ?_ _))).mono ?_); rintro e w3 ⟨rfl, os3, n3, rfl⟩)
          | (go_at_call 85; refine (concat_any _ 1 [(_, ((fs.take c).drop k).take M)] _ (pile1 (by simp [go_sem]) (ht3.adds (by repeat (first | with_reducible exact Adds.refl _ | with_reducible refine Adds.alloc ?_ _ | with_reducible refine Adds.more ?_ _ _ | with_reducible refine Adds.drew ?_ | with_reducible refine Adds.drewN ?_ _)))) (by simp) (by rw [joined1]; exact hlen)).mono ?_; rintro e w9 ⟨v9, rfl, ho9⟩; have hA9 := Adds.of ho9.2.1))
        go_ret2
        rw [joined1] at ho9
        refine ⟨_, rfl, Fresh.of (rfl) ho9 ?_, Adds.trans (by repeat (first | with_reducible exact Adds.refl _ | with_reducible refine Adds.alloc ?_ _ | with_reducible refine Adds.more ?_ _ _ | with_reducible refine Adds.drew ?_ | with_reducible refine Adds.drewN ?_ _)) hA9⟩
        exact Adds.size (by repeat (first | with_reducible exact Adds.refl _ | with_reducible refine Adds.alloc ?_ _ | with_reducible refine Adds.more ?_ _ _ | with_reducible refine Adds.drew ?_ | with_reducible refine Adds.drewN ?_ _))
      · have hmin : (((c - k : Nat)) : Int) < (M : Int) := by omega
        have hmc : c - k ≤ cap - k := by omega
        have HR : Hid (((fs.take c).drop k).take M = ((fs.take c).drop k).take (c - k)) := by
          show _ = _
          rw [take_cap (by rw [List.length_drop, hlt]; omega), List.length_drop, hlt]
        have hlen : (((fs.take c).drop k).take (c - k)).length ≤ 1000 := by rw [List.length_take, List.length_drop, hlt]; omega
        have ht3 := hdr.take' (Nat.le_refl _)
        go_enter Tryz.func60, Tryz.ntmps60
        go_wp2_with (first
          | (go_at_call 29; (refine hd0.mono ?_); rintro e w1 ⟨rfl, os1, n1, rfl⟩)
          | (go_at_call 84; (with_reducible refine (kT _ (by repeat (first | with_reducible exact Adds.refl _ | with_reducible refine Adds.alloc ?_ _ | with_reducible refine Adds.more ?_ _ _ | with_reducible refine Adds.drew ?_ | with_reducible refine Adds.drewN ?_ _))).mono ?_); rintro e w2 ⟨rfl, os2, n2, rfl⟩; clear kT)
          | (go_at_call 84; (with_reducible refine (kF _ (by repeat (first | with_reducible exact Adds.refl _ | with_reducible refine Adds.alloc ?_ _ | with_reducible refine Adds.more ?_ _ _ | with_reducible refine Adds.drew ?_ | with_reducible refine Adds.drewN ?_ _))).mono ?_); rintro e w3 ⟨rfl, os3, n3, rfl⟩)
          | (go_at_call 85; refine (concat_any _ 1 [(_, ((fs.take c).drop k).take (c - k))] _ (pile1 (by simp [go_sem]) (ht3.adds (by repeat (first | with_reducible exact Adds.refl _ | with_reducible refine Adds.alloc ?_ _ | with_reducible refine Adds.more ?_ _ _ | with_reducible refine Adds.drew ?_ | with_reducible refine Adds.drewN ?_ _)))) (by simp) (by rw [joined1]; exact hlen)).mono ?_; rintro e w9 ⟨v9, rfl, ho9⟩; have hA9 := Adds.of ho9.2.1))
        go_ret2
        rw [joined1] at ho9
        refine ⟨_, rfl, Fresh.of (HR.out) ho9 ?_, Adds.trans (by repeat (first | with_reducible exact Adds.refl _ | with_reducible refine Adds.alloc ?_ _ | with_reducible refine Adds.more ?_ _ _ | with_reducible refine Adds.drew ?_ | with_reducible refine Adds.drewN ?_ _)) hA9⟩
        exact Adds.size (by repeat (first | with_reducible exact Adds.refl _ | with_reducible refine Adds.alloc ?_ _ | with_reducible refine Adds.more ?_ _ _ | with_reducible refine Adds.drew ?_ | with_reducible refine Adds.drewN ?_ _))

theorem scan_ok (s : Value) (fs : List F) (p t : ByteArray) (M : Nat) (w : World) (h : Lst w s fs) (hl6 : fs.length ≤ 1000) (hM : May fs) :
    Calls Tryz.prog 60 #[s, .string p, .string t, .int .i64 M] w fun e w' => ∃ v, e = .returned (.tuple #[v, .int .i64 0]) ∧ Fresh w v ((fs.filter (isIn p t)).take M) w' ∧ Adds w w' := by
  rw [← scan_filter p t hM.climbs]
  unfold scanCut
  by_cases ht : t.toList = []
  · simp only [ht, if_true]
    obtain rfl : t = ⟨#[]⟩ := toList_inj (by rw [ht, ByteArray.toList_eq])
    exact scan_all s fs p M w h hl6 hM
  · simp only [ht, if_false]
    exact scan_to s fs p t ht M w h hl6 hM


end Go.Proofs.YtiacnmcdfpmcfaaGreatDoor.Sh
