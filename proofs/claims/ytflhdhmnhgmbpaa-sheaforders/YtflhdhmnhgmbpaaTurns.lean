/-
  The walk of the statement SheafTurns: it returns true, whatever is handed in, and leaves all that was there as it was.
-/
import Derived.Test.YtflhdhmnhgmbpaaRefs
import Derived.Test.YtflhdhmnhgmbpaaAwake
namespace Go.Proofs.Ytflhdhmnhgmbpaa
open Go.RowKit
attribute [local go_sem] cell?_more frozen?_more setCell_more size_more tape_more drew_more drewN_more more_drew more_drewN one_out plus_out plus_end lt_one le_p2 le_p3 le_p4 le_p5 le_p6 le_p7 le_p8 le_p9 le_p10 le_p11 le_p12 le_p13 le_p14 le_p15 le_p16 le_p17 le_p18 le_p19 le_p20 le_p21 le_p22 le_p23 le_p24 le_q0 le_q1 lt_q1 le_q2 lt_q2 le_q3 lt_q3 le_q4 lt_q4 le_q5 lt_q5 le_q6 lt_q6 le_q7 lt_q7 le_q8 lt_q8 le_q9 lt_q9 le_q10 lt_q10 le_q11 lt_q11 le_q12 lt_q12 le_q13 lt_q13 le_q14 lt_q14 le_q15 lt_q15 le_q16 lt_q16 le_q17 lt_q17 le_q18 lt_q18 le_q19 lt_q19 le_q20 lt_q20 le_q21 lt_q21 le_q22 lt_q22 le_q23 lt_q23 le_q24 lt_q24

theorem refSame_eq (s s' : Value) (l : List F) (w : World) (h : Lst w s l) (h' : Lst w s' l) (hl : l.length ≤ 1000) :
    Calls Try.prog 15 #[s, s'] w fun e w' => e = .returned (.bool true) ∧ Adds w w' := by
  have := refSame_any s s' l l w h h' hl hl
  rwa [decide_eq_true rfl] at this

theorem refMay_yes (s : Value) (l : List F) (w : World) (h : Lst w s l) (hl : l.length ≤ 1000) (hm : May l) :
    Calls Try.prog 10 #[s] w fun e w' => e = .returned (.bool true) ∧ Adds w w' := by
  have := refMay_any s l w h hl
  rwa [decide_eq_true hm] at this

theorem refMay_no (s : Value) (l : List F) (w : World) (h : Lst w s l) (hl : l.length ≤ 1000) (hm : ¬ May l) :
    Calls Try.prog 10 #[s] w fun e w' => e = .returned (.bool false) ∧ Adds w w' := by
  have := refMay_any s l w h hl
  rwa [decide_eq_false hm] at this

theorem check_yes (s : Value) (l : List F) (w : World) (h : Lst w s l) (hl : l.length ≤ 1000) (hm : May l) :
    Calls Try.prog 11 #[s] w fun e w' => e = .returned (.int .i64 0) ∧ Adds w w' := by
  have := check_any s l w h hl
  rwa [err_ok hm] at this

theorem check_no (s : Value) (l : List F) (w : World) (h : Lst w s l) (hl : l.length ≤ 1000) (hm : ¬ May l) :
    Calls Try.prog 11 #[s] w fun e w' => e = .returned (.int .i64 1) ∧ Adds w w' := by
  have := check_any s l w h hl
  rwa [err_bad hm] at this

theorem got_at {p : ByteArray} {l : List F} (h : firstAt p l < l.length) : got p l = l[firstAt p l].val := by
  unfold got
  rw [dif_pos h]

theorem refSet_ok (s : Value) (fs : List F) (f : F) (w : World) (h : Lst w s fs) (hle : fs.length ≤ 1000) (hr : Rises fs) :
    Calls Try.prog 16 #[s, .string f.path, .string f.val] w fun e w' => ∃ r, e = .returned r ∧ Lst w' r (setDoc fs f) ∧ Adds w w' := by
  have := refSet_any s fs f w h hle
  rwa [after_rest _ hr, ← setDoc_rest] at this

theorem refDrop_ok (s : Value) (fs : List F) (p : ByteArray) (w : World) (h : Lst w s fs) (hle : fs.length ≤ 1000) (hr : Rises fs) :
    Calls Try.prog 17 #[s, .string p] w fun e w' => ∃ r, e = .returned r ∧ Lst w' r (dropDoc fs p) ∧ Adds w w' := by
  have := refDrop_any s fs p w h hle
  rwa [← dropDoc_without p hr] at this

theorem dropDoc_length (l : List F) (p : ByteArray) : (dropDoc l p).length ≤ l.length := by
  unfold dropDoc
  have := cutAt_le p l
  split <;> simp <;> omega

set_option maxHeartbeats 4000000 in
set_option maxRecDepth 20000 in
theorem sheafTurns_any (s : Value) (fs : List F) (f : F) (w : World) (h : Lst w s fs) :
    Calls Try.prog 3 #[s, .string f.path, .string f.val] w fun e w' => e = .returned (.bool true) ∧ Adds w w' := by
  by_cases hl3 : fs.length ≤ 300
  · have hl3' : ¬ (300 : Int) < (fs.length : Int) := by omega
    by_cases hM : May fs
    · have hr := hM.rises
      have k8 := fun w' hA => set_ok s fs f w' (h.adds hA) (by omega) hM
      have k9 := fun w' hA => drop_ok s fs f.path w' (h.adds hA) (by omega) hM
      have k10 := fun w' hA => refMay_yes s fs w' (h.adds hA) (by omega) hM
      have k11 := fun w' hA => check_yes s fs w' (h.adds hA) (by omega) hM
      have k13 := fun w' hA => get_ok s fs f.path w' (h.adds hA) (by omega) hM
      have k14 := fun w' hA => refAt_any s fs f.path w' (h.adds hA) (by omega)
      have k16 := fun w' hA => refSet_ok s fs f w' (h.adds hA) (by omega) hr
      have k17 := fun w' hA => refDrop_ok s fs f.path w' (h.adds hA) (by omega) hr
      have hmS : May (setDoc fs f) := (may_iff _).2 (setDoc_rises hr)
      have hmD : May (dropDoc fs f.path) := (may_iff _).2 (dropDoc_rises hr _)
      have gotS := (firstAt_setDoc fs f).2
      have hasS : hasAt f.path (setDoc fs f) = true := by
        rw [hasAt_first _ hmS.rises]
        exact decide_eq_true (firstAt_setDoc fs f).1
      have hasD := dropDoc_not f.path hr
      have gotD := got_no hmD.rises hasD
      have hbS : (setDoc fs f).length ≤ 1000 := by
        rw [setDoc_length]
        split <;> omega
      have hbD : (dropDoc fs f.path).length ≤ 1000 := Nat.le_trans (dropDoc_length _ _) (by omega)
      have kE1 := fun r w' hA (l1 : Lst w' r (setDoc fs f)) => same_any s r fs (setDoc fs f) w' (h.adds hA) l1 (by omega) hbS
      have kE2 := fun r w' hA (l1 : Lst w' r (setDoc fs f)) => refSame_any s r fs (setDoc fs f) w' (h.adds hA) l1 (by omega) hbS
      generalize decide (fs = setDoc fs f) = qE at *
      generalize setDoc fs f = S at *
      generalize dropDoc fs f.path = D at *
      have hH := hasAt_first f.path hr
      have hP : placeOf f.path fs = if firstAt f.path fs < fs.length then (firstAt f.path fs : Int) else -1 := rfl
      have hN := got_no (p := f.path) hr
      have hG := got_at (p := f.path) (l := fs)
      obtain ⟨p, v⟩ := f
      simp only at *
      obtain ⟨ao, cap, rfl, hcap, hlo⟩ := h
      cases hq : hasAt p fs
      · rw [hq] at hH k13
        have hlt : ¬ firstAt p fs < fs.length := of_decide_eq_false hH.symm
        rw [hP, if_neg hlt] at k14
        rw [hN hq] at k13
        clear hH hP hN hG hlt hq
        go_enter Try.func3, Try.ntmps3
        go_wp2_with (first
          | (go_at_call 8; (refine (k8 _ (by repeat (first | with_reducible exact Adds.refl _ | with_reducible refine Adds.alloc ?_ _ | with_reducible refine Adds.more ?_ _ _ | with_reducible refine Adds.drew ?_ | with_reducible refine Adds.drewN ?_ _))).mono ?_); rintro e w1 ⟨r1, rfl, l1, os1, n1, rfl⟩)
          | (go_at_call 9; (refine (k9 _ (by repeat (first | with_reducible exact Adds.refl _ | with_reducible refine Adds.alloc ?_ _ | with_reducible refine Adds.more ?_ _ _ | with_reducible refine Adds.drew ?_ | with_reducible refine Adds.drewN ?_ _))).mono ?_); rintro e w2 ⟨r2, rfl, l2, os2, n2, rfl⟩)
          | (go_at_call 10; (refine (k10 _ (by repeat (first | with_reducible exact Adds.refl _ | with_reducible refine Adds.alloc ?_ _ | with_reducible refine Adds.more ?_ _ _ | with_reducible refine Adds.drew ?_ | with_reducible refine Adds.drewN ?_ _))).mono ?_); rintro e w3 ⟨rfl, os3, n3, rfl⟩)
          | (go_at_call 13; (with_reducible refine (k13 _ (by repeat (first | with_reducible exact Adds.refl _ | with_reducible refine Adds.alloc ?_ _ | with_reducible refine Adds.more ?_ _ _ | with_reducible refine Adds.drew ?_ | with_reducible refine Adds.drewN ?_ _))).mono ?_); rintro e w4 ⟨rfl, os4, n4, rfl⟩; clear k13)
          | (go_at_call 14; (refine (k14 _ (by repeat (first | with_reducible exact Adds.refl _ | with_reducible refine Adds.alloc ?_ _ | with_reducible refine Adds.more ?_ _ _ | with_reducible refine Adds.drew ?_ | with_reducible refine Adds.drewN ?_ _))).mono ?_); rintro e w5 ⟨rfl, hw⟩; subst w5)
          | (go_at_call 13; (with_reducible refine (get_ok _ _ _ _ (l1.adds (by repeat (first | with_reducible exact Adds.refl _ | with_reducible refine Adds.alloc ?_ _ | with_reducible refine Adds.more ?_ _ _ | with_reducible refine Adds.drew ?_ | with_reducible refine Adds.drewN ?_ _))) hbS hmS).mono ?_); rw [gotS, hasS]; rintro e w6 ⟨rfl, os6, n6, rfl⟩)
          | (go_at_call 13; (with_reducible refine (get_ok _ _ _ _ (l2.adds (by repeat (first | with_reducible exact Adds.refl _ | with_reducible refine Adds.alloc ?_ _ | with_reducible refine Adds.more ?_ _ _ | with_reducible refine Adds.drew ?_ | with_reducible refine Adds.drewN ?_ _))) hbD hmD).mono ?_); rw [gotD, hasD]; rintro e w7 ⟨rfl, os7, n7, rfl⟩)
          | (go_at_call 11; (refine (k11 _ (by repeat (first | with_reducible exact Adds.refl _ | with_reducible refine Adds.alloc ?_ _ | with_reducible refine Adds.more ?_ _ _ | with_reducible refine Adds.drew ?_ | with_reducible refine Adds.drewN ?_ _))).mono ?_); rintro e w8 ⟨rfl, os8, n8, rfl⟩)
          | (go_at_call 16; (refine (k16 _ (by repeat (first | with_reducible exact Adds.refl _ | with_reducible refine Adds.alloc ?_ _ | with_reducible refine Adds.more ?_ _ _ | with_reducible refine Adds.drew ?_ | with_reducible refine Adds.drewN ?_ _))).mono ?_); rintro e w9 ⟨r9, rfl, l9, os9, n9, rfl⟩)
          | (go_at_call 15; (with_reducible refine (refSame_eq _ _ _ _ (l1.adds (by repeat (first | with_reducible exact Adds.refl _ | with_reducible refine Adds.alloc ?_ _ | with_reducible refine Adds.more ?_ _ _ | with_reducible refine Adds.drew ?_ | with_reducible refine Adds.drewN ?_ _))) l9 hbS).mono ?_); rintro e w10 ⟨rfl, os10, n10, rfl⟩)
          | (go_at_call 17; (refine (k17 _ (by repeat (first | with_reducible exact Adds.refl _ | with_reducible refine Adds.alloc ?_ _ | with_reducible refine Adds.more ?_ _ _ | with_reducible refine Adds.drew ?_ | with_reducible refine Adds.drewN ?_ _))).mono ?_); rintro e w11 ⟨r11, rfl, l11, os11, n11, rfl⟩)
          | (go_at_call 15; (with_reducible refine (refSame_eq _ _ _ _ (l2.adds (by repeat (first | with_reducible exact Adds.refl _ | with_reducible refine Adds.alloc ?_ _ | with_reducible refine Adds.more ?_ _ _ | with_reducible refine Adds.drew ?_ | with_reducible refine Adds.drewN ?_ _))) l11 hbD).mono ?_); rintro e w12 ⟨rfl, os12, n12, rfl⟩)
          | (go_at_call 18; (refine (kE1 _ _ (by repeat (first | with_reducible exact Adds.refl _ | with_reducible refine Adds.alloc ?_ _ | with_reducible refine Adds.more ?_ _ _ | with_reducible refine Adds.drew ?_ | with_reducible refine Adds.drewN ?_ _)) (l1.adds (by repeat (first | with_reducible exact Adds.refl _ | with_reducible refine Adds.alloc ?_ _ | with_reducible refine Adds.more ?_ _ _ | with_reducible refine Adds.drew ?_ | with_reducible refine Adds.drewN ?_ _)))).mono ?_); rintro e w13 ⟨rfl, os13, n13, rfl⟩)
          | (go_at_call 15; (with_reducible refine (kE2 _ _ (by repeat (first | with_reducible exact Adds.refl _ | with_reducible refine Adds.alloc ?_ _ | with_reducible refine Adds.more ?_ _ _ | with_reducible refine Adds.drew ?_ | with_reducible refine Adds.drewN ?_ _)) (l1.adds (by repeat (first | with_reducible exact Adds.refl _ | with_reducible refine Adds.alloc ?_ _ | with_reducible refine Adds.more ?_ _ _ | with_reducible refine Adds.drew ?_ | with_reducible refine Adds.drewN ?_ _)))).mono ?_); rintro e w14 ⟨rfl, os14, n14, rfl⟩)
          | (go_at_call 7; (refine (awake_any _).mono ?_); rintro e w15 ⟨rfl, os15, n15, rfl⟩))
        go_ret
        refine ⟨rfl, ?_⟩
        repeat (first | with_reducible exact Adds.refl _ | with_reducible refine Adds.alloc ?_ _ | with_reducible refine Adds.more ?_ _ _ | with_reducible refine Adds.drew ?_ | with_reducible refine Adds.drewN ?_ _)
      · rw [hq] at hH k13
        have hlt : firstAt p fs < fs.length := of_decide_eq_true hH.symm
        rw [hP, if_pos hlt] at k14
        rcases hlo with rfl | ⟨b, off, rfl, hbb, hl⟩
        · simp at hlt
        have c1 := (hl _ hlt).2
        rw [← hG hlt] at c1
        generalize firstAt p fs = K at *
        generalize got p fs = g at *
        clear hH hP hN hG hq
        go_enter Try.func3, Try.ntmps3
        go_wp2_with (first
          | (go_at_call 8; (refine (k8 _ (by repeat (first | with_reducible exact Adds.refl _ | with_reducible refine Adds.alloc ?_ _ | with_reducible refine Adds.more ?_ _ _ | with_reducible refine Adds.drew ?_ | with_reducible refine Adds.drewN ?_ _))).mono ?_); rintro e w1 ⟨r1, rfl, l1, os1, n1, rfl⟩)
          | (go_at_call 9; (refine (k9 _ (by repeat (first | with_reducible exact Adds.refl _ | with_reducible refine Adds.alloc ?_ _ | with_reducible refine Adds.more ?_ _ _ | with_reducible refine Adds.drew ?_ | with_reducible refine Adds.drewN ?_ _))).mono ?_); rintro e w2 ⟨r2, rfl, l2, os2, n2, rfl⟩)
          | (go_at_call 10; (refine (k10 _ (by repeat (first | with_reducible exact Adds.refl _ | with_reducible refine Adds.alloc ?_ _ | with_reducible refine Adds.more ?_ _ _ | with_reducible refine Adds.drew ?_ | with_reducible refine Adds.drewN ?_ _))).mono ?_); rintro e w3 ⟨rfl, os3, n3, rfl⟩)
          | (go_at_call 13; (with_reducible refine (k13 _ (by repeat (first | with_reducible exact Adds.refl _ | with_reducible refine Adds.alloc ?_ _ | with_reducible refine Adds.more ?_ _ _ | with_reducible refine Adds.drew ?_ | with_reducible refine Adds.drewN ?_ _))).mono ?_); rintro e w4 ⟨rfl, os4, n4, rfl⟩; clear k13)
          | (go_at_call 14; (refine (k14 _ (by repeat (first | with_reducible exact Adds.refl _ | with_reducible refine Adds.alloc ?_ _ | with_reducible refine Adds.more ?_ _ _ | with_reducible refine Adds.drew ?_ | with_reducible refine Adds.drewN ?_ _))).mono ?_); rintro e w5 ⟨rfl, hw⟩; subst w5)
          | (go_at_call 13; (with_reducible refine (get_ok _ _ _ _ (l1.adds (by repeat (first | with_reducible exact Adds.refl _ | with_reducible refine Adds.alloc ?_ _ | with_reducible refine Adds.more ?_ _ _ | with_reducible refine Adds.drew ?_ | with_reducible refine Adds.drewN ?_ _))) hbS hmS).mono ?_); rw [gotS, hasS]; rintro e w6 ⟨rfl, os6, n6, rfl⟩)
          | (go_at_call 13; (with_reducible refine (get_ok _ _ _ _ (l2.adds (by repeat (first | with_reducible exact Adds.refl _ | with_reducible refine Adds.alloc ?_ _ | with_reducible refine Adds.more ?_ _ _ | with_reducible refine Adds.drew ?_ | with_reducible refine Adds.drewN ?_ _))) hbD hmD).mono ?_); rw [gotD, hasD]; rintro e w7 ⟨rfl, os7, n7, rfl⟩)
          | (go_at_call 11; (refine (k11 _ (by repeat (first | with_reducible exact Adds.refl _ | with_reducible refine Adds.alloc ?_ _ | with_reducible refine Adds.more ?_ _ _ | with_reducible refine Adds.drew ?_ | with_reducible refine Adds.drewN ?_ _))).mono ?_); rintro e w8 ⟨rfl, os8, n8, rfl⟩)
          | (go_at_call 16; (refine (k16 _ (by repeat (first | with_reducible exact Adds.refl _ | with_reducible refine Adds.alloc ?_ _ | with_reducible refine Adds.more ?_ _ _ | with_reducible refine Adds.drew ?_ | with_reducible refine Adds.drewN ?_ _))).mono ?_); rintro e w9 ⟨r9, rfl, l9, os9, n9, rfl⟩)
          | (go_at_call 15; (with_reducible refine (refSame_eq _ _ _ _ (l1.adds (by repeat (first | with_reducible exact Adds.refl _ | with_reducible refine Adds.alloc ?_ _ | with_reducible refine Adds.more ?_ _ _ | with_reducible refine Adds.drew ?_ | with_reducible refine Adds.drewN ?_ _))) l9 hbS).mono ?_); rintro e w10 ⟨rfl, os10, n10, rfl⟩)
          | (go_at_call 17; (refine (k17 _ (by repeat (first | with_reducible exact Adds.refl _ | with_reducible refine Adds.alloc ?_ _ | with_reducible refine Adds.more ?_ _ _ | with_reducible refine Adds.drew ?_ | with_reducible refine Adds.drewN ?_ _))).mono ?_); rintro e w11 ⟨r11, rfl, l11, os11, n11, rfl⟩)
          | (go_at_call 15; (with_reducible refine (refSame_eq _ _ _ _ (l2.adds (by repeat (first | with_reducible exact Adds.refl _ | with_reducible refine Adds.alloc ?_ _ | with_reducible refine Adds.more ?_ _ _ | with_reducible refine Adds.drew ?_ | with_reducible refine Adds.drewN ?_ _))) l11 hbD).mono ?_); rintro e w12 ⟨rfl, os12, n12, rfl⟩)
          | (go_at_call 18; (refine (kE1 _ _ (by repeat (first | with_reducible exact Adds.refl _ | with_reducible refine Adds.alloc ?_ _ | with_reducible refine Adds.more ?_ _ _ | with_reducible refine Adds.drew ?_ | with_reducible refine Adds.drewN ?_ _)) (l1.adds (by repeat (first | with_reducible exact Adds.refl _ | with_reducible refine Adds.alloc ?_ _ | with_reducible refine Adds.more ?_ _ _ | with_reducible refine Adds.drew ?_ | with_reducible refine Adds.drewN ?_ _)))).mono ?_); rintro e w13 ⟨rfl, os13, n13, rfl⟩)
          | (go_at_call 15; (with_reducible refine (kE2 _ _ (by repeat (first | with_reducible exact Adds.refl _ | with_reducible refine Adds.alloc ?_ _ | with_reducible refine Adds.more ?_ _ _ | with_reducible refine Adds.drew ?_ | with_reducible refine Adds.drewN ?_ _)) (l1.adds (by repeat (first | with_reducible exact Adds.refl _ | with_reducible refine Adds.alloc ?_ _ | with_reducible refine Adds.more ?_ _ _ | with_reducible refine Adds.drew ?_ | with_reducible refine Adds.drewN ?_ _)))).mono ?_); rintro e w14 ⟨rfl, os14, n14, rfl⟩)
          | (go_at_call 7; (refine (awake_any _).mono ?_); rintro e w15 ⟨rfl, os15, n15, rfl⟩))
        go_ret
        refine ⟨rfl, ?_⟩
        repeat (first | with_reducible exact Adds.refl _ | with_reducible refine Adds.alloc ?_ _ | with_reducible refine Adds.more ?_ _ _ | with_reducible refine Adds.drew ?_ | with_reducible refine Adds.drewN ?_ _)
    · have k8 := fun w' hA => set_bad s fs f w' (h.adds hA) (by omega) hM
      have k9 := fun w' hA => drop_bad s fs f.path w' (h.adds hA) (by omega) hM
      have k10 := fun w' hA => refMay_no s fs w' (h.adds hA) (by omega) hM
      have k11 := fun w' hA => check_no s fs w' (h.adds hA) (by omega) hM
      obtain ⟨p, v⟩ := f
      simp only at *
      obtain ⟨ao, cap, rfl, hcap, hlo⟩ := h
      go_enter Try.func3, Try.ntmps3
      go_wp2_with (first
        | (go_at_call 8; (refine (k8 _ (by repeat (first | with_reducible exact Adds.refl _ | with_reducible refine Adds.alloc ?_ _ | with_reducible refine Adds.more ?_ _ _ | with_reducible refine Adds.drew ?_ | with_reducible refine Adds.drewN ?_ _))).mono ?_); rintro e w1 ⟨rfl, os1, n1, rfl⟩)
        | (go_at_call 9; (refine (k9 _ (by repeat (first | with_reducible exact Adds.refl _ | with_reducible refine Adds.alloc ?_ _ | with_reducible refine Adds.more ?_ _ _ | with_reducible refine Adds.drew ?_ | with_reducible refine Adds.drewN ?_ _))).mono ?_); rintro e w2 ⟨rfl, os2, n2, rfl⟩)
        | (go_at_call 10; (refine (k10 _ (by repeat (first | with_reducible exact Adds.refl _ | with_reducible refine Adds.alloc ?_ _ | with_reducible refine Adds.more ?_ _ _ | with_reducible refine Adds.drew ?_ | with_reducible refine Adds.drewN ?_ _))).mono ?_); rintro e w3 ⟨rfl, os3, n3, rfl⟩)
        | (go_at_call 11; (refine (k11 _ (by repeat (first | with_reducible exact Adds.refl _ | with_reducible refine Adds.alloc ?_ _ | with_reducible refine Adds.more ?_ _ _ | with_reducible refine Adds.drew ?_ | with_reducible refine Adds.drewN ?_ _))).mono ?_); rintro e w8 ⟨rfl, os8, n8, rfl⟩)
        | (go_at_call 12; (refine (none_yes _).mono ?_); rintro e w6 ⟨rfl, hw⟩; subst w6)
        | (go_at_call 7; (refine (awake_any _).mono ?_); rintro e w15 ⟨rfl, os15, n15, rfl⟩))
      go_ret
      refine ⟨rfl, ?_⟩
      repeat (first | with_reducible exact Adds.refl _ | with_reducible refine Adds.alloc ?_ _ | with_reducible refine Adds.more ?_ _ _ | with_reducible refine Adds.drew ?_ | with_reducible refine Adds.drewN ?_ _)
  · have hl3' : (300 : Int) < (fs.length : Int) := by omega
    obtain ⟨ao, cap, rfl, hcap, hlo⟩ := h
    go_enter Try.func3, Try.ntmps3
    go_wp2_with (go_at_call 7; refine (awake_any _).mono ?_; rintro e w1 ⟨rfl, os5, n5, rfl⟩)
    go_ret
    refine ⟨rfl, ?_⟩
    repeat (first | with_reducible exact Adds.refl _ | with_reducible refine Adds.alloc ?_ _ | with_reducible refine Adds.more ?_ _ _ | with_reducible refine Adds.drew ?_ | with_reducible refine Adds.drewN ?_ _)

end Go.Proofs.Ytflhdhmnhgmbpaa
