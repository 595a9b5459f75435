/-
  The reference's order of entries, and where a key begins, by contracts.
  The reference's Find, by contract.
-/
import Derived.Test.YtiacnmcdfpmcfaaGreatDoorQ06
namespace Go.Proofs.YtiacnmcdfpmcfaaGreatDoor.Sh
open Go.RowKit
attribute [local go_sem] cell?_more frozen?_more setCell_more size_more tape_more drew_more drewN_more more_drew more_drewN one_out plus_out plus_end lt_one le_p2 le_p3 le_p4 le_p5 le_p6 le_p7 le_p8 le_p9 le_p10 le_p11 le_p12 le_p13 le_p14 le_p15 le_p16 le_p17 le_p18 le_p19 le_p20 le_p21 le_p22 le_p23 le_p24 le_q0 le_q1 lt_q1 le_q2 lt_q2 le_q3 lt_q3 le_q4 lt_q4 le_q5 lt_q5 le_q6 lt_q6 le_q7 lt_q7 le_q8 lt_q8 le_q9 lt_q9 le_q10 lt_q10 le_q11 lt_q11 le_q12 lt_q12 le_q13 lt_q13 le_q14 lt_q14 le_q15 lt_q15 le_q16 lt_q16 le_q17 lt_q17 le_q18 lt_q18 le_q19 lt_q19 le_q20 lt_q20 le_q21 lt_q21 le_q22 lt_q22 le_q23 lt_q23 le_q24 lt_q24


set_option maxHeartbeats 2000000 in
set_option maxRecDepth 20000 in
theorem less_any (f g : F) (w : World) : Calls Tryz.prog 50 #[.agg #[.string f.path, .string f.val], .agg #[.string g.path, .string g.val]] w fun e w' => e = .returned (.bool (lessE f g)) ∧ Adds w w' := by
  obtain ⟨fp, fv⟩ := f
  obtain ⟨gp, gv⟩ := g
  obtain ⟨b1, h1⟩ : ∃ b1, Op.bytesLess fp.toList gp.toList = b1 := ⟨_, rfl⟩
  obtain ⟨b2, h2⟩ : ∃ b2, Op.bytesLess fv.toList gv.toList = b2 := ⟨_, rfl⟩
  have HE : Hid (lessE ⟨fp, fv⟩ ⟨gp, gv⟩ = (b1 || (decide (fp.toList = gp.toList) && b2))) := by
    show _ = _
    rw [← h1, ← h2]
    rfl
  generalize lessE ⟨fp, fv⟩ ⟨gp, gv⟩ = z at *
  by_cases he : fp.toList = gp.toList
  · obtain rfl : fp = gp := toList_inj he
    have hb1 : b1 = false := by rw [← h1]; exact lessP_irrefl fp fp rfl
    subst hb1
    have HZ : Hid (z = b2) := by
      show _ = _
      rw [HE.out]
      simp
    clear HE he
    simp only
    cases b2
    all_goals
      go_enter Tryz.func50, Tryz.ntmps50
      go_wp2
      try go_quiet (fail)
      try go_wp2
      try go_quiet (fail)
      try go_wp2
      try go_quiet (fail)
      try go_wp2
      go_ret
      refine ⟨by rw [HZ.out]; rfl, ?_⟩
      repeat (first | with_reducible exact Adds.refl _ | with_reducible refine Adds.alloc ?_ _ | with_reducible refine Adds.more ?_ _ _ | with_reducible refine Adds.drew ?_ | with_reducible refine Adds.drewN ?_ _)
  · have he1 : (fp.toList == gp.toList) = false := by simpa using he
    have HZ : Hid (z = b1) := by
      show _ = _
      rw [HE.out, decide_eq_false he]
      simp
    clear HE
    simp only
    cases b1
    all_goals
      go_enter Tryz.func50, Tryz.ntmps50
      go_wp2
      try go_quiet (fail)
      try go_wp2
      try go_quiet (fail)
      try go_wp2
      go_ret
      refine ⟨by rw [HZ.out]; rfl, ?_⟩
      repeat (first | with_reducible exact Adds.refl _ | with_reducible refine Adds.alloc ?_ _ | with_reducible refine Adds.more ?_ _ _ | with_reducible refine Adds.drew ?_ | with_reducible refine Adds.drewN ?_ _)

set_option maxHeartbeats 2000000 in
set_option maxRecDepth 20000 in
theorem refMay_any (s : Value) (fs : List F) (w : World) (h : Lst w s fs) (hl6 : fs.length ≤ 1000) :
    Calls Tryz.prog 31 #[s] w fun e w' => e = .returned (.bool (decide (May fs))) ∧ Adds w w' := by
  obtain ⟨ao, cap, rfl, hcap, hlo⟩ := h
  go_enter Tryz.func31, Tryz.ntmps31
  go_wp2
  go_loopw [3] (fun i wr => ∃ k : Nat, (k + 1 ≤ fs.length ∨ k = 0) ∧ i = .int .i64 ((k : Int) + 1) ∧ (∀ j (hj : j < fs.length), j < k + 1 → Good fs j hj) ∧ Adds w wr) (fun i _ => fs.length - (intOf i).toNat)
  case atStart => exact ⟨0, .inr rfl, rfl, good_zero, Adds.refl _⟩
  case round =>
    obtain ⟨m, hk, rfl, hgood, os, n, rfl⟩ := hrel
    by_cases hlt : m + 1 < fs.length
    · rcases hlo with rfl | ⟨b, off, rfl, hb, hl⟩
      · simp at hlt
      obtain ⟨c0, c1⟩ := hl (m + 1) hlt
      obtain ⟨d0, d1⟩ := hl m (by omega)
      have hG' : Good fs (m + 1) hlt = (lessE fs[m] fs[m + 1] = true) := by simp [Good]
      have HG' : Hid _ := hG'
      clear hG'
      have hc := less_any fs[m] fs[m + 1]
      generalize fs[m] = pm at *
      generalize fs[m + 1] = p at *
      have hlt' : (m : Int) + 1 < (fs.length : Int) := by omega
      have hml : m < fs.length := by omega
      have hw1 : IntKind.i64.wrap (m : Int) = m := by rw [IntKind.wrap_i64]; omega
      obtain ⟨q, hq⟩ : ∃ q, lessE pm p = q := ⟨_, rfl⟩
      rw [hq] at hc
      have HQ : Hid (lessE pm p = q) := hq
      clear hq
      cases q
      · go_wp2
        go_region_with (go_at_call 50; refine (hc _).mono ?_; rintro e w1 ⟨rfl, os1, n1, rfl⟩)
        all_goals
          go_wp2
          go_ret
          refine ⟨by rw [decide_eq_false (may_bad (h := hlt) (by rw [HG'.out, HQ.out]; simp))]; rfl, ?_⟩
          repeat (first | with_reducible exact Adds.refl _ | with_reducible refine Adds.alloc ?_ _ | with_reducible refine Adds.more ?_ _ _ | with_reducible refine Adds.drew ?_ | with_reducible refine Adds.drewN ?_ _)
      · go_wp2
        go_region_with (go_at_call 50; refine (hc _).mono ?_; rintro e w1 ⟨rfl, os1, n1, rfl⟩)
        all_goals
          go_wp2
          go_roundw
          case rel =>
            refine ⟨m + 1, by omega, by go_num, ?_, ?_⟩
            · intro j hj hj2
              by_cases e : j = m + 1
              · subst e
                rw [HG'.out, HQ.out]
              · exact hgood j hj (by omega)
            · repeat (first | with_reducible exact Adds.refl _ | with_reducible refine Adds.alloc ?_ _ | with_reducible refine Adds.more ?_ _ _ | with_reducible refine Adds.drew ?_ | with_reducible refine Adds.drewN ?_ _)
          case measure => simp [intOf]; omega
    · have hlt' : ¬ (m : Int) + 1 < (fs.length : Int) := by omega
      go_wp2
      go_ret
      refine ⟨by rw [decide_eq_true (show May fs from fun j hj => hgood j hj (by omega))]; rfl, ?_⟩
      repeat (first | with_reducible exact Adds.refl _ | with_reducible refine Adds.alloc ?_ _ | with_reducible refine Adds.more ?_ _ _ | with_reducible refine Adds.drew ?_ | with_reducible refine Adds.drewN ?_ _)

set_option maxHeartbeats 2000000 in
set_option maxRecDepth 20000 in
theorem find_any (s : Value) (l : List F) (p : ByteArray) (w : World) (hl : Lst w s l) (hl6 : l.length ≤ 1000) (hr : Climbs l) :
    Calls Tryz.prog 84 #[s, .string p] w fun e w' => e = .returned (.int .i64 (cutAt p l)) ∧ Adds w w' := by
  have k := fun w' hA => search_any s l p w' (hl.adds hA) hl6 hr
  generalize hasAt p l = q at *
  generalize cutAt p l = c at *
  go_enter Tryz.func84, Tryz.ntmps84
  go_wp2_with (go_at_call 111; refine (k _ (by repeat (first | with_reducible exact Adds.refl _ | with_reducible refine Adds.alloc ?_ _ | with_reducible refine Adds.more ?_ _ _ | with_reducible refine Adds.drew ?_ | with_reducible refine Adds.drewN ?_ _))).mono ?_; rintro e w1 ⟨rfl, os1, n1, rfl⟩)
  go_ret
  refine ⟨rfl, ?_⟩
  repeat (first | with_reducible exact Adds.refl _ | with_reducible refine Adds.alloc ?_ _ | with_reducible refine Adds.more ?_ _ _ | with_reducible refine Adds.drew ?_ | with_reducible refine Adds.drewN ?_ _)

theorem check_yes (s : Value) (l : List F) (w : World) (h : Lst w s l) (hl : l.length ≤ 1000) (hm : May l) :
    Calls Tryz.prog 29 #[s] w fun e w' => e = .returned (.int .i64 0) ∧ Adds w w' := by
  have := check_any s l w h hl
  rwa [err_ok hm] at this

theorem check_no (s : Value) (l : List F) (w : World) (h : Lst w s l) (hl : l.length ≤ 1000) (hm : ¬ May l) :
    Calls Tryz.prog 29 #[s] w fun e w' => e = .returned (.int .i64 1) ∧ Adds w w' := by
  have := check_any s l w h hl
  rwa [err_bad hm] at this

end Go.Proofs.YtiacnmcdfpmcfaaGreatDoor.Sh

namespace Go.Proofs.YtiacnmcdfpmcfaaGreatDoor.Sh
open Go.RowKit
attribute [local go_sem] cell?_more frozen?_more setCell_more size_more tape_more drew_more drewN_more more_drew more_drewN one_out plus_out plus_end lt_one le_p2 le_p3 le_p4 le_p5 le_p6 le_p7 le_p8 le_p9 le_p10 le_p11 le_p12 le_p13 le_p14 le_p15 le_p16 le_p17 le_p18 le_p19 le_p20 le_p21 le_p22 le_p23 le_p24 le_q0 le_q1 lt_q1 le_q2 lt_q2 le_q3 lt_q3 le_q4 lt_q4 le_q5 lt_q5 le_q6 lt_q6 le_q7 lt_q7 le_q8 lt_q8 le_q9 lt_q9 le_q10 lt_q10 le_q11 lt_q11 le_q12 lt_q12 le_q13 lt_q13 le_q14 lt_q14 le_q15 lt_q15 le_q16 lt_q16 le_q17 lt_q17 le_q18 lt_q18 le_q19 lt_q19 le_q20 lt_q20 le_q21 lt_q21 le_q22 lt_q22 le_q23 lt_q23 le_q24 lt_q24


theorem full_whole (fs : List F) (j M : Nat) (q : F → Bool) (h : ¬ (((fs.take j).filter q).take M).length < M) : (fs.filter q).take M = ((fs.take j).filter q).take M := by
  rw [List.length_take] at h
  have e : fs.filter q = (fs.take j).filter q ++ (fs.drop j).filter q := by rw [← List.filter_append, List.take_append_drop]
  rw [e, List.take_append_of_le_length (by omega)]

theorem own_empty (w : World) : Own w.heap.size (.slice (some ⟨w.heap.size, 0, none⟩) 0 0) [] w (w.alloc (.cells #[] 70)) := by
  refine ⟨⟨by simp [cellsF], .inr ⟨w.heap.size, 0, #[], rfl, Nat.le_refl _, new_block2 w _, Nat.zero_le _, by unfold maxLen; omega, by simp, by simp [cellsF]⟩⟩, ((Adds.refl _).alloc _).below, by simp⟩

theorem Lst.slice {w : World} {s : Value} {fs : List F} (h : Lst w s fs) : ∃ o c, s = .slice o fs.length c := by
  obtain ⟨ao, cap, rfl, _⟩ := h
  exact ⟨ao, cap, rfl⟩

theorem filter_next {l : List F} {k : Nat} (hk : k < l.length) (q : F → Bool) : (l.take (k + 1)).filter q = (l.take k).filter q ++ (if q l[k] then [l[k]] else []) := by
  rw [List.take_succ_eq_append_getElem hk, List.filter_append]
  congr 1
  by_cases e : q l[k] = true <;> simp [e]

theorem take_more {A : List F} {x : F} {M : Nat} (h : (A.take M).length < M) : (A ++ [x]).take M = A.take M ++ [x] := by
  rw [List.length_take] at h
  rw [List.take_of_length_le (by simp; omega), List.take_of_length_le (by omega)]

theorem take_full {A : List F} {x : F} {M : Nat} (h : ¬ (A.take M).length < M) : (A ++ [x]).take M = A.take M := by
  rw [List.length_take] at h
  rw [List.take_append_of_le_length (by omega)]

set_option maxHeartbeats 4000000 in
set_option maxRecDepth 20000 in
theorem refScan_any (s : Value) (fs : List F) (p t : ByteArray) (M : Nat) (w : World) (h : Lst w s fs) (hle : fs.length ≤ 1000) :
    Calls Tryz.prog 25 #[s, .string p, .string t, .int .i64 M] w fun e w' => ∃ r, e = .returned r ∧ Lst w' r ((fs.filter (isIn p t)).take M) ∧ Adds w w' := by
  obtain ⟨ao, cap, rfl, hcap, hlo⟩ := h
  go_enter Tryz.func25, Tryz.ntmps25
  go_wp2
  go_loopw [9, 10] (fun nv i w2 => ∃ j : Nat, j ≤ fs.length ∧ i = .int .i64 j ∧ Own w.heap.size nv (((fs.take j).filter (isIn p t)).take M) w w2) (fun _ i _ => fs.length - (intOf i).toNat)
  case atStart => exact ⟨0, Nat.zero_le _, rfl, by simpa using own_empty w⟩
  case round =>
    obtain ⟨j, hj, rfl, hown⟩ := hrel
    have hB := hown.2.2
    by_cases hlt : j < fs.length
    · rcases hlo with rfl | ⟨b, off, rfl, hbb, hl⟩
      · simp at hlt
      obtain ⟨c0, c1⟩ := hl.below hown.2.1 hbb j hlt
      have hbl : b < wr.heap.size := by omega
      have HJ : Hid _ := filter_next hlt (isIn p t)
      have HW : Hid (¬ (((fs.take j).filter (isIn p t)).take M).length < M → (fs.filter (isIn p t)).take M = ((fs.take j).filter (isIn p t)).take M) := full_whole fs j M (isIn p t)
      have hla : (((fs.take j).filter (isIn p t)).take M).length ≤ fs.length := Nat.le_trans (List.length_take_le' _ _) (Nat.le_trans (List.length_filter_le _ _) (by rw [List.length_take]; omega))
      generalize fs[j] = x at *
      generalize (fs.take j).filter (isIn p t) = A at *
      have HI : Hid (isIn p t x = (!lessP x.path p && (decide (t.toList = []) || lessP x.path t))) := rfl
      obtain ⟨b1, h1⟩ : ∃ b1, Op.bytesLess x.path.toList p.toList = b1 := ⟨_, rfl⟩
      obtain ⟨b2, h2⟩ : ∃ b2, Op.bytesLess x.path.toList t.toList = b2 := ⟨_, rfl⟩
      have H1 : Hid (lessP x.path p = b1) := h1
      have H2 : Hid (lessP x.path t = b2) := h2
      obtain ⟨uo, uc, rfl⟩ := hown.lst.slice
      have hT := take_more (A := A) (x := x) (M := M)
      have hF := take_full (A := A) (x := x) (M := M)
      have hAM : (A.take M).length < M ∨ ¬ (A.take M).length < M := by omega
      obtain ⟨R, hR⟩ : ∃ R, A.take M = R := ⟨_, rfl⟩
      rw [hR] at hown hla hT hF hAM HW ⊢
      have HAR : Hid _ := hR
      clear hR
      by_cases hm : R.length < M
      rotate_left
      · have hm' : ¬ (R.length : Int) < (M : Int) := by omega
        clear hT hF hAM
        go_wp2
        go_ret
        exact ⟨_, rfl, by rw [HW.out hm]; exact hown.lst, Adds.of hown.2.1⟩
      have hm' : (R.length : Int) < (M : Int) := by omega
      have HT : Hid _ := hT hm
      clear hT hF hAM HW
      by_cases hte : t.toList = []
      · obtain rfl : t = ⟨#[]⟩ := toList_inj (by rw [hte, ByteArray.toList_eq])
        have hin : Hid (isIn p ⟨#[]⟩ x = !b1) := by
          show _ = _
          rw [HI.out, H1.out]
          simp [hte]
        cases b1
        · skip
          go_wp2_with (at_builtin; refine own_app rfl (.tmp 44) (.tmp 49) rfl (hown.alloc _) rfl (lst_new (f := x) (by simp [go_sem])) rfl (by simp only [List.length_singleton]; omega) ?_; intro v2 w2 hown2)
          go_roundw
          case rel => exact ⟨j + 1, by omega, by go_num, by rw [HJ.out, hin.out]; simp only [Bool.not_false, if_true]; rw [HT.out]; exact hown2⟩
          case measure => simp [intOf]; omega
        · skip
          go_wp2
          go_roundw
          case rel => exact ⟨j + 1, by omega, by go_num, by rw [HJ.out, hin.out]; simp only [Bool.not_true, Bool.false_eq_true, if_false, List.append_nil]; rw [HAR.out]; exact hown⟩
          case measure => simp [intOf]; omega
      · have ht1 : (t.toList == []) = false := by simpa using hte
        have ht2 : (t.toList != []) = true := by simpa using hte
        have hin : Hid (isIn p t x = (!b1 && b2)) := by
          show _ = _
          rw [HI.out, H1.out, H2.out]
          simp [hte]
        cases b1
        · cases b2
          · skip
            go_wp2
            go_roundw
            case rel => exact ⟨j + 1, by omega, by go_num, by rw [HJ.out, hin.out]; simp only [Bool.and_false, Bool.false_eq_true, if_false, List.append_nil]; rw [HAR.out]; exact hown⟩
            case measure => simp [intOf]; omega
          · skip
            go_wp2_with (at_builtin; refine own_app rfl (.tmp 44) (.tmp 49) rfl (hown.alloc _) rfl (lst_new (f := x) (by simp [go_sem])) rfl (by simp only [List.length_singleton]; omega) ?_; intro v2 w2 hown2)
            go_roundw
            case rel => exact ⟨j + 1, by omega, by go_num, by rw [HJ.out, hin.out]; simp only [Bool.not_false, Bool.and_true, if_true]; rw [HT.out]; exact hown2⟩
            case measure => simp [intOf]; omega
        · skip
          go_wp2
          go_roundw
          case rel => exact ⟨j + 1, by omega, by go_num, by rw [HJ.out, hin.out]; simp only [Bool.not_true, Bool.false_and, Bool.false_eq_true, if_false, List.append_nil]; rw [HAR.out]; exact hown⟩
          case measure => simp [intOf]; omega
    · have hj' : j = fs.length := by omega
      subst hj'
      rw [List.take_length] at hown
      go_wp2
      go_ret
      exact ⟨_, rfl, hown.lst, Adds.of hown.2.1⟩


end Go.Proofs.YtiacnmcdfpmcfaaGreatDoor.Sh
