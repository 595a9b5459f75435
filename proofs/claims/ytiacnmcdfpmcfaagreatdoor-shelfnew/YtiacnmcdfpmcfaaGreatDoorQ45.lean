/-
  The reference's Find, by contract.
  Shelves: what they are, which may be; count, Check, New, and the reference's May and Same, by contracts.
-/
import Derived.Test.YtiacnmcdfpmcfaaGreatDoorQ44
import Derived.Test.YtiacnmcdfpmcfaaGreatDoorQ40
import Derived.Test.YtiacnmcdfpmcfaaGreatDoorQ41
namespace Go.Proofs.YtiacnmcdfpmcfaaGreatDoor.Sh
open Go.RowKit
attribute [local go_sem] cell?_more frozen?_more setCell_more size_more tape_more drew_more drewN_more more_drew more_drewN one_out plus_out plus_end lt_one le_p2 le_p3 le_p4 le_p5 le_p6 le_p7 le_p8 le_p9 le_p10 le_p11 le_p12 le_p13 le_p14 le_p15 le_p16 le_p17 le_p18 le_p19 le_p20 le_p21 le_p22 le_p23 le_p24 le_q0 le_q1 lt_q1 le_q2 lt_q2 le_q3 lt_q3 le_q4 lt_q4 le_q5 lt_q5 le_q6 lt_q6 le_q7 lt_q7 le_q8 lt_q8 le_q9 lt_q9 le_q10 lt_q10 le_q11 lt_q11 le_q12 lt_q12 le_q13 lt_q13 le_q14 lt_q14 le_q15 lt_q15 le_q16 lt_q16 le_q17 lt_q17 le_q18 lt_q18 le_q19 lt_q19 le_q20 lt_q20 le_q21 lt_q21 le_q22 lt_q22 le_q23 lt_q23 le_q24 lt_q24


theorem full_whole (fs : List F) (j M : Nat) (q : F → Bool) (h : ¬ (((fs.take j).filter q).take M).length < M) : (fs.filter q).take M = ((fs.take j).filter q).take M := by
  rw [List.length_take] at h
  have e : fs.filter q = (fs.take j).filter q ++ (fs.drop j).filter q := by rw [← List.filter_append, List.take_append_drop]
  rw [e, List.take_append_of_le_length (by omega)]

theorem own_empty (w : World) : Own w.heap.size (.slice (some ⟨w.heap.size, 0, none⟩) 0 0) [] w (w.alloc (.cells #[] 70)) := by
  refine ⟨⟨by simp [cellsF], .inr ⟨w.heap.size, 0, #[], rfl, Nat.le_refl _, new_block2 w _, Nat.zero_le _, by unfold maxLen; omega, by simp, by simp [cellsF]⟩⟩, ((Adds.refl _).alloc _).below, by simp⟩

theorem Lst.slice {w : World} {s : Value} {fs : List F} (h : Lst w s fs) : ∃ o c, s = .slice o fs.length c := by
  obtain ⟨ao, cap, rfl, _⟩ := h
  exact ⟨ao, cap, rfl⟩

theorem filter_next {l : List F} {k : Nat} (hk : k < l.length) (q : F → Bool) : (l.take (k + 1)).filter q = (l.take k).filter q ++ (if q l[k] then [l[k]] else []) := by
  rw [List.take_succ_eq_append_getElem hk, List.filter_append]
  congr 1
  by_cases e : q l[k] = true <;> simp [e]

theorem take_more {A : List F} {x : F} {M : Nat} (h : (A.take M).length < M) : (A ++ [x]).take M = A.take M ++ [x] := by
  rw [List.length_take] at h
  rw [List.take_of_length_le (by simp; omega), List.take_of_length_le (by omega)]

theorem take_full {A : List F} {x : F} {M : Nat} (h : ¬ (A.take M).length < M) : (A ++ [x]).take M = A.take M := by
  rw [List.length_take] at h
  rw [List.take_append_of_le_length (by omega)]

set_option maxHeartbeats 4000000 in
set_option maxRecDepth 20000 in
theorem refScan_any (s : Value) (fs : List F) (p t : ByteArray) (M : Nat) (w : World) (h : Lst w s fs) (hle : fs.length ≤ 1000) :
    Calls Tryz.prog 25 #[s, .string p, .string t, .int .i64 M] w fun e w' => ∃ r, e = .returned r ∧ Lst w' r ((fs.filter (isIn p t)).take M) ∧ Adds w w' := by
  obtain ⟨ao, cap, rfl, hcap, hlo⟩ := h
  go_enter Tryz.func25, Tryz.ntmps25
  go_wp2
  go_loopw [9, 10] (fun nv i w2 => ∃ j : Nat, j ≤ fs.length ∧ i = .int .i64 j ∧ Own w.heap.size nv (((fs.take j).filter (isIn p t)).take M) w w2) (fun _ i _ => fs.length - (intOf i).toNat)
  case atStart => exact ⟨0, Nat.zero_le _, rfl, by simpa using own_empty w⟩
  case round =>
    obtain ⟨j, hj, rfl, hown⟩ := hrel
    have hB := hown.2.2
    by_cases hlt : j < fs.length
    · rcases hlo with rfl | ⟨b, off, rfl, hbb, hl⟩
      · simp at hlt
      obtain ⟨c0, c1⟩ := hl.below hown.2.1 hbb j hlt
      have hbl : b < wr.heap.size := by omega
      have HJ : Hid _ := filter_next hlt (isIn p t)
      have HW : Hid (¬ (((fs.take j).filter (isIn p t)).take M).length < M → (fs.filter (isIn p t)).take M = ((fs.take j).filter (isIn p t)).take M) := full_whole fs j M (isIn p t)
      have hla : (((fs.take j).filter (isIn p t)).take M).length ≤ fs.length := Nat.le_trans (List.length_take_le' _ _) (Nat.le_trans (List.length_filter_le _ _) (by rw [List.length_take]; omega))
      generalize fs[j] = x at *
      generalize (fs.take j).filter (isIn p t) = A at *
      have HI : Hid (isIn p t x = (!lessP x.path p && (decide (t.toList = []) || lessP x.path t))) := rfl
      obtain ⟨b1, h1⟩ : ∃ b1, Op.bytesLess x.path.toList p.toList = b1 := ⟨_, rfl⟩
      obtain ⟨b2, h2⟩ : ∃ b2, Op.bytesLess x.path.toList t.toList = b2 := ⟨_, rfl⟩
      have H1 : Hid (lessP x.path p = b1) := h1
      have H2 : Hid (lessP x.path t = b2) := h2
      obtain ⟨uo, uc, rfl⟩ := hown.lst.slice
      have hT := take_more (A := A) (x := x) (M := M)
      have hF := take_full (A := A) (x := x) (M := M)
      have hAM : (A.take M).length < M ∨ ¬ (A.take M).length < M := by omega
      obtain ⟨R, hR⟩ : ∃ R, A.take M = R := ⟨_, rfl⟩
      rw [hR] at hown hla hT hF hAM HW ⊢
      have HAR : Hid _ := hR
      clear hR
      by_cases hm : R.length < M
      rotate_left
      · have hm' : ¬ (R.length : Int) < (M : Int) := by omega
        clear hT hF hAM
        go_wp2
        go_ret
        exact ⟨_, rfl, by rw [HW.out hm]; exact hown.lst, Adds.of hown.2.1⟩
      have hm' : (R.length : Int) < (M : Int) := by omega
      have HT : Hid _ := hT hm
      clear hT hF hAM HW
      by_cases hte : t.toList = []
      · obtain rfl : t = ⟨#[]⟩ := toList_inj (by rw [hte, ByteArray.toList_eq])
        have hin : Hid (isIn p ⟨#[]⟩ x = !b1) := by
          show _ = _
          rw [HI.out, H1.out]
          simp [hte]
        cases b1
        · skip
          go_wp2_with (at_builtin; refine own_app rfl (.tmp 44) (.tmp 49) rfl (hown.alloc _) rfl (lst_new (f := x) (by simp [go_sem])) rfl (by simp only [List.length_singleton]; omega) ?_; intro v2 w2 hown2)
          go_roundw
          case rel => exact ⟨j + 1, by omega, by go_num, by rw [HJ.out, hin.out]; simp only [Bool.not_false, if_true]; rw [HT.out]; exact hown2⟩
          case measure => simp [intOf]; omega
        · skip
          go_wp2
          go_roundw
          case rel => exact ⟨j + 1, by omega, by go_num, by rw [HJ.out, hin.out]; simp only [Bool.not_true, Bool.false_eq_true, if_false, List.append_nil]; rw [HAR.out]; exact hown⟩
          case measure => simp [intOf]; omega
      · have ht1 : (t.toList == []) = false := by simpa using hte
        have ht2 : (t.toList != []) = true := by simpa using hte
        have hin : Hid (isIn p t x = (!b1 && b2)) := by
          show _ = _
          rw [HI.out, H1.out, H2.out]
          simp [hte]
        cases b1
        · cases b2
          · skip
            go_wp2
            go_roundw
            case rel => exact ⟨j + 1, by omega, by go_num, by rw [HJ.out, hin.out]; simp only [Bool.and_false, Bool.false_eq_true, if_false, List.append_nil]; rw [HAR.out]; exact hown⟩
            case measure => simp [intOf]; omega
          · skip
            go_wp2_with (at_builtin; refine own_app rfl (.tmp 44) (.tmp 49) rfl (hown.alloc _) rfl (lst_new (f := x) (by simp [go_sem])) rfl (by simp only [List.length_singleton]; omega) ?_; intro v2 w2 hown2)
            go_roundw
            case rel => exact ⟨j + 1, by omega, by go_num, by rw [HJ.out, hin.out]; simp only [Bool.not_false, Bool.and_true, if_true]; rw [HT.out]; exact hown2⟩
            case measure => simp [intOf]; omega
        · skip
          go_wp2
          go_roundw
          case rel => exact ⟨j + 1, by omega, by go_num, by rw [HJ.out, hin.out]; simp only [Bool.not_true, Bool.false_and, Bool.false_eq_true, if_false, List.append_nil]; rw [HAR.out]; exact hown⟩
          case measure => simp [intOf]; omega
    · have hj' : j = fs.length := by omega
      subst hj'
      rw [List.take_length] at hown
      go_wp2
      go_ret
      exact ⟨_, rfl, hown.lst, Adds.of hown.2.1⟩


end Go.Proofs.YtiacnmcdfpmcfaaGreatDoor.Sh

namespace Go.Proofs.YtiacnmcdfpmcfaaGreatDoor
open Go.RowKit
attribute [local go_sem] cell?_more frozen?_more setCell_more size_more tape_more drew_more drewN_more more_drew more_drewN one_out plus_out plus_end lt_one le_p2 le_p3 le_p4 le_p5 le_p6 le_p7 le_p8 le_p9 le_p10 le_p11 le_p12 le_p13 le_p14 le_p15 le_p16 le_p17 le_p18 le_p19 le_p20 le_p21 le_p22 le_p23 le_p24 le_q0 le_q1 lt_q1 le_q2 lt_q2 le_q3 lt_q3 le_q4 lt_q4 le_q5 lt_q5 le_q6 lt_q6 le_q7 lt_q7 le_q8 lt_q8 le_q9 lt_q9 le_q10 lt_q10 le_q11 lt_q11 le_q12 lt_q12 le_q13 lt_q13 le_q14 lt_q14 le_q15 lt_q15 le_q16 lt_q16 le_q17 lt_q17 le_q18 lt_q18 le_q19 lt_q19 le_q20 lt_q20 le_q21 lt_q21 le_q22 lt_q22 le_q23 lt_q23 le_q24 lt_q24

/-- A shelf. -/
structure Shl where
  df : ByteArray
  rdy : Bool
  mark : Int
  es : List Sh.F

def Shl.val (s : Shl) (v : Value) : Value := .agg #[.string s.df, .bool s.rdy, .int .i64 s.mark, v]

def isOk {α : Type} (R : Except Int α) : Bool := match R with | .ok _ => true | .error _ => false

def countB (n : Int) : Bool := decide (0 ≤ n) && decide (n ≤ 2147483647)

/-- A shelf that may be. -/
def MayS (s : Shl) : Prop := isOk (parseA s.df.toList) = true ∧ Sh.May s.es ∧ countB s.mark = true
instance (s : Shl) : Decidable (MayS s) := by unfold MayS; infer_instance

theorem shCount_any (n : Int) (w : World) : Calls Tryz.prog 30 #[.int .i64 n] w fun e w' => e = .returned (.bool (countB n)) ∧ Adds w w' := by
  by_cases h1 : 0 ≤ n
  · by_cases h2 : n ≤ 2147483647
    · have hb : countB n = true := by simp [countB, h1, h2]
      rw [hb]
      clear hb
      go_enter Tryz.func30, Tryz.ntmps30
      go_wp2
      go_ret
      exact ⟨rfl, (by repeat (first | with_reducible exact Adds.refl _ | with_reducible refine Adds.alloc ?_ _ | with_reducible refine Adds.more ?_ _ _ | with_reducible refine Adds.drew ?_ | with_reducible refine Adds.drewN ?_ _))⟩
    · have hb : countB n = false := by simp [countB, h2]
      rw [hb]
      clear hb
      go_enter Tryz.func30, Tryz.ntmps30
      go_wp2
      go_ret
      exact ⟨rfl, (by repeat (first | with_reducible exact Adds.refl _ | with_reducible refine Adds.alloc ?_ _ | with_reducible refine Adds.more ?_ _ _ | with_reducible refine Adds.drew ?_ | with_reducible refine Adds.drewN ?_ _))⟩
  · have hb : countB n = false := by simp [countB, h1]
    rw [hb]
    clear hb
    go_enter Tryz.func30, Tryz.ntmps30
    go_wp2
    go_ret
    exact ⟨rfl, (by repeat (first | with_reducible exact Adds.refl _ | with_reducible refine Adds.alloc ?_ _ | with_reducible refine Adds.more ?_ _ _ | with_reducible refine Adds.drew ?_ | with_reducible refine Adds.drewN ?_ _))⟩

set_option maxRecDepth 20000 in
set_option maxHeartbeats 2000000 in
theorem shCheck_any (s : Shl) (v : Value) (w : World) (hd : s.df.size ≤ 2000) (hv : Sh.Lst w v s.es) (he : s.es.length ≤ 900) :
    Calls Tryz.prog 11 #[s.val v] w fun e w' => e = .returned (.int .i64 (if MayS s then 0 else 1)) ∧ Adds w w' := by
  have kP := fun W => parseAll_any s.df hd W
  have kC := fun W (hA : Adds w W) => Sh.check_any v s.es W (hv.adds hA) (by omega)
  have kN := fun W => shCount_any s.mark W
  obtain ⟨df, rdy, mk, es⟩ := s
  simp only [Shl.val] at *
  obtain ⟨ao, cap, rfl, _, _⟩ := hv
  cases hp : parseA df.toList with
  | error c =>
    have hc := parseA_err hp
    have hcb : (c != 0) = true := by simpa using hc
    have hcb' : (c == 0) = false := by simpa using hc
    have hno : ¬ MayS ⟨df, rdy, mk, es⟩ := fun h => by simpa [isOk, hp] using h.1
    rw [hp] at kP
    simp only [GaveR] at kP
    rw [if_neg hno]
    clear hp hc hno kC kN
    generalize es.length = n at *
    go_enter Tryz.func11, Tryz.ntmps11
    go_wp2_with (go_at_call 28; refine (kP _).mono ?_; rintro e w1 ⟨rfl, os1, n1, rfl⟩)
    go_ret
    exact ⟨rfl, (by repeat (first | with_reducible exact Adds.refl _ | with_reducible refine Adds.alloc ?_ _ | with_reducible refine Adds.more ?_ _ _ | with_reducible refine Adds.drew ?_ | with_reducible refine Adds.drewN ?_ _))⟩
  | ok xs =>
    rw [hp] at kP
    simp only [GaveR] at kP
    by_cases hm : Sh.May es
    · rw [Sh.err_ok hm] at kC
      cases hn : countB mk with
      | true =>
        rw [hn] at kN
        have hM : MayS ⟨df, rdy, mk, es⟩ := ⟨by simp [isOk, hp], hm, hn⟩
        rw [if_pos hM]
        clear hM
        clear hp hm hn
        generalize es.length = n at *
        go_enter Tryz.func11, Tryz.ntmps11
        go_wp2_with (first
          | (go_at_call 28; refine (kP _).mono ?_; rintro e w1 ⟨⟨pa, pc, D, rfl, _, _⟩, os1, n1, rfl⟩)
          | (go_at_call 29; refine (kC _ (by repeat (first | with_reducible exact Adds.refl _ | with_reducible refine Adds.alloc ?_ _ | with_reducible refine Adds.more ?_ _ _ | with_reducible refine Adds.drew ?_ | with_reducible refine Adds.drewN ?_ _))).mono ?_; rintro e w2 ⟨rfl, os2, n2, rfl⟩)
          | (go_at_call 30; refine (kN _).mono ?_; rintro e w3 ⟨rfl, os3, n3, rfl⟩))
        go_ret
        exact ⟨rfl, (by repeat (first | with_reducible exact Adds.refl _ | with_reducible refine Adds.alloc ?_ _ | with_reducible refine Adds.more ?_ _ _ | with_reducible refine Adds.drew ?_ | with_reducible refine Adds.drewN ?_ _))⟩
      | false =>
        rw [hn] at kN
        rw [if_neg (fun h : MayS ⟨df, rdy, mk, es⟩ => by have := h.2.2; simp only [hn] at this; cases this)]
        clear hp hm hn
        generalize es.length = n at *
        go_enter Tryz.func11, Tryz.ntmps11
        go_wp2_with (first
          | (go_at_call 28; refine (kP _).mono ?_; rintro e w1 ⟨⟨pa, pc, D, rfl, _, _⟩, os1, n1, rfl⟩)
          | (go_at_call 29; refine (kC _ (by repeat (first | with_reducible exact Adds.refl _ | with_reducible refine Adds.alloc ?_ _ | with_reducible refine Adds.more ?_ _ _ | with_reducible refine Adds.drew ?_ | with_reducible refine Adds.drewN ?_ _))).mono ?_; rintro e w2 ⟨rfl, os2, n2, rfl⟩)
          | (go_at_call 30; refine (kN _).mono ?_; rintro e w3 ⟨rfl, os3, n3, rfl⟩))
        go_ret
        exact ⟨rfl, (by repeat (first | with_reducible exact Adds.refl _ | with_reducible refine Adds.alloc ?_ _ | with_reducible refine Adds.more ?_ _ _ | with_reducible refine Adds.drew ?_ | with_reducible refine Adds.drewN ?_ _))⟩
    · rw [Sh.err_bad hm] at kC
      rw [if_neg (fun h : MayS ⟨df, rdy, mk, es⟩ => hm h.2.1)]
      clear hp hm kN
      generalize es.length = n at *
      go_enter Tryz.func11, Tryz.ntmps11
      go_wp2_with (first
        | (go_at_call 28; refine (kP _).mono ?_; rintro e w1 ⟨⟨pa, pc, D, rfl, _, _⟩, os1, n1, rfl⟩)
        | (go_at_call 29; refine (kC _ (by repeat (first | with_reducible exact Adds.refl _ | with_reducible refine Adds.alloc ?_ _ | with_reducible refine Adds.more ?_ _ _ | with_reducible refine Adds.drew ?_ | with_reducible refine Adds.drewN ?_ _))).mono ?_; rintro e w2 ⟨rfl, os2, n2, rfl⟩))
      go_ret
      exact ⟨rfl, (by repeat (first | with_reducible exact Adds.refl _ | with_reducible refine Adds.alloc ?_ _ | with_reducible refine Adds.more ?_ _ _ | with_reducible refine Adds.drew ?_ | with_reducible refine Adds.drewN ?_ _))⟩

set_option maxRecDepth 20000 in
set_option maxHeartbeats 2000000 in
theorem rMayS_any (s : Shl) (v : Value) (w : World) (hd : s.df.size ≤ 2000) (hv : Sh.Lst w v s.es) (he : s.es.length ≤ 900) :
    Calls Tryz.prog 12 #[s.val v] w fun e w' => e = .returned (.bool (decide (MayS s))) ∧ Adds w w' := by
  have kP := fun W => rParseAll_any s.df hd W
  have kC := fun W (hA : Adds w W) => Sh.refMay_any v s.es W (hv.adds hA) (by omega)
  obtain ⟨df, rdy, mk, es⟩ := s
  simp only [Shl.val] at *
  obtain ⟨ao, cap, rfl, _, _⟩ := hv
  cases hp : parseA df.toList with
  | error c =>
    have hc := parseA_err hp
    have hcb : (c != 0) = true := by simpa using hc
    have hcb' : (c == 0) = false := by simpa using hc
    have hno : ¬ MayS ⟨df, rdy, mk, es⟩ := fun h => by simpa [isOk, hp] using h.1
    rw [hp] at kP
    simp only [GaveR] at kP
    rw [decide_eq_false hno]
    clear hp hc hno kC
    generalize es.length = n at *
    go_enter Tryz.func12, Tryz.ntmps12
    go_wp2_with (go_at_call 18; refine (kP _).mono ?_; rintro e w1 ⟨rfl, os1, n1, rfl⟩)
    go_ret
    exact ⟨rfl, (by repeat (first | with_reducible exact Adds.refl _ | with_reducible refine Adds.alloc ?_ _ | with_reducible refine Adds.more ?_ _ _ | with_reducible refine Adds.drew ?_ | with_reducible refine Adds.drewN ?_ _))⟩
  | ok xs =>
    rw [hp] at kP
    simp only [GaveR] at kP
    by_cases hm : Sh.May es
    · rw [decide_eq_true hm] at kC
      by_cases h1 : 0 ≤ mk
      · by_cases h2 : mk ≤ 2147483647
        · have hM : MayS ⟨df, rdy, mk, es⟩ := ⟨by simp [isOk, hp], hm, by simp [countB, h1, h2]⟩
          rw [decide_eq_true hM]
          clear hM
          clear hp hm
          generalize es.length = n at *
          go_enter Tryz.func12, Tryz.ntmps12
          go_wp2_with (first
            | (go_at_call 18; refine (kP _).mono ?_; rintro e w1 ⟨⟨pa, pc, D, rfl, _, _⟩, os1, n1, rfl⟩)
            | (go_at_call 31; refine (kC _ (by repeat (first | with_reducible exact Adds.refl _ | with_reducible refine Adds.alloc ?_ _ | with_reducible refine Adds.more ?_ _ _ | with_reducible refine Adds.drew ?_ | with_reducible refine Adds.drewN ?_ _))).mono ?_; rintro e w2 ⟨rfl, os2, n2, rfl⟩))
          go_ret
          exact ⟨rfl, (by repeat (first | with_reducible exact Adds.refl _ | with_reducible refine Adds.alloc ?_ _ | with_reducible refine Adds.more ?_ _ _ | with_reducible refine Adds.drew ?_ | with_reducible refine Adds.drewN ?_ _))⟩
        · rw [decide_eq_false (fun h : MayS ⟨df, rdy, mk, es⟩ => by have := h.2.2; simp [countB, h2] at this)]
          have h2' : decide (mk ≤ 2147483647) = false := decide_eq_false h2
          clear hp hm
          generalize es.length = n at *
          go_enter Tryz.func12, Tryz.ntmps12
          go_wp2_with (first
            | (go_at_call 18; refine (kP _).mono ?_; rintro e w1 ⟨⟨pa, pc, D, rfl, _, _⟩, os1, n1, rfl⟩)
            | (go_at_call 31; refine (kC _ (by repeat (first | with_reducible exact Adds.refl _ | with_reducible refine Adds.alloc ?_ _ | with_reducible refine Adds.more ?_ _ _ | with_reducible refine Adds.drew ?_ | with_reducible refine Adds.drewN ?_ _))).mono ?_; rintro e w2 ⟨rfl, os2, n2, rfl⟩))
          go_ret
          exact ⟨rfl, (by repeat (first | with_reducible exact Adds.refl _ | with_reducible refine Adds.alloc ?_ _ | with_reducible refine Adds.more ?_ _ _ | with_reducible refine Adds.drew ?_ | with_reducible refine Adds.drewN ?_ _))⟩
      · rw [decide_eq_false (fun h : MayS ⟨df, rdy, mk, es⟩ => by have := h.2.2; simp [countB, h1] at this)]
        clear hp hm
        generalize es.length = n at *
        go_enter Tryz.func12, Tryz.ntmps12
        go_wp2_with (first
          | (go_at_call 18; refine (kP _).mono ?_; rintro e w1 ⟨⟨pa, pc, D, rfl, _, _⟩, os1, n1, rfl⟩)
          | (go_at_call 31; refine (kC _ (by repeat (first | with_reducible exact Adds.refl _ | with_reducible refine Adds.alloc ?_ _ | with_reducible refine Adds.more ?_ _ _ | with_reducible refine Adds.drew ?_ | with_reducible refine Adds.drewN ?_ _))).mono ?_; rintro e w2 ⟨rfl, os2, n2, rfl⟩))
        go_ret
        exact ⟨rfl, (by repeat (first | with_reducible exact Adds.refl _ | with_reducible refine Adds.alloc ?_ _ | with_reducible refine Adds.more ?_ _ _ | with_reducible refine Adds.drew ?_ | with_reducible refine Adds.drewN ?_ _))⟩
    · rw [decide_eq_false hm] at kC
      rw [decide_eq_false (fun h : MayS ⟨df, rdy, mk, es⟩ => hm h.2.1)]
      clear hp hm
      generalize es.length = n at *
      go_enter Tryz.func12, Tryz.ntmps12
      go_wp2_with (first
        | (go_at_call 18; refine (kP _).mono ?_; rintro e w1 ⟨⟨pa, pc, D, rfl, _, _⟩, os1, n1, rfl⟩)
        | (go_at_call 31; refine (kC _ (by repeat (first | with_reducible exact Adds.refl _ | with_reducible refine Adds.alloc ?_ _ | with_reducible refine Adds.more ?_ _ _ | with_reducible refine Adds.drew ?_ | with_reducible refine Adds.drewN ?_ _))).mono ?_; rintro e w2 ⟨rfl, os2, n2, rfl⟩))
      go_ret
      exact ⟨rfl, (by repeat (first | with_reducible exact Adds.refl _ | with_reducible refine Adds.alloc ?_ _ | with_reducible refine Adds.more ?_ _ _ | with_reducible refine Adds.drew ?_ | with_reducible refine Adds.drewN ?_ _))⟩

/-- What New tells. -/
def GaveN (s : ByteArray) (e : Ending) : Prop :=
  match parseA s.toList with
  | .error c => e = .returned (.tuple #[.agg #[.string ⟨#[]⟩, .bool false, .int .i64 0, .slice none 0 0], .int .i64 c])
  | .ok _ => e = .returned (.tuple #[.agg #[.string s, .bool false, .int .i64 0, .slice none 0 0], .int .i64 0])

set_option maxRecDepth 20000 in
theorem new_any (s : ByteArray) (w : World) (hs : s.size ≤ 2000) : Calls Tryz.prog 17 #[.string s] w fun e w' => GaveN s e ∧ Adds w w' := by
  have kP := fun W => parseAll_any s hs W
  unfold GaveN
  cases hp : parseA s.toList with
  | error c =>
    have hc := parseA_err hp
    have hcb : (c != 0) = true := by simpa using hc
    have hcb' : (c == 0) = false := by simpa using hc
    rw [hp] at kP
    simp only [GaveR] at kP
    clear hp hc
    go_enter Tryz.func17, Tryz.ntmps17
    go_wp2_with (go_at_call 28; refine (kP _).mono ?_; rintro e w1 ⟨rfl, os1, n1, rfl⟩)
    refine bodyPost_ret (v := .tuple #[.agg #[.string ⟨#[]⟩, .bool false, .int .i64 0, .slice none 0 0], .int .i64 c]) (by simp [results, Tryz.results17, go_sem]) rfl ⟨rfl, (by repeat (first | with_reducible exact Adds.refl _ | with_reducible refine Adds.alloc ?_ _ | with_reducible refine Adds.more ?_ _ _ | with_reducible refine Adds.drew ?_ | with_reducible refine Adds.drewN ?_ _))⟩
  | ok xs =>
    rw [hp] at kP
    simp only [GaveR] at kP
    clear hp
    go_enter Tryz.func17, Tryz.ntmps17
    go_wp2_with (go_at_call 28; refine (kP _).mono ?_; rintro e w1 ⟨⟨pa, pc, D, rfl, _, _⟩, os1, n1, rfl⟩)
    refine bodyPost_ret (v := .tuple #[.agg #[.string s, .bool false, .int .i64 0, .slice none 0 0], .int .i64 0]) (by simp [results, Tryz.results17, go_sem]) rfl ⟨rfl, (by repeat (first | with_reducible exact Adds.refl _ | with_reducible refine Adds.alloc ?_ _ | with_reducible refine Adds.more ?_ _ _ | with_reducible refine Adds.drew ?_ | with_reducible refine Adds.drewN ?_ _))⟩

end Go.Proofs.YtiacnmcdfpmcfaaGreatDoor
