/-
  The document's own Scan, by a contract.
-/
import Derived.Test.YtflhdhmnhgmbpaaScan
namespace Go.Proofs.Ytflhdhmnhgmbpaa
open Go.RowKit
attribute [local go_sem] cell?_more frozen?_more setCell_more size_more tape_more drew_more drewN_more more_drew more_drewN one_out plus_out plus_end lt_one le_p2 le_p3 le_p4 le_p5 le_p6 le_p7 le_p8 le_p9 le_p10 le_p11 le_p12 le_p13 le_p14 le_p15 le_p16 le_p17 le_p18 le_p19 le_p20 le_p21 le_p22 le_p23 le_p24 le_q0 le_q1 lt_q1 le_q2 lt_q2 le_q3 lt_q3 le_q4 lt_q4 le_q5 lt_q5 le_q6 lt_q6 le_q7 lt_q7 le_q8 lt_q8 le_q9 lt_q9 le_q10 lt_q10 le_q11 lt_q11 le_q12 lt_q12 le_q13 lt_q13 le_q14 lt_q14 le_q15 lt_q15 le_q16 lt_q16 le_q17 lt_q17 le_q18 lt_q18 le_q19 lt_q19 le_q20 lt_q20 le_q21 lt_q21 le_q22 lt_q22 le_q23 lt_q23 le_q24 lt_q24

theorem filter_next {l : List F} {k : Nat} (hk : k < l.length) (q : F → Bool) : (l.take (k + 1)).filter q = (l.take k).filter q ++ (if q l[k] then [l[k]] else []) := by
  rw [List.take_succ_eq_append_getElem hk, List.filter_append]
  congr 1
  by_cases e : q l[k] = true <;> simp [e]

theorem take_more {A : List F} {x : F} {M : Nat} (h : (A.take M).length < M) : (A ++ [x]).take M = A.take M ++ [x] := by
  rw [List.length_take] at h
  rw [List.take_of_length_le (by simp; omega), List.take_of_length_le (by omega)]

theorem take_full {A : List F} {x : F} {M : Nat} (h : ¬ (A.take M).length < M) : (A ++ [x]).take M = A.take M := by
  rw [List.length_take] at h
  rw [List.take_append_of_le_length (by omega)]

set_option maxHeartbeats 4000000 in
theorem refScan_any (s : Value) (fs : List F) (p t : ByteArray) (M : Nat) (w : World) (h : Lst w s fs) (hle : fs.length ≤ 1000) :
    Calls Try.prog 20 #[s, .string p, .string t, .int .i64 M] w fun e w' => ∃ r, e = .returned r ∧ Lst w' r ((fs.filter (isIn p t)).take M) ∧ Adds w w' := by
  obtain ⟨ao, cap, rfl, hcap, hlo⟩ := h
  go_enter Try.func20, Try.ntmps20
  go_wp2
  go_loopw [9, 10] (fun nv i w2 => ∃ j : Nat, j ≤ fs.length ∧ i = .int .i64 j ∧ Own w.heap.size nv (((fs.take j).filter (isIn p t)).take M) w w2) (fun _ i _ => fs.length - (intOf i).toNat)
  case atStart => exact ⟨0, Nat.zero_le _, rfl, by simpa using own_empty w⟩
  case round =>
    obtain ⟨j, hj, rfl, hown⟩ := hrel
    have hB := hown.2.2
    by_cases hlt : j < fs.length
    · rcases hlo with rfl | ⟨b, off, rfl, hbb, hl⟩
      · simp at hlt
      obtain ⟨c0, c1⟩ := hl.below hown.2.1 hbb j hlt
      have hbl : b < wr.heap.size := by omega
      have HJ : Hid _ := filter_next hlt (isIn p t)
      have hla : (((fs.take j).filter (isIn p t)).take M).length ≤ fs.length := Nat.le_trans (List.length_take_le' _ _) (Nat.le_trans (List.length_filter_le _ _) (by rw [List.length_take]; omega))
      generalize fs[j] = x at *
      generalize (fs.take j).filter (isIn p t) = A at *
      have HI : Hid (isIn p t x = (!lessP x.path p && (decide (t.toList = []) || lessP x.path t))) := rfl
      obtain ⟨b1, h1⟩ : ∃ b1, Op.bytesLess x.path.toList p.toList = b1 := ⟨_, rfl⟩
      obtain ⟨b2, h2⟩ : ∃ b2, Op.bytesLess x.path.toList t.toList = b2 := ⟨_, rfl⟩
      have H1 : Hid (lessP x.path p = b1) := h1
      have H2 : Hid (lessP x.path t = b2) := h2
      obtain ⟨uo, uc, rfl⟩ := hown.lst.slice
      have hT := take_more (A := A) (x := x) (M := M)
      have hF := take_full (A := A) (x := x) (M := M)
      have hAM : (A.take M).length < M ∨ ¬ (A.take M).length < M := by omega
      obtain ⟨R, hR⟩ : ∃ R, A.take M = R := ⟨_, rfl⟩
      rw [hR] at hown hla hT hF hAM ⊢
      have HAR : Hid _ := hR
      clear hR
      by_cases hte : t.toList = []
      · obtain rfl : t = ⟨#[]⟩ := toList_inj (by rw [hte, ByteArray.toList_eq])
        have hin : Hid (isIn p ⟨#[]⟩ x = !b1) := by
          show _ = _
          rw [HI.out, H1.out]
          simp [hte]
        cases b1
        · rcases hAM with hm | hm
          · have hm' : (R.length : Int) < (M : Int) := by omega
            have HT : Hid _ := hT hm
            clear hT hF
            go_wp2_with (at_builtin; refine own_app rfl (.tmp 44) (.tmp 49) rfl (hown.alloc _) rfl (lst_new (f := x) (by simp [go_sem])) rfl (by simp only [List.length_singleton]; omega) ?_; intro v2 w2 hown2)
            go_roundw
            case rel => exact ⟨j + 1, by omega, by go_num, by rw [HJ.out, hin.out]; simp only [Bool.not_false, if_true]; rw [HT.out]; exact hown2⟩
            case measure => simp [intOf]; omega
          · have hm' : ¬ (R.length : Int) < (M : Int) := by omega
            have HF : Hid _ := hF hm
            clear hT hF
            go_wp2
            go_roundw
            case rel => exact ⟨j + 1, by omega, by go_num, by rw [HJ.out, hin.out]; simp only [Bool.not_false, if_true]; rw [HF.out]; exact hown⟩
            case measure => simp [intOf]; omega
        · clear hT hF
          go_wp2
          go_roundw
          case rel => exact ⟨j + 1, by omega, by go_num, by rw [HJ.out, hin.out]; simp only [Bool.not_true, Bool.false_eq_true, if_false, List.append_nil]; rw [HAR.out]; exact hown⟩
          case measure => simp [intOf]; omega
      · have ht1 : (t.toList == []) = false := by simpa using hte
        have ht2 : (t.toList != []) = true := by simpa using hte
        have hin : Hid (isIn p t x = (!b1 && b2)) := by
          show _ = _
          rw [HI.out, H1.out, H2.out]
          simp [hte]
        cases b1
        · cases b2
          · clear hT hF
            go_wp2
            go_roundw
            case rel => exact ⟨j + 1, by omega, by go_num, by rw [HJ.out, hin.out]; simp only [Bool.and_false, Bool.false_eq_true, if_false, List.append_nil]; rw [HAR.out]; exact hown⟩
            case measure => simp [intOf]; omega
          · rcases hAM with hm | hm
            · have hm' : (R.length : Int) < (M : Int) := by omega
              have HT : Hid _ := hT hm
              clear hT hF
              go_wp2_with (at_builtin; refine own_app rfl (.tmp 44) (.tmp 49) rfl (hown.alloc _) rfl (lst_new (f := x) (by simp [go_sem])) rfl (by simp only [List.length_singleton]; omega) ?_; intro v2 w2 hown2)
              go_roundw
              case rel => exact ⟨j + 1, by omega, by go_num, by rw [HJ.out, hin.out]; simp only [Bool.not_false, Bool.and_true, if_true]; rw [HT.out]; exact hown2⟩
              case measure => simp [intOf]; omega
            · have hm' : ¬ (R.length : Int) < (M : Int) := by omega
              have HF : Hid _ := hF hm
              clear hT hF
              go_wp2
              go_roundw
              case rel => exact ⟨j + 1, by omega, by go_num, by rw [HJ.out, hin.out]; simp only [Bool.not_false, Bool.and_true, if_true]; rw [HF.out]; exact hown⟩
              case measure => simp [intOf]; omega
        · clear hT hF
          go_wp2
          go_roundw
          case rel => exact ⟨j + 1, by omega, by go_num, by rw [HJ.out, hin.out]; simp only [Bool.not_true, Bool.false_and, Bool.false_eq_true, if_false, List.append_nil]; rw [HAR.out]; exact hown⟩
          case measure => simp [intOf]; omega
    · have hj' : j = fs.length := by omega
      subst hj'
      rw [List.take_length] at hown
      go_wp2
      go_ret
      exact ⟨_, rfl, hown.lst, Adds.of hown.2.1⟩

end Go.Proofs.Ytflhdhmnhgmbpaa
