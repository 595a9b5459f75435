/-
  The document's own Merge, by a contract; and the walk of the statement SheafMerges: it returns true, whatever is handed in, and leaves all that was there as it was.
-/
import Derived.Test.YtflhdhmnhgmbpaaMerge
import Derived.Deep.RegionWith
namespace Go.Proofs.Ytflhdhmnhgmbpaa
open Go.RowKit
attribute [local go_sem] cell?_more frozen?_more setCell_more size_more tape_more drew_more drewN_more more_drew more_drewN one_out plus_out plus_end lt_one le_p2 le_p3 le_p4 le_p5 le_p6 le_p7 le_p8 le_p9 le_p10 le_p11 le_p12 le_p13 le_p14 le_p15 le_p16 le_p17 le_p18 le_p19 le_p20 le_p21 le_p22 le_p23 le_p24 le_q0 le_q1 lt_q1 le_q2 lt_q2 le_q3 lt_q3 le_q4 lt_q4 le_q5 lt_q5 le_q6 lt_q6 le_q7 lt_q7 le_q8 lt_q8 le_q9 lt_q9 le_q10 lt_q10 le_q11 lt_q11 le_q12 lt_q12 le_q13 lt_q13 le_q14 lt_q14 le_q15 lt_q15 le_q16 lt_q16 le_q17 lt_q17 le_q18 lt_q18 le_q19 lt_q19 le_q20 lt_q20 le_q21 lt_q21 le_q22 lt_q22 le_q23 lt_q23 le_q24 lt_q24

theorem fold_rises {a b : List F} (h : Rises a) : Rises (b.foldl setDoc a) := by
  induction b generalizing a with
  | nil => exact h
  | cons x r ih => exact ih (setDoc_rises h)

theorem fold_next {a b : List F} {k : Nat} (hk : k < b.length) : (b.take (k + 1)).foldl setDoc a = setDoc ((b.take k).foldl setDoc a) b[k] := by
  rw [List.take_succ_eq_append_getElem hk, List.foldl_append]
  rfl

theorem fold_length (a b : List F) : (b.foldl setDoc a).length ≤ a.length + b.length := by
  induction b generalizing a with
  | nil => simp
  | cons x r ih =>
    rw [List.foldl_cons]
    have := ih (setDoc a x)
    have h2 : (setDoc a x).length ≤ a.length + 1 := by rw [setDoc_length]; split <;> omega
    simp only [List.length_cons]
    omega

set_option maxHeartbeats 2000000 in
theorem refMerge_ok (s s' : Value) (a b : List F) (w : World) (h : Lst w s a) (h' : Lst w s' b) (hl6 : a.length ≤ 400) (hl6' : b.length ≤ 400) (hr : Rises a) (hrb : Rises b) :
    Calls Try.prog 22 #[s, s'] w fun e w' => ∃ v, e = .returned v ∧ Lst w' v (mergeDoc a b) ∧ Adds w w' := by
  rw [← merge_fold hrb]
  have hs' := h'
  obtain ⟨bo, cap', rfl, hcap', hbo⟩ := h'
  go_enter Try.func22, Try.ntmps22
  go_wp2
  go_loopw [0, 5] (fun av i w2 => ∃ k : Nat, k ≤ b.length ∧ i = .int .i64 k ∧ Lst w2 av ((b.take k).foldl setDoc a) ∧ Adds w w2) (fun _ i _ => b.length - (intOf i).toNat)
  case atStart => exact ⟨0, Nat.zero_le _, rfl, by simpa using h, Adds.refl _⟩
  case round =>
    obtain ⟨k, hk, rfl, hA, hadd⟩ := hrel
    by_cases hlt : k < b.length
    · rcases hbo with rfl | ⟨bb, boff, rfl, hbb, hbl⟩
      · simp at hlt
      obtain ⟨c0, c1⟩ := hbl.below hadd.below hbb k hlt
      have hbs : bb < wr.heap.size := Nat.lt_of_lt_of_le hbb hadd.size
      have HN : Hid _ := fold_next (a := a) hlt
      have hrk : Rises ((b.take k).foldl setDoc a) := fold_rises hr
      have hlk := fold_length a (b.take k)
      rw [List.length_take] at hlk
      generalize b[k] = x at *
      generalize (b.take k).foldl setDoc a = A at *
      have kS := fun W hA' => refSet_ok u0 A x W (hA.adds hA') (by omega) hrk
      go_wp2
      go_region_with (go_at_call 16; refine (kS _ (by repeat (first | with_reducible exact Adds.refl _ | with_reducible refine Adds.alloc ?_ _ | with_reducible refine Adds.more ?_ _ _ | with_reducible refine Adds.drew ?_ | with_reducible refine Adds.drewN ?_ _))).mono ?_; rintro e w5 ⟨r5, rfl, l5, os5, n5, rfl⟩)
      all_goals
        go_wp2
        go_roundw
        case rel => exact ⟨k + 1, by omega, by go_num, by rw [HN.out]; exact l5, hadd.trans (by repeat (first | with_reducible exact Adds.refl _ | with_reducible refine Adds.alloc ?_ _ | with_reducible refine Adds.more ?_ _ _ | with_reducible refine Adds.drew ?_ | with_reducible refine Adds.drewN ?_ _))⟩
        case measure => simp [intOf]; omega
    · have hk' : k = b.length := by omega
      subst hk'
      rw [List.take_length] at hA
      go_wp2
      go_ret
      exact ⟨_, rfl, hA, hadd⟩

set_option maxHeartbeats 4000000 in
set_option maxRecDepth 20000 in
theorem sheafMerges_any (s s' : Value) (a b : List F) (w : World) (h : Lst w s a) (h' : Lst w s' b) :
    Calls Try.prog 5 #[s, s'] w fun e w' => e = .returned (.bool true) ∧ Adds w w' := by
  by_cases hla : a.length ≤ 150
  · have hla' : ¬ (150 : Int) < (a.length : Int) := by omega
    by_cases hlb : b.length ≤ 150
    · have hlb' : ¬ (150 : Int) < (b.length : Int) := by omega
      by_cases hMa : May a
      · have k10a := fun w' hA => refMay_yes s a w' (h.adds hA) (by omega) hMa
        by_cases hMb : May b
        · have k10b := fun w' hA => refMay_yes s' b w' (h'.adds hA) (by omega) hMb
          have k21 := fun w' hA => merge_ok s s' a b w' (h.adds hA) (h'.adds hA) (by omega) (by omega) hMa hMb
          have k22 := fun w' hA => refMerge_ok s s' a b w' (h.adds hA) (h'.adds hA) (by omega) (by omega) hMa.rises hMb.rises
          have hlm := mergeDoc_length a b
          generalize mergeDoc a b = R at *
          have hR : R.length ≤ 1000 := by omega
          obtain ⟨ao, cap, rfl, hcap, hlo⟩ := h
          obtain ⟨bo, cap', rfl, hcap', hbo⟩ := h'
          go_enter Try.func5, Try.ntmps5
          go_wp2_with (first
            | (go_at_call 21; (refine (k21 _ (by repeat (first | with_reducible exact Adds.refl _ | with_reducible refine Adds.alloc ?_ _ | with_reducible refine Adds.more ?_ _ _ | with_reducible refine Adds.drew ?_ | with_reducible refine Adds.drewN ?_ _))).mono ?_); rintro e w1 ⟨r1, rfl, l1, os1, n1, rfl⟩)
            | (go_at_call 10; (with_reducible refine (k10a _ (by repeat (first | with_reducible exact Adds.refl _ | with_reducible refine Adds.alloc ?_ _ | with_reducible refine Adds.more ?_ _ _ | with_reducible refine Adds.drew ?_ | with_reducible refine Adds.drewN ?_ _))).mono ?_); rintro e w2 ⟨rfl, os2, n2, rfl⟩; clear k10a)
            | (go_at_call 10; (with_reducible refine (k10b _ (by repeat (first | with_reducible exact Adds.refl _ | with_reducible refine Adds.alloc ?_ _ | with_reducible refine Adds.more ?_ _ _ | with_reducible refine Adds.drew ?_ | with_reducible refine Adds.drewN ?_ _))).mono ?_); rintro e w3 ⟨rfl, os3, n3, rfl⟩)
            | (go_at_call 22; (refine (k22 _ (by repeat (first | with_reducible exact Adds.refl _ | with_reducible refine Adds.alloc ?_ _ | with_reducible refine Adds.more ?_ _ _ | with_reducible refine Adds.drew ?_ | with_reducible refine Adds.drewN ?_ _))).mono ?_); rintro e w4 ⟨r4, rfl, l4, os4, n4, rfl⟩)
            | (go_at_call 15; (with_reducible refine (refSame_eq _ _ _ _ (l1.adds (by repeat (first | with_reducible exact Adds.refl _ | with_reducible refine Adds.alloc ?_ _ | with_reducible refine Adds.more ?_ _ _ | with_reducible refine Adds.drew ?_ | with_reducible refine Adds.drewN ?_ _))) l4 hR).mono ?_); rintro e w5 ⟨rfl, os5, n5, rfl⟩)
            | (go_at_call 7; (refine (awake_any _).mono ?_); rintro e w15 ⟨rfl, os15, n15, rfl⟩))
          go_ret
          refine ⟨rfl, ?_⟩
          repeat (first | with_reducible exact Adds.refl _ | with_reducible refine Adds.alloc ?_ _ | with_reducible refine Adds.more ?_ _ _ | with_reducible refine Adds.drew ?_ | with_reducible refine Adds.drewN ?_ _)
        · have k10b := fun w' hA => refMay_no s' b w' (h'.adds hA) (by omega) hMb
          have k21 := fun w' hA => merge_bad s s' a b w' (h.adds hA) (h'.adds hA) (by omega) (by omega) (.inr hMb)
          obtain ⟨ao, cap, rfl, hcap, hlo⟩ := h
          obtain ⟨bo, cap', rfl, hcap', hbo⟩ := h'
          go_enter Try.func5, Try.ntmps5
          go_wp2_with (first
            | (go_at_call 21; (refine (k21 _ (by repeat (first | with_reducible exact Adds.refl _ | with_reducible refine Adds.alloc ?_ _ | with_reducible refine Adds.more ?_ _ _ | with_reducible refine Adds.drew ?_ | with_reducible refine Adds.drewN ?_ _))).mono ?_); rintro e w1 ⟨rfl, os1, n1, rfl⟩)
            | (go_at_call 10; (with_reducible refine (k10a _ (by repeat (first | with_reducible exact Adds.refl _ | with_reducible refine Adds.alloc ?_ _ | with_reducible refine Adds.more ?_ _ _ | with_reducible refine Adds.drew ?_ | with_reducible refine Adds.drewN ?_ _))).mono ?_); rintro e w2 ⟨rfl, os2, n2, rfl⟩; clear k10a)
            | (go_at_call 10; (with_reducible refine (k10b _ (by repeat (first | with_reducible exact Adds.refl _ | with_reducible refine Adds.alloc ?_ _ | with_reducible refine Adds.more ?_ _ _ | with_reducible refine Adds.drew ?_ | with_reducible refine Adds.drewN ?_ _))).mono ?_); rintro e w3 ⟨rfl, os3, n3, rfl⟩)
            | (go_at_call 12; (refine (none_yes _).mono ?_); rintro e w6 ⟨rfl, hw⟩; subst w6)
            | (go_at_call 7; (refine (awake_any _).mono ?_); rintro e w15 ⟨rfl, os15, n15, rfl⟩))
          go_ret
          refine ⟨rfl, ?_⟩
          repeat (first | with_reducible exact Adds.refl _ | with_reducible refine Adds.alloc ?_ _ | with_reducible refine Adds.more ?_ _ _ | with_reducible refine Adds.drew ?_ | with_reducible refine Adds.drewN ?_ _)
      · have k10a := fun w' hA => refMay_no s a w' (h.adds hA) (by omega) hMa
        have k21 := fun w' hA => merge_bad s s' a b w' (h.adds hA) (h'.adds hA) (by omega) (by omega) (.inl hMa)
        obtain ⟨ao, cap, rfl, hcap, hlo⟩ := h
        obtain ⟨bo, cap', rfl, hcap', hbo⟩ := h'
        go_enter Try.func5, Try.ntmps5
        go_wp2_with (first
          | (go_at_call 21; (refine (k21 _ (by repeat (first | with_reducible exact Adds.refl _ | with_reducible refine Adds.alloc ?_ _ | with_reducible refine Adds.more ?_ _ _ | with_reducible refine Adds.drew ?_ | with_reducible refine Adds.drewN ?_ _))).mono ?_); rintro e w1 ⟨rfl, os1, n1, rfl⟩)
          | (go_at_call 10; (with_reducible refine (k10a _ (by repeat (first | with_reducible exact Adds.refl _ | with_reducible refine Adds.alloc ?_ _ | with_reducible refine Adds.more ?_ _ _ | with_reducible refine Adds.drew ?_ | with_reducible refine Adds.drewN ?_ _))).mono ?_); rintro e w2 ⟨rfl, os2, n2, rfl⟩; clear k10a)
          | (go_at_call 12; (refine (none_yes _).mono ?_); rintro e w6 ⟨rfl, hw⟩; subst w6)
          | (go_at_call 7; (refine (awake_any _).mono ?_); rintro e w15 ⟨rfl, os15, n15, rfl⟩))
        go_ret
        refine ⟨rfl, ?_⟩
        repeat (first | with_reducible exact Adds.refl _ | with_reducible refine Adds.alloc ?_ _ | with_reducible refine Adds.more ?_ _ _ | with_reducible refine Adds.drew ?_ | with_reducible refine Adds.drewN ?_ _)
    · have hlb' : (150 : Int) < (b.length : Int) := by omega
      obtain ⟨ao, cap, rfl, hcap, hlo⟩ := h
      obtain ⟨bo, cap', rfl, hcap', hbo⟩ := h'
      go_enter Try.func5, Try.ntmps5
      go_wp2_with (go_at_call 7; refine (awake_any _).mono ?_; rintro e w1 ⟨rfl, os5, n5, rfl⟩)
      go_ret
      refine ⟨rfl, ?_⟩
      repeat (first | with_reducible exact Adds.refl _ | with_reducible refine Adds.alloc ?_ _ | with_reducible refine Adds.more ?_ _ _ | with_reducible refine Adds.drew ?_ | with_reducible refine Adds.drewN ?_ _)
  · have hla' : (150 : Int) < (a.length : Int) := by omega
    obtain ⟨ao, cap, rfl, hcap, hlo⟩ := h
    obtain ⟨bo, cap', rfl, hcap', hbo⟩ := h'
    go_enter Try.func5, Try.ntmps5
    go_wp2_with (go_at_call 7; refine (awake_any _).mono ?_; rintro e w1 ⟨rfl, os5, n5, rfl⟩)
    go_ret
    refine ⟨rfl, ?_⟩
    repeat (first | with_reducible exact Adds.refl _ | with_reducible refine Adds.alloc ?_ _ | with_reducible refine Adds.more ?_ _ _ | with_reducible refine Adds.drew ?_ | with_reducible refine Adds.drewN ?_ _)

end Go.Proofs.Ytflhdhmnhgmbpaa
