/-
  Check of package feed, by contract.
-/
import Derived.Test.YtpjhohmbifpogaaFol
import Derived.Test.YtpjhohmbifpogaaSbs
namespace Go.Proofs.Ytpjhohmbifpogaa
open Go.RowKit
attribute [local go_sem] cell?_more frozen?_more setCell_more size_more tape_more drew_more drewN_more more_drew more_drewN one_out plus_out plus_end lt_one le_p2 le_p3 le_p4 le_p5 le_p6 le_p7 le_p8 le_p9 le_p10 le_p11 le_p12 le_p13 le_p14 le_p15 le_p16 le_p17 le_p18 le_p19 le_p20 le_p21 le_p22 le_p23 le_p24 le_q0 le_q1 lt_q1 le_q2 lt_q2 le_q3 lt_q3 le_q4 lt_q4 le_q5 lt_q5 le_q6 lt_q6 le_q7 lt_q7 le_q8 lt_q8 le_q9 lt_q9 le_q10 lt_q10 le_q11 lt_q11 le_q12 lt_q12 le_q13 lt_q13 le_q14 lt_q14 le_q15 lt_q15 le_q16 lt_q16 le_q17 lt_q17 le_q18 lt_q18 le_q19 lt_q19 le_q20 lt_q20 le_q21 lt_q21 le_q22 lt_q22 le_q23 lt_q23 le_q24 lt_q24

theorem mayF_bad {f : Fd} (h : ¬ MayF f) : errOf (MayF f) 1 = 1 := err_bad h 1

set_option maxHeartbeats 4000000 in
set_option maxRecDepth 20000 in
theorem checkF_any (v : Value) (f : Fd) (w : World) (h : LstF w v f) (hc : f.ch.length ≤ 1000) :
    Calls Try.prog 13 #[v] w fun e w' => e = .returned (.int .i64 (errOf (MayF f) 1)) ∧ Adds w w' := by
  obtain ⟨s, t, rfl, hs, ht⟩ := h
  obtain ⟨base, total, ch, sb⟩ := f
  simp only at *
  by_cases h0 : 0 ≤ base
  rotate_left
  · have HB : Hid (errOf (MayF ⟨base, total, ch, sb⟩) 1 = 1) := mayF_bad fun h => h0 h.1
    have h0' : base < 0 := by omega
    go_enter Try.func13, Try.ntmps13
    go_wp2
    go_ret
    exact ⟨by rw [HB.out]; rfl, (by repeat (first | with_reducible exact Adds.refl _ | with_reducible refine Adds.alloc ?_ _ | with_reducible refine Adds.more ?_ _ _ | with_reducible refine Adds.drew ?_ | with_reducible refine Adds.drewN ?_ _))⟩
  have h0' : ¬ base < 0 := by omega
  by_cases h1 : base ≤ total
  rotate_left
  · have HB : Hid (errOf (MayF ⟨base, total, ch, sb⟩) 1 = 1) := mayF_bad fun h => h1 h.2.1
    have h1' : total < base := by omega
    go_enter Try.func13, Try.ntmps13
    go_wp2
    go_ret
    exact ⟨by rw [HB.out]; rfl, (by repeat (first | with_reducible exact Adds.refl _ | with_reducible refine Adds.alloc ?_ _ | with_reducible refine Adds.more ?_ _ _ | with_reducible refine Adds.drew ?_ | with_reducible refine Adds.drewN ?_ _))⟩
  have h1' : ¬ total < base := by omega
  by_cases h2 : total ≤ 2147483647
  rotate_left
  · have HB : Hid (errOf (MayF ⟨base, total, ch, sb⟩) 1 = 1) := mayF_bad fun h => h2 h.2.2.1
    have h2' : 2147483647 < total := by omega
    go_enter Try.func13, Try.ntmps13
    go_wp2
    go_ret
    exact ⟨by rw [HB.out]; rfl, (by repeat (first | with_reducible exact Adds.refl _ | with_reducible refine Adds.alloc ?_ _ | with_reducible refine Adds.more ?_ _ _ | with_reducible refine Adds.drew ?_ | with_reducible refine Adds.drewN ?_ _))⟩
  have h2' : ¬ 2147483647 < total := by omega
  have hw : IntKind.i64.wrap (total - base) = total - base := by rw [IntKind.wrap_i64]; omega
  have hF := fun w' (hA : Adds w w') => follow_any s ch base w' (hs.adds hA) hc h0 (by omega)
  have hS := fun w' (hA : Adds w w') => subscribe_any base total s t sb w' (ht.adds hA)
  obtain ⟨so, sc, rfl, hsc, hsl⟩ := hs
  obtain ⟨to, tc, rfl, htc, htl⟩ := ht
  by_cases h3 : (ch.length : Int) = total - base
  rotate_left
  · have HB : Hid (errOf (MayF ⟨base, total, ch, sb⟩) 1 = 1) := mayF_bad fun h => h3 h.2.2.2.1
    have h3' : ((ch.length : Int) != total - base) = true := by simpa using h3
    clear hF hS hsl htl
    go_enter Try.func13, Try.ntmps13
    go_wp2
    go_ret
    exact ⟨by rw [HB.out]; rfl, (by repeat (first | with_reducible exact Adds.refl _ | with_reducible refine Adds.alloc ?_ _ | with_reducible refine Adds.more ?_ _ _ | with_reducible refine Adds.drew ?_ | with_reducible refine Adds.drewN ?_ _))⟩
  have h3' : ((ch.length : Int) != total - base) = false := by simpa using h3
  by_cases h4 : Follow ch base
  rotate_left
  · have HB : Hid (errOf (MayF ⟨base, total, ch, sb⟩) 1 = 1) := mayF_bad fun h => h4 h.2.2.2.2.1
    rw [decide_eq_false h4] at hF
    clear hS hsl htl h3 h4
    generalize ch.length = n at *
    go_enter Try.func13, Try.ntmps13
    go_wp2_with (first | (go_at_call 32; refine (hF _ (by repeat (first | with_reducible exact Adds.refl _ | with_reducible refine Adds.alloc ?_ _ | with_reducible refine Adds.more ?_ _ _ | with_reducible refine Adds.drew ?_ | with_reducible refine Adds.drewN ?_ _))).mono ?_; rintro e w1 ⟨rfl, os1, n1, rfl⟩))
    go_ret
    exact ⟨by rw [HB.out]; rfl, (by repeat (first | with_reducible exact Adds.refl _ | with_reducible refine Adds.alloc ?_ _ | with_reducible refine Adds.more ?_ _ _ | with_reducible refine Adds.drew ?_ | with_reducible refine Adds.drewN ?_ _))⟩
  rw [decide_eq_true h4] at hF
  have HE : Hid (errOf (MayF ⟨base, total, ch, sb⟩) 1 = errOf (Subsc sb base total) 1) := by
    show _ = _
    by_cases h5 : Subsc sb base total
    · rw [err_ok h5, err_ok (show MayF ⟨base, total, ch, sb⟩ from ⟨h0, h1, h2, h3, h4, h5⟩)]
    · rw [err_bad h5, err_bad (fun h => h5 h.2.2.2.2.2)]
  clear hsl htl h3 h4
  generalize ch.length = n at *
  by_cases h5 : Subsc sb base total
  · rw [decide_eq_true h5] at hS
    rw [err_ok h5] at HE
    clear h5
    generalize sb.length = m at *
    go_enter Try.func13, Try.ntmps13
    go_wp2_with (first | (go_at_call 32; refine (hF _ (by repeat (first | with_reducible exact Adds.refl _ | with_reducible refine Adds.alloc ?_ _ | with_reducible refine Adds.more ?_ _ _ | with_reducible refine Adds.drew ?_ | with_reducible refine Adds.drewN ?_ _))).mono ?_; rintro e w1 ⟨rfl, os1, n1, rfl⟩) | (go_at_call 36; refine (hS _ (by repeat (first | with_reducible exact Adds.refl _ | with_reducible refine Adds.alloc ?_ _ | with_reducible refine Adds.more ?_ _ _ | with_reducible refine Adds.drew ?_ | with_reducible refine Adds.drewN ?_ _))).mono ?_; rintro e w1 ⟨rfl, os2, n2, rfl⟩))
    go_ret
    exact ⟨by rw [HE.out]; rfl, (by repeat (first | with_reducible exact Adds.refl _ | with_reducible refine Adds.alloc ?_ _ | with_reducible refine Adds.more ?_ _ _ | with_reducible refine Adds.drew ?_ | with_reducible refine Adds.drewN ?_ _))⟩
  · rw [decide_eq_false h5] at hS
    rw [err_bad h5] at HE
    clear h5
    generalize sb.length = m at *
    go_enter Try.func13, Try.ntmps13
    go_wp2_with (first | (go_at_call 32; refine (hF _ (by repeat (first | with_reducible exact Adds.refl _ | with_reducible refine Adds.alloc ?_ _ | with_reducible refine Adds.more ?_ _ _ | with_reducible refine Adds.drew ?_ | with_reducible refine Adds.drewN ?_ _))).mono ?_; rintro e w1 ⟨rfl, os1, n1, rfl⟩) | (go_at_call 36; refine (hS _ (by repeat (first | with_reducible exact Adds.refl _ | with_reducible refine Adds.alloc ?_ _ | with_reducible refine Adds.more ?_ _ _ | with_reducible refine Adds.drew ?_ | with_reducible refine Adds.drewN ?_ _))).mono ?_; rintro e w1 ⟨rfl, os2, n2, rfl⟩))
    go_ret
    exact ⟨by rw [HE.out]; rfl, (by repeat (first | with_reducible exact Adds.refl _ | with_reducible refine Adds.alloc ?_ _ | with_reducible refine Adds.more ?_ _ _ | with_reducible refine Adds.drew ?_ | with_reducible refine Adds.drewN ?_ _))⟩

end Go.Proofs.Ytpjhohmbifpogaa
