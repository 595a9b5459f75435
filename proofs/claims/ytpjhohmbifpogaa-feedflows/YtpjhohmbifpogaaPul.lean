/-
  Pull of package feed, by contract.
-/
import Derived.Test.YtpjhohmbifpogaaBhd
import Derived.Test.YtpjhohmbifpogaaFck
import Derived.Test.YtpjhohmbifpogaaMfnd
namespace Go.Proofs.Ytpjhohmbifpogaa
open Go.RowKit
attribute [local go_sem] cell?_more frozen?_more setCell_more size_more tape_more drew_more drewN_more more_drew more_drewN one_out plus_out plus_end lt_one le_p2 le_p3 le_p4 le_p5 le_p6 le_p7 le_p8 le_p9 le_p10 le_p11 le_p12 le_p13 le_p14 le_p15 le_p16 le_p17 le_p18 le_p19 le_p20 le_p21 le_p22 le_p23 le_p24 le_q0 le_q1 lt_q1 le_q2 lt_q2 le_q3 lt_q3 le_q4 lt_q4 le_q5 lt_q5 le_q6 lt_q6 le_q7 lt_q7 le_q8 lt_q8 le_q9 lt_q9 le_q10 lt_q10 le_q11 lt_q11 le_q12 lt_q12 le_q13 lt_q13 le_q14 lt_q14 le_q15 lt_q15 le_q16 lt_q16 le_q17 lt_q17 le_q18 lt_q18 le_q19 lt_q19 le_q20 lt_q20 le_q21 lt_q21 le_q22 lt_q22 le_q23 lt_q23 le_q24 lt_q24

/-- What may be pulled. -/
def PullOk (f : Fd) (frm most : Int) : Prop := MayF f ∧ (1 ≤ most ∧ most ≤ 16) ∧ 0 ≤ frm ∧ frm ≤ f.total

set_option maxHeartbeats 2000000 in
set_option maxRecDepth 20000 in
theorem pull_bad (v : Value) (f : Fd) (frm most : Int) (w : World) (h : LstF w v f) (hc : f.ch.length ≤ 1000) (hP : ¬ PullOk f frm most) :
    Calls Try.prog 27 #[v, .int .i64 frm, .int .i64 most] w fun e w' => e = .returned (.tuple #[.slice none 0 0, .int .i64 1]) ∧ Adds w w' := by
  have kC := fun w' (hA : Adds w w') => checkF_any v f w' (h.adds hA) hc
  have kA := fun w' => atOnce_any most w'
  obtain ⟨s, t, rfl, hs, ht⟩ := h
  clear hs ht
  by_cases hM : MayF f
  rotate_left
  · rw [err_bad hM] at kC
    clear hP hM
    go_enter Try.func27, Try.ntmps27
    go_wp2_with (first
      | (go_at_call 13; refine (kC _ (by repeat (first | with_reducible exact Adds.refl _ | with_reducible refine Adds.alloc ?_ _ | with_reducible refine Adds.more ?_ _ _ | with_reducible refine Adds.drew ?_ | with_reducible refine Adds.drewN ?_ _))).mono ?_; rintro e w1 ⟨rfl, os1, n1, rfl⟩))
    exact bodyPost_ret (v := .tuple #[.slice none 0 0, .int .i64 1]) (by simp [results, Try.results27, go_sem]) rfl ⟨rfl, (by repeat (first | with_reducible exact Adds.refl _ | with_reducible refine Adds.alloc ?_ _ | with_reducible refine Adds.more ?_ _ _ | with_reducible refine Adds.drew ?_ | with_reducible refine Adds.drewN ?_ _))⟩
  rw [err_ok hM] at kC
  by_cases hm : 1 ≤ most ∧ most ≤ 16
  rotate_left
  · rw [decide_eq_false hm] at kA
    clear hP hM hm
    go_enter Try.func27, Try.ntmps27
    go_wp2_with (first
      | (go_at_call 13; refine (kC _ (by repeat (first | with_reducible exact Adds.refl _ | with_reducible refine Adds.alloc ?_ _ | with_reducible refine Adds.more ?_ _ _ | with_reducible refine Adds.drew ?_ | with_reducible refine Adds.drewN ?_ _))).mono ?_; rintro e w1 ⟨rfl, os1, n1, rfl⟩)
      | (go_at_call 45; refine (kA _).mono ?_; rintro e w4 ⟨rfl, os4, n4, rfl⟩))
    exact bodyPost_ret (v := .tuple #[.slice none 0 0, .int .i64 1]) (by simp [results, Try.results27, go_sem]) rfl ⟨rfl, (by repeat (first | with_reducible exact Adds.refl _ | with_reducible refine Adds.alloc ?_ _ | with_reducible refine Adds.more ?_ _ _ | with_reducible refine Adds.drew ?_ | with_reducible refine Adds.drewN ?_ _))⟩
  rw [decide_eq_true hm] at kA
  by_cases h0 : frm < 0
  · clear hP hM hm
    go_enter Try.func27, Try.ntmps27
    go_wp2_with (first
      | (go_at_call 13; refine (kC _ (by repeat (first | with_reducible exact Adds.refl _ | with_reducible refine Adds.alloc ?_ _ | with_reducible refine Adds.more ?_ _ _ | with_reducible refine Adds.drew ?_ | with_reducible refine Adds.drewN ?_ _))).mono ?_; rintro e w1 ⟨rfl, os1, n1, rfl⟩)
      | (go_at_call 45; refine (kA _).mono ?_; rintro e w4 ⟨rfl, os4, n4, rfl⟩))
    exact bodyPost_ret (v := .tuple #[.slice none 0 0, .int .i64 1]) (by simp [results, Try.results27, go_sem]) rfl ⟨rfl, (by repeat (first | with_reducible exact Adds.refl _ | with_reducible refine Adds.alloc ?_ _ | with_reducible refine Adds.more ?_ _ _ | with_reducible refine Adds.drew ?_ | with_reducible refine Adds.drewN ?_ _))⟩
  have h1 : f.total < frm := by
    by_cases h1 : f.total < frm
    · exact h1
    · exact absurd ⟨hM, hm, by omega, by omega⟩ hP
  clear hP hM hm
  generalize f.total = tt at *
  generalize f.base = bb at *
  go_enter Try.func27, Try.ntmps27
  go_wp2_with (first
    | (go_at_call 13; refine (kC _ (by repeat (first | with_reducible exact Adds.refl _ | with_reducible refine Adds.alloc ?_ _ | with_reducible refine Adds.more ?_ _ _ | with_reducible refine Adds.drew ?_ | with_reducible refine Adds.drewN ?_ _))).mono ?_; rintro e w1 ⟨rfl, os1, n1, rfl⟩)
    | (go_at_call 45; refine (kA _).mono ?_; rintro e w4 ⟨rfl, os4, n4, rfl⟩))
  exact bodyPost_ret (v := .tuple #[.slice none 0 0, .int .i64 1]) (by simp [results, Try.results27, go_sem]) rfl ⟨rfl, (by repeat (first | with_reducible exact Adds.refl _ | with_reducible refine Adds.alloc ?_ _ | with_reducible refine Adds.more ?_ _ _ | with_reducible refine Adds.drew ?_ | with_reducible refine Adds.drewN ?_ _))⟩

set_option maxHeartbeats 2000000 in
set_option maxRecDepth 20000 in
theorem pull_old (v : Value) (f : Fd) (frm most : Int) (w : World) (h : LstF w v f) (hc : f.ch.length ≤ 1000) (hP : PullOk f frm most) (ho : frm < f.base) :
    Calls Try.prog 27 #[v, .int .i64 frm, .int .i64 most] w fun e w' => e = .returned (.tuple #[.slice none 0 0, .int .i64 8]) ∧ Adds w w' := by
  have kC := fun w' (hA : Adds w w') => checkF_any v f w' (h.adds hA) hc
  have kA := fun w' => atOnce_any most w'
  obtain ⟨s, t, rfl, hs, ht⟩ := h
  obtain ⟨hM, hm, h0, h1⟩ := hP
  rw [err_ok hM] at kC
  rw [decide_eq_true hm] at kA
  have h0' : ¬ frm < 0 := by omega
  have h1' : ¬ f.total < frm := by omega
  clear hs ht hM hm h0 h1
  generalize f.total = tt at *
  generalize f.base = bb at *
  go_enter Try.func27, Try.ntmps27
  go_wp2_with (first
    | (go_at_call 13; refine (kC _ (by repeat (first | with_reducible exact Adds.refl _ | with_reducible refine Adds.alloc ?_ _ | with_reducible refine Adds.more ?_ _ _ | with_reducible refine Adds.drew ?_ | with_reducible refine Adds.drewN ?_ _))).mono ?_; rintro e w1 ⟨rfl, os1, n1, rfl⟩)
    | (go_at_call 45; refine (kA _).mono ?_; rintro e w4 ⟨rfl, os4, n4, rfl⟩))
  exact bodyPost_ret (v := .tuple #[.slice none 0 0, .int .i64 8]) (by simp [results, Try.results27, go_sem]) rfl ⟨rfl, (by repeat (first | with_reducible exact Adds.refl _ | with_reducible refine Adds.alloc ?_ _ | with_reducible refine Adds.more ?_ _ _ | with_reducible refine Adds.drew ?_ | with_reducible refine Adds.drewN ?_ _))⟩

set_option maxHeartbeats 2000000 in
set_option maxRecDepth 20000 in
theorem pull_ok (v : Value) (f : Fd) (frm : Int) (m : Nat) (w : World) (h : LstF w v f) (hc : f.ch.length ≤ 1000) (hd : ∀ d ∈ f.ch, d.doc.length ≤ 1000) (hP : PullOk f frm (m : Int)) (k : Nat) (hk : frm - f.base = (k : Int)) :
    Calls Try.prog 27 #[v, .int .i64 frm, .int .i64 (m : Int)] w fun e w' => (∃ vo vc rs, e = .returned (.tuple #[.slice vo (cutC f.ch k m).length vc, .int .i64 0]) ∧ Hid (OwnH w.heap.size (.slice vo (cutC f.ch k m).length vc) rs w' w' ∧ rs.map (·.1) = cutC f.ch k m)) ∧ Adds w w' := by
  have kC := fun w' (hA : Adds w w') => checkF_any v f w' (h.adds hA) hc
  have kA := fun w' => atOnce_any (m : Int) w'
  obtain ⟨s, t, rfl, hs, ht⟩ := h
  obtain ⟨hM, hm, h0, h1⟩ := hP
  rw [err_ok hM] at kC
  rw [decide_eq_true hm] at kA
  obtain ⟨base, total, ch, sb⟩ := f
  obtain ⟨m1, m2, m3, m4, m5, m6⟩ := hM
  simp only at *
  have kB := fun w' (hA : Adds w w') => behind_any base total frm s t ch k m w' (hs.adds hA) hc hd hk (by omega) m1 (by omega) (by omega) (by omega)
  have h0' : ¬ frm < 0 := by omega
  have h1' : ¬ total < frm := by omega
  have h2' : ¬ frm < base := by omega
  clear hs ht hm m5 m6 hd
  generalize cutC ch k m = ds at *
  go_enter Try.func27, Try.ntmps27
  go_wp2_with (first
    | (go_at_call 13; refine (kC _ (by repeat (first | with_reducible exact Adds.refl _ | with_reducible refine Adds.alloc ?_ _ | with_reducible refine Adds.more ?_ _ _ | with_reducible refine Adds.drew ?_ | with_reducible refine Adds.drewN ?_ _))).mono ?_; rintro e w1 ⟨rfl, os1, n1, rfl⟩)
    | (go_at_call 45; refine (kA _).mono ?_; rintro e w4 ⟨rfl, os4, n4, rfl⟩)
    | (go_at_call 46; refine (kB _ (by repeat (first | with_reducible exact Adds.refl _ | with_reducible refine Adds.alloc ?_ _ | with_reducible refine Adds.more ?_ _ _ | with_reducible refine Adds.drew ?_ | with_reducible refine Adds.drewN ?_ _))).mono ?_; rintro e w5 ⟨⟨v5, c5, r5, rfl, H5⟩, os5, n5, rfl⟩))
  refine bodyPost_ret (v := .tuple #[.slice v5 ds.length c5, .int .i64 0]) (by simp [results, Try.results27, go_sem]) rfl ⟨⟨v5, c5, r5, rfl, ?_, H5.out.2⟩, (by repeat (first | with_reducible exact Adds.refl _ | with_reducible refine Adds.alloc ?_ _ | with_reducible refine Adds.more ?_ _ _ | with_reducible refine Adds.drew ?_ | with_reducible refine Adds.drewN ?_ _))⟩
  refine H5.out.1.far ?_ (by simp [go_sem] <;> omega)
  repeat (first | with_reducible exact Far.refl _ _ | with_reducible refine Far.mores ?_ (by simp [go_sem]) _ _ _ | with_reducible refine Far.allocs ?_ (by simp [go_sem]) _ | with_reducible refine Far.low ?_ (by simp [go_sem]) (by simp [go_sem] <;> omega) _ _ | with_reducible refine Far.more ?_ _ _ | with_reducible refine Far.alloc ?_ _)

end Go.Proofs.Ytpjhohmbifpogaa
