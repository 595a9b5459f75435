/-
  Read of package feed, by contract.
-/
import Derived.Test.YtpjhohmbifpogaaBhd
import Derived.Test.YtpjhohmbifpogaaFck
import Derived.Test.YtpjhohmbifpogaaMfnd
namespace Go.Proofs.Ytpjhohmbifpogaa
open Go.RowKit
attribute [local go_sem] cell?_more frozen?_more setCell_more size_more tape_more drew_more drewN_more more_drew more_drewN one_out plus_out plus_end lt_one le_p2 le_p3 le_p4 le_p5 le_p6 le_p7 le_p8 le_p9 le_p10 le_p11 le_p12 le_p13 le_p14 le_p15 le_p16 le_p17 le_p18 le_p19 le_p20 le_p21 le_p22 le_p23 le_p24 le_q0 le_q1 lt_q1 le_q2 lt_q2 le_q3 lt_q3 le_q4 lt_q4 le_q5 lt_q5 le_q6 lt_q6 le_q7 lt_q7 le_q8 lt_q8 le_q9 lt_q9 le_q10 lt_q10 le_q11 lt_q11 le_q12 lt_q12 le_q13 lt_q13 le_q14 lt_q14 le_q15 lt_q15 le_q16 lt_q16 le_q17 lt_q17 le_q18 lt_q18 le_q19 lt_q19 le_q20 lt_q20 le_q21 lt_q21 le_q22 lt_q22 le_q23 lt_q23 le_q24 lt_q24

theorem mayF_climbs {f : Fd} (h : MayF f) : Climbs f.sb := subsc_climbs h.2.2.2.2.2

set_option maxHeartbeats 2000000 in
set_option maxRecDepth 20000 in
theorem read_bad (v : Value) (f : Fd) (name : ByteArray) (most : Int) (w : World) (h : LstF w v f) (hc : f.ch.length ≤ 1000) (hM : ¬ MayF f) :
    Calls Try.prog 26 #[v, .string name, .int .i64 most] w fun e w' => e = .returned (.tuple #[.slice none 0 0, .int .i64 0, .int .i64 1]) ∧ Adds w w' := by
  have kC := fun w' (hA : Adds w w') => checkF_any v f w' (h.adds hA) hc
  rw [err_bad hM] at kC
  obtain ⟨s, t, rfl, hs, ht⟩ := h
  clear hs ht hM
  go_enter Try.func26, Try.ntmps26
  go_wp2_with (first
    | (go_at_call 13; refine (kC _ (by repeat (first | with_reducible exact Adds.refl _ | with_reducible refine Adds.alloc ?_ _ | with_reducible refine Adds.more ?_ _ _ | with_reducible refine Adds.drew ?_ | with_reducible refine Adds.drewN ?_ _))).mono ?_; rintro e w1 ⟨rfl, os1, n1, rfl⟩))
  exact bodyPost_ret (v := .tuple #[.slice none 0 0, .int .i64 0, .int .i64 1]) (by simp [results, Try.results26, go_sem]) rfl ⟨rfl, (by repeat (first | with_reducible exact Adds.refl _ | with_reducible refine Adds.alloc ?_ _ | with_reducible refine Adds.more ?_ _ _ | with_reducible refine Adds.drew ?_ | with_reducible refine Adds.drewN ?_ _))⟩

set_option maxHeartbeats 2000000 in
set_option maxRecDepth 20000 in
theorem read_none (v : Value) (f : Fd) (name : ByteArray) (most : Int) (w : World) (h : LstF w v f) (hc : f.ch.length ≤ 1000) (hM : MayF f) (hn : hasAt name f.sb = false) :
    Calls Try.prog 26 #[v, .string name, .int .i64 most] w fun e w' => e = .returned (.tuple #[.slice none 0 0, .int .i64 0, .int .i64 4]) ∧ Adds w w' := by
  have kC := fun w' (hA : Adds w w') => checkF_any v f w' (h.adds hA) hc
  rw [err_ok hM] at kC
  obtain ⟨s, t, rfl, hs, ht⟩ := h
  have kF := fun w' (hA : Adds w w') => find_any t f.sb name w' (ht.adds hA) (Nat.le_trans hM.2.2.2.2.2.1 (by omega)) (mayF_climbs hM)
  rw [hn] at kF
  obtain ⟨to, tc, rfl, _, _⟩ := ht
  clear hs hM hn
  generalize cutAt name f.sb = c at *
  go_enter Try.func26, Try.ntmps26
  go_wp2_with (first
    | (go_at_call 13; refine (kC _ (by repeat (first | with_reducible exact Adds.refl _ | with_reducible refine Adds.alloc ?_ _ | with_reducible refine Adds.more ?_ _ _ | with_reducible refine Adds.drew ?_ | with_reducible refine Adds.drewN ?_ _))).mono ?_; rintro e w1 ⟨rfl, os1, n1, rfl⟩)
    | (go_at_call 40; refine (kF _ (by repeat (first | with_reducible exact Adds.refl _ | with_reducible refine Adds.alloc ?_ _ | with_reducible refine Adds.more ?_ _ _ | with_reducible refine Adds.drew ?_ | with_reducible refine Adds.drewN ?_ _))).mono ?_; rintro e w3 ⟨rfl, os3, n3, rfl⟩))
  exact bodyPost_ret (v := .tuple #[.slice none 0 0, .int .i64 0, .int .i64 4]) (by simp [results, Try.results26, go_sem]) rfl ⟨rfl, (by repeat (first | with_reducible exact Adds.refl _ | with_reducible refine Adds.alloc ?_ _ | with_reducible refine Adds.more ?_ _ _ | with_reducible refine Adds.drew ?_ | with_reducible refine Adds.drewN ?_ _))⟩

set_option maxHeartbeats 2000000 in
set_option maxRecDepth 20000 in
theorem read_most (v : Value) (f : Fd) (name : ByteArray) (most : Int) (w : World) (h : LstF w v f) (hc : f.ch.length ≤ 1000) (hM : MayF f) (hn : hasAt name f.sb = true) (hm : ¬ (1 ≤ most ∧ most ≤ 16)) :
    Calls Try.prog 26 #[v, .string name, .int .i64 most] w fun e w' => e = .returned (.tuple #[.slice none 0 0, .int .i64 0, .int .i64 1]) ∧ Adds w w' := by
  have kC := fun w' (hA : Adds w w') => checkF_any v f w' (h.adds hA) hc
  rw [err_ok hM] at kC
  obtain ⟨s, t, rfl, hs, ht⟩ := h
  have kF := fun w' (hA : Adds w w') => find_any t f.sb name w' (ht.adds hA) (Nat.le_trans hM.2.2.2.2.2.1 (by omega)) (mayF_climbs hM)
  rw [hn] at kF
  have kA := fun w' => atOnce_any most w'
  rw [decide_eq_false hm] at kA
  obtain ⟨to, tc, rfl, _, _⟩ := ht
  clear hs hM hn hm
  generalize cutAt name f.sb = c at *
  go_enter Try.func26, Try.ntmps26
  go_wp2_with (first
    | (go_at_call 13; refine (kC _ (by repeat (first | with_reducible exact Adds.refl _ | with_reducible refine Adds.alloc ?_ _ | with_reducible refine Adds.more ?_ _ _ | with_reducible refine Adds.drew ?_ | with_reducible refine Adds.drewN ?_ _))).mono ?_; rintro e w1 ⟨rfl, os1, n1, rfl⟩)
    | (go_at_call 40; refine (kF _ (by repeat (first | with_reducible exact Adds.refl _ | with_reducible refine Adds.alloc ?_ _ | with_reducible refine Adds.more ?_ _ _ | with_reducible refine Adds.drew ?_ | with_reducible refine Adds.drewN ?_ _))).mono ?_; rintro e w3 ⟨rfl, os3, n3, rfl⟩)
    | (go_at_call 45; refine (kA _).mono ?_; rintro e w4 ⟨rfl, os4, n4, rfl⟩))
  exact bodyPost_ret (v := .tuple #[.slice none 0 0, .int .i64 0, .int .i64 1]) (by simp [results, Try.results26, go_sem]) rfl ⟨rfl, (by repeat (first | with_reducible exact Adds.refl _ | with_reducible refine Adds.alloc ?_ _ | with_reducible refine Adds.more ?_ _ _ | with_reducible refine Adds.drew ?_ | with_reducible refine Adds.drewN ?_ _))⟩

set_option maxHeartbeats 4000000 in
set_option maxRecDepth 20000 in
theorem read_ok (v : Value) (f : Fd) (name : ByteArray) (m : Nat) (w : World) (h : LstF w v f) (hc : f.ch.length ≤ 1000) (hd : ∀ d ∈ f.ch, d.doc.length ≤ 1000) (hM : MayF f) (hlt : cutAt name f.sb < f.sb.length) (hn : hasAt name f.sb = true) (hm1 : 1 ≤ m) (hm2 : m ≤ 16) (k : Nat) (hk : f.sb[cutAt name f.sb].pos - f.base = (k : Int)) :
    Calls Try.prog 26 #[v, .string name, .int .i64 (m : Int)] w fun e w' => (∃ vo vc rs, e = .returned (.tuple #[.slice vo (cutC f.ch k m).length vc, .int .i64 f.sb[cutAt name f.sb].pos, .int .i64 0]) ∧ Hid (OwnH w.heap.size (.slice vo (cutC f.ch k m).length vc) rs w' w' ∧ rs.map (·.1) = cutC f.ch k m)) ∧ Adds w w' := by
  have kC := fun w' (hA : Adds w w') => checkF_any v f w' (h.adds hA) hc
  rw [err_ok hM] at kC
  obtain ⟨s, t, rfl, hs, ht⟩ := h
  have kF := fun w' (hA : Adds w w') => find_any t f.sb name w' (ht.adds hA) (Nat.le_trans hM.2.2.2.2.2.1 (by omega)) (mayF_climbs hM)
  rw [hn] at kF
  have kA := fun w' => atOnce_any (m : Int) w'
  rw [decide_eq_true (⟨by omega, by omega⟩ : (1 : Int) ≤ (m : Int) ∧ (m : Int) ≤ 16)] at kA
  obtain ⟨base, total, ch, sb⟩ := f
  obtain ⟨m1, m2, m3, m4, m5, m6⟩ := hM
  have m7 := m6.2 _ hlt
  simp only at *
  generalize cutAt name sb = c at *
  have hpp := m7.2.2.1
  have kB := fun w' (hA : Adds w w') => behind_any base total sb[c].pos s t ch k m w' (hs.adds hA) hc hd hk (by omega) m1 (by omega) hm1 hm2
  have hnil : sb ≠ [] := by rintro rfl; simp at hlt
  obtain ⟨to, tc, rfl, _, ht | ⟨b, off, rfl, hb, hl⟩⟩ := ht
  · exact absurd ht hnil
  obtain ⟨c0, c1⟩ := hl c hlt
  have hlt1 : c < sb.length := hlt
  have hlt' : (c : Int) < (sb.length : Int) := by omega
  clear hs hl m5 m6 m7 hnil hd hn
  generalize sb[c].pos = p at *
  generalize sb[c].name = nm at *
  generalize cutC ch k m = ds at *
  go_enter Try.func26, Try.ntmps26
  go_wp2_with (first
    | (go_at_call 13; refine (kC _ (by repeat (first | with_reducible exact Adds.refl _ | with_reducible refine Adds.alloc ?_ _ | with_reducible refine Adds.more ?_ _ _ | with_reducible refine Adds.drew ?_ | with_reducible refine Adds.drewN ?_ _))).mono ?_; rintro e w1 ⟨rfl, os1, n1, rfl⟩)
    | (go_at_call 40; refine (kF _ (by repeat (first | with_reducible exact Adds.refl _ | with_reducible refine Adds.alloc ?_ _ | with_reducible refine Adds.more ?_ _ _ | with_reducible refine Adds.drew ?_ | with_reducible refine Adds.drewN ?_ _))).mono ?_; rintro e w3 ⟨rfl, os3, n3, rfl⟩)
    | (go_at_call 45; refine (kA _).mono ?_; rintro e w4 ⟨rfl, os4, n4, rfl⟩)
    | (go_at_call 46; refine (kB _ (by repeat (first | with_reducible exact Adds.refl _ | with_reducible refine Adds.alloc ?_ _ | with_reducible refine Adds.more ?_ _ _ | with_reducible refine Adds.drew ?_ | with_reducible refine Adds.drewN ?_ _))).mono ?_; rintro e w5 ⟨⟨v5, c5, r5, rfl, H5⟩, os5, n5, rfl⟩))
  refine bodyPost_ret (v := .tuple #[.slice v5 ds.length c5, .int .i64 p, .int .i64 0]) (by simp [results, Try.results26, go_sem]) rfl ⟨⟨v5, c5, r5, rfl, ?_, H5.out.2⟩, (by repeat (first | with_reducible exact Adds.refl _ | with_reducible refine Adds.alloc ?_ _ | with_reducible refine Adds.more ?_ _ _ | with_reducible refine Adds.drew ?_ | with_reducible refine Adds.drewN ?_ _))⟩
  refine H5.out.1.far ?_ (by simp [go_sem] <;> omega)
  repeat (first | with_reducible exact Far.refl _ _ | with_reducible refine Far.mores ?_ (by simp [go_sem]) _ _ _ | with_reducible refine Far.allocs ?_ (by simp [go_sem]) _ | with_reducible refine Far.low ?_ (by simp [go_sem]) (by simp [go_sem] <;> omega) _ _ | with_reducible refine Far.more ?_ _ _ | with_reducible refine Far.alloc ?_ _)

end Go.Proofs.Ytpjhohmbifpogaa
