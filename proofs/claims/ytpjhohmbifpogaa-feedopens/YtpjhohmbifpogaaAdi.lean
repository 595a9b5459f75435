/-
  Add of package feed where it is refused, by contract.
-/
import Derived.Test.YtpjhohmbifpogaaAdh
namespace Go.Proofs.Ytpjhohmbifpogaa
open Go.RowKit
attribute [local go_sem] cell?_more frozen?_more setCell_more size_more tape_more drew_more drewN_more more_drew more_drewN one_out plus_out plus_end lt_one le_p2 le_p3 le_p4 le_p5 le_p6 le_p7 le_p8 le_p9 le_p10 le_p11 le_p12 le_p13 le_p14 le_p15 le_p16 le_p17 le_p18 le_p19 le_p20 le_p21 le_p22 le_p23 le_p24 le_q0 le_q1 lt_q1 le_q2 lt_q2 le_q3 lt_q3 le_q4 lt_q4 le_q5 lt_q5 le_q6 lt_q6 le_q7 lt_q7 le_q8 lt_q8 le_q9 lt_q9 le_q10 lt_q10 le_q11 lt_q11 le_q12 lt_q12 le_q13 lt_q13 le_q14 lt_q14 le_q15 lt_q15 le_q16 lt_q16 le_q17 lt_q17 le_q18 lt_q18 le_q19 lt_q19 le_q20 lt_q20 le_q21 lt_q21 le_q22 lt_q22 le_q23 lt_q23 le_q24 lt_q24

theorem lstG_far {B : Nat} {s t : Value} {rs : List Rh} {ss : List Sb} {ch : List Ch} {W0 W1 w w' : World} (h : OwnH B s rs W0 w) (hm : rs.map (·.1) = ch) (h' : OwnS B t ss W1 w) (hf : Far B w w') : LstH w' s ch ∧ LstS w' t ss := by
  subst hm
  exact ⟨(h.far hf (Nat.le_refl _)).lstH, (h'.far hf (Nat.le_refl _)).lst⟩

set_option maxHeartbeats 2000000 in
set_option maxRecDepth 20000 in
theorem add_bad (v : Value) (f : Fd) (x : Value) (w : World) (h : LstF w v f) (hc : f.ch.length ≤ 1000) (hM : ¬ MayF f) :
    Calls Try.prog 11 #[v, x] w fun e w' => e = .returned (.tuple #[.agg #[.int .i64 0, .int .i64 0, .slice none 0 0, .slice none 0 0], .int .i64 1]) ∧ Adds w w' := by
  have kC := fun w' (hA : Adds w w') => checkF_any v f w' (h.adds hA) hc
  rw [err_bad hM] at kC
  obtain ⟨s, t, rfl, hs, ht⟩ := h
  clear hs ht hM
  go_enter Try.func11, Try.ntmps11
  go_wp2_with (first
    | (go_at_call 13; refine (kC _ (by repeat (first | with_reducible exact Adds.refl _ | with_reducible refine Adds.alloc ?_ _ | with_reducible refine Adds.more ?_ _ _ | with_reducible refine Adds.drew ?_ | with_reducible refine Adds.drewN ?_ _))).mono ?_; rintro e w1 ⟨rfl, os1, n1, rfl⟩))
  exact bodyPost_ret (v := .tuple #[.agg #[.int .i64 0, .int .i64 0, .slice none 0 0, .slice none 0 0], .int .i64 1]) (by simp [results, Try.results11, go_sem]) rfl ⟨rfl, (by repeat (first | with_reducible exact Adds.refl _ | with_reducible refine Adds.alloc ?_ _ | with_reducible refine Adds.more ?_ _ _ | with_reducible refine Adds.drew ?_ | with_reducible refine Adds.drewN ?_ _))⟩

set_option maxHeartbeats 2000000 in
set_option maxRecDepth 20000 in
theorem add_arg (v : Value) (f : Fd) (x : Value) (l : List Ch) (w : World) (h : LstF w v f) (hx : LstH w x l) (hM : MayF f) (hF : ¬ (f.total + l.length ≤ 2147483647 ∧ Follow l f.total)) (hc : f.ch.length ≤ 1000) (hd : ∀ d ∈ f.ch, d.doc.length ≤ 1000) (hl : l.length ≤ 1000) :
    Calls Try.prog 11 #[v, x] w fun e w' => (∃ vo vc uo uc, e = .returned (.tuple #[.agg #[.int .i64 f.base, .int .i64 f.total, .slice vo f.ch.length vc, .slice uo f.sb.length uc], .int .i64 1]) ∧ Hid (LstH w' (.slice vo f.ch.length vc) f.ch ∧ LstS w' (.slice uo f.sb.length uc) f.sb)) ∧ Adds w w' := by
  have kC := fun w' (hA : Adds w w') => checkF_any v f w' (h.adds hA) hc
  rw [err_ok hM] at kC
  obtain ⟨s, t, rfl, hs, ht⟩ := h
  obtain ⟨base, total, ch, sb⟩ := f
  simp only at *
  have kO := fun w' (hA : Adds w w') => copyOf_row base total s t ch sb w' (hs.adds hA) (ht.adds hA) hc hd (Nat.le_trans hM.2.2.2.2.2.1 (by omega))
  have hM1 : 0 ≤ base ∧ base ≤ total ∧ total ≤ 2147483647 := ⟨hM.1, hM.2.1, hM.2.2.1⟩
  have kF := fun w' (hA : Adds w w') => follow_any x l total w' (hx.adds hA) hl (by omega) (by omega)
  obtain ⟨xo, xc, rfl, _, _⟩ := hx
  have hw1 : IntKind.i64.wrap (2147483647 - total) = 2147483647 - total := by rw [IntKind.wrap_i64]; omega
  clear hd hM hs ht
  by_cases hle : 2147483647 - total < (l.length : Int)
  · clear hF kF
    go_enter Try.func11, Try.ntmps11
    go_wp2_with (first
      | (go_at_call 13; refine (kC _ (by repeat (first | with_reducible exact Adds.refl _ | with_reducible refine Adds.alloc ?_ _ | with_reducible refine Adds.more ?_ _ _ | with_reducible refine Adds.drew ?_ | with_reducible refine Adds.drewN ?_ _))).mono ?_; rintro e w1 ⟨rfl, os1, n1, rfl⟩)
      | (go_at_call 31; refine (kO _ (by repeat (first | with_reducible exact Adds.refl _ | with_reducible refine Adds.alloc ?_ _ | with_reducible refine Adds.more ?_ _ _ | with_reducible refine Adds.drew ?_ | with_reducible refine Adds.drewN ?_ _))).mono ?_; rintro e w2 ⟨⟨v2, c2, u2, d2, r2, rfl, H2⟩, os2, n2, rfl⟩))
    refine bodyPost_ret (v := .tuple #[.agg #[.int .i64 base, .int .i64 total, .slice v2 ch.length c2, .slice u2 sb.length d2], .int .i64 1]) (by simp [results, Try.results11, go_sem]) rfl ⟨⟨v2, c2, u2, d2, rfl, ?_⟩, (by repeat (first | with_reducible exact Adds.refl _ | with_reducible refine Adds.alloc ?_ _ | with_reducible refine Adds.more ?_ _ _ | with_reducible refine Adds.drew ?_ | with_reducible refine Adds.drewN ?_ _))⟩
    exact lstG_far H2.out.1 H2.out.2.1 H2.out.2.2 (by repeat (first | with_reducible exact Far.refl _ _ | with_reducible refine Far.mores ?_ (by simp [go_sem]) _ _ _ | with_reducible refine Far.allocs ?_ (by simp [go_sem]) _ | with_reducible refine Far.low ?_ (by simp [go_sem]) (by simp [go_sem] <;> omega) _ _ | with_reducible refine Far.more ?_ _ _ | with_reducible refine Far.alloc ?_ _))
  · have hF' : ¬ Follow l total := fun h => hF ⟨by omega, h⟩
    rw [decide_eq_false hF'] at kF
    clear hF hF'
    go_enter Try.func11, Try.ntmps11
    go_wp2_with (first
      | (go_at_call 13; refine (kC _ (by repeat (first | with_reducible exact Adds.refl _ | with_reducible refine Adds.alloc ?_ _ | with_reducible refine Adds.more ?_ _ _ | with_reducible refine Adds.drew ?_ | with_reducible refine Adds.drewN ?_ _))).mono ?_; rintro e w1 ⟨rfl, os1, n1, rfl⟩)
      | (go_at_call 31; refine (kO _ (by repeat (first | with_reducible exact Adds.refl _ | with_reducible refine Adds.alloc ?_ _ | with_reducible refine Adds.more ?_ _ _ | with_reducible refine Adds.drew ?_ | with_reducible refine Adds.drewN ?_ _))).mono ?_; rintro e w2 ⟨⟨v2, c2, u2, d2, r2, rfl, H2⟩, os2, n2, rfl⟩)
      | (go_at_call 32; refine (kF _ (by repeat (first | with_reducible exact Adds.refl _ | with_reducible refine Adds.alloc ?_ _ | with_reducible refine Adds.more ?_ _ _ | with_reducible refine Adds.drew ?_ | with_reducible refine Adds.drewN ?_ _))).mono ?_; rintro e w3 ⟨rfl, os3, n3, rfl⟩))
    refine bodyPost_ret (v := .tuple #[.agg #[.int .i64 base, .int .i64 total, .slice v2 ch.length c2, .slice u2 sb.length d2], .int .i64 1]) (by simp [results, Try.results11, go_sem]) rfl ⟨⟨v2, c2, u2, d2, rfl, ?_⟩, (by repeat (first | with_reducible exact Adds.refl _ | with_reducible refine Adds.alloc ?_ _ | with_reducible refine Adds.more ?_ _ _ | with_reducible refine Adds.drew ?_ | with_reducible refine Adds.drewN ?_ _))⟩
    exact lstG_far H2.out.1 H2.out.2.1 H2.out.2.2 (by repeat (first | with_reducible exact Far.refl _ _ | with_reducible refine Far.mores ?_ (by simp [go_sem]) _ _ _ | with_reducible refine Far.allocs ?_ (by simp [go_sem]) _ | with_reducible refine Far.low ?_ (by simp [go_sem]) (by simp [go_sem] <;> omega) _ _ | with_reducible refine Far.more ?_ _ _ | with_reducible refine Far.alloc ?_ _))

end Go.Proofs.Ytpjhohmbifpogaa
