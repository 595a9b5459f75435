/-
  What the law asks of sizes, by contract.
-/
import Derived.Test.YtpjhohmbifpogaaChg
namespace Go.Proofs.Ytpjhohmbifpogaa
open Go.RowKit
attribute [local go_sem] cell?_more frozen?_more setCell_more size_more tape_more drew_more drewN_more more_drew more_drewN one_out plus_out plus_end lt_one le_p2 le_p3 le_p4 le_p5 le_p6 le_p7 le_p8 le_p9 le_p10 le_p11 le_p12 le_p13 le_p14 le_p15 le_p16 le_p17 le_p18 le_p19 le_p20 le_p21 le_p22 le_p23 le_p24 le_q0 le_q1 lt_q1 le_q2 lt_q2 le_q3 lt_q3 le_q4 lt_q4 le_q5 lt_q5 le_q6 lt_q6 le_q7 lt_q7 le_q8 lt_q8 le_q9 lt_q9 le_q10 lt_q10 le_q11 lt_q11 le_q12 lt_q12 le_q13 lt_q13 le_q14 lt_q14 le_q15 lt_q15 le_q16 lt_q16 le_q17 lt_q17 le_q18 lt_q18 le_q19 lt_q19 le_q20 lt_q20 le_q21 lt_q21 le_q22 lt_q22 le_q23 lt_q23 le_q24 lt_q24

def LightC (ch : List Ch) : Prop := ch.length ≤ 60 ∧ ∀ k (h : k < ch.length), ch[k].doc.length ≤ 20
instance (ch : List Ch) : Decidable (LightC ch) := by unfold LightC; infer_instance

set_option maxHeartbeats 2000000 in
set_option maxRecDepth 20000 in
theorem changes_any (s : Value) (ch : List Ch) (w : World) (h : LstH w s ch) :
    Calls Try.prog 9 #[s] w fun e w' => e = .returned (.bool (decide (LightC ch))) ∧ Adds w w' := by
  obtain ⟨ao, cap, rfl, hcap, hlo⟩ := h
  go_enter Try.func9, Try.ntmps9
  go_wp2
  go_loopw [3] (fun i wr => ∃ k : Nat, k ≤ ch.length ∧ k ≤ 60 ∧ i = .int .i64 k ∧ (∀ j (hj : j < ch.length), j < k → ch[j].doc.length ≤ 20) ∧ Adds w wr) (fun i _ => 60 - (intOf i).toNat)
  case atStart => exact ⟨0, Nat.zero_le _, Nat.zero_le _, rfl, fun j _ hj => absurd hj (by omega), Adds.refl _⟩
  case round =>
    obtain ⟨k, hk, hk6, rfl, hgood, os, n, rfl⟩ := hrel
    by_cases hlt : k < ch.length
    · rcases hlo with rfl | ⟨b, off, rfl, hb, hl⟩
      · simp at hlt
      have hlt' : (k : Int) < (ch.length : Int) := by omega
      by_cases h6 : k < 60
      · have h6' : (k : Int) < 60 := by omega
        obtain ⟨v, c0, c1, c2, c3, hdoc⟩ := hl k hlt
        obtain ⟨vo, vc, rfl, _, _⟩ := hdoc
        by_cases h2 : ch[k].doc.length ≤ 20
        · have h2' : ¬ (20 : Int) < (ch[k].doc.length : Int) := by omega
          have HG : Hid (ch[k].doc.length ≤ 20) := h2
          clear h2
          generalize ch[k].pos = ps at *
          generalize ch[k].key = ky at *
          generalize ch[k].has = hs at *
          go_wp2
          try go_quiet (fail)
          go_wp2
          go_roundw
          case rel =>
            refine ⟨k + 1, by omega, by omega, by go_num, ?_, ?_⟩
            · intro j hj hj2
              by_cases e : j = k
              · subst e
                exact HG.out
              · exact hgood j hj (by omega)
            · repeat (first | with_reducible exact Adds.refl _ | with_reducible refine Adds.alloc ?_ _ | with_reducible refine Adds.more ?_ _ _ | with_reducible refine Adds.drew ?_ | with_reducible refine Adds.drewN ?_ _)
          case measure => simp [intOf]; omega
        · have h2' : (20 : Int) < (ch[k].doc.length : Int) := by omega
          have HB : Hid (decide (LightC ch) = false) := decide_eq_false fun h => h2 (h.2 k hlt)
          clear h2
          generalize ch[k].pos = ps at *
          generalize ch[k].key = ky at *
          generalize ch[k].has = hs at *
          generalize ch[k].doc.length = nd at *
          go_wp2
          try go_quiet (fail)
          go_wp2
          go_ret
          exact ⟨by rw [HB.out]; rfl, (by repeat (first | with_reducible exact Adds.refl _ | with_reducible refine Adds.alloc ?_ _ | with_reducible refine Adds.more ?_ _ _ | with_reducible refine Adds.drew ?_ | with_reducible refine Adds.drewN ?_ _))⟩
      · obtain rfl : k = 60 := by omega
        have h7 : ¬ (ch.length : Int) ≤ 60 := by omega
        have HB : Hid (decide (LightC ch) = false) := decide_eq_false fun h => by have := h.1; omega
        clear hl
        go_wp2
        try go_quiet (fail)
        go_wp2
        go_ret
        exact ⟨by rw [HB.out]; rfl, (by repeat (first | with_reducible exact Adds.refl _ | with_reducible refine Adds.alloc ?_ _ | with_reducible refine Adds.more ?_ _ _ | with_reducible refine Adds.drew ?_ | with_reducible refine Adds.drewN ?_ _))⟩
    · have hk' : k = ch.length := by omega
      subst hk'
      have h7 : (ch.length : Int) ≤ 60 := by omega
      have HB : Hid (decide (LightC ch) = true) := decide_eq_true ⟨by omega, fun j hj => hgood j hj hj⟩
      clear hgood hlo
      go_wp2
      try go_quiet (fail)
      go_wp2
      go_ret
      exact ⟨by rw [HB.out]; rfl, (by repeat (first | with_reducible exact Adds.refl _ | with_reducible refine Adds.alloc ?_ _ | with_reducible refine Adds.more ?_ _ _ | with_reducible refine Adds.drew ?_ | with_reducible refine Adds.drewN ?_ _))⟩

def LightF (f : Fd) : Prop := LightC f.ch ∧ f.sb.length ≤ 20
instance (f : Fd) : Decidable (LightF f) := by unfold LightF; infer_instance

set_option maxHeartbeats 2000000 in
set_option maxRecDepth 20000 in
theorem light_any (v : Value) (f : Fd) (w : World) (h : LstF w v f) :
    Calls Try.prog 8 #[v] w fun e w' => e = .returned (.bool (decide (LightF f))) ∧ Adds w w' := by
  obtain ⟨s, t, rfl, hs, ht⟩ := h
  have kC := fun w' (hA : Adds w w') => changes_any s f.ch w' (hs.adds hA)
  obtain ⟨to, tc, rfl, _, _⟩ := ht
  by_cases h1 : LightC f.ch
  · rw [decide_eq_true h1] at kC
    by_cases h2 : f.sb.length ≤ 20
    · have h2' : (f.sb.length : Int) ≤ 20 := by omega
      have HE : Hid (decide (LightF f) = true) := decide_eq_true ⟨h1, h2⟩
      clear hs h1 h2
      go_enter Try.func8, Try.ntmps8
      go_wp2_with (go_at_call 9; refine (kC _ (by repeat (first | with_reducible exact Adds.refl _ | with_reducible refine Adds.alloc ?_ _ | with_reducible refine Adds.more ?_ _ _ | with_reducible refine Adds.drew ?_ | with_reducible refine Adds.drewN ?_ _))).mono ?_; rintro e w1 ⟨rfl, os1, n1, rfl⟩)
      go_ret
      exact ⟨by rw [HE.out]; rfl, (by repeat (first | with_reducible exact Adds.refl _ | with_reducible refine Adds.alloc ?_ _ | with_reducible refine Adds.more ?_ _ _ | with_reducible refine Adds.drew ?_ | with_reducible refine Adds.drewN ?_ _))⟩
    · have h2' : ¬ (f.sb.length : Int) ≤ 20 := by omega
      have HE : Hid (decide (LightF f) = false) := decide_eq_false fun h => h2 h.2
      clear hs h1 h2
      go_enter Try.func8, Try.ntmps8
      go_wp2_with (go_at_call 9; refine (kC _ (by repeat (first | with_reducible exact Adds.refl _ | with_reducible refine Adds.alloc ?_ _ | with_reducible refine Adds.more ?_ _ _ | with_reducible refine Adds.drew ?_ | with_reducible refine Adds.drewN ?_ _))).mono ?_; rintro e w1 ⟨rfl, os1, n1, rfl⟩)
      go_ret
      exact ⟨by rw [HE.out]; simp; omega, (by repeat (first | with_reducible exact Adds.refl _ | with_reducible refine Adds.alloc ?_ _ | with_reducible refine Adds.more ?_ _ _ | with_reducible refine Adds.drew ?_ | with_reducible refine Adds.drewN ?_ _))⟩
  · rw [decide_eq_false h1] at kC
    have HE : Hid (decide (LightF f) = false) := decide_eq_false fun h => h1 h.1
    clear hs h1
    go_enter Try.func8, Try.ntmps8
    go_wp2_with (go_at_call 9; refine (kC _ (by repeat (first | with_reducible exact Adds.refl _ | with_reducible refine Adds.alloc ?_ _ | with_reducible refine Adds.more ?_ _ _ | with_reducible refine Adds.drew ?_ | with_reducible refine Adds.drewN ?_ _))).mono ?_; rintro e w1 ⟨rfl, os1, n1, rfl⟩)
    go_ret
    exact ⟨by rw [HE.out]; rfl, (by repeat (first | with_reducible exact Adds.refl _ | with_reducible refine Adds.alloc ?_ _ | with_reducible refine Adds.more ?_ _ _ | with_reducible refine Adds.drew ?_ | with_reducible refine Adds.drewN ?_ _))⟩

end Go.Proofs.Ytpjhohmbifpogaa
