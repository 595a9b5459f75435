/-
  follow of package feed, by contract.
-/
import Derived.Test.YtpjhohmbifpogaaChg
namespace Go.Proofs.Ytpjhohmbifpogaa
open Go.RowKit
attribute [local go_sem] cell?_more frozen?_more setCell_more size_more tape_more drew_more drewN_more more_drew more_drewN one_out plus_out plus_end lt_one le_p2 le_p3 le_p4 le_p5 le_p6 le_p7 le_p8 le_p9 le_p10 le_p11 le_p12 le_p13 le_p14 le_p15 le_p16 le_p17 le_p18 le_p19 le_p20 le_p21 le_p22 le_p23 le_p24 le_q0 le_q1 lt_q1 le_q2 lt_q2 le_q3 lt_q3 le_q4 lt_q4 le_q5 lt_q5 le_q6 lt_q6 le_q7 lt_q7 le_q8 lt_q8 le_q9 lt_q9 le_q10 lt_q10 le_q11 lt_q11 le_q12 lt_q12 le_q13 lt_q13 le_q14 lt_q14 le_q15 lt_q15 le_q16 lt_q16 le_q17 lt_q17 le_q18 lt_q18 le_q19 lt_q19 le_q20 lt_q20 le_q21 lt_q21 le_q22 lt_q22 le_q23 lt_q23 le_q24 lt_q24

set_option maxHeartbeats 4000000 in
set_option maxRecDepth 20000 in
theorem follow_any (s : Value) (cs : List Ch) (t : Int) (w : World) (h : LstH w s cs) (hl6 : cs.length ≤ 1000) (ht0 : 0 ≤ t) (ht1 : t ≤ 4294967296) :
    Calls Try.prog 32 #[s, .int .i64 t] w fun e w' => e = .returned (.bool (decide (Follow cs t))) ∧ Adds w w' := by
  obtain ⟨ao, cap, rfl, hcap, hlo⟩ := h
  go_enter Try.func32, Try.ntmps32
  go_wp2
  go_loopw [9] (fun i wr => ∃ k : Nat, k ≤ cs.length ∧ i = .int .i64 k ∧ (∀ j (hj : j < cs.length), j < k → GoodH cs t j hj) ∧ Adds w wr) (fun i _ => cs.length - (intOf i).toNat)
  case atStart => exact ⟨0, Nat.zero_le _, rfl, fun j _ hj => absurd hj (by omega), Adds.refl _⟩
  case round =>
    obtain ⟨k, hk, rfl, hgood, os, n, rfl⟩ := hrel
    by_cases hlt : k < cs.length
    · rcases hlo with rfl | ⟨b, off, rfl, hb, hl⟩
      · simp at hlt
      obtain ⟨v, c0, c1, c2, c3, hdoc⟩ := hl k hlt
      have hK := key_any cs[k].key
      have hC := fun w' hA => check_doc v cs[k].doc w' (hdoc.adds hA)
      obtain ⟨vo, vc, rfl, _, _⟩ := hdoc
      have hlt' : (k : Int) < (cs.length : Int) := by omega
      have hw1 : IntKind.i64.wrap (t + 1) = t + 1 := by rw [IntKind.wrap_i64]; omega
      have hw2 : IntKind.i64.wrap (t + 1 + k) = t + 1 + k := by rw [IntKind.wrap_i64]; omega
      by_cases h0 : cs[k].pos = t + 1 + k
      rotate_left
      · have HB : Hid (¬ GoodH cs t k hlt) := fun h => h0 h.1
        have h0' : (cs[k].pos != t + 1 + (k : Int)) = true := by simpa using h0
        clear hC hK
        generalize cs[k].key = ky at *
        generalize cs[k].doc.length = nd at *
        generalize cs[k].has = hs at *
        generalize cs[k].pos = ps at *
        go_wp2
        go_ret
        refine ⟨by rw [follow_bad (h := hlt) HB.out]; rfl, ?_⟩
        repeat (first | with_reducible exact Adds.refl _ | with_reducible refine Adds.alloc ?_ _ | with_reducible refine Adds.more ?_ _ _ | with_reducible refine Adds.drew ?_ | with_reducible refine Adds.drewN ?_ _)
      by_cases h1 : isKey cs[k].key = true
      rotate_left
      · have HB : Hid (¬ GoodH cs t k hlt) := fun h => h1 h.2.1
        rw [show isKey cs[k].key = false by simpa using h1] at hK
        rw [h0] at c0
        clear hC h1 h0
        generalize cs[k].key = ky at *
        generalize cs[k].doc.length = nd at *
        generalize cs[k].has = hs at *
        generalize cs[k].pos = ps at *
        go_wp2_with (first | (go_at_call 41; refine (hK _).mono ?_; rintro e w1 ⟨rfl, hw⟩; subst w1) | (go_at_call 49; refine (hC _ (by repeat (first | with_reducible exact Adds.refl _ | with_reducible refine Adds.alloc ?_ _ | with_reducible refine Adds.more ?_ _ _ | with_reducible refine Adds.drew ?_ | with_reducible refine Adds.drewN ?_ _))).mono ?_; rintro e w2 ⟨rfl, os2, n2, rfl⟩))
        go_ret
        refine ⟨by rw [follow_bad (h := hlt) HB.out]; rfl, ?_⟩
        repeat (first | with_reducible exact Adds.refl _ | with_reducible refine Adds.alloc ?_ _ | with_reducible refine Adds.more ?_ _ _ | with_reducible refine Adds.drew ?_ | with_reducible refine Adds.drewN ?_ _)
      rw [h1] at hK
      by_cases h2 : May cs[k].doc
      rotate_left
      · have HB : Hid (¬ GoodH cs t k hlt) := fun h => h2 h.2.2.1
        rw [err_bad h2] at hC
        rw [h0] at c0
        clear h2 h1 h0
        generalize cs[k].key = ky at *
        generalize cs[k].doc.length = nd at *
        generalize cs[k].has = hs at *
        generalize cs[k].pos = ps at *
        go_wp2_with (first | (go_at_call 41; refine (hK _).mono ?_; rintro e w1 ⟨rfl, hw⟩; subst w1) | (go_at_call 49; refine (hC _ (by repeat (first | with_reducible exact Adds.refl _ | with_reducible refine Adds.alloc ?_ _ | with_reducible refine Adds.more ?_ _ _ | with_reducible refine Adds.drew ?_ | with_reducible refine Adds.drewN ?_ _))).mono ?_; rintro e w2 ⟨rfl, os2, n2, rfl⟩))
        go_ret
        refine ⟨by rw [follow_bad (h := hlt) HB.out]; rfl, ?_⟩
        repeat (first | with_reducible exact Adds.refl _ | with_reducible refine Adds.alloc ?_ _ | with_reducible refine Adds.more ?_ _ _ | with_reducible refine Adds.drew ?_ | with_reducible refine Adds.drewN ?_ _)
      rw [err_ok h2] at hC
      by_cases h3 : cs[k].has = true ∨ cs[k].doc.length = 0
      rotate_left
      · have HB : Hid (¬ GoodH cs t k hlt) := fun h => h3 h.2.2.2
        have h4 : cs[k].has = false := by cases h : cs[k].has <;> simp_all
        have h5 : (0 : Int) < (cs[k].doc.length : Int) := by
          have : cs[k].doc.length ≠ 0 := fun h => h3 (.inr h)
          omega
        rw [h0] at c0
        rw [h4] at c2
        clear h2 h1 h3 h4 h0
        generalize cs[k].key = ky at *
        generalize cs[k].doc.length = nd at *
        go_wp2_with (first | (go_at_call 41; refine (hK _).mono ?_; rintro e w1 ⟨rfl, hw⟩; subst w1) | (go_at_call 49; refine (hC _ (by repeat (first | with_reducible exact Adds.refl _ | with_reducible refine Adds.alloc ?_ _ | with_reducible refine Adds.more ?_ _ _ | with_reducible refine Adds.drew ?_ | with_reducible refine Adds.drewN ?_ _))).mono ?_; rintro e w2 ⟨rfl, os2, n2, rfl⟩))
        go_ret
        refine ⟨by rw [follow_bad (h := hlt) HB.out]; rfl, ?_⟩
        repeat (first | with_reducible exact Adds.refl _ | with_reducible refine Adds.alloc ?_ _ | with_reducible refine Adds.more ?_ _ _ | with_reducible refine Adds.drew ?_ | with_reducible refine Adds.drewN ?_ _)
      have HGO : Hid (GoodH cs t k hlt) := ⟨h0, h1, h2, h3⟩
      rw [h0] at c0
      clear h1 h2 h0
      cases hhs : cs[k].has
      · have h5 : cs[k].doc.length = 0 := by
          rw [hhs] at h3
          rcases h3 with h | h
          · cases h
          · exact h
        rw [hhs] at c2
        rw [h5] at c3 hC
        clear h3 hhs h5
        generalize cs[k].key = ky at *
        go_wp2_with (first | (go_at_call 41; refine (hK _).mono ?_; rintro e w1 ⟨rfl, hw⟩; subst w1) | (go_at_call 49; refine (hC _ (by repeat (first | with_reducible exact Adds.refl _ | with_reducible refine Adds.alloc ?_ _ | with_reducible refine Adds.more ?_ _ _ | with_reducible refine Adds.drew ?_ | with_reducible refine Adds.drewN ?_ _))).mono ?_; rintro e w2 ⟨rfl, os2, n2, rfl⟩))
        go_roundw
        case rel =>
          refine ⟨k + 1, by omega, by go_num, ?_, ?_⟩
          · intro j hj hj2
            by_cases e : j = k
            · subst e
              exact HGO.out
            · exact hgood j hj (by omega)
          · repeat (first | with_reducible exact Adds.refl _ | with_reducible refine Adds.alloc ?_ _ | with_reducible refine Adds.more ?_ _ _ | with_reducible refine Adds.drew ?_ | with_reducible refine Adds.drewN ?_ _)
        case measure => simp [intOf]; omega
      · rw [hhs] at c2
        clear h3 hhs
        generalize cs[k].key = ky at *
        generalize cs[k].doc.length = nd at *
        go_wp2_with (first | (go_at_call 41; refine (hK _).mono ?_; rintro e w1 ⟨rfl, hw⟩; subst w1) | (go_at_call 49; refine (hC _ (by repeat (first | with_reducible exact Adds.refl _ | with_reducible refine Adds.alloc ?_ _ | with_reducible refine Adds.more ?_ _ _ | with_reducible refine Adds.drew ?_ | with_reducible refine Adds.drewN ?_ _))).mono ?_; rintro e w2 ⟨rfl, os2, n2, rfl⟩))
        go_roundw
        case rel =>
          refine ⟨k + 1, by omega, by go_num, ?_, ?_⟩
          · intro j hj hj2
            by_cases e : j = k
            · subst e
              exact HGO.out
            · exact hgood j hj (by omega)
          · repeat (first | with_reducible exact Adds.refl _ | with_reducible refine Adds.alloc ?_ _ | with_reducible refine Adds.more ?_ _ _ | with_reducible refine Adds.drew ?_ | with_reducible refine Adds.drewN ?_ _)
        case measure => simp [intOf]; omega
    · have hk' : k = cs.length := by omega
      subst hk'
      go_wp2
      go_ret
      have HF : Follow cs t := fun j hj => hgood j hj hj
      refine ⟨by rw [decide_eq_true HF]; rfl, ?_⟩
      repeat (first | with_reducible exact Adds.refl _ | with_reducible refine Adds.alloc ?_ _ | with_reducible refine Adds.more ?_ _ _ | with_reducible refine Adds.drew ?_ | with_reducible refine Adds.drewN ?_ _)

end Go.Proofs.Ytpjhohmbifpogaa
