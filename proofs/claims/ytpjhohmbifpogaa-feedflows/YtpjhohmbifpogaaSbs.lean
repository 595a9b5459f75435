/-
  subscribe of package feed, by contract.
-/
import Derived.Test.YtpjhohmbifpogaaChg
namespace Go.Proofs.Ytpjhohmbifpogaa
open Go.RowKit
attribute [local go_sem] cell?_more frozen?_more setCell_more size_more tape_more drew_more drewN_more more_drew more_drewN one_out plus_out plus_end lt_one le_p2 le_p3 le_p4 le_p5 le_p6 le_p7 le_p8 le_p9 le_p10 le_p11 le_p12 le_p13 le_p14 le_p15 le_p16 le_p17 le_p18 le_p19 le_p20 le_p21 le_p22 le_p23 le_p24 le_q0 le_q1 lt_q1 le_q2 lt_q2 le_q3 lt_q3 le_q4 lt_q4 le_q5 lt_q5 le_q6 lt_q6 le_q7 lt_q7 le_q8 lt_q8 le_q9 lt_q9 le_q10 lt_q10 le_q11 lt_q11 le_q12 lt_q12 le_q13 lt_q13 le_q14 lt_q14 le_q15 lt_q15 le_q16 lt_q16 le_q17 lt_q17 le_q18 lt_q18 le_q19 lt_q19 le_q20 lt_q20 le_q21 lt_q21 le_q22 lt_q22 le_q23 lt_q23 le_q24 lt_q24

set_option maxHeartbeats 4000000 in
set_option maxRecDepth 20000 in
theorem subscribe_any (lo hi : Int) (sc sv : Value) (ss : List Sb) (w : World) (h : LstS w sv ss) :
    Calls Try.prog 36 #[.agg #[.int .i64 lo, .int .i64 hi, sc, sv]] w fun e w' => e = .returned (.bool (decide (Subsc ss lo hi))) ∧ Adds w w' := by
  obtain ⟨ao, cap, rfl, hcap, hlo⟩ := h
  by_cases h8 : ss.length ≤ 8
  rotate_left
  · have h8' : (8 : Int) < (ss.length : Int) := by omega
    have HB : Hid (decide (Subsc ss lo hi) = false) := decide_eq_false fun h => h8 h.1
    go_enter Try.func36, Try.ntmps36
    go_wp2
    go_ret
    exact ⟨by rw [HB.out]; rfl, (by repeat (first | with_reducible exact Adds.refl _ | with_reducible refine Adds.alloc ?_ _ | with_reducible refine Adds.more ?_ _ _ | with_reducible refine Adds.drew ?_ | with_reducible refine Adds.drewN ?_ _))⟩
  have h8' : ¬ (8 : Int) < (ss.length : Int) := by omega
  go_enter Try.func36, Try.ntmps36
  go_wp2
  go_loopw [12] (fun i wr => ∃ k : Nat, k ≤ ss.length ∧ i = .int .i64 k ∧ (∀ j (hj : j < ss.length), j < k → GoodS ss lo hi j hj) ∧ Adds (w.alloc (Obj.cells #[.int .i64 lo, .int .i64 hi, sc, .slice ao ss.length cap] 25)) wr) (fun i _ => ss.length - (intOf i).toNat)
  case atStart => exact ⟨0, Nat.zero_le _, rfl, fun j _ hj => absurd hj (by omega), Adds.refl _⟩
  case round =>
    obtain ⟨k, hk, rfl, hgood, os, n, rfl⟩ := hrel
    by_cases hlt : k < ss.length
    · rcases hlo with rfl | ⟨b, off, rfl, hb, hl⟩
      · simp at hlt
      obtain ⟨c0, c1⟩ := hl k hlt
      have hK := key_any ss[k].name
      have hlt' : (k : Int) < (ss.length : Int) := by omega
      by_cases h1 : isKey ss[k].name = true
      rotate_left
      · have HB : Hid (¬ GoodS ss lo hi k hlt) := fun h => h1 h.1
        rw [show isKey ss[k].name = false by simpa using h1] at hK
        clear h1
        generalize ss[k].name = ky at *
        generalize ss[k].pos = ps at *
        go_wp2_with (first | (go_at_call 41; refine (hK _).mono ?_; rintro e w1 ⟨rfl, hw⟩; subst w1))
        go_ret
        refine ⟨by rw [subsc_bad (h := hlt) HB.out]; rfl, ?_⟩
        repeat (first | with_reducible exact Adds.refl _ | with_reducible refine Adds.alloc ?_ _ | with_reducible refine Adds.more ?_ _ _ | with_reducible refine Adds.drew ?_ | with_reducible refine Adds.drewN ?_ _)
      rw [h1] at hK
      by_cases h2 : lo ≤ ss[k].pos
      rotate_left
      · have HB : Hid (¬ GoodS ss lo hi k hlt) := fun h => h2 h.2.1
        have h2' : ss[k].pos < lo := by omega
        clear h1 h2
        generalize ss[k].name = ky at *
        generalize ss[k].pos = ps at *
        go_wp2_with (first | (go_at_call 41; refine (hK _).mono ?_; rintro e w1 ⟨rfl, hw⟩; subst w1))
        go_ret
        refine ⟨by rw [subsc_bad (h := hlt) HB.out]; rfl, ?_⟩
        repeat (first | with_reducible exact Adds.refl _ | with_reducible refine Adds.alloc ?_ _ | with_reducible refine Adds.more ?_ _ _ | with_reducible refine Adds.drew ?_ | with_reducible refine Adds.drewN ?_ _)
      have h2' : ¬ ss[k].pos < lo := by omega
      by_cases h3 : ss[k].pos ≤ hi
      rotate_left
      · have HB : Hid (¬ GoodS ss lo hi k hlt) := fun h => h3 h.2.2.1
        have h3' : hi < ss[k].pos := by omega
        clear h1 h2 h3
        generalize ss[k].name = ky at *
        generalize ss[k].pos = ps at *
        go_wp2_with (first | (go_at_call 41; refine (hK _).mono ?_; rintro e w1 ⟨rfl, hw⟩; subst w1))
        go_ret
        refine ⟨by rw [subsc_bad (h := hlt) HB.out]; rfl, ?_⟩
        repeat (first | with_reducible exact Adds.refl _ | with_reducible refine Adds.alloc ?_ _ | with_reducible refine Adds.more ?_ _ _ | with_reducible refine Adds.drew ?_ | with_reducible refine Adds.drewN ?_ _)
      have h3' : ¬ hi < ss[k].pos := by omega
      cases k with
      | zero =>
        have HGO : Hid (GoodS ss lo hi 0 hlt) := ⟨h1, h2, h3, fun h => absurd h (by omega)⟩
        clear h1 h2 h3
        simp only [Nat.zero_mul, Nat.add_zero] at c0 c1
        generalize ss[0].name = ky at *
        generalize ss[0].pos = ps at *
        go_wp2_with (first | (go_at_call 41; refine (hK _).mono ?_; rintro e w1 ⟨rfl, hw⟩; subst w1))
        go_quiet (fail)
        go_wp2
        go_roundw
        case rel =>
          refine ⟨0 + 1, by omega, by go_num, ?_, ?_⟩
          · intro j hj hj2
            by_cases e : j = 0
            · subst e
              exact HGO.out
            · exact hgood j hj (by omega)
          · repeat (first | with_reducible exact Adds.refl _ | with_reducible refine Adds.alloc ?_ _ | with_reducible refine Adds.more ?_ _ _ | with_reducible refine Adds.drew ?_ | with_reducible refine Adds.drewN ?_ _)
        case measure => simp [intOf]; omega

      | succ m =>
        obtain ⟨d0, _⟩ := hl m (by omega)
        obtain ⟨q, hq⟩ : ∃ q, Op.bytesLess ss[m].name.toList ss[m + 1].name.toList = q := ⟨_, rfl⟩
        have hml : m < ss.length := by omega
        have hw1 : IntKind.i64.wrap (m : Int) = m := by rw [IntKind.wrap_i64]; omega
        have hm1 : ((m + 1 : Nat) : Int) = (m : Int) + 1 := by omega
        cases q
        · have HB : Hid (¬ GoodS ss lo hi (m + 1) hlt) := fun h => by
            have h3 := h.2.2.2 (by omega)
            have e : lessP ss[m].name ss[m + 1].name = false := hq
            simp only [Nat.add_sub_cancel] at h3
            rw [e] at h3
            cases h3
          clear h1 h2 h3
          generalize ss[m + 1].name = ky at *
          generalize ss[m].name = kp at *
          generalize ss[m + 1].pos = ps at *
          go_wp2_with (first | (go_at_call 41; refine (hK _).mono ?_; rintro e w1 ⟨rfl, hw⟩; subst w1))
          go_quiet (fail)
          go_wp2
          go_ret
          refine ⟨by rw [subsc_bad (h := hlt) HB.out]; rfl, ?_⟩
          repeat (first | with_reducible exact Adds.refl _ | with_reducible refine Adds.alloc ?_ _ | with_reducible refine Adds.more ?_ _ _ | with_reducible refine Adds.drew ?_ | with_reducible refine Adds.drewN ?_ _)
        · have HGO : Hid (GoodS ss lo hi (m + 1) hlt) := ⟨h1, h2, h3, fun _ => hq⟩
          clear h1 h2 h3
          generalize ss[m + 1].name = ky at *
          generalize ss[m].name = kp at *
          generalize ss[m + 1].pos = ps at *
          go_wp2_with (first | (go_at_call 41; refine (hK _).mono ?_; rintro e w1 ⟨rfl, hw⟩; subst w1))
          go_quiet (fail)
          go_wp2
          go_roundw
          case rel =>
            refine ⟨m + 2, by omega, by go_num, ?_, ?_⟩
            · intro j hj hj2
              by_cases e : j = m + 1
              · subst e
                exact HGO.out
              · exact hgood j hj (by omega)
            · repeat (first | with_reducible exact Adds.refl _ | with_reducible refine Adds.alloc ?_ _ | with_reducible refine Adds.more ?_ _ _ | with_reducible refine Adds.drew ?_ | with_reducible refine Adds.drewN ?_ _)
          case measure => simp [intOf]; omega

    · have hk' : k = ss.length := by omega
      subst hk'
      go_wp2
      go_ret
      have HF : Subsc ss lo hi := ⟨h8, fun j hj => hgood j hj hj⟩
      refine ⟨by rw [decide_eq_true HF]; rfl, ?_⟩
      repeat (first | with_reducible exact Adds.refl _ | with_reducible refine Adds.alloc ?_ _ | with_reducible refine Adds.more ?_ _ _ | with_reducible refine Adds.drew ?_ | with_reducible refine Adds.drewN ?_ _)

end Go.Proofs.Ytpjhohmbifpogaa
