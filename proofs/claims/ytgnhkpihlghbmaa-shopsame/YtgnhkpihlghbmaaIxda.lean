/-
  The reference's Docs, by contract.
-/
import Derived.Test.YtgnhkpihlghbmaaIxh
import Derived.Test.YtgnhkpihlghbmaaMays
namespace Go.Proofs.Ytgnhkpihlghbmaa
open Go.RowKit
attribute [local go_sem] cell?_more frozen?_more setCell_more size_more tape_more drew_more drewN_more more_drew more_drewN one_out plus_out plus_end lt_one le_p2 le_p3 le_p4 le_p5 le_p6 le_p7 le_p8 le_p9 le_p10 le_p11 le_p12 le_p13 le_p14 le_p15 le_p16 le_p17 le_p18 le_p19 le_p20 le_p21 le_p22 le_p23 le_p24 le_q0 le_q1 lt_q1 le_q2 lt_q2 le_q3 lt_q3 le_q4 lt_q4 le_q5 lt_q5 le_q6 lt_q6 le_q7 lt_q7 le_q8 lt_q8 le_q9 lt_q9 le_q10 lt_q10 le_q11 lt_q11 le_q12 lt_q12 le_q13 lt_q13 le_q14 lt_q14 le_q15 lt_q15 le_q16 lt_q16 le_q17 lt_q17 le_q18 lt_q18 le_q19 lt_q19 le_q20 lt_q20 le_q21 lt_q21 le_q22 lt_q22 le_q23 lt_q23 le_q24 lt_q24

attribute [local go_sem] cell?_addTo

set_option maxHeartbeats 4000000 in
set_option maxRecDepth 20000 in
theorem refDocs_any (s : Value) (ds : List Dn) (w : World) (h : LstD w s ds) (hl6 : ds.length ≤ 1000) (hd6 : ∀ d ∈ ds, d.doc.length ≤ 1000) :
    Calls Try.prog 19 #[s] w fun e w' => e = .returned (.bool (decide (MayD ds))) ∧ Adds w w' := by
  obtain ⟨ao, cap, rfl, hcap, hlo⟩ := h
  go_enter Try.func19, Try.ntmps19
  go_wp2
  go_loopw [3] (fun i wr => ∃ k : Nat, k ≤ ds.length ∧ i = .int .i64 k ∧ (∀ j (hj : j < ds.length), j < k → GoodD ds j hj) ∧ Adds w wr) (fun i _ => ds.length - (intOf i).toNat)
  case atStart => exact ⟨0, Nat.zero_le _, rfl, fun j _ hj => absurd hj (by omega), Adds.refl _⟩
  case round =>
    obtain ⟨k, hk, rfl, hgood, hA⟩ := hrel
    have HG : Hid (∀ j (hj : j < ds.length), j < k → GoodD ds j hj) := hgood
    have HA : Hid (Adds w wr) := hA
    clear hgood hA
    by_cases hlt : k < ds.length
    · rcases hlo with rfl | ⟨b, off, rfl, hb, hl⟩
      · simp at hlt
      have hlr := hl.adds HA.out hb
      obtain ⟨v, c0, c1, hdoc⟩ := hlr k hlt
      have hbl : b < wr.heap.size := Nat.lt_of_lt_of_le hb HA.out.below.size
      have hM := fun W' (hA : Adds wr W') => refMay_any v ds[k].doc W' (hdoc.adds hA) (hd6 _ (List.getElem_mem hlt))
      have hM' := fun (p : Plus) => Calls.adds_of (hM (addTo wr p) ⟨p.os, p.draws, rfl⟩)
      obtain ⟨vo, vc, rfl, _, _⟩ := hdoc
      clear hM
      have hlt' : (k : Int) < (ds.length : Int) := by omega
      have hor : ((ds[k].key.size : Int) < 1 ∧ ¬ isKey ds[k].key = true) ∨ (decide ((ds[k].key.size : Int) < 1) = false ∧ decide ((64 : Int) < (ds[k].key.size : Int)) = true ∧ ¬ isKey ds[k].key = true) ∨ (decide ((ds[k].key.size : Int) < 1) = false ∧ decide ((64 : Int) < (ds[k].key.size : Int)) = false ∧ isKey ds[k].key = true) := by
        unfold isKey
        rw [decide_eq_true_eq, decide_eq_false_iff_not, decide_eq_true_eq, decide_eq_false_iff_not]
        omega
      rcases hor with ⟨hk1, hn⟩ | ⟨hk1, hk2, hn⟩ | ⟨hk1, hk2, hy⟩
      · have HB : Hid (¬ GoodD ds k hlt) := fun h => hn h.1
        clear hn hM' hlr
        generalize ds[k].key = ky at *
        generalize ds[k].doc.length = nd at *
        go_wp2
        refine wp_region_adds (by kernel_rfl) (by kernel_rfl) ?_
        repeat (go_big_quiet_step (fail))
        refine wpQuiet_nil ?_
        rintro _ ⟨pl, rfl⟩
        unfold addTo
        go_wp2
        go_ret
        exact ⟨by rw [decide_eq_false (mayD_bad (h := hlt) HB.out)]; rfl, HA.out.trans (by repeat (first | with_reducible exact Adds.refl _ | with_reducible refine Adds.alloc ?_ _ | with_reducible refine Adds.more ?_ _ _ | with_reducible refine Adds.drew ?_ | with_reducible refine Adds.drewN ?_ _))⟩
      · have HB : Hid (¬ GoodD ds k hlt) := fun h => hn h.1
        clear hn hM' hlr
        generalize ds[k].key = ky at *
        generalize ds[k].doc.length = nd at *
        go_wp2
        refine wp_region_adds (by kernel_rfl) (by kernel_rfl) ?_
        repeat (go_big_quiet_step (fail))
        refine wpQuiet_nil ?_
        rintro _ ⟨pl, rfl⟩
        unfold addTo
        go_wp2
        go_ret
        exact ⟨by rw [decide_eq_false (mayD_bad (h := hlt) HB.out)]; rfl, HA.out.trans (by repeat (first | with_reducible exact Adds.refl _ | with_reducible refine Adds.alloc ?_ _ | with_reducible refine Adds.more ?_ _ _ | with_reducible refine Adds.drew ?_ | with_reducible refine Adds.drewN ?_ _))⟩
      · by_cases hD : May ds[k].doc
        rotate_left
        · have HB : Hid (¬ GoodD ds k hlt) := fun h => hD h.2.1
          rw [decide_eq_false hD] at hM'
          clear hD hlr hy
          generalize ds[k].key = ky at *
          generalize ds[k].doc.length = nd at *
          go_wp2
          refine wp_region_adds (by kernel_rfl) (by kernel_rfl) ?_
          repeat (go_big_quiet_step ((go_at_call 36; exact hM' _)))
          refine wpQuiet_nil ?_
          rintro _ ⟨pl, rfl⟩
          unfold addTo
          go_wp2
          go_ret
          exact ⟨by rw [decide_eq_false (mayD_bad (h := hlt) HB.out)]; rfl, HA.out.trans (by repeat (first | with_reducible exact Adds.refl _ | with_reducible refine Adds.alloc ?_ _ | with_reducible refine Adds.more ?_ _ _ | with_reducible refine Adds.drew ?_ | with_reducible refine Adds.drewN ?_ _))⟩
        · rw [decide_eq_true hD] at hM'
          cases k with
          | zero =>
            have HN : Hid (∀ j (hj : j < ds.length), j < 1 → GoodD ds j hj) := fun j hj h1 => by
              have : j = 0 := by omega
              subst this
              exact ⟨hy, hD, fun h => absurd h (by omega)⟩
            clear hD hlr hy HG
            simp only [Nat.zero_mul, Nat.add_zero] at c0 c1
            generalize ds[0].key = ky at *
            generalize ds[0].doc.length = nd at *
            go_wp2
            refine wp_region_adds (by kernel_rfl) (by kernel_rfl) ?_
            repeat (go_big_quiet_step ((go_at_call 36; exact hM' _)))
            refine wpQuiet_nil ?_
            rintro _ ⟨pl, rfl⟩
            unfold addTo
            go_wp2
            go_roundw
            case rel => exact ⟨0 + 1, by omega, by go_num, HN.out, HA.out.trans (by repeat (first | with_reducible exact Adds.refl _ | with_reducible refine Adds.alloc ?_ _ | with_reducible refine Adds.more ?_ _ _ | with_reducible refine Adds.drew ?_ | with_reducible refine Adds.drewN ?_ _))⟩
            case measure => simp [intOf]; omega
          | succ m =>
            obtain ⟨v2, d0, _, _⟩ := hlr m (by omega)
            obtain ⟨q, hq⟩ : ∃ q, Op.bytesLess ds[m].key.toList ds[m + 1].key.toList = q := ⟨_, rfl⟩
            have hml : m < ds.length := by omega
            have hw1 : IntKind.i64.wrap (m : Int) = m := by rw [IntKind.wrap_i64]; omega
            have hp1 : (0 : Int) < (m : Int) + 1 := by omega
            have HN : Hid (q = true → ∀ j (hj : j < ds.length), j < m + 1 + 1 → GoodD ds j hj) := fun hq' j hj h1 => by
              by_cases e : j = m + 1
              · subst e
                exact ⟨hy, hD, fun _ => by show lessP _ _ = true; rw [← hq', ← hq]; rfl⟩
              · exact HG.out j hj (by omega)
            have HB : Hid (q = false → ¬ GoodD ds (m + 1) hlt) := fun hq' h => by
              have h3 := h.2.2 (by omega)
              have e : lessP ds[m].key ds[m + 1].key = false := hq.trans hq'
              simp only [Nat.add_sub_cancel] at h3
              rw [e] at h3
              cases h3
            clear hD hlr hy HG
            generalize ds[m + 1].key = ky at *
            generalize ds[m].key = kp at *
            generalize ds[m + 1].doc.length = nd at *
            cases q
            · go_wp2
              refine wp_region_adds (by kernel_rfl) (by kernel_rfl) ?_
              repeat (go_big_quiet_step ((go_at_call 36; exact hM' _)))
              refine wpQuiet_nil ?_
              rintro _ ⟨pl, rfl⟩
              unfold addTo
              go_wp2
              go_ret
              exact ⟨by rw [decide_eq_false (mayD_bad (h := hlt) (HB.out (by trivial)))]; rfl, HA.out.trans (by repeat (first | with_reducible exact Adds.refl _ | with_reducible refine Adds.alloc ?_ _ | with_reducible refine Adds.more ?_ _ _ | with_reducible refine Adds.drew ?_ | with_reducible refine Adds.drewN ?_ _))⟩
            · go_wp2
              refine wp_region_adds (by kernel_rfl) (by kernel_rfl) ?_
              repeat (go_big_quiet_step ((go_at_call 36; exact hM' _)))
              refine wpQuiet_nil ?_
              rintro _ ⟨pl, rfl⟩
              unfold addTo
              go_wp2
              go_roundw
              case rel => exact ⟨(m + 1) + 1, by omega, by go_num, HN.out (by trivial), HA.out.trans (by repeat (first | with_reducible exact Adds.refl _ | with_reducible refine Adds.alloc ?_ _ | with_reducible refine Adds.more ?_ _ _ | with_reducible refine Adds.drew ?_ | with_reducible refine Adds.drewN ?_ _))⟩
              case measure => simp [intOf]; omega
    · have hlt' : ¬ (k : Int) < (ds.length : Int) := by omega
      go_wp2
      go_ret
      exact ⟨by rw [decide_eq_true (show MayD ds from fun j hj => HG.out j hj (by omega))]; rfl, HA.out⟩

end Go.Proofs.Ytgnhkpihlghbmaa
