/-
  The document's own word on which documents may be: the function May, by a contract.
-/
import Derived.Test.YtiacnmcdfpmcfaaGreatDoorDocs
namespace Go.Proofs.YtiacnmcdfpmcfaaGreatDoor
open Go.RowKit
attribute [local go_sem] cell?_more frozen?_more setCell_more size_more tape_more drew_more drewN_more more_drew more_drewN more_more one_out plus_out plus_end lt_one le_p2 le_p3 le_p4 le_p5 le_p6 le_p7 le_p8 le_p9 le_p10 le_p11 le_p12 le_p13 le_p14 le_p15 le_p16 le_p17 le_p18 le_p19 le_p20 le_p21 le_p22 le_p23 le_p24 le_q0 le_q1 lt_q1 le_q2 lt_q2 le_q3 lt_q3 le_q4 lt_q4 le_q5 lt_q5 le_q6 lt_q6 le_q7 lt_q7 le_q8 lt_q8 le_q9 lt_q9 le_q10 lt_q10 le_q11 lt_q11 le_q12 lt_q12 le_q13 lt_q13 le_q14 lt_q14 le_q15 lt_q15 le_q16 lt_q16 le_q17 lt_q17 le_q18 lt_q18 le_q19 lt_q19 le_q20 lt_q20 le_q21 lt_q21 le_q22 lt_q22 le_q23 lt_q23 le_q24 lt_q24
attribute [local go_sem] cell?_addTo

set_option maxHeartbeats 4000000 in
theorem refMay_any (s : Value) (fs : List F) (w : World) (h : Lst w s fs) (h40 : fs.length ≤ 1000) :
    Calls Tryz.prog 20 #[s] w fun e w' => e = .returned (.bool (decide (May fs))) ∧ Adds w w' := by
  obtain ⟨ao, cap, rfl, hcap, hlo⟩ := h
  go_enter Tryz.func20, Tryz.ntmps20
  go_wp2
  go_loopw [3] (fun i wr => ∃ k : Nat, k ≤ fs.length ∧ i = .int .i64 k ∧ (∀ j (hj : j < fs.length), j < k → Good fs j hj) ∧ Adds w wr) (fun i _ => fs.length - (intOf i).toNat)
  case atStart => exact ⟨0, Nat.zero_le _, rfl, fun j _ hj => absurd hj (by omega), Adds.refl _⟩
  case round =>
    obtain ⟨k, hk, rfl, hgood, os, n, rfl⟩ := hrel
    by_cases hlt : k < fs.length
    · rcases hlo with rfl | ⟨b, off, rfl, hb, hl⟩
      · simp at hlt
      obtain ⟨c0, c1, c2, c3, c4, c5⟩ := hl k hlt
      have hG : Good fs k hlt = (isPath fs[k].path = true ∧ fs[k].val.check = 0 ∧ (0 < k → lessP fs[k - 1].path fs[k].path = true)) := rfl
      obtain ⟨x, hx⟩ : ∃ x, x = fs[k] := ⟨_, rfl⟩
      rw [← hx] at hG c0 c1 c2 c3 c4 c5
      clear hx
      have hp := refPath_any x.path x.fits
      have hp : ∀ w, Calls Tryz.prog 39 #[.string x.path] w fun e w' => e = .returned (.bool (isPath x.path)) ∧ Adds w w' := fun w => (hp w).mono fun _ _ h => ⟨h.1, h.2 ▸ Adds.refl _⟩
      have hv := refCheck_any x.val
      obtain ⟨p, ⟨kind, num, text, re, im⟩, hpf⟩ := x
      simp only [V.val] at hp hv c0 c1 c2 c3 c4 c5 hG
      generalize isPath p = q1 at *
      generalize V.check ⟨kind, num, text, re, im⟩ = q2 at *
      have HG : Hid _ := hG
      clear hG
      cases q1
      · go_wp2
        refine wp_region_adds (by kernel_rfl) (by kernel_rfl) ?_
        repeat (go_big_quiet_step ((first | (go_at_call 39; exact Calls.adds_of (hp _)) | (go_at_call 40; exact Calls.adds_of (hv _)))))
        refine wpQuiet_nil ?_
        rintro _ ⟨pl, rfl⟩
        unfold addTo
        go_wp2
        go_ret
        refine ⟨by rw [decide_eq_false (may_bad (h := hlt) (by rw [HG.out]; simp))]; rfl, ?_⟩
        repeat (first | with_reducible exact Adds.refl _ | with_reducible refine Adds.alloc ?_ _ | with_reducible refine Adds.more ?_ _ _ | with_reducible refine Adds.drew ?_ | with_reducible refine Adds.drewN ?_ _)
      by_cases hq2 : q2 = 0
      · subst hq2
        by_cases hk0 : k = 0
        · subst hk0
          simp only [Nat.zero_mul, Nat.add_zero] at c0 c1 c2 c3 c4 c5
          go_wp2
          refine wp_region_adds (by kernel_rfl) (by kernel_rfl) ?_
          repeat (go_big_quiet_step ((first | (go_at_call 39; exact Calls.adds_of (hp _)) | (go_at_call 40; exact Calls.adds_of (hv _)))))
          refine wpQuiet_nil ?_
          rintro _ ⟨pl, rfl⟩
          unfold addTo
          go_wp2
          go_roundw
          case rel =>
            refine ⟨1, by omega, by go_num, ?_, ?_⟩
            · intro j hj hj1
              have : j = 0 := by omega
              subst this
              rw [HG.out]
              simp
            · repeat (first | with_reducible exact Adds.refl _ | with_reducible refine Adds.alloc ?_ _ | with_reducible refine Adds.more ?_ _ _ | with_reducible refine Adds.drew ?_ | with_reducible refine Adds.drewN ?_ _)
          case measure => simp [intOf]; omega
        · obtain ⟨m, rfl⟩ : ∃ m, k = m + 1 := ⟨k - 1, by omega⟩
          have hd := (hl m (by omega)).1
          have hG' : Good fs (m + 1) hlt = (lessP fs[m].path p = true) := by simpa using HG.out
          have HG' : Hid _ := hG'
          clear hG'
          clear HG
          generalize hP : fs[m].path = pm at *
          clear hP
          have hL : lessP pm p = Op.bytesLess pm.toList p.toList := rfl
          obtain ⟨q, hq⟩ : ∃ q, lessP pm p = q := ⟨_, rfl⟩
          rw [hq] at hL
          have hm1 : ((m + 1 : Nat) : Int) = (m : Int) + 1 := by omega
          have hw1 : IntKind.i64.wrap (m : Int) = m := by rw [IntKind.wrap_i64]; omega
          have hml : m < fs.length := by omega
          have hq' : Op.bytesLess pm.toList p.toList = q := hL.symm
          clear hL
          go_wp2
          refine wp_region_adds (by kernel_rfl) (by kernel_rfl) ?_
          repeat (go_big_quiet_step ((first | (go_at_call 39; exact Calls.adds_of (hp _)) | (go_at_call 40; exact Calls.adds_of (hv _)))))
          refine wpQuiet_nil ?_
          rintro _ ⟨pl, rfl⟩
          unfold addTo
          cases q
          · go_wp2
            go_ret
            refine ⟨by rw [decide_eq_false (may_bad (h := hlt) (by rw [HG'.out, hq]; simp))]; rfl, ?_⟩
            repeat (first | with_reducible exact Adds.refl _ | with_reducible refine Adds.alloc ?_ _ | with_reducible refine Adds.more ?_ _ _ | with_reducible refine Adds.drew ?_ | with_reducible refine Adds.drewN ?_ _)
          · go_wp2
            go_roundw
            case rel =>
              refine ⟨m + 2, by omega, by go_num, ?_, ?_⟩
              · intro j hj hj2
                by_cases e : j = m + 1
                · subst e
                  rw [HG'.out, hq]
                · exact hgood j hj (by omega)
              · repeat (first | with_reducible exact Adds.refl _ | with_reducible refine Adds.alloc ?_ _ | with_reducible refine Adds.more ?_ _ _ | with_reducible refine Adds.drew ?_ | with_reducible refine Adds.drewN ?_ _)
            case measure => simp [intOf]; omega
      · have hq2' : (q2 != 0) = true := by simp [hq2]
        go_wp2
        refine wp_region_adds (by kernel_rfl) (by kernel_rfl) ?_
        repeat (go_big_quiet_step ((first | (go_at_call 39; exact Calls.adds_of (hp _)) | (go_at_call 40; exact Calls.adds_of (hv _)))))
        refine wpQuiet_nil ?_
        rintro _ ⟨pl, rfl⟩
        unfold addTo
        go_wp2
        go_ret
        refine ⟨by rw [decide_eq_false (may_bad (h := hlt) (by rw [HG.out]; simp [hq2]))]; rfl, ?_⟩
        repeat (first | with_reducible exact Adds.refl _ | with_reducible refine Adds.alloc ?_ _ | with_reducible refine Adds.more ?_ _ _ | with_reducible refine Adds.drew ?_ | with_reducible refine Adds.drewN ?_ _)
    · have hk' : k = fs.length := by omega
      subst hk'
      have hM : decide (May fs) = decide ((fs.length : Int) ≤ 16) := by
        by_cases h16 : fs.length ≤ 16
        · have hm : May fs := ⟨h16, fun j hj => hgood j hj hj⟩
          rw [decide_eq_true hm]
          have : (fs.length : Int) ≤ 16 := by omega
          simp [this]
        · have hm : ¬ May fs := fun hm => h16 hm.1
          rw [decide_eq_false hm]
          have : ¬ (fs.length : Int) ≤ 16 := by omega
          simp [this]
      have HM : Hid _ := hM
      clear hM
      go_wp2
      go_ret
      refine ⟨by rw [HM.out]; simp, ?_⟩
      repeat (first | with_reducible exact Adds.refl _ | with_reducible refine Adds.alloc ?_ _ | with_reducible refine Adds.more ?_ _ _ | with_reducible refine Adds.drew ?_ | with_reducible refine Adds.drewN ?_ _)

end Go.Proofs.YtiacnmcdfpmcfaaGreatDoor
