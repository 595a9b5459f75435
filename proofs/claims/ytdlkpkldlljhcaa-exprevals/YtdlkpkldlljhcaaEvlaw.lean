/-
  The law ExprEvals, by a contract.
-/
import Derived.Test.YtdlkpkldlljhcaaReval
import Derived.Test.YtdlkpkldlljhcaaRsize
namespace Go.Proofs.Ytdlkpkldlljhcaa
open Go.RowKit
attribute [local go_sem] cell?_more frozen?_more setCell_more size_more tape_more drew_more drewN_more more_drew more_drewN one_out plus_out plus_end lt_one le_p2 le_p3 le_p4 le_p5 le_p6 le_p7 le_p8 le_p9 le_p10 le_p11 le_p12 le_p13 le_p14 le_p15 le_p16 le_p17 le_p18 le_p19 le_p20 le_p21 le_p22 le_p23 le_p24 le_q0 le_q1 lt_q1 le_q2 lt_q2 le_q3 lt_q3 le_q4 lt_q4 le_q5 lt_q5 le_q6 lt_q6 le_q7 lt_q7 le_q8 lt_q8 le_q9 lt_q9 le_q10 lt_q10 le_q11 lt_q11 le_q12 lt_q12 le_q13 lt_q13 le_q14 lt_q14 le_q15 lt_q15 le_q16 lt_q16 le_q17 lt_q17 le_q18 lt_q18 le_q19 lt_q19 le_q20 lt_q20 le_q21 lt_q21 le_q22 lt_q22 le_q23 lt_q23 le_q24 lt_q24


theorem evalN_has (fs : List F) (n : N) : ∃ o, evalN fs n o := by
  by_cases hq : fitsN 8 n = true ∧ May fs
  · obtain ⟨e, rfl, ho⟩ := fits_E 8 n hq.1
    exact ⟨valE fs e, fun _ _ => ⟨e, rfl, ho, rfl⟩, fun h => absurd hq h⟩
  · exact ⟨none, fun h1 h2 => absurd ⟨h1, h2⟩ hq, fun _ => rfl⟩

set_option maxHeartbeats 4000000 in
set_option maxRecDepth 100000 in
theorem exprEvals_any {D : Nat} (n : N) (s dv : Value) (fs : List F) (w : World) (hT : Tn (fun _ => True) D w s n.args) (hx : n.text.size ≤ 9223372036854775807) (hL : Lst w dv fs) :
    Calls Try.prog 4 #[nodeV n s, dv] w fun e w' => e = .returned (.bool true) ∧ Adds w w' := by
  have kA := awakeE_any
  have kS := fun W hA => size_any (ok := fun _ => True) D n 0 s W (by omega) (hT.adds hA)
  obtain ⟨o, ho⟩ := evalN_has fs n
  have kE : (∀ d, cntN d [n] ≤ 10000) → ∀ W, Adds w W → Calls Try.prog 10 #[nodeV n s, dv] W fun e w' => e = .returned (optV o) ∧ Adds W w' := fun hc W hA => (eval_any (D := D) n s dv fs W (hT.adds hA) hx hc (hL.adds hA)).mono (by
    rintro e w' ⟨⟨o', rfl, h⟩, hA'⟩
    exact ⟨by rw [evalN_uniq h ho], hA'⟩)
  have kF : (∀ d, cntN d [n] ≤ 10000) → fs.length ≤ 40 → ∀ W, Adds w W → Calls Try.prog 11 #[nodeV n s, dv] W fun e w' => e = .returned (optV o) ∧ Adds W w' := fun hc h40 W hA => (rEval_any (D := D) n s dv fs W (hT.adds hA) hx hc (hL.adds hA) (by omega)).mono (by
    rintro e w' ⟨⟨o', rfl, h⟩, hA'⟩
    exact ⟨by rw [evalN_uniq h ho], hA'⟩)
  obtain ⟨⟨k, n', t, re, im⟩, hq⟩ : ∃ q, o.getD vZ = q := ⟨_, rfl⟩
  have HC : Hid (o.isSome = true → (⟨k, n', t, re, im⟩ : V).check = 0) := by
    intro h
    cases o with
    | none => cases h
    | some v =>
      have : v = ⟨k, n', t, re, im⟩ := hq
      rw [← this]
      exact evalN_ok ho
  have kC := refCheck_any ⟨k, n', t, re, im⟩
  have heq := run_eql37 k n' t re im k n' t re im
  have hev : V.eqv ⟨k, n', t, re, im⟩ ⟨k, n', t, re, im⟩ = true := (V.eqv_iff _ _).2 rfl
  rw [hev] at heq
  have HN : Hid (∀ r : Nat, (r < 3000 → ∀ d, 0 + cntN d [n] ≤ r) → r < 3000 → ∀ d, cntN d [n] ≤ 10000) := fun r h h1 d => by have := h h1 d; omega
  simp only [optV, hq] at kE kF
  have h0 : ((0 : Nat) : Int) = 0 := rfl
  rw [h0] at kS
  obtain ⟨ao, cap, rfl⟩ := hT.shape
  obtain ⟨do_, dcap, rfl, _, _⟩ := hL
  have HKE : Hid _ := kE
  have HKF : Hid _ := kF
  clear kE kF hT hx hev h0 hq ho
  generalize o.isSome = q at *
  by_cases h40 : fs.length ≤ 40
  · have h40' : ¬ 40 < (fs.length : Int) := by omega
    have kS' : ∀ W, Adds w W → Calls Try.prog 9 #[nodeV n (.slice ao n.args.length cap), .int .i64 0] W fun e w' => (∃ r : Nat, e = .returned (.int .i64 r) ∧ (3000 ≤ (r : Int) ∨ ((r : Int) < 3000 ∧ Hid (∀ d, cntN d [n] ≤ 10000)))) ∧ Adds W w' := fun W hA => (kS W hA).mono (by
      rintro e w' ⟨⟨r, rfl, _, hr⟩, hA'⟩
      refine ⟨⟨r, rfl, ?_⟩, hA'⟩
      by_cases h : r < 3000
      · exact .inr ⟨by omega, HN.out r hr h⟩
      · exact .inl (by omega))
    have HKF' : Hid _ := fun hc => HKF.out hc h40
    clear kS HN HKF h40
    generalize hn : nodeV n (.slice ao n.args.length cap) = nv at *
    simp only [nodeV] at hn
    have hKE2 : ∀ W, Adds w W → (∀ d, cntN d [n] ≤ 10000) → Calls Try.prog 10 #[nv, .slice do_ fs.length dcap] W _ := fun W hA hc => HKE.out hc W hA
    have hKF2 : ∀ W, Adds w W → (∀ d, cntN d [n] ≤ 10000) → Calls Try.prog 11 #[nv, .slice do_ fs.length dcap] W _ := fun W hA hc => HKF'.out hc W hA
    clear HKE HKF'
    subst hn
    generalize cntN = cN at *
    generalize n.args.length = la at *
    generalize n.kind = xk at *
    generalize n.text = xt at *
    generalize n.num = xn at *
    simp only [V.val] at hKE2 hKF2 kC
    cases q
    · go_enter Try.func4, Try.ntmps4
      go_wp2_with (first
        | (go_at_call 9; refine (kS' _ (by repeat (first | with_reducible exact Adds.refl _ | with_reducible refine Adds.alloc ?_ _ | with_reducible refine Adds.more ?_ _ _ | with_reducible refine Adds.drew ?_ | with_reducible refine Adds.drewN ?_ _))).mono ?_; rintro e w1 ⟨⟨r, rfl, hr | ⟨hr, hcc⟩⟩, os1, n1, rfl⟩)
        | (go_at_call 10; refine (hKE2 _ (by repeat (first | with_reducible exact Adds.refl _ | with_reducible refine Adds.alloc ?_ _ | with_reducible refine Adds.more ?_ _ _ | with_reducible refine Adds.drew ?_ | with_reducible refine Adds.drewN ?_ _)) hcc.out).mono ?_; rintro e w2 ⟨rfl, os2, n2, rfl⟩)
        | (go_at_call 11; refine (hKF2 _ (by repeat (first | with_reducible exact Adds.refl _ | with_reducible refine Adds.alloc ?_ _ | with_reducible refine Adds.more ?_ _ _ | with_reducible refine Adds.drew ?_ | with_reducible refine Adds.drewN ?_ _)) hcc.out).mono ?_; rintro e w3 ⟨rfl, os3, n3, rfl⟩)
        | (go_at_call 12; refine (kC _).mono ?_; rintro e w4 ⟨rfl, os4, n4, rfl⟩)
        | (go_at_call 5; refine (kA _).mono ?_; rintro e w5 ⟨rfl, os5, n5, rfl⟩))
      all_goals
        go_ret
        exact ⟨rfl, by repeat (first | with_reducible exact Adds.refl _ | with_reducible refine Adds.alloc ?_ _ | with_reducible refine Adds.more ?_ _ _ | with_reducible refine Adds.drew ?_ | with_reducible refine Adds.drewN ?_ _)⟩
    · rw [HC.out rfl] at kC
      go_enter Try.func4, Try.ntmps4
      go_wp2_with (first
        | (go_at_call 9; refine (kS' _ (by repeat (first | with_reducible exact Adds.refl _ | with_reducible refine Adds.alloc ?_ _ | with_reducible refine Adds.more ?_ _ _ | with_reducible refine Adds.drew ?_ | with_reducible refine Adds.drewN ?_ _))).mono ?_; rintro e w1 ⟨⟨r, rfl, hr | ⟨hr, hcc⟩⟩, os1, n1, rfl⟩)
        | (go_at_call 10; refine (hKE2 _ (by repeat (first | with_reducible exact Adds.refl _ | with_reducible refine Adds.alloc ?_ _ | with_reducible refine Adds.more ?_ _ _ | with_reducible refine Adds.drew ?_ | with_reducible refine Adds.drewN ?_ _)) hcc.out).mono ?_; rintro e w2 ⟨rfl, os2, n2, rfl⟩)
        | (go_at_call 11; refine (hKF2 _ (by repeat (first | with_reducible exact Adds.refl _ | with_reducible refine Adds.alloc ?_ _ | with_reducible refine Adds.more ?_ _ _ | with_reducible refine Adds.drew ?_ | with_reducible refine Adds.drewN ?_ _)) hcc.out).mono ?_; rintro e w3 ⟨rfl, os3, n3, rfl⟩)
        | (go_at_call 12; refine (kC _).mono ?_; rintro e w4 ⟨rfl, os4, n4, rfl⟩)
        | (go_at_call 5; refine (kA _).mono ?_; rintro e w5 ⟨rfl, os5, n5, rfl⟩))
      all_goals
        go_ret
        exact ⟨rfl, by repeat (first | with_reducible exact Adds.refl _ | with_reducible refine Adds.alloc ?_ _ | with_reducible refine Adds.more ?_ _ _ | with_reducible refine Adds.drew ?_ | with_reducible refine Adds.drewN ?_ _)⟩
  · have h40' : 40 < (fs.length : Int) := by omega
    have kS' : ∀ W, Adds w W → Calls Try.prog 9 #[nodeV n (.slice ao n.args.length cap), .int .i64 0] W fun e w' => (∃ r : Nat, e = .returned (.int .i64 r) ∧ (3000 ≤ (r : Int) ∨ (r : Int) < 3000)) ∧ Adds W w' := fun W hA => (kS W hA).mono (by
      rintro e w' ⟨⟨r, rfl, _, hr⟩, hA'⟩
      exact ⟨⟨r, rfl, by omega⟩, hA'⟩)
    clear kS HN HKF HKE h40 HC kC heq
    simp only [nodeV] at kS' ⊢
    generalize n.args.length = la at *
    generalize n.kind = xk at *
    generalize n.text = xt at *
    generalize n.num = xn at *
    go_enter Try.func4, Try.ntmps4
    go_wp2_with (first
      | (go_at_call 9; refine (kS' _ (by repeat (first | with_reducible exact Adds.refl _ | with_reducible refine Adds.alloc ?_ _ | with_reducible refine Adds.more ?_ _ _ | with_reducible refine Adds.drew ?_ | with_reducible refine Adds.drewN ?_ _))).mono ?_; rintro e w1 ⟨⟨r, rfl, hr | hr⟩, os1, n1, rfl⟩)
      | (go_at_call 5; refine (kA _).mono ?_; rintro e w5 ⟨rfl, os5, n5, rfl⟩))
    all_goals
      go_ret
      exact ⟨rfl, by repeat (first | with_reducible exact Adds.refl _ | with_reducible refine Adds.alloc ?_ _ | with_reducible refine Adds.more ?_ _ _ | with_reducible refine Adds.drew ?_ | with_reducible refine Adds.drewN ?_ _)⟩

end Go.Proofs.Ytdlkpkldlljhcaa
