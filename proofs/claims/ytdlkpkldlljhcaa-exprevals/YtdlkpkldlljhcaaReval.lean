/-
  The reference's Eval, by a contract.
-/
import Derived.Test.YtdlkpkldlljhcaaRvalue
import Derived.Test.YtdlkpkldlljhcaaRmade
import Derived.Test.YtdlkpkldlljhcaaEvals
import Derived.Test.YtdlkpkldlljhcaaMays
namespace Go.Proofs.Ytdlkpkldlljhcaa
open Go.RowKit
attribute [local go_sem] cell?_more frozen?_more setCell_more size_more tape_more drew_more drewN_more more_drew more_drewN one_out plus_out plus_end lt_one le_p2 le_p3 le_p4 le_p5 le_p6 le_p7 le_p8 le_p9 le_p10 le_p11 le_p12 le_p13 le_p14 le_p15 le_p16 le_p17 le_p18 le_p19 le_p20 le_p21 le_p22 le_p23 le_p24 le_q0 le_q1 lt_q1 le_q2 lt_q2 le_q3 lt_q3 le_q4 lt_q4 le_q5 lt_q5 le_q6 lt_q6 le_q7 lt_q7 le_q8 lt_q8 le_q9 lt_q9 le_q10 lt_q10 le_q11 lt_q11 le_q12 lt_q12 le_q13 lt_q13 le_q14 lt_q14 le_q15 lt_q15 le_q16 lt_q16 le_q17 lt_q17 le_q18 lt_q18 le_q19 lt_q19 le_q20 lt_q20 le_q21 lt_q21 le_q22 lt_q22 le_q23 lt_q23 le_q24 lt_q24


set_option maxHeartbeats 2000000 in
theorem rEval_any {D : Nat} (n : N) (s dv : Value) (fs : List F) (w : World) (hT : Tn (fun _ => True) D w s n.args) (hx : n.text.size ≤ 9223372036854775807) (hc : ∀ d, cntN d [n] ≤ 10000) (hL : Lst w dv fs) (h40 : fs.length ≤ 1000) :
    Calls Try.prog 11 #[nodeV n s, dv] w fun e w' => (∃ o, e = .returned (optV o) ∧ evalN fs n o) ∧ Adds w w' := by
  have kC := fun W hA => rCheckE_any (ok := fun _ => True) (D := D) n s W (hT.adds hA) hx hc
  have kM := fun W hA => refMay_any dv fs W (hL.adds hA) h40
  by_cases hf : fitsN 8 n = true
  · have kC' : ∀ W, Adds w W → Calls Try.prog 19 #[nodeV n s] W fun e w' => e = .returned (.int .i64 0) ∧ Adds W w' := fun W hA => (kC W hA).mono (by rintro e w' ⟨⟨y, rfl, hy⟩, hA'⟩; exact ⟨by rw [hy.2 hf], hA'⟩)
    by_cases hm : May fs
    · obtain ⟨x, rfl, hok⟩ := fits_E 8 n hf
      have kV := fun W hA => rValue_any (ok := fun _ => True) fs hm dv x D s W hok (hL.adds hA) (hT.adds hA)
      have HE : Hid (evalN fs x.toN (valE fs x)) := ⟨fun _ _ => ⟨x, rfl, hok, rfl⟩, fun h => absurd ⟨hf, hm⟩ h⟩
      have hd : decide (May fs) = true := decide_eq_true hm
      rw [hd] at kM
      obtain ⟨ao, cap, rfl⟩ := hT.shape
      obtain ⟨⟨k, n', t, re, im⟩, hq⟩ : ∃ q, (valE fs x).getD vZ = q := ⟨_, rfl⟩
      have HQ : Hid ((valE fs x).getD vZ = ⟨k, n', t, re, im⟩) := hq
      obtain ⟨q2, hq2⟩ : ∃ q2, (valE fs x).isSome = q2 := ⟨_, rfl⟩
      have HQ2 : Hid ((valE fs x).isSome = q2) := hq2
      simp only [optV, hq, hq2, nodeV, V.val] at kV kC' ⊢
      clear hq hq2 kC hT hL hx hc hf hm hok hd
      generalize x.toN.args.length = la at *
      generalize x.toN.kind = xk at *
      generalize x.toN.text = xt at *
      generalize x.toN.num = xn at *
      go_enter Try.func11, Try.ntmps11
      go_wp2_with (first
        | (go_at_call 19; refine (kC' _ (by repeat (first | with_reducible exact Adds.refl _ | with_reducible refine Adds.alloc ?_ _ | with_reducible refine Adds.more ?_ _ _ | with_reducible refine Adds.drew ?_ | with_reducible refine Adds.drewN ?_ _))).mono ?_; rintro e w1 ⟨rfl, os1, n1, rfl⟩)
        | (go_at_call 20; refine (kM _ (by repeat (first | with_reducible exact Adds.refl _ | with_reducible refine Adds.alloc ?_ _ | with_reducible refine Adds.more ?_ _ _ | with_reducible refine Adds.drew ?_ | with_reducible refine Adds.drewN ?_ _))).mono ?_; rintro e w2 ⟨rfl, os2, n2, rfl⟩)
        | (go_at_call 21; refine (kV _ (by repeat (first | with_reducible exact Adds.refl _ | with_reducible refine Adds.alloc ?_ _ | with_reducible refine Adds.more ?_ _ _ | with_reducible refine Adds.drew ?_ | with_reducible refine Adds.drewN ?_ _))).mono ?_; rintro e w3 ⟨rfl, os3, n3, rfl⟩))
      exact bodyPost_ret (v := .tuple #[.agg #[.int .i64 k, .int .i64 n', .string t, .int .i64 re, .int .i64 im], .bool q2]) (by simp [results, Try.results11, go_sem]) rfl ⟨⟨valE fs x, by rw [HQ.out, HQ2.out], HE.out⟩, by repeat (first | with_reducible exact Adds.refl _ | with_reducible refine Adds.alloc ?_ _ | with_reducible refine Adds.more ?_ _ _ | with_reducible refine Adds.drew ?_ | with_reducible refine Adds.drewN ?_ _)⟩
    · have HE : Hid (evalN fs n none) := ⟨fun _ h => absurd h hm, fun _ => rfl⟩
      have hd : decide (May fs) = false := decide_eq_false hm
      rw [hd] at kM
      obtain ⟨ao, cap, rfl⟩ := hT.shape
      simp only [nodeV] at kC' ⊢
      clear kC hT hL hx hc hf hm hd
      generalize n.args.length = la at *
      generalize n.kind = xk at *
      generalize n.text = xt at *
      generalize n.num = xn at *
      go_enter Try.func11, Try.ntmps11
      go_wp2_with (first
        | (go_at_call 19; refine (kC' _ (by repeat (first | with_reducible exact Adds.refl _ | with_reducible refine Adds.alloc ?_ _ | with_reducible refine Adds.more ?_ _ _ | with_reducible refine Adds.drew ?_ | with_reducible refine Adds.drewN ?_ _))).mono ?_; rintro e w1 ⟨rfl, os1, n1, rfl⟩)
        | (go_at_call 20; refine (kM _ (by repeat (first | with_reducible exact Adds.refl _ | with_reducible refine Adds.alloc ?_ _ | with_reducible refine Adds.more ?_ _ _ | with_reducible refine Adds.drew ?_ | with_reducible refine Adds.drewN ?_ _))).mono ?_; rintro e w2 ⟨rfl, os2, n2, rfl⟩))
      exact bodyPost_ret (v := .tuple #[.agg #[.int .i64 0, .int .i64 0, .string ⟨#[]⟩, .int .i64 0, .int .i64 0], .bool false]) (by simp [results, Try.results11, go_sem]) rfl ⟨⟨none, rfl, HE.out⟩, by repeat (first | with_reducible exact Adds.refl _ | with_reducible refine Adds.alloc ?_ _ | with_reducible refine Adds.more ?_ _ _ | with_reducible refine Adds.drew ?_ | with_reducible refine Adds.drewN ?_ _)⟩
  · have HE : Hid (evalN fs n none) := ⟨fun h => absurd h hf, fun _ => rfl⟩
    have kC' : ∀ W, Adds w W → Calls Try.prog 19 #[nodeV n s] W fun e w' => (∃ x : Int, e = .returned (.int .i64 x) ∧ (x != 0) = true) ∧ Adds W w' := fun W hA => (kC W hA).mono (by
      rintro e w' ⟨⟨y, rfl, hy⟩, hA'⟩
      exact ⟨⟨y, rfl, by simpa using fun h => hf (hy.1 h)⟩, hA'⟩)
    obtain ⟨ao, cap, rfl⟩ := hT.shape
    simp only [nodeV] at kC' ⊢
    clear kC kM hT hL hx hc hf
    generalize n.args.length = la at *
    generalize n.kind = xk at *
    generalize n.text = xt at *
    generalize n.num = xn at *
    go_enter Try.func11, Try.ntmps11
    go_wp2_with (first
      | (go_at_call 19; refine (kC' _ (by repeat (first | with_reducible exact Adds.refl _ | with_reducible refine Adds.alloc ?_ _ | with_reducible refine Adds.more ?_ _ _ | with_reducible refine Adds.drew ?_ | with_reducible refine Adds.drewN ?_ _))).mono ?_; rintro e w1 ⟨⟨y, rfl, hy⟩, os1, n1, rfl⟩))
    exact bodyPost_ret (v := .tuple #[.agg #[.int .i64 0, .int .i64 0, .string ⟨#[]⟩, .int .i64 0, .int .i64 0], .bool false]) (by simp [results, Try.results11, go_sem]) rfl ⟨⟨none, rfl, HE.out⟩, by repeat (first | with_reducible exact Adds.refl _ | with_reducible refine Adds.alloc ?_ _ | with_reducible refine Adds.more ?_ _ _ | with_reducible refine Adds.drew ?_ | with_reducible refine Adds.drewN ?_ _)⟩

theorem evalN_uniq {fs : List F} {n : N} {o o' : Option V} (h : evalN fs n o) (h' : evalN fs n o') : o = o' := by
  by_cases hq : fitsN 8 n = true ∧ May fs
  · obtain ⟨e, he, _, rfl⟩ := h.1 hq.1 hq.2
    obtain ⟨e', he', _, rfl⟩ := h'.1 hq.1 hq.2
    rw [E.toN_inj (he.symm.trans he')]
  · rw [h.2 hq, h'.2 hq]
theorem evalN_ok {fs : List F} {n : N} {v : V} (h : evalN fs n (some v)) : v.check = 0 := by
  by_cases hq : fitsN 8 n = true ∧ May fs
  · obtain ⟨e, _, ho, he⟩ := h.1 hq.1 hq.2
    exact valE_ok hq.2 ho he.symm
  · cases h.2 hq

end Go.Proofs.Ytdlkpkldlljhcaa
