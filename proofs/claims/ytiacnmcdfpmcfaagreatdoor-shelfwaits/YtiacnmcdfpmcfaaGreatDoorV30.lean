/-
  The reference's Value, by a contract.
  The reference's Eval, by a contract.
  All values of a list of expressions: what is told.
-/
import Derived.Test.YtiacnmcdfpmcfaaGreatDoorV29
import Derived.Test.YtiacnmcdfpmcfaaGreatDoorV28
import Derived.Test.YtiacnmcdfpmcfaaGreatDoorV27
import Derived.Test.YtiacnmcdfpmcfaaGreatDoorQ20
import Derived.Test.YtiacnmcdfpmcfaaGreatDoorV12
import Derived.Deep.MidRow
namespace Go.Proofs.YtiacnmcdfpmcfaaGreatDoor
open Go.RowKit
attribute [local go_sem] cell?_more frozen?_more setCell_more size_more tape_more drew_more drewN_more more_drew more_drewN one_out plus_out plus_end lt_one le_p2 le_p3 le_p4 le_p5 le_p6 le_p7 le_p8 le_p9 le_p10 le_p11 le_p12 le_p13 le_p14 le_p15 le_p16 le_p17 le_p18 le_p19 le_p20 le_p21 le_p22 le_p23 le_p24 le_q0 le_q1 lt_q1 le_q2 lt_q2 le_q3 lt_q3 le_q4 lt_q4 le_q5 lt_q5 le_q6 lt_q6 le_q7 lt_q7 le_q8 lt_q8 le_q9 lt_q9 le_q10 lt_q10 le_q11 lt_q11 le_q12 lt_q12 le_q13 lt_q13 le_q14 lt_q14 le_q15 lt_q15 le_q16 lt_q16 le_q17 lt_q17 le_q18 lt_q18 le_q19 lt_q19 le_q20 lt_q20 le_q21 lt_q21 le_q22 lt_q22 le_q23 lt_q23 le_q24 lt_q24


/-- The value ahead of the question whether it fits. -/
def rawE (fs : List F) (e : E) : Option V :=
  match e with
  | .path t => (kidsV fs []).bind fun _ => if firstAt (toB t) fs < fs.length then some (got (toB t) fs) else none
  | .num n => (kidsV fs []).bind fun _ => some (V.mkNum n)
  | .sum a b => (kidsV fs [a, b]).bind fun l => sumR (l.getD 0 vZ) (l.getD 1 vZ)
  | .mul a b => (kidsV fs [a, b]).bind fun l => mulR (l.getD 0 vZ) (l.getD 1 vZ)
  | .call f a => (kidsV fs [a]).bind fun l => callO (toB f).toList (l.getD 0 vZ)

theorem fitO_of {v : V} (h : v.check = 0) : fitO v = some v := by simp [fitO, h]

theorem sumR_fit (u v : V) : (sumR u v).bind fitO = sumO u v := by
  unfold sumR sumO
  split
  · rfl
  split
  · rfl
  split
  · rfl
  · exact pt_fit _ _

theorem rawE_fit {fs : List F} (hm : May fs) (e : E) (ho : e.ok) : (rawE fs e).bind fitO = valE fs e := by
  cases e with
  | path t =>
    simp only [rawE, kidsV, Option.bind_some, valE]
    split
    · exact fitO_of (got_ok hm (by assumption))
    · rfl
  | num n =>
    have : n < 1000000000000000 := ho
    exact fitO_of (mkNum_ok (by omega) (by omega))
  | sum a b =>
    simp only [rawE, kidsV, valE]
    cases valE fs a with
    | none => rfl
    | some x =>
      cases valE fs b with
      | none => rfl
      | some y => exact sumR_fit x y
  | mul a b =>
    simp only [rawE, kidsV, valE]
    cases valE fs a with
    | none => rfl
    | some x =>
      cases valE fs b with
      | none => rfl
      | some y => exact mulR_fit x y
  | call f a =>
    have ha := fun x h => valE_ok hm ho.2 (v := x) h
    simp only [rawE, kidsV, valE, toB_toList]
    cases hv : valE fs a with
    | none => rfl
    | some x =>
      show (callO f x).bind fitO = callO f x
      cases hc : callO f x with
      | none => rfl
      | some y => exact fitO_of (callO_ok (ha x hv) hc)

set_option maxHeartbeats 1000000 in
theorem rValue_of (n : N) (s dv : Value) (o : Option V) (w : World) (hs : ∃ ao cap, s = .slice ao n.args.length cap)
    (kR : ∀ W, Adds w W → Calls Tryz.prog 126 #[nodeV n s, dv] W fun x w' => x = .returned (optV o) ∧ Adds W w') :
    Calls Tryz.prog 100 #[nodeV n s, dv] w fun x w' => x = .returned (optV (o.bind fitO)) ∧ Adds w w' := by
  obtain ⟨ao, cap, rfl⟩ := hs
  obtain ⟨nk, nt, nm, na⟩ := n
  simp only [nodeV, N.kind, N.text, N.num, N.args] at *
  generalize na.length = nl at *
  cases o with
  | none =>
    simp only [optV, Option.getD_none, Option.isSome_none, Option.bind_none, vZ, V.val] at *
    go_enter Tryz.func100, Tryz.ntmps100
    go_wp2_with (first
      | (go_at_call 126; refine (kR _ (by repeat (first | with_reducible exact Adds.refl _ | with_reducible refine Adds.alloc ?_ _ | with_reducible refine Adds.more ?_ _ _ | with_reducible refine Adds.drew ?_ | with_reducible refine Adds.drewN ?_ _))).mono ?_; rintro e w2 ⟨rfl, os2, n2, rfl⟩))
    exact bodyPost_ret (v := .tuple #[.agg #[.int .i64 0, .int .i64 0, .string ⟨#[]⟩, .int .i64 0, .int .i64 0], .bool false]) (by simp [results, Tryz.results100, go_sem]) rfl ⟨rfl, by repeat (first | with_reducible exact Adds.refl _ | with_reducible refine Adds.alloc ?_ _ | with_reducible refine Adds.more ?_ _ _ | with_reducible refine Adds.drew ?_ | with_reducible refine Adds.drewN ?_ _)⟩
  | some v =>
    have kC := refCheck_any v
    simp only [Option.bind_some]
    by_cases hc : v.check = 0
    · have e : fitO v = some v := fitO_of hc
      rw [e]
      rw [hc] at kC
      clear hc e
      obtain ⟨k, n', t', re, im⟩ := v
      simp only [optV, Option.getD_some, Option.isSome_some, V.val] at *
      go_enter Tryz.func100, Tryz.ntmps100
      go_wp2_with (first
        | (go_at_call 126; refine (kR _ (by repeat (first | with_reducible exact Adds.refl _ | with_reducible refine Adds.alloc ?_ _ | with_reducible refine Adds.more ?_ _ _ | with_reducible refine Adds.drew ?_ | with_reducible refine Adds.drewN ?_ _))).mono ?_; rintro e w2 ⟨rfl, os2, n2, rfl⟩)
        | (go_at_call 40; refine (kC _).mono ?_; rintro e w3 ⟨rfl, os3, n3, rfl⟩))
      exact bodyPost_ret (v := .tuple #[.agg #[.int .i64 k, .int .i64 n', .string t', .int .i64 re, .int .i64 im], .bool true]) (by simp [results, Tryz.results100, go_sem]) rfl ⟨rfl, by repeat (first | with_reducible exact Adds.refl _ | with_reducible refine Adds.alloc ?_ _ | with_reducible refine Adds.more ?_ _ _ | with_reducible refine Adds.drew ?_ | with_reducible refine Adds.drewN ?_ _)⟩
    · have e : fitO v = none := by simp [fitO, hc]
      rw [e]
      have hc' : (v.check != 0) = true := by simpa using hc
      generalize v.check = c at *
      clear hc e
      obtain ⟨k, n', t', re, im⟩ := v
      simp only [optV, Option.getD_some, Option.isSome_some, Option.getD_none, Option.isSome_none, vZ, V.val] at *
      go_enter Tryz.func100, Tryz.ntmps100
      go_wp2_with (first
        | (go_at_call 126; refine (kR _ (by repeat (first | with_reducible exact Adds.refl _ | with_reducible refine Adds.alloc ?_ _ | with_reducible refine Adds.more ?_ _ _ | with_reducible refine Adds.drew ?_ | with_reducible refine Adds.drewN ?_ _))).mono ?_; rintro e w2 ⟨rfl, os2, n2, rfl⟩)
        | (go_at_call 40; refine (kC _).mono ?_; rintro e w3 ⟨rfl, os3, n3, rfl⟩))
      exact bodyPost_ret (v := .tuple #[.agg #[.int .i64 0, .int .i64 0, .string ⟨#[]⟩, .int .i64 0, .int .i64 0], .bool false]) (by simp [results, Tryz.results100, go_sem]) rfl ⟨rfl, by repeat (first | with_reducible exact Adds.refl _ | with_reducible refine Adds.alloc ?_ _ | with_reducible refine Adds.more ?_ _ _ | with_reducible refine Adds.drew ?_ | with_reducible refine Adds.drewN ?_ _)⟩

theorem rValue_any {ok : Nat → Prop} (fs : List F) (hm : May fs) (dv : Value) (e : E) : ∀ (d : Nat) (sn : Value) (w : World), e.ok → Lst w dv fs → Tn ok d w sn e.toN.args →
    Calls Tryz.prog 100 #[nodeV e.toN sn, dv] w fun x w' => x = .returned (optV (valE fs e)) ∧ Adds w w' := by
  induction e with
  | path t =>
    intro d sn w ho hL hT
    rw [← rawE_fit hm _ ho]
    exact rValue_of _ sn dv _ w hT.shape (fun W hA => raw_path [] rfl (toB t) 0 fs hm dv sn W (hT.adds hA) (hL.adds hA) (by simp) (fun j h => absurd h (by simp)))
  | num n =>
    intro d sn w ho hL hT
    rw [← rawE_fit hm _ ho]
    exact rValue_of _ sn dv _ w hT.shape (fun W hA => raw_num [] rfl ⟨#[]⟩ n fs hm dv sn W (hT.adds hA) (hL.adds hA) (by simp) (fun j h => absurd h (by simp)))
  | sum a b iha ihb =>
    intro d sn w ho hL hT
    rw [← rawE_fit hm _ ho]
    refine rValue_of _ sn dv _ w hT.shape (fun W hA => raw_sum [a, b] rfl ⟨#[]⟩ 0 fs hm dv sn W (hT.adds hA) (hL.adds hA) ?_ ?_)
    · intro c hc
      simp only [List.mem_cons, List.mem_nil_iff, or_false] at hc
      rcases hc with rfl | rfl
      · exact ho.1
      · exact ho.2
    · intro j h e x X hX ht
      match j, h with
      | 0, _ => exact iha e x X ho.1 ((hL.adds hA).adds hX) ht
      | 1, _ => exact ihb e x X ho.2 ((hL.adds hA).adds hX) ht
  | mul a b iha ihb =>
    intro d sn w ho hL hT
    rw [← rawE_fit hm _ ho]
    refine rValue_of _ sn dv _ w hT.shape (fun W hA => raw_mul [a, b] rfl ⟨#[]⟩ 0 fs hm dv sn W (hT.adds hA) (hL.adds hA) ?_ ?_)
    · intro c hc
      simp only [List.mem_cons, List.mem_nil_iff, or_false] at hc
      rcases hc with rfl | rfl
      · exact ho.1
      · exact ho.2
    · intro j h e x X hX ht
      match j, h with
      | 0, _ => exact iha e x X ho.1 ((hL.adds hA).adds hX) ht
      | 1, _ => exact ihb e x X ho.2 ((hL.adds hA).adds hX) ht
  | call f a iha =>
    intro d sn w ho hL hT
    rw [← rawE_fit hm _ ho]
    refine rValue_of _ sn dv _ w hT.shape (fun W hA => raw_call [a] rfl (toB f) 0 fs hm dv sn W (hT.adds hA) (hL.adds hA) ?_ ?_)
    · intro c hc
      simp only [List.mem_cons, List.mem_nil_iff, or_false] at hc
      subst hc
      exact ho.2
    · intro j h e x X hX ht
      match j, h with
      | 0, _ => exact iha e x X ho.2 ((hL.adds hA).adds hX) ht

end Go.Proofs.YtiacnmcdfpmcfaaGreatDoor

namespace Go.Proofs.YtiacnmcdfpmcfaaGreatDoor
open Go.RowKit
attribute [local go_sem] cell?_more frozen?_more setCell_more size_more tape_more drew_more drewN_more more_drew more_drewN one_out plus_out plus_end lt_one le_p2 le_p3 le_p4 le_p5 le_p6 le_p7 le_p8 le_p9 le_p10 le_p11 le_p12 le_p13 le_p14 le_p15 le_p16 le_p17 le_p18 le_p19 le_p20 le_p21 le_p22 le_p23 le_p24 le_q0 le_q1 lt_q1 le_q2 lt_q2 le_q3 lt_q3 le_q4 lt_q4 le_q5 lt_q5 le_q6 lt_q6 le_q7 lt_q7 le_q8 lt_q8 le_q9 lt_q9 le_q10 lt_q10 le_q11 lt_q11 le_q12 lt_q12 le_q13 lt_q13 le_q14 lt_q14 le_q15 lt_q15 le_q16 lt_q16 le_q17 lt_q17 le_q18 lt_q18 le_q19 lt_q19 le_q20 lt_q20 le_q21 lt_q21 le_q22 lt_q22 le_q23 lt_q23 le_q24 lt_q24


set_option maxHeartbeats 2000000 in
theorem rEval_any {D : Nat} (n : N) (s dv : Value) (fs : List F) (w : World) (hT : Tn (fun _ => True) D w s n.args) (hx : n.text.size ≤ 9223372036854775807) (hc : ∀ d, cntN d [n] ≤ 10000) (hL : Lst w dv fs) (h40 : fs.length ≤ 1000) :
    Calls Tryz.prog 74 #[nodeV n s, dv] w fun e w' => (∃ o, e = .returned (optV o) ∧ evalN fs n o) ∧ Adds w w' := by
  have kC := fun W hA => rCheckE_any (ok := fun _ => True) (D := D) n s W (hT.adds hA) hx hc
  have kM := fun W hA => refMay_any dv fs W (hL.adds hA) h40
  by_cases hf : fitsN 8 n = true
  · have kC' : ∀ W, Adds w W → Calls Tryz.prog 99 #[nodeV n s] W fun e w' => e = .returned (.int .i64 0) ∧ Adds W w' := fun W hA => (kC W hA).mono (by rintro e w' ⟨⟨y, rfl, hy⟩, hA'⟩; exact ⟨by rw [hy.2 hf], hA'⟩)
    by_cases hm : May fs
    · obtain ⟨x, rfl, hok⟩ := fits_E 8 n hf
      have kV := fun W hA => rValue_any (ok := fun _ => True) fs hm dv x D s W hok (hL.adds hA) (hT.adds hA)
      have HE : Hid (evalN fs x.toN (valE fs x)) := ⟨fun _ _ => ⟨x, rfl, hok, rfl⟩, fun h => absurd ⟨hf, hm⟩ h⟩
      have hd : decide (May fs) = true := decide_eq_true hm
      rw [hd] at kM
      obtain ⟨ao, cap, rfl⟩ := hT.shape
      obtain ⟨⟨k, n', t, re, im⟩, hq⟩ : ∃ q, (valE fs x).getD vZ = q := ⟨_, rfl⟩
      have HQ : Hid ((valE fs x).getD vZ = ⟨k, n', t, re, im⟩) := hq
      obtain ⟨q2, hq2⟩ : ∃ q2, (valE fs x).isSome = q2 := ⟨_, rfl⟩
      have HQ2 : Hid ((valE fs x).isSome = q2) := hq2
      simp only [optV, hq, hq2, nodeV, V.val] at kV kC' ⊢
      clear hq hq2 kC hT hL hx hc hf hm hok hd
      generalize x.toN.args.length = la at *
      generalize x.toN.kind = xk at *
      generalize x.toN.text = xt at *
      generalize x.toN.num = xn at *
      go_enter Tryz.func74, Tryz.ntmps74
      go_wp2_with (first
        | (go_at_call 99; refine (kC' _ (by repeat (first | with_reducible exact Adds.refl _ | with_reducible refine Adds.alloc ?_ _ | with_reducible refine Adds.more ?_ _ _ | with_reducible refine Adds.drew ?_ | with_reducible refine Adds.drewN ?_ _))).mono ?_; rintro e w1 ⟨rfl, os1, n1, rfl⟩)
        | (go_at_call 20; refine (kM _ (by repeat (first | with_reducible exact Adds.refl _ | with_reducible refine Adds.alloc ?_ _ | with_reducible refine Adds.more ?_ _ _ | with_reducible refine Adds.drew ?_ | with_reducible refine Adds.drewN ?_ _))).mono ?_; rintro e w2 ⟨rfl, os2, n2, rfl⟩)
        | (go_at_call 100; refine (kV _ (by repeat (first | with_reducible exact Adds.refl _ | with_reducible refine Adds.alloc ?_ _ | with_reducible refine Adds.more ?_ _ _ | with_reducible refine Adds.drew ?_ | with_reducible refine Adds.drewN ?_ _))).mono ?_; rintro e w3 ⟨rfl, os3, n3, rfl⟩))
      exact bodyPost_ret (v := .tuple #[.agg #[.int .i64 k, .int .i64 n', .string t, .int .i64 re, .int .i64 im], .bool q2]) (by simp [results, Tryz.results74, go_sem]) rfl ⟨⟨valE fs x, by rw [HQ.out, HQ2.out], HE.out⟩, by repeat (first | with_reducible exact Adds.refl _ | with_reducible refine Adds.alloc ?_ _ | with_reducible refine Adds.more ?_ _ _ | with_reducible refine Adds.drew ?_ | with_reducible refine Adds.drewN ?_ _)⟩
    · have HE : Hid (evalN fs n none) := ⟨fun _ h => absurd h hm, fun _ => rfl⟩
      have hd : decide (May fs) = false := decide_eq_false hm
      rw [hd] at kM
      obtain ⟨ao, cap, rfl⟩ := hT.shape
      simp only [nodeV] at kC' ⊢
      clear kC hT hL hx hc hf hm hd
      generalize n.args.length = la at *
      generalize n.kind = xk at *
      generalize n.text = xt at *
      generalize n.num = xn at *
      go_enter Tryz.func74, Tryz.ntmps74
      go_wp2_with (first
        | (go_at_call 99; refine (kC' _ (by repeat (first | with_reducible exact Adds.refl _ | with_reducible refine Adds.alloc ?_ _ | with_reducible refine Adds.more ?_ _ _ | with_reducible refine Adds.drew ?_ | with_reducible refine Adds.drewN ?_ _))).mono ?_; rintro e w1 ⟨rfl, os1, n1, rfl⟩)
        | (go_at_call 20; refine (kM _ (by repeat (first | with_reducible exact Adds.refl _ | with_reducible refine Adds.alloc ?_ _ | with_reducible refine Adds.more ?_ _ _ | with_reducible refine Adds.drew ?_ | with_reducible refine Adds.drewN ?_ _))).mono ?_; rintro e w2 ⟨rfl, os2, n2, rfl⟩))
      exact bodyPost_ret (v := .tuple #[.agg #[.int .i64 0, .int .i64 0, .string ⟨#[]⟩, .int .i64 0, .int .i64 0], .bool false]) (by simp [results, Tryz.results74, go_sem]) rfl ⟨⟨none, rfl, HE.out⟩, by repeat (first | with_reducible exact Adds.refl _ | with_reducible refine Adds.alloc ?_ _ | with_reducible refine Adds.more ?_ _ _ | with_reducible refine Adds.drew ?_ | with_reducible refine Adds.drewN ?_ _)⟩
  · have HE : Hid (evalN fs n none) := ⟨fun h => absurd h hf, fun _ => rfl⟩
    have kC' : ∀ W, Adds w W → Calls Tryz.prog 99 #[nodeV n s] W fun e w' => (∃ x : Int, e = .returned (.int .i64 x) ∧ (x != 0) = true) ∧ Adds W w' := fun W hA => (kC W hA).mono (by
      rintro e w' ⟨⟨y, rfl, hy⟩, hA'⟩
      exact ⟨⟨y, rfl, by simpa using fun h => hf (hy.1 h)⟩, hA'⟩)
    obtain ⟨ao, cap, rfl⟩ := hT.shape
    simp only [nodeV] at kC' ⊢
    clear kC kM hT hL hx hc hf
    generalize n.args.length = la at *
    generalize n.kind = xk at *
    generalize n.text = xt at *
    generalize n.num = xn at *
    go_enter Tryz.func74, Tryz.ntmps74
    go_wp2_with (first
      | (go_at_call 99; refine (kC' _ (by repeat (first | with_reducible exact Adds.refl _ | with_reducible refine Adds.alloc ?_ _ | with_reducible refine Adds.more ?_ _ _ | with_reducible refine Adds.drew ?_ | with_reducible refine Adds.drewN ?_ _))).mono ?_; rintro e w1 ⟨⟨y, rfl, hy⟩, os1, n1, rfl⟩))
    exact bodyPost_ret (v := .tuple #[.agg #[.int .i64 0, .int .i64 0, .string ⟨#[]⟩, .int .i64 0, .int .i64 0], .bool false]) (by simp [results, Tryz.results74, go_sem]) rfl ⟨⟨none, rfl, HE.out⟩, by repeat (first | with_reducible exact Adds.refl _ | with_reducible refine Adds.alloc ?_ _ | with_reducible refine Adds.more ?_ _ _ | with_reducible refine Adds.drew ?_ | with_reducible refine Adds.drewN ?_ _)⟩

theorem evalN_uniq {fs : List F} {n : N} {o o' : Option V} (h : evalN fs n o) (h' : evalN fs n o') : o = o' := by
  by_cases hq : fitsN 8 n = true ∧ May fs
  · obtain ⟨e, he, _, rfl⟩ := h.1 hq.1 hq.2
    obtain ⟨e', he', _, rfl⟩ := h'.1 hq.1 hq.2
    rw [E.toN_inj (he.symm.trans he')]
  · rw [h.2 hq, h'.2 hq]
theorem evalN_ok {fs : List F} {n : N} {v : V} (h : evalN fs n (some v)) : v.check = 0 := by
  by_cases hq : fitsN 8 n = true ∧ May fs
  · obtain ⟨e, _, ho, he⟩ := h.1 hq.1 hq.2
    exact valE_ok hq.2 ho he.symm
  · cases h.2 hq

end Go.Proofs.YtiacnmcdfpmcfaaGreatDoor

namespace Go.Proofs.YtiacnmcdfpmcfaaGreatDoor
open Go.RowKit
attribute [local go_sem] cell?_more frozen?_more setCell_more size_more tape_more drew_more drewN_more more_drew more_drewN one_out plus_out plus_end lt_one le_p2 le_p3 le_p4 le_p5 le_p6 le_p7 le_p8 le_p9 le_p10 le_p11 le_p12 le_p13 le_p14 le_p15 le_p16 le_p17 le_p18 le_p19 le_p20 le_p21 le_p22 le_p23 le_p24 le_q0 le_q1 lt_q1 le_q2 lt_q2 le_q3 lt_q3 le_q4 lt_q4 le_q5 lt_q5 le_q6 lt_q6 le_q7 lt_q7 le_q8 lt_q8 le_q9 lt_q9 le_q10 lt_q10 le_q11 lt_q11 le_q12 lt_q12 le_q13 lt_q13 le_q14 lt_q14 le_q15 lt_q15 le_q16 lt_q16 le_q17 lt_q17 le_q18 lt_q18 le_q19 lt_q19 le_q20 lt_q20 le_q21 lt_q21 le_q22 lt_q22 le_q23 lt_q23 le_q24 lt_q24


theorem evalN_has (fs : List F) (n : N) : ∃ o, evalN fs n o := by
  by_cases hq : fitsN 8 n = true ∧ May fs
  · obtain ⟨e, rfl, ho⟩ := fits_E 8 n hq.1
    exact ⟨valE fs e, fun _ _ => ⟨e, rfl, ho, rfl⟩, fun h => absurd hq h⟩
  · exact ⟨none, fun h1 h2 => absurd ⟨h1, h2⟩ hq, fun _ => rfl⟩

/-- A node's value of a document. -/
noncomputable def evO (fs : List F) (n : N) : Option V := Classical.choose (evalN_has fs n)
theorem evO_is {fs : List F} {n : N} {o : Option V} (h : evalN fs n o) : o = evO fs n := evalN_uniq h (Classical.choose_spec (evalN_has fs n))
theorem evO_ok {fs : List F} {n : N} {v : V} (h : evO fs n = some v) : v.check = 0 := by
  have h1 := Classical.choose_spec (evalN_has fs n)
  have h2 : Classical.choose (evalN_has fs n) = some v := h
  rw [h2] at h1
  exact evalN_ok h1

theorem eval_O {D : Nat} (n : N) (s dv : Value) (fs : List F) (w : World) (hT : Tn (fun _ => True) D w s n.args) (hx : n.text.size ≤ 9223372036854775807) (hc : ∀ d, cntN d [n] ≤ 10000) (hL : Lst w dv fs) :
    Calls Tryz.prog 128 #[nodeV n s, dv] w fun e w' => e = .returned (optV (evO fs n)) ∧ Adds w w' := by
  refine (eval_any n s dv fs w hT hx hc hL).mono ?_
  rintro e w' ⟨⟨o, rfl, h⟩, hA⟩
  exact ⟨by rw [evO_is h], hA⟩
theorem reval_O {D : Nat} (n : N) (s dv : Value) (fs : List F) (w : World) (hT : Tn (fun _ => True) D w s n.args) (hx : n.text.size ≤ 9223372036854775807) (hc : ∀ d, cntN d [n] ≤ 10000) (hL : Lst w dv fs) (h40 : fs.length ≤ 1000) :
    Calls Tryz.prog 74 #[nodeV n s, dv] w fun e w' => e = .returned (optV (evO fs n)) ∧ Adds w w' := by
  refine (rEval_any n s dv fs w hT hx hc hL h40).mono ?_
  rintro e w' ⟨⟨o, rfl, h⟩, hA⟩
  exact ⟨by rw [evO_is h], hA⟩

/-- All values of a list, if all have one. -/
noncomputable def evs (fs : List F) : List E → Option (List V)
  | [] => some []
  | x :: r => (evO fs x.toN).bind fun v => (evs fs r).bind fun l => some (v :: l)

noncomputable def evA (fs : List F) (xs : List E) : Option (List V) := if xs.length = 0 ∨ 4 < xs.length then none else evs fs xs

/-- The values so far. -/
def Sov (fs : List F) (xs : List E) (j : Nat) (vs : List V) : Prop := vs.length = j ∧ evs fs xs = (evs fs (xs.drop j)).bind fun l => some (vs ++ l)

theorem sov_nil (fs : List F) (xs : List E) : Sov fs xs 0 [] := ⟨rfl, by simp only [List.drop_zero, List.nil_append]; cases evs fs xs <;> rfl⟩
theorem Sov.none {fs : List F} {xs : List E} {j : Nat} {vs : List V} (h : Sov fs xs j vs) (hj : j < xs.length) (hv : evO fs xs[j].toN = none) : evs fs xs = none := by
  rw [h.2, List.drop_eq_getElem_cons hj, evs, hv]
  rfl
theorem Sov.next {fs : List F} {xs : List E} {j : Nat} {vs : List V} (h : Sov fs xs j vs) (hj : j < xs.length) {v : V} (hv : evO fs xs[j].toN = some v) : Sov fs xs (j + 1) (vs ++ [v]) := by
  refine ⟨by simp [h.1], ?_⟩
  rw [h.2, List.drop_eq_getElem_cons hj, evs, hv]
  cases evs fs (xs.drop (j + 1)) <;> simp
theorem Sov.all {fs : List F} {xs : List E} {vs : List V} (h : Sov fs xs xs.length vs) : evs fs xs = some vs := by
  rw [h.2, List.drop_length]
  simp [evs]

/-- What both sides' EvalAll tell. -/
def GaveV (o : Option (List V)) (e : Ending) (w' : World) : Prop :=
  match o with
  | none => e = .returned (.tuple #[.slice none 0 0, .bool false])
  | some vs => ∃ g cap, e = .returned (.tuple #[.slice (some ⟨g, 0, none⟩) vs.length cap, .bool true]) ∧ g < w'.heap.size ∧ w'.rangeAt g 0 (cellsV vs)

/-- A row of values that is filled. -/
structure Vr (w1 wr : World) (g n : Nat) (vs : List V) : Prop where
  there : wr.there g 0 (n * 5)
  vals : wr.rangeAt g 0 (cellsV vs)
  adds : Adds w1 wr
  base : w1.heap.size ≤ g
  lt : g < wr.heap.size

theorem vr_new {w : World} {n : Nat} {cs : Array Value} (hc : cs.size = n * 5) : Vr w (w.alloc (.cells cs 87)) w.heap.size n [] := by
  refine ⟨fun j hj => ⟨?_, by simp⟩, fun j v h => by simp [cellsV] at h, (Adds.refl w).alloc _, Nat.le_refl _, by simp⟩
  have hlt : j < cs.size := by omega
  simp [hlt]

theorem range_adds {w X : World} {g o : Nat} {cs : List Value} (h : w.rangeAt g o cs) (hA : Adds w X) : X.rangeAt g o cs := fun j v hv => by
  have := h j v hv
  exact (hA.below.cell (p := ⟨g, o + j, none⟩) (World.block_lt_of_cell? w _ this)).trans this

theorem Vr.addsV {w1 wr X : World} {g n : Nat} {vs : List V} (h : Vr w1 wr g n vs) (hA : Adds wr X) : Vr w1 X g n vs := by
  have hb := hA.below.block g h.lt
  refine ⟨fun j hj => ?_, range_adds h.vals hA, h.adds.trans hA, h.base, Nat.lt_of_lt_of_le h.lt hA.below.size⟩
  obtain ⟨h1, h2⟩ := h.there j hj
  exact ⟨by rw [World.cell?_of_block (w := wr) (a := ⟨g, 0 + j, none⟩) hb]; exact h1, by rw [World.frozen?_of_block (w := wr) (a := ⟨g, 0 + j, none⟩) hb]; exact h2⟩

theorem size_setCells (g : Nat) : ∀ (vs : List Value) (o : Nat) (w : World), (w.setCells g o vs).heap.size = w.heap.size
  | [], _, _ => rfl
  | v :: r, o, w => by
    show ((w.setCell ⟨g, o, none⟩ v).setCells g (o + 1) r).heap.size = _
    rw [size_setCells g r (o + 1)]
    simp

theorem below_setCells {B : Nat} {a w : World} (h : Below B a w) {g : Nat} (hg : B ≤ g) : ∀ (vs : List Value) (o : Nat), Below B a (w.setCells g o vs) := by
  intro vs o
  induction vs generalizing w o with
  | nil => exact h
  | cons v r ih =>
    show Below B a ((w.setCell ⟨g, o, none⟩ v).setCells g (o + 1) r)
    refine ih (w := w.setCell ⟨g, o, none⟩ v) ⟨h.os, h.tape, h.output, ?_, fun k hk => ?_⟩ (o + 1)
    · have := h.size
      simpa using this
    · rw [Below.heap_setCell w ⟨g, o, none⟩ v k (by show k ≠ g; omega)]
      exact h.block k hk

theorem Vr.set {w1 X : World} {g n : Nat} {vs : List V} (h : Vr w1 X g n vs) {v : V} (hj : vs.length < n) : Vr w1 (X.setCells g (vs.length * 5) v.cells) g n (vs ++ [v]) := by
  have hl : v.cells.length = 5 := rfl
  have ht : X.there g (vs.length * 5) v.cells.length := fun j hj' => by
    have := h.there (vs.length * 5 + j) (by omega)
    rwa [Nat.zero_add] at this
  refine ⟨World.there_setCells h.there _ _ _, ?_, Adds.of (below_setCells h.adds.below h.base _ _), h.base, by rw [size_setCells]; exact h.lt⟩
  intro j u hu
  rw [cellsV_append] at hu
  by_cases hjl : j < (cellsV vs).length
  · rw [List.getElem?_append_left hjl] at hu
    exact World.rangeAt_setCells_apart h.vals g (vs.length * 5) v.cells (.inr (.inl (by rw [cellsV_length]; omega))) j u hu
  · rw [List.getElem?_append_right (by omega), cellsV_length] at hu
    have e1 : cellsV [v] = v.cells := by simp [cellsV]
    rw [e1] at hu
    rw [cellsV_length] at hjl
    have := World.rangeAt_setCells_same X g (vs.length * 5) v.cells ht (j - vs.length * 5) u hu
    rwa [show vs.length * 5 + (j - vs.length * 5) = 0 + j by omega] at this

theorem info42_size : (Tryz.prog.info? 87).map (·.size) = some 5 := by kernel_rfl

/-- A value stored into such a row. -/
theorem val_store {ops : Array Oper} {rest : List Oper} {o : Oper} {a : Act} {w1 X : World} {Q : Exit → Act → World → Prop} (hgd : o.guard = none) (x y : Operand) (ho : o.op = .store 87 x y)
    {g n : Nat} {vs : List V} (h : Vr w1 X g n vs) (hj : vs.length < n) {k m : Int} {t : ByteArray} {re im : Int} {i : Nat} (hi : i = vs.length) (hx : a.eval x = .pointer (some ⟨g, i * 5, none⟩)) (hy : a.eval y = .agg #[.int .i64 k, .int .i64 m, .string t, .int .i64 re, .int .i64 im])
    (hk : ∀ w', Vr w1 w' g n (vs ++ [⟨k, m, t, re, im⟩]) → wpList Tryz.prog ops Q rest (a.put o.dst undef) w') : wpList Tryz.prog ops Q (o :: rest) a X := by
  subst hi
  refine wpList_store_mid hgd 87 x y ho g (vs.length * 5) _ hx hy ?_ info42_size (all_oneCell_toArray (cs := [.int .i64 k, .int .i64 m, .string t, .int .i64 re, .int .i64 im]) (by intro u hu; simp only [List.mem_cons, List.mem_nil_iff, or_false] at hu; rcases hu with rfl | rfl | rfl | rfl | rfl <;> rfl)) ?_
  · intro j hj'
    have hj5 : j < 5 := hj'
    have := h.there (vs.length * 5 + j) (by omega)
    rwa [Nat.zero_add] at this
  · exact hk _ (h.set (v := ⟨k, m, t, re, im⟩) hj)

theorem Vr.gave {w1 wr : World} {g n : Nat} {vs : List V} (h : Vr w1 wr g n vs) (hn : vs.length = n) (cap : Nat) : GaveV (some vs) (.returned (.tuple #[.slice (some ⟨g, 0, none⟩) n cap, .bool true])) wr := ⟨g, cap, by rw [hn], h.lt, h.vals⟩

end Go.Proofs.YtiacnmcdfpmcfaaGreatDoor
