/-
  The reference's Value, by a contract.
-/
import Derived.Test.YtiacnmcdfpmcfaaGreatDoorQ43
import Derived.Test.YtiacnmcdfpmcfaaGreatDoorQ44
import Derived.Test.YtiacnmcdfpmcfaaGreatDoorQ45
namespace Go.Proofs.YtiacnmcdfpmcfaaGreatDoor
open Go.RowKit
attribute [local go_sem] cell?_more frozen?_more setCell_more size_more tape_more drew_more drewN_more more_drew more_drewN one_out plus_out plus_end lt_one le_p2 le_p3 le_p4 le_p5 le_p6 le_p7 le_p8 le_p9 le_p10 le_p11 le_p12 le_p13 le_p14 le_p15 le_p16 le_p17 le_p18 le_p19 le_p20 le_p21 le_p22 le_p23 le_p24 le_q0 le_q1 lt_q1 le_q2 lt_q2 le_q3 lt_q3 le_q4 lt_q4 le_q5 lt_q5 le_q6 lt_q6 le_q7 lt_q7 le_q8 lt_q8 le_q9 lt_q9 le_q10 lt_q10 le_q11 lt_q11 le_q12 lt_q12 le_q13 lt_q13 le_q14 lt_q14 le_q15 lt_q15 le_q16 lt_q16 le_q17 lt_q17 le_q18 lt_q18 le_q19 lt_q19 le_q20 lt_q20 le_q21 lt_q21 le_q22 lt_q22 le_q23 lt_q23 le_q24 lt_q24


/-- The value ahead of the question whether it fits. -/
def rawE (fs : List F) (e : E) : Option V :=
  match e with
  | .path t => (kidsV fs []).bind fun _ => if firstAt (toB t) fs < fs.length then some (got (toB t) fs) else none
  | .num n => (kidsV fs []).bind fun _ => some (V.mkNum n)
  | .sum a b => (kidsV fs [a, b]).bind fun l => sumR (l.getD 0 vZ) (l.getD 1 vZ)
  | .mul a b => (kidsV fs [a, b]).bind fun l => mulR (l.getD 0 vZ) (l.getD 1 vZ)
  | .call f a => (kidsV fs [a]).bind fun l => callO (toB f).toList (l.getD 0 vZ)

theorem fitO_of {v : V} (h : v.check = 0) : fitO v = some v := by simp [fitO, h]

theorem sumR_fit (u v : V) : (sumR u v).bind fitO = sumO u v := by
  unfold sumR sumO
  split
  · rfl
  split
  · rfl
  split
  · rfl
  · exact pt_fit _ _

theorem rawE_fit {fs : List F} (hm : May fs) (e : E) (ho : e.ok) : (rawE fs e).bind fitO = valE fs e := by
  cases e with
  | path t =>
    simp only [rawE, kidsV, Option.bind_some, valE]
    split
    · exact fitO_of (got_ok hm (by assumption))
    · rfl
  | num n =>
    have : n < 1000000000000000 := ho
    exact fitO_of (mkNum_ok (by omega) (by omega))
  | sum a b =>
    simp only [rawE, kidsV, valE]
    cases valE fs a with
    | none => rfl
    | some x =>
      cases valE fs b with
      | none => rfl
      | some y => exact sumR_fit x y
  | mul a b =>
    simp only [rawE, kidsV, valE]
    cases valE fs a with
    | none => rfl
    | some x =>
      cases valE fs b with
      | none => rfl
      | some y => exact mulR_fit x y
  | call f a =>
    have ha := fun x h => valE_ok hm ho.2 (v := x) h
    simp only [rawE, kidsV, valE, toB_toList]
    cases hv : valE fs a with
    | none => rfl
    | some x =>
      show (callO f x).bind fitO = callO f x
      cases hc : callO f x with
      | none => rfl
      | some y => exact fitO_of (callO_ok (ha x hv) hc)

set_option maxHeartbeats 1000000 in
theorem rValue_of (n : N) (s dv : Value) (o : Option V) (w : World) (hs : ∃ ao cap, s = .slice ao n.args.length cap)
    (kR : ∀ W, Adds w W → Calls Tryz.prog 126 #[nodeV n s, dv] W fun x w' => x = .returned (optV o) ∧ Adds W w') :
    Calls Tryz.prog 100 #[nodeV n s, dv] w fun x w' => x = .returned (optV (o.bind fitO)) ∧ Adds w w' := by
  obtain ⟨ao, cap, rfl⟩ := hs
  obtain ⟨nk, nt, nm, na⟩ := n
  simp only [nodeV, N.kind, N.text, N.num, N.args] at *
  generalize na.length = nl at *
  cases o with
  | none =>
    simp only [optV, Option.getD_none, Option.isSome_none, Option.bind_none, vZ, V.val] at *
    go_enter Tryz.func100, Tryz.ntmps100
    go_wp2_with (first
      | (go_at_call 126; refine (kR _ (by repeat (first | with_reducible exact Adds.refl _ | with_reducible refine Adds.alloc ?_ _ | with_reducible refine Adds.more ?_ _ _ | with_reducible refine Adds.drew ?_ | with_reducible refine Adds.drewN ?_ _))).mono ?_; rintro e w2 ⟨rfl, os2, n2, rfl⟩))
    exact bodyPost_ret (v := .tuple #[.agg #[.int .i64 0, .int .i64 0, .string ⟨#[]⟩, .int .i64 0, .int .i64 0], .bool false]) (by simp [results, Tryz.results100, go_sem]) rfl ⟨rfl, by repeat (first | with_reducible exact Adds.refl _ | with_reducible refine Adds.alloc ?_ _ | with_reducible refine Adds.more ?_ _ _ | with_reducible refine Adds.drew ?_ | with_reducible refine Adds.drewN ?_ _)⟩
  | some v =>
    have kC := refCheck_any v
    simp only [Option.bind_some]
    by_cases hc : v.check = 0
    · have e : fitO v = some v := fitO_of hc
      rw [e]
      rw [hc] at kC
      clear hc e
      obtain ⟨k, n', t', re, im⟩ := v
      simp only [optV, Option.getD_some, Option.isSome_some, V.val] at *
      go_enter Tryz.func100, Tryz.ntmps100
      go_wp2_with (first
        | (go_at_call 126; refine (kR _ (by repeat (first | with_reducible exact Adds.refl _ | with_reducible refine Adds.alloc ?_ _ | with_reducible refine Adds.more ?_ _ _ | with_reducible refine Adds.drew ?_ | with_reducible refine Adds.drewN ?_ _))).mono ?_; rintro e w2 ⟨rfl, os2, n2, rfl⟩)
        | (go_at_call 40; refine (kC _).mono ?_; rintro e w3 ⟨rfl, os3, n3, rfl⟩))
      exact bodyPost_ret (v := .tuple #[.agg #[.int .i64 k, .int .i64 n', .string t', .int .i64 re, .int .i64 im], .bool true]) (by simp [results, Tryz.results100, go_sem]) rfl ⟨rfl, by repeat (first | with_reducible exact Adds.refl _ | with_reducible refine Adds.alloc ?_ _ | with_reducible refine Adds.more ?_ _ _ | with_reducible refine Adds.drew ?_ | with_reducible refine Adds.drewN ?_ _)⟩
    · have e : fitO v = none := by simp [fitO, hc]
      rw [e]
      have hc' : (v.check != 0) = true := by simpa using hc
      generalize v.check = c at *
      clear hc e
      obtain ⟨k, n', t', re, im⟩ := v
      simp only [optV, Option.getD_some, Option.isSome_some, Option.getD_none, Option.isSome_none, vZ, V.val] at *
      go_enter Tryz.func100, Tryz.ntmps100
      go_wp2_with (first
        | (go_at_call 126; refine (kR _ (by repeat (first | with_reducible exact Adds.refl _ | with_reducible refine Adds.alloc ?_ _ | with_reducible refine Adds.more ?_ _ _ | with_reducible refine Adds.drew ?_ | with_reducible refine Adds.drewN ?_ _))).mono ?_; rintro e w2 ⟨rfl, os2, n2, rfl⟩)
        | (go_at_call 40; refine (kC _).mono ?_; rintro e w3 ⟨rfl, os3, n3, rfl⟩))
      exact bodyPost_ret (v := .tuple #[.agg #[.int .i64 0, .int .i64 0, .string ⟨#[]⟩, .int .i64 0, .int .i64 0], .bool false]) (by simp [results, Tryz.results100, go_sem]) rfl ⟨rfl, by repeat (first | with_reducible exact Adds.refl _ | with_reducible refine Adds.alloc ?_ _ | with_reducible refine Adds.more ?_ _ _ | with_reducible refine Adds.drew ?_ | with_reducible refine Adds.drewN ?_ _)⟩

theorem rValue_any {ok : Nat → Prop} (fs : List F) (hm : May fs) (dv : Value) (e : E) : ∀ (d : Nat) (sn : Value) (w : World), e.ok → Lst w dv fs → Tn ok d w sn e.toN.args →
    Calls Tryz.prog 100 #[nodeV e.toN sn, dv] w fun x w' => x = .returned (optV (valE fs e)) ∧ Adds w w' := by
  induction e with
  | path t =>
    intro d sn w ho hL hT
    rw [← rawE_fit hm _ ho]
    exact rValue_of _ sn dv _ w hT.shape (fun W hA => raw_path [] rfl (toB t) 0 fs hm dv sn W (hT.adds hA) (hL.adds hA) (by simp) (fun j h => absurd h (by simp)))
  | num n =>
    intro d sn w ho hL hT
    rw [← rawE_fit hm _ ho]
    exact rValue_of _ sn dv _ w hT.shape (fun W hA => raw_num [] rfl ⟨#[]⟩ n fs hm dv sn W (hT.adds hA) (hL.adds hA) (by simp) (fun j h => absurd h (by simp)))
  | sum a b iha ihb =>
    intro d sn w ho hL hT
    rw [← rawE_fit hm _ ho]
    refine rValue_of _ sn dv _ w hT.shape (fun W hA => raw_sum [a, b] rfl ⟨#[]⟩ 0 fs hm dv sn W (hT.adds hA) (hL.adds hA) ?_ ?_)
    · intro c hc
      simp only [List.mem_cons, List.mem_nil_iff, or_false] at hc
      rcases hc with rfl | rfl
      · exact ho.1
      · exact ho.2
    · intro j h e x X hX ht
      match j, h with
      | 0, _ => exact iha e x X ho.1 ((hL.adds hA).adds hX) ht
      | 1, _ => exact ihb e x X ho.2 ((hL.adds hA).adds hX) ht
  | mul a b iha ihb =>
    intro d sn w ho hL hT
    rw [← rawE_fit hm _ ho]
    refine rValue_of _ sn dv _ w hT.shape (fun W hA => raw_mul [a, b] rfl ⟨#[]⟩ 0 fs hm dv sn W (hT.adds hA) (hL.adds hA) ?_ ?_)
    · intro c hc
      simp only [List.mem_cons, List.mem_nil_iff, or_false] at hc
      rcases hc with rfl | rfl
      · exact ho.1
      · exact ho.2
    · intro j h e x X hX ht
      match j, h with
      | 0, _ => exact iha e x X ho.1 ((hL.adds hA).adds hX) ht
      | 1, _ => exact ihb e x X ho.2 ((hL.adds hA).adds hX) ht
  | call f a iha =>
    intro d sn w ho hL hT
    rw [← rawE_fit hm _ ho]
    refine rValue_of _ sn dv _ w hT.shape (fun W hA => raw_call [a] rfl (toB f) 0 fs hm dv sn W (hT.adds hA) (hL.adds hA) ?_ ?_)
    · intro c hc
      simp only [List.mem_cons, List.mem_nil_iff, or_false] at hc
      subst hc
      exact ho.2
    · intro j h e x X hX ht
      match j, h with
      | 0, _ => exact iha e x X ho.2 ((hL.adds hA).adds hX) ht

end Go.Proofs.YtiacnmcdfpmcfaaGreatDoor
