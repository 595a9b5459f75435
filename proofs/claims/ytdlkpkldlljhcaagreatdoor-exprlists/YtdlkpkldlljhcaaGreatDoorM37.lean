/-
  The law ExprLists, by a contract.
  From a walk to a row: a call that returns true and leaves all old memory alone keeps every argument's reading.
-/
import Derived.Test.YtdlkpkldlljhcaaGreatDoorM29
import Derived.Test.YtdlkpkldlljhcaaGreatDoorM30
import Derived.Test.YtdlkpkldlljhcaaGreatDoorM36
import Derived.Test.YtdlkpkldlljhcaaGreatDoorM26
import Derived.Test.YtdlkpkldlljhcaaGreatDoorRows
import Derived.ProofKit
import Derived.Lib.SmallJoins
namespace Go.Proofs.YtdlkpkldlljhcaaGreatDoor
open Go.RowKit
attribute [local go_sem] cell?_more frozen?_more setCell_more size_more tape_more drew_more drewN_more more_drew more_drewN one_out plus_out plus_end lt_one le_p2 le_p3 le_p4 le_p5 le_p6 le_p7 le_p8 le_p9 le_p10 le_p11 le_p12 le_p13 le_p14 le_p15 le_p16 le_p17 le_p18 le_p19 le_p20 le_p21 le_p22 le_p23 le_p24 le_q0 le_q1 lt_q1 le_q2 lt_q2 le_q3 lt_q3 le_q4 lt_q4 le_q5 lt_q5 le_q6 lt_q6 le_q7 lt_q7 le_q8 lt_q8 le_q9 lt_q9 le_q10 lt_q10 le_q11 lt_q11 le_q12 lt_q12 le_q13 lt_q13 le_q14 lt_q14 le_q15 lt_q15 le_q16 lt_q16 le_q17 lt_q17 le_q18 lt_q18 le_q19 lt_q19 le_q20 lt_q20 le_q21 lt_q21 le_q22 lt_q22 le_q23 lt_q23 le_q24 lt_q24


def xsOf : Except Int (List E) → List E
  | .error _ => []
  | .ok xs => xs
def cOf : Except Int (List E) → Int
  | .error c => c
  | .ok _ => 0

theorem GaveR.plain {R : Except Int (List E)} {e : Ending} {w' : World} (h : GaveR R e w') : ∃ ao cap D, e = .returned (.tuple #[.slice ao (xsOf R).length cap, .int .i64 (cOf R)]) ∧ Hid (Tn (fun _ => True) D w' (.slice ao (xsOf R).length cap) ((xsOf R).map E.toN)) ∧ Hid (∀ x ∈ xsOf R, x.ok ∧ ∀ d, cntN d [x.toN] ≤ 256) := by
  cases R with
  | error c => exact ⟨none, 0, 0, h, Tn.nil _ _ _, fun x hx => by cases hx⟩
  | ok xs =>
    obtain ⟨ao, cap, D, he, hT, hk⟩ := h
    exact ⟨ao, cap, D, he, hT, hk⟩

theorem parseLs_len : ∀ {ls : List (List UInt8)} {xs : List E}, parseLs ls = .ok xs → xs.length = ls.length := by
  intro ls
  induction ls with
  | nil => intro xs h; cases h; rfl
  | cons l r ih =>
    intro xs h
    simp only [parseLs] at h
    split at h
    · cases h
    · split at h
      · cases h
      · rename_i hr
        cases h
        simp [ih hr]

theorem parseA_len (s : List UInt8) : (xsOf (parseA s)).length ≤ 4 := by
  unfold parseA
  split
  · simp [xsOf]
  · rename_i h
    cases hp : parseLs (spl s) with
    | error c => simp [xsOf]
    | ok xs => have := parseLs_len hp; simp only [xsOf]; omega

theorem GaveV.plain {o : Option (List V)} {e : Ending} {w' : World} (h : GaveV o e w') : ∃ ao cap, e = .returned (.tuple #[.slice ao (o.getD []).length cap, .bool o.isSome]) ∧ Hid (RowV w' (.slice ao (o.getD []).length cap) (o.getD [])) := by
  cases o with
  | none => exact ⟨none, 0, h, .inl ⟨rfl, rfl⟩⟩
  | some vs =>
    obtain ⟨g, cap, he, hg, hr⟩ := h
    exact ⟨_, cap, he, .inr ⟨g, cap, rfl, hg, hr⟩⟩

theorem evs_len {fs : List F} : ∀ {xs : List E} {vs : List V}, evs fs xs = some vs → vs.length = xs.length := by
  intro xs
  induction xs with
  | nil => intro vs h; cases h; rfl
  | cons x r ih =>
    intro vs h
    simp only [evs] at h
    cases hv : evO fs x.toN with
    | none => rw [hv] at h; cases h
    | some v =>
      rw [hv] at h
      cases hr : evs fs r with
      | none => rw [hr] at h; cases h
      | some l =>
        rw [hr] at h
        simp only [Option.bind_some, Option.some.injEq] at h
        rw [← h]
        simp [ih hr]
theorem evA_len (fs : List F) (xs : List E) : ((evA fs xs).getD []).length ≤ 4 := by
  unfold evA
  split
  · simp
  · rename_i h
    cases hp : evs fs xs with
    | none => simp
    | some vs => have := evs_len hp; simp only [Option.getD_some]; omega

set_option maxHeartbeats 2000000 in
theorem llaw_great (s : ByteArray) (dv : Value) (fs : List F) (w : World) (hL : Lst w dv fs) (h : 2000 < s.size ∨ 40 < fs.length) : Calls Tryz.prog 3 #[.string s, dv] w fun e w' => e = .returned (.bool true) ∧ Adds w w' := by
  have kA := awakeE_any
  obtain ⟨do_, dcap, rfl, _, _⟩ := hL
  by_cases h1 : 2000 < s.size
  · have h1' : (2000 : Int) < (s.size : Int) := by omega
    clear h
    go_enter Tryz.func3, Tryz.ntmps3
    go_wp2_with (go_at_call 4; refine (kA _).mono ?_; rintro e w5 ⟨rfl, os5, n5, rfl⟩)
    go_ret
    exact ⟨rfl, by repeat (first | with_reducible exact Adds.refl _ | with_reducible refine Adds.alloc ?_ _ | with_reducible refine Adds.more ?_ _ _ | with_reducible refine Adds.drew ?_ | with_reducible refine Adds.drewN ?_ _)⟩
  · have h1' : ¬ (2000 : Int) < (s.size : Int) := by omega
    have h2' : (40 : Int) < (fs.length : Int) := by omega
    clear h
    generalize fs.length = nf at *
    go_enter Tryz.func3, Tryz.ntmps3
    go_wp2_with (go_at_call 4; refine (kA _).mono ?_; rintro e w5 ⟨rfl, os5, n5, rfl⟩)
    go_ret
    exact ⟨rfl, by repeat (first | with_reducible exact Adds.refl _ | with_reducible refine Adds.alloc ?_ _ | with_reducible refine Adds.more ?_ _ _ | with_reducible refine Adds.drew ?_ | with_reducible refine Adds.drewN ?_ _)⟩

set_option maxHeartbeats 8000000 in
set_option maxRecDepth 20000 in
theorem llaw_any (s : ByteArray) (dv : Value) (fs : List F) (w : World) (hL : Lst w dv fs) (h1 : s.size ≤ 2000) (h2 : fs.length ≤ 40) : Calls Tryz.prog 3 #[.string s, dv] w fun e w' => e = .returned (.bool true) ∧ Adds w w' := by
  have kA := awakeE_any
  have kP : ∀ W, Calls Tryz.prog 5 #[.string s] W fun e w' => (∃ ao cap D, e = .returned (.tuple #[.slice ao (xsOf (parseA s.toList)).length cap, .int .i64 (cOf (parseA s.toList))]) ∧ Hid (Tn (fun _ => True) D w' (.slice ao (xsOf (parseA s.toList)).length cap) ((xsOf (parseA s.toList)).map E.toN)) ∧ Hid (∀ x ∈ xsOf (parseA s.toList), x.ok ∧ ∀ d, cntN d [x.toN] ≤ 256)) ∧ Adds W w' := fun W => (parseAll_any s h1 W).mono (by
    rintro e w' ⟨h, hA⟩
    exact ⟨h.plain, hA⟩)
  have kQ : ∀ W, Calls Tryz.prog 6 #[.string s] W fun e w' => (∃ ao cap D, e = .returned (.tuple #[.slice ao (xsOf (parseA s.toList)).length cap, .int .i64 (cOf (parseA s.toList))]) ∧ Hid (Tn (fun _ => True) D w' (.slice ao (xsOf (parseA s.toList)).length cap) ((xsOf (parseA s.toList)).map E.toN)) ∧ Hid (∀ x ∈ xsOf (parseA s.toList), x.ok ∧ ∀ d, cntN d [x.toN] ≤ 256)) ∧ Adds W w' := fun W => (rParseAll_any s h1 W).mono (by
    rintro e w' ⟨h, hA⟩
    exact ⟨h.plain, hA⟩)
  have hx4 := parseA_len s.toList
  have h1' : ¬ (2000 : Int) < (s.size : Int) := by omega
  have h2' : ¬ (40 : Int) < (fs.length : Int) := by omega
  generalize cOf (parseA s.toList) = c at *
  generalize xsOf (parseA s.toList) = xs at *
  have HL : Hid (Lst w dv fs) := hL
  obtain ⟨do_, dcap, rfl, _, _⟩ := hL
  have HX4 : Hid (xs.length ≤ 4) := hx4
  go_enter Tryz.func3, Tryz.ntmps3
  go_wp2_with (first
    | (go_at_call 5; refine (kP _).mono ?_; rintro e w1 ⟨⟨a1, c1, D1, rfl, hT1, hk1⟩, os1, n1, rfl⟩)
    | (go_at_call 6; refine (kQ _).mono ?_; rintro e w2 ⟨⟨a2, c2, D2, rfl, hT2, _⟩, os2, n2, rfl⟩))
  clear kP kQ
  have HT1 : Hid (Tn (fun _ => True) D1 (more (more w os1 n1) os2 n2) (.slice a1 xs.length c1) (xs.map E.toN)) := Tn.adds hT1.out (by repeat (first | with_reducible exact Adds.refl _ | with_reducible refine Adds.alloc ?_ _ | with_reducible refine Adds.more ?_ _ _ | with_reducible refine Adds.drew ?_ | with_reducible refine Adds.drewN ?_ _))
  have HT2 : Hid (Tn (fun _ => True) D2 (more (more w os1 n1) os2 n2) (.slice a2 xs.length c2) (xs.map E.toN)) := hT2.out
  have HA0 : Hid (Adds w (more (more w os1 n1) os2 n2)) := by
    show Adds _ _
    repeat (first | with_reducible exact Adds.refl _ | with_reducible refine Adds.alloc ?_ _ | with_reducible refine Adds.more ?_ _ _ | with_reducible refine Adds.drew ?_ | with_reducible refine Adds.drewN ?_ _)
  clear hT1 hT2
  generalize more (more w os1 n1) os2 n2 = wq at *
  go_loopw [9] (fun iv wr => ∃ j : Nat, j ≤ xs.length ∧ iv = .int .i64 j ∧ Adds wq wr) (fun iv _ => xs.length - (intOf iv).toNat)
  case atStart => exact ⟨0, Nat.zero_le _, rfl, by repeat (first | with_reducible exact Adds.refl _ | with_reducible refine Adds.alloc ?_ _ | with_reducible refine Adds.more ?_ _ _ | with_reducible refine Adds.drew ?_ | with_reducible refine Adds.drewN ?_ _)⟩
  case round =>
    obtain ⟨j, hj, rfl, os, n0, rfl⟩ := hrel
    by_cases hlt : j < xs.length
    · have hlm : j < (xs.map E.toN).length := by simpa using hlt
      obtain ⟨e1, b1, o1, x, he1, rfl, hb1, ⟨c0, c1', c2', c3⟩, hz1, htx⟩ := HT1.out.elem hlm
      obtain ⟨e2, b2, o2, y, he2, rfl, hb2, ⟨d0, d1, d2, d3⟩, hz2, hty⟩ := HT2.out.elem hlm
      have hel : (xs.map E.toN)[j] = xs[j].toN := by simp
      rw [hel] at c0 c1' c2' d0 d1 d2 htx hty
      have hk := (hk1.out xs[j] (List.getElem_mem hlt)).2
      have kR := fun W (hA : Adds wq W) => rSame_any (max e1 e2) xs[j].toN x y W ((htx.up (Nat.le_max_left _ _)).adds hA) ((hty.up (Nat.le_max_right _ _)).adds hA) (fun d => Nat.le_trans (hk d) (by decide))
      obtain ⟨xo, xc, rfl⟩ := htx.shape
      obtain ⟨yo, yc, rfl⟩ := hty.shape
      (try simp only [nodeV] at kR)
      clear htx hty he1 he2 HT1 HT2 hk hk1 hel hz1 hz2 hlm HL HX4
      generalize xs[j].toN = p at *
      go_wp2
      go_region_with (go_at_call 7; refine (kR _ (by repeat (first | with_reducible exact Adds.refl _ | with_reducible refine Adds.alloc ?_ _ | with_reducible refine Adds.more ?_ _ _ | with_reducible refine Adds.drew ?_ | with_reducible refine Adds.drewN ?_ _))).mono ?_; rintro e w2 ⟨rfl, os2, n2, rfl⟩)
      all_goals
        go_wp2
        go_roundw
        case rel => exact ⟨j + 1, by omega, by go_num, by repeat (first | with_reducible exact Adds.refl _ | with_reducible refine Adds.alloc ?_ _ | with_reducible refine Adds.more ?_ _ _ | with_reducible refine Adds.drew ?_ | with_reducible refine Adds.drewN ?_ _)⟩
        case measure => simp [intOf]; omega
    · have hj' : j = xs.length := by omega
      subst hj'
      have kE : ∀ W, Adds wq W → Calls Tryz.prog 8 #[.slice a1 xs.length c1, .slice do_ fs.length dcap] W fun e w' => (∃ ao cap, e = .returned (.tuple #[.slice ao ((evA fs xs).getD []).length cap, .bool (evA fs xs).isSome]) ∧ Hid (RowV w' (.slice ao ((evA fs xs).getD []).length cap) ((evA fs xs).getD []))) ∧ Adds W w' := fun W hA => (evalAll_any (D := D1) xs a1 c1 _ fs W (HT1.out.adds hA) hk1.out (HL.out.adds (HA0.out.trans hA))).mono (by
        rintro e w' ⟨h, hA⟩
        exact ⟨h.plain, hA⟩)
      have kF : ∀ W, Adds wq W → Calls Tryz.prog 9 #[.slice a2 xs.length c2, .slice do_ fs.length dcap] W fun e w' => (∃ ao cap, e = .returned (.tuple #[.slice ao ((evA fs xs).getD []).length cap, .bool (evA fs xs).isSome]) ∧ Hid (RowV w' (.slice ao ((evA fs xs).getD []).length cap) ((evA fs xs).getD []))) ∧ Adds W w' := fun W hA => (rEvalAll_any (D := D2) xs HX4.out a2 c2 _ fs W (HT2.out.adds hA) hk1.out (HL.out.adds (HA0.out.trans hA)) (by omega)).mono (by
        rintro e w' ⟨h, hA⟩
        exact ⟨h.plain, hA⟩)
      have hvl := evA_len fs xs
      generalize (evA fs xs).getD [] = vs at *
      generalize (evA fs xs).isSome = q at *
      have kS : ∀ W a b, RowV W a vs → RowV W b vs → Calls Tryz.prog 10 #[a, b] W fun e w' => e = .returned (.bool true) ∧ Adds W w' := fun W a b ha hb => rSame2_any vs (by omega) a b W ha hb
      clear HT1 HT2 hk1 HL HX4 hx4
      go_wp2_with (first
        | (go_at_call 8; refine (kE _ (by repeat (first | with_reducible exact Adds.refl _ | with_reducible refine Adds.alloc ?_ _ | with_reducible refine Adds.more ?_ _ _ | with_reducible refine Adds.drew ?_ | with_reducible refine Adds.drewN ?_ _))).mono ?_; rintro e w3 ⟨⟨a3, c3, rfl, hR3⟩, os3, n3, rfl⟩)
        | (go_at_call 9; refine (kF _ (by repeat (first | with_reducible exact Adds.refl _ | with_reducible refine Adds.alloc ?_ _ | with_reducible refine Adds.more ?_ _ _ | with_reducible refine Adds.drew ?_ | with_reducible refine Adds.drewN ?_ _))).mono ?_; rintro e w4 ⟨⟨a4, c4, rfl, hR4⟩, os4, n4, rfl⟩)
        | (go_at_call 10; refine (kS _ _ _ (RowV.addsR hR3.out (by repeat (first | with_reducible exact Adds.refl _ | with_reducible refine Adds.alloc ?_ _ | with_reducible refine Adds.more ?_ _ _ | with_reducible refine Adds.drew ?_ | with_reducible refine Adds.drewN ?_ _))) (RowV.addsR hR4.out (by repeat (first | with_reducible exact Adds.refl _ | with_reducible refine Adds.alloc ?_ _ | with_reducible refine Adds.more ?_ _ _ | with_reducible refine Adds.drew ?_ | with_reducible refine Adds.drewN ?_ _)))).mono ?_; rintro e w5 ⟨rfl, os5, n5, rfl⟩)
        | (go_at_call 4; refine (kA _).mono ?_; rintro e w6 ⟨rfl, os6, n6, rfl⟩))
      go_ret
      exact ⟨rfl, HA0.out.trans (by repeat (first | with_reducible exact Adds.refl _ | with_reducible refine Adds.alloc ?_ _ | with_reducible refine Adds.more ?_ _ _ | with_reducible refine Adds.drew ?_ | with_reducible refine Adds.drewN ?_ _))⟩

theorem exprLists_any (s : ByteArray) (dv : Value) (fs : List F) (w : World) (hL : Lst w dv fs) : Calls Tryz.prog 3 #[.string s, dv] w fun e w' => e = .returned (.bool true) ∧ Adds w w' := by
  by_cases h : 2000 < s.size ∨ 40 < fs.length
  · exact llaw_great s dv fs w hL h
  · exact llaw_any s dv fs w hL (by omega) (by omega)

end Go.Proofs.YtdlkpkldlljhcaaGreatDoor

namespace Go.Proofs.YtdlkpkldlljhcaaGreatDoor
open Go.ChangeShapes Go.WideShapes Go.ChangeAt Go.RowKit

theorem Tryz.own : ownKnob Tryz.prog.godebug = none := by kernel_rfl
theorem Tryz.laidOut : laidOutB Tryz.prog = true := by kernel_rfl

theorem trodAll_below {H : Type} {enc : TypeId × Value → H} {P : Program} (hl : laidOutB P = true) {W W' : World} (hb : Below W.heap.size W W') :
    ∀ (ts : List TypeId) (vs : List Value) (ds : List (DataW H)) (ps : List MemPlace), (∀ t ∈ ts, P.readableRec t = true ∧ t < P.types.size) → (∀ x ∈ ps, x.block < W.heap.size) →
      DataW.TrodAll enc P W 0 (fun _ => true) true ts vs ds ps → DataW.TrodAll enc P W' 0 (fun b => decide (b < W.heap.size)) true ts vs ds ps
  | [], [], [], ps, _, _, h => h
  | t :: ts, v :: vs, d :: ds, ps, hr, hlt, h => by
    obtain ⟨p, q, h1, h2, rfl⟩ := h
    have ht := hr t (by simp)
    exact ⟨p, q, Below.trod hl ht.1 ht.2 h1 hb (fun x hx => hlt x (by simp [hx])), trodAll_below hl hb ts vs ds q (fun t ht => hr t (by simp [ht])) (fun x hx => hlt x (by simp [hx])) h2, rfl⟩
  | [], [], _ :: _, _, _, _, h => h.elim
  | [], _ :: _, _, _, _, _, h => h.elim
  | _ :: _, [], _, _, _, _, h => h.elim
  | _ :: _, _ :: _, [], _, _, _, h => h.elim

theorem law_post {H : Type} {enc : TypeId × Value → H} {P : Program} {fn : Func} {s : ChangeSpec} {W W' : World} {args : Array Value} {ds : List (DataW H)} {before : List MemPlace} {tb : TypeId}
    (hl : laidOutB P = true) (hvars : s.vars = []) (hW : DataW.Whole enc P fn.params.toList s.vars false W args.toList ds [] before) (hres : fn.resultTypes = #[tb]) (htb : P.underlying tb = some .bool)
    (hr : ∀ t ∈ fn.params.toList, P.readableRec t = true ∧ t < P.types.size) (hfn : s.fn H (ds ++ []) = { results := [.lit (.bool true)], args := ds }) (hb : Below W.heap.size W W') :
    s.post enc P fn false true false false W args (.bool true) W' := by
  have hW' := hW
  obtain ⟨p, q, hA, hV, rfl, _, _⟩ := hW
  refine ⟨ds, [], _, [], p, [], hW', ?_, ?_, ?_, hb.frame _, fun h => by cases h⟩
  · rw [hfn, hres]
    exact trodAll_mk1 (shut_bool htb true)
  · rw [hfn]
    exact trodAll_below hl hb _ _ _ _ hr (fun x hx => by simpa using hW'.lt x (by simp [hx])) hA
  · rw [hfn, hvars]
    rfl

end Go.Proofs.YtdlkpkldlljhcaaGreatDoor
