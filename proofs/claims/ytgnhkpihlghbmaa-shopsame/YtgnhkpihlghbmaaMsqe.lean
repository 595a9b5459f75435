/-
  The law ShopSame, by contract: where the law bars what is given. The law ShopSame, by contract: the walk, where the law bars nothing.
-/
import Derived.Test.YtgnhkpihlghbmaaMsqc
import Derived.Test.YtgnhkpihlghbmaaSlh
import Derived.Test.YtgnhkpihlghbmaaSex
import Derived.Test.YtgnhkpihlghbmaaMsla
namespace Go.Proofs.Ytgnhkpihlghbmaa
open Go.RowKit
attribute [local go_sem] cell?_more frozen?_more setCell_more size_more tape_more drew_more drewN_more more_drew more_drewN one_out plus_out plus_end lt_one le_p2 le_p3 le_p4 le_p5 le_p6 le_p7 le_p8 le_p9 le_p10 le_p11 le_p12 le_p13 le_p14 le_p15 le_p16 le_p17 le_p18 le_p19 le_p20 le_p21 le_p22 le_p23 le_p24 le_q0 le_q1 lt_q1 le_q2 lt_q2 le_q3 lt_q3 le_q4 lt_q4 le_q5 lt_q5 le_q6 lt_q6 le_q7 lt_q7 le_q8 lt_q8 le_q9 lt_q9 le_q10 lt_q10 le_q11 lt_q11 le_q12 lt_q12 le_q13 lt_q13 le_q14 lt_q14 le_q15 lt_q15 le_q16 lt_q16 le_q17 lt_q17 le_q18 lt_q18 le_q19 lt_q19 le_q20 lt_q20 le_q21 lt_q21 le_q22 lt_q22 le_q23 lt_q23 le_q24 lt_q24

attribute [local go_sem] cell?_addTo

/-- What the law bars is told as nothing. -/
def SameGood (a b : An) (fs : List F) : Prop := docsL a.docs = true ∧ docsL b.docs = true ∧ a.news.length ≤ 30 ∧ b.news.length ≤ 30 ∧ a.doc.length ≤ 20 ∧ b.doc.length ≤ 20 ∧ fs.length ≤ 20

set_option maxRecDepth 20000 in
set_option maxHeartbeats 8000000 in
theorem sameL_no (a b : An) (fs : List F) (dv sv nv kv dv' sv' nv' kv' d : Value) (w : World) (ha : AnOk w a dv sv nv kv) (hb : AnOk w b dv' sv' nv' kv') (hd : Lst w d fs) (hg : ¬ SameGood a b fs) :
    Calls Try.prog 5 #[a.val dv sv nv kv, b.val dv' sv' nv' kv', d] w fun e w' => e = .returned (.bool true) ∧ Adds w w' := by
  have kA := fun W (hA : Adds w W) => docsL_any sv a.docs W (ha.2.1.adds hA)
  have kB := fun W (hA : Adds w W) => docsL_any sv' b.docs W (hb.2.1.adds hA)
  obtain ⟨h1, h2, h3, h4⟩ := ha
  obtain ⟨g1, g2, g3, g4⟩ := hb
  unfold SameGood at hg
  obtain ⟨c, h, doc, docs, news, n, t, keys⟩ := a
  obtain ⟨c', h', doc', docs', news', n', t', keys'⟩ := b
  simp only [An.val] at *
  obtain ⟨_, _, rfl, _, _⟩ := h1
  obtain ⟨_, _, rfl, _, _⟩ := h2
  obtain ⟨_, _, rfl, _, _⟩ := h3
  obtain ⟨_, _, rfl, _, _⟩ := h4
  obtain ⟨_, _, rfl, _, _⟩ := g1
  obtain ⟨_, _, rfl, _, _⟩ := g2
  obtain ⟨_, _, rfl, _, _⟩ := g3
  obtain ⟨_, _, rfl, _, _⟩ := g4
  obtain ⟨_, _, rfl, _, _⟩ := hd
  generalize docsL docs = b1 at *
  generalize docsL docs' = b2 at *
  generalize doc.length = l1 at *
  generalize doc'.length = l2 at *
  generalize docs.length = l3 at *
  generalize docs'.length = l4 at *
  generalize news.length = l5 at *
  generalize news'.length = l6 at *
  generalize keys.length = l7 at *
  generalize keys'.length = l8 at *
  generalize fs.length = l9 at *
  cases b1 with
  | false =>
    clear hg kB
    go_enter Try.func5, Try.ntmps5
    go_wp2_with (first
      | (go_at_call 7; refine (kA _ (by repeat (first | with_reducible exact Adds.refl _ | with_reducible refine Adds.alloc ?_ _ | with_reducible refine Adds.more ?_ _ _ | with_reducible refine Adds.drew ?_ | with_reducible refine Adds.drewN ?_ _))).mono ?_; rintro e w1 ⟨rfl, os1, n1, rfl⟩)
      | (go_at_call 9; refine (awake_any _).mono ?_; rintro e w2 ⟨rfl, os2, n2, rfl⟩))
    go_ret
    exact ⟨rfl, (by repeat (first | with_reducible exact Adds.refl _ | with_reducible refine Adds.alloc ?_ _ | with_reducible refine Adds.more ?_ _ _ | with_reducible refine Adds.drew ?_ | with_reducible refine Adds.drewN ?_ _))⟩
  | true =>
    cases b2 with
    | false =>
      clear hg
      go_enter Try.func5, Try.ntmps5
      go_wp2_with fail
      refine (kA _ (by repeat (first | with_reducible exact Adds.refl _ | with_reducible refine Adds.alloc ?_ _ | with_reducible refine Adds.more ?_ _ _ | with_reducible refine Adds.drew ?_ | with_reducible refine Adds.drewN ?_ _))).mono ?_
      rintro e w1 ⟨rfl, os1, n1, rfl⟩
      clear kA
      go_wp2_with fail
      refine (kB _ (by repeat (first | with_reducible exact Adds.refl _ | with_reducible refine Adds.alloc ?_ _ | with_reducible refine Adds.more ?_ _ _ | with_reducible refine Adds.drew ?_ | with_reducible refine Adds.drewN ?_ _))).mono ?_
      rintro e w3 ⟨rfl, os3, n3, rfl⟩
      clear kB
      go_wp2_with (go_at_call 9; refine (awake_any _).mono ?_; rintro e w2 ⟨rfl, os2, n2, rfl⟩)
      go_ret
      exact ⟨rfl, (by repeat (first | with_reducible exact Adds.refl _ | with_reducible refine Adds.alloc ?_ _ | with_reducible refine Adds.more ?_ _ _ | with_reducible refine Adds.drew ?_ | with_reducible refine Adds.drewN ?_ _))⟩
    | true =>
      by_cases e1 : l5 ≤ 30
      · have e1' : ¬ (30 : Int) < (l5 : Int) := by omega
        by_cases e2 : l6 ≤ 30
        · have e2' : ¬ (30 : Int) < (l6 : Int) := by omega
          by_cases e3 : l1 ≤ 20
          · have e3' : ¬ (20 : Int) < (l1 : Int) := by omega
            by_cases e4 : l2 ≤ 20
            · have e4' : ¬ (20 : Int) < (l2 : Int) := by omega
              have e5' : (20 : Int) < (l9 : Int) := by
                have : ¬ l9 ≤ 20 := fun h => hg ⟨rfl, rfl, e1, e2, e3, e4, h⟩
                omega
              clear hg e1 e2 e3 e4
              go_enter Try.func5, Try.ntmps5
              go_wp2_with fail
              refine (kA _ (by repeat (first | with_reducible exact Adds.refl _ | with_reducible refine Adds.alloc ?_ _ | with_reducible refine Adds.more ?_ _ _ | with_reducible refine Adds.drew ?_ | with_reducible refine Adds.drewN ?_ _))).mono ?_
              rintro e w1 ⟨rfl, os1, n1, rfl⟩
              clear kA
              go_wp2_with fail
              refine (kB _ (by repeat (first | with_reducible exact Adds.refl _ | with_reducible refine Adds.alloc ?_ _ | with_reducible refine Adds.more ?_ _ _ | with_reducible refine Adds.drew ?_ | with_reducible refine Adds.drewN ?_ _))).mono ?_
              rintro e w3 ⟨rfl, os3, n3, rfl⟩
              clear kB
              go_wp2_with (go_at_call 9; refine (awake_any _).mono ?_; rintro e w2 ⟨rfl, os2, n2, rfl⟩)
              go_ret
              exact ⟨rfl, (by repeat (first | with_reducible exact Adds.refl _ | with_reducible refine Adds.alloc ?_ _ | with_reducible refine Adds.more ?_ _ _ | with_reducible refine Adds.drew ?_ | with_reducible refine Adds.drewN ?_ _))⟩
            · have e4' : (20 : Int) < (l2 : Int) := by omega
              clear hg e1 e2 e3 e4
              go_enter Try.func5, Try.ntmps5
              go_wp2_with fail
              refine (kA _ (by repeat (first | with_reducible exact Adds.refl _ | with_reducible refine Adds.alloc ?_ _ | with_reducible refine Adds.more ?_ _ _ | with_reducible refine Adds.drew ?_ | with_reducible refine Adds.drewN ?_ _))).mono ?_
              rintro e w1 ⟨rfl, os1, n1, rfl⟩
              clear kA
              go_wp2_with fail
              refine (kB _ (by repeat (first | with_reducible exact Adds.refl _ | with_reducible refine Adds.alloc ?_ _ | with_reducible refine Adds.more ?_ _ _ | with_reducible refine Adds.drew ?_ | with_reducible refine Adds.drewN ?_ _))).mono ?_
              rintro e w3 ⟨rfl, os3, n3, rfl⟩
              clear kB
              go_wp2_with (go_at_call 9; refine (awake_any _).mono ?_; rintro e w2 ⟨rfl, os2, n2, rfl⟩)
              go_ret
              exact ⟨rfl, (by repeat (first | with_reducible exact Adds.refl _ | with_reducible refine Adds.alloc ?_ _ | with_reducible refine Adds.more ?_ _ _ | with_reducible refine Adds.drew ?_ | with_reducible refine Adds.drewN ?_ _))⟩
          · have e3' : (20 : Int) < (l1 : Int) := by omega
            clear hg e1 e2 e3
            go_enter Try.func5, Try.ntmps5
            go_wp2_with fail
            refine (kA _ (by repeat (first | with_reducible exact Adds.refl _ | with_reducible refine Adds.alloc ?_ _ | with_reducible refine Adds.more ?_ _ _ | with_reducible refine Adds.drew ?_ | with_reducible refine Adds.drewN ?_ _))).mono ?_
            rintro e w1 ⟨rfl, os1, n1, rfl⟩
            clear kA
            go_wp2_with fail
            refine (kB _ (by repeat (first | with_reducible exact Adds.refl _ | with_reducible refine Adds.alloc ?_ _ | with_reducible refine Adds.more ?_ _ _ | with_reducible refine Adds.drew ?_ | with_reducible refine Adds.drewN ?_ _))).mono ?_
            rintro e w3 ⟨rfl, os3, n3, rfl⟩
            clear kB
            go_wp2_with (go_at_call 9; refine (awake_any _).mono ?_; rintro e w2 ⟨rfl, os2, n2, rfl⟩)
            go_ret
            exact ⟨rfl, (by repeat (first | with_reducible exact Adds.refl _ | with_reducible refine Adds.alloc ?_ _ | with_reducible refine Adds.more ?_ _ _ | with_reducible refine Adds.drew ?_ | with_reducible refine Adds.drewN ?_ _))⟩
        · have e2' : (30 : Int) < (l6 : Int) := by omega
          clear hg e1 e2
          go_enter Try.func5, Try.ntmps5
          go_wp2_with fail
          refine (kA _ (by repeat (first | with_reducible exact Adds.refl _ | with_reducible refine Adds.alloc ?_ _ | with_reducible refine Adds.more ?_ _ _ | with_reducible refine Adds.drew ?_ | with_reducible refine Adds.drewN ?_ _))).mono ?_
          rintro e w1 ⟨rfl, os1, n1, rfl⟩
          clear kA
          go_wp2_with fail
          refine (kB _ (by repeat (first | with_reducible exact Adds.refl _ | with_reducible refine Adds.alloc ?_ _ | with_reducible refine Adds.more ?_ _ _ | with_reducible refine Adds.drew ?_ | with_reducible refine Adds.drewN ?_ _))).mono ?_
          rintro e w3 ⟨rfl, os3, n3, rfl⟩
          clear kB
          go_wp2_with (go_at_call 9; refine (awake_any _).mono ?_; rintro e w2 ⟨rfl, os2, n2, rfl⟩)
          go_ret
          exact ⟨rfl, (by repeat (first | with_reducible exact Adds.refl _ | with_reducible refine Adds.alloc ?_ _ | with_reducible refine Adds.more ?_ _ _ | with_reducible refine Adds.drew ?_ | with_reducible refine Adds.drewN ?_ _))⟩
      · have e1' : (30 : Int) < (l5 : Int) := by omega
        clear hg e1
        go_enter Try.func5, Try.ntmps5
        go_wp2_with fail
        refine (kA _ (by repeat (first | with_reducible exact Adds.refl _ | with_reducible refine Adds.alloc ?_ _ | with_reducible refine Adds.more ?_ _ _ | with_reducible refine Adds.drew ?_ | with_reducible refine Adds.drewN ?_ _))).mono ?_
        rintro e w1 ⟨rfl, os1, n1, rfl⟩
        clear kA
        go_wp2_with fail
        refine (kB _ (by repeat (first | with_reducible exact Adds.refl _ | with_reducible refine Adds.alloc ?_ _ | with_reducible refine Adds.more ?_ _ _ | with_reducible refine Adds.drew ?_ | with_reducible refine Adds.drewN ?_ _))).mono ?_
        rintro e w3 ⟨rfl, os3, n3, rfl⟩
        clear kB
        go_wp2_with (go_at_call 9; refine (awake_any _).mono ?_; rintro e w2 ⟨rfl, os2, n2, rfl⟩)
        go_ret
        exact ⟨rfl, (by repeat (first | with_reducible exact Adds.refl _ | with_reducible refine Adds.alloc ?_ _ | with_reducible refine Adds.more ?_ _ _ | with_reducible refine Adds.drew ?_ | with_reducible refine Adds.drewN ?_ _))⟩

end Go.Proofs.Ytgnhkpihlghbmaa

namespace Go.Proofs.Ytgnhkpihlghbmaa
open Go.RowKit
attribute [local go_sem] cell?_more frozen?_more setCell_more size_more tape_more drew_more drewN_more more_drew more_drewN one_out plus_out plus_end lt_one le_p2 le_p3 le_p4 le_p5 le_p6 le_p7 le_p8 le_p9 le_p10 le_p11 le_p12 le_p13 le_p14 le_p15 le_p16 le_p17 le_p18 le_p19 le_p20 le_p21 le_p22 le_p23 le_p24 le_q0 le_q1 lt_q1 le_q2 lt_q2 le_q3 lt_q3 le_q4 lt_q4 le_q5 lt_q5 le_q6 lt_q6 le_q7 lt_q7 le_q8 lt_q8 le_q9 lt_q9 le_q10 lt_q10 le_q11 lt_q11 le_q12 lt_q12 le_q13 lt_q13 le_q14 lt_q14 le_q15 lt_q15 le_q16 lt_q16 le_q17 lt_q17 le_q18 lt_q18 le_q19 lt_q19 le_q20 lt_q20 le_q21 lt_q21 le_q22 lt_q22 le_q23 lt_q23 le_q24 lt_q24

attribute [local go_sem] cell?_addTo

theorem addTo_adds (W : World) (p : Plus) : Adds W (addTo W p) := ⟨p.os, p.draws, rfl⟩

set_option maxRecDepth 20000 in
set_option maxHeartbeats 8000000 in
theorem sameL_any (a b : An) (fs : List F) (dv sv nv kv dv' sv' nv' kv' d : Value) (w : World) (ha : AnOk w a dv sv nv kv) (hb : AnOk w b dv' sv' nv' kv') (hd : Lst w d fs)
    (za : a.keys.length ≤ 9223372036854775807 ∧ ∀ x ∈ a.news, x.doc.length ≤ 9223372036854775807) (zb : b.keys.length ≤ 9223372036854775807 ∧ ∀ x ∈ b.news, x.doc.length ≤ 9223372036854775807) :
    Calls Try.prog 5 #[a.val dv sv nv kv, b.val dv' sv' nv' kv', d] w fun e w' => e = .returned (.bool true) ∧ Adds w w' := by
  by_cases hg : SameGood a b fs
  rotate_left
  · exact sameL_no a b fs dv sv nv kv dv' sv' nv' kv' d w ha hb hd hg
  have kA := fun W (hA : Adds w W) => docsL_any sv a.docs W (ha.2.1.adds hA)
  have kB := fun W (hA : Adds w W) => docsL_any sv' b.docs W (hb.2.1.adds hA)
  obtain ⟨q1, q2, q3, q4, q5, q6, q7⟩ := hg
  rw [q1] at kA
  rw [q2] at kB
  obtain ⟨r1, r2⟩ := docsL_true q1
  obtain ⟨r3, r4⟩ := docsL_true q2
  have sa : AnSz a := ⟨by omega, by omega, fun d hd => by have := r2 d hd; omega, by omega, za.2, za.1⟩
  have sb : AnSz b := ⟨by omega, by omega, fun d hd => by have := r4 d hd; omega, by omega, zb.2, zb.1⟩
  have m1 := fun W (hA : Adds w W) => shSame_any a b dv sv nv kv dv' sv' nv' kv' W (ha.adds hA) (hb.adds hA) sa sb
  have m2 := fun W (hA : Adds w W) => rSame_any a b dv sv nv kv dv' sv' nv' kv' W (ha.adds hA) (hb.adds hA) sa sb
  have m3 := fun W (hA : Adds w W) => shSame_any a a dv sv nv kv dv sv nv kv W (ha.adds hA) (ha.adds hA) sa sa
  have m4 := fun W (hA : Adds w W) => light_any d fs W (hd.adds hA)
  have m5 := fun W (hA : Adds w W) => rLight_any d fs W (hd.adds hA) (by omega)
  have m6 := fun W => awake_any W
  rw [sameB_self] at m3
  obtain ⟨h1, h2, h3, h4⟩ := ha
  obtain ⟨g1, g2, g3, g4⟩ := hb
  generalize sameB a b = bs at *
  generalize lightD fs = bl at *
  obtain ⟨c, h, doc, docs, news, n, t, keys⟩ := a
  obtain ⟨c', h', doc', docs', news', n', t', keys'⟩ := b
  simp only [An.val] at *
  obtain ⟨_, _, rfl, _, _⟩ := h1
  obtain ⟨_, _, rfl, _, _⟩ := h2
  obtain ⟨_, _, rfl, _, _⟩ := h3
  obtain ⟨_, _, rfl, _, _⟩ := h4
  obtain ⟨_, _, rfl, _, _⟩ := g1
  obtain ⟨_, _, rfl, _, _⟩ := g2
  obtain ⟨_, _, rfl, _, _⟩ := g3
  obtain ⟨_, _, rfl, _, _⟩ := g4
  obtain ⟨_, _, rfl, _, _⟩ := hd
  clear sa sb r1 r2 r3 r4 za zb q1 q2
  generalize doc.length = l1 at *
  generalize doc'.length = l2 at *
  generalize docs.length = l3 at *
  generalize docs'.length = l4 at *
  generalize news.length = l5 at *
  generalize news'.length = l6 at *
  generalize keys.length = l7 at *
  generalize keys'.length = l8 at *
  generalize fs.length = l9 at *
  have e1' : ¬ (30 : Int) < (l5 : Int) := by omega
  have e2' : ¬ (30 : Int) < (l6 : Int) := by omega
  have e3' : ¬ (20 : Int) < (l1 : Int) := by omega
  have e4' : ¬ (20 : Int) < (l2 : Int) := by omega
  have e5' : ¬ (20 : Int) < (l9 : Int) := by omega
  clear q3 q4 q5 q6 q7
  go_enter Try.func5, Try.ntmps5
  go_wp2_with fail
  refine (kA _ (by repeat (first | with_reducible exact Adds.refl _ | with_reducible refine Adds.alloc ?_ _ | with_reducible refine Adds.more ?_ _ _ | with_reducible refine Adds.drew ?_ | with_reducible refine Adds.drewN ?_ _))).mono ?_
  rintro e w1 ⟨rfl, os1, n1, rfl⟩
  clear kA
  go_wp2_with fail
  refine (kB _ (by repeat (first | with_reducible exact Adds.refl _ | with_reducible refine Adds.alloc ?_ _ | with_reducible refine Adds.more ?_ _ _ | with_reducible refine Adds.drew ?_ | with_reducible refine Adds.drewN ?_ _))).mono ?_
  rintro e w3 ⟨rfl, os3, n3, rfl⟩
  clear kB
  go_wp2_with fail
  refine wp_region_adds (by kernel_rfl) (by kernel_rfl) ?_
  repeat (go_big_quiet_step (fail))
  go_big_quiet_step ((go_at_call 15; exact Calls.adds_of (m1 _ (by refine Adds.trans ?_ (addTo_adds _ _); repeat (first | with_reducible exact Adds.refl _ | with_reducible refine Adds.alloc ?_ _ | with_reducible refine Adds.more ?_ _ _ | with_reducible refine Adds.drew ?_ | with_reducible refine Adds.drewN ?_ _)))))
  repeat (go_big_quiet_step (fail))
  go_big_quiet_step ((go_at_call 16; exact Calls.adds_of (m2 _ (by refine Adds.trans ?_ (addTo_adds _ _); repeat (first | with_reducible exact Adds.refl _ | with_reducible refine Adds.alloc ?_ _ | with_reducible refine Adds.more ?_ _ _ | with_reducible refine Adds.drew ?_ | with_reducible refine Adds.drewN ?_ _)))))
  repeat (go_big_quiet_step (fail))
  go_big_quiet_step ((go_at_call 15; exact Calls.adds_of (m3 _ (by refine Adds.trans ?_ (addTo_adds _ _); repeat (first | with_reducible exact Adds.refl _ | with_reducible refine Adds.alloc ?_ _ | with_reducible refine Adds.more ?_ _ _ | with_reducible refine Adds.drew ?_ | with_reducible refine Adds.drewN ?_ _)))))
  repeat (go_big_quiet_step (fail))
  go_big_quiet_step ((go_at_call 17; exact Calls.adds_of (m4 _ (by refine Adds.trans ?_ (addTo_adds _ _); repeat (first | with_reducible exact Adds.refl _ | with_reducible refine Adds.alloc ?_ _ | with_reducible refine Adds.more ?_ _ _ | with_reducible refine Adds.drew ?_ | with_reducible refine Adds.drewN ?_ _)))))
  repeat (go_big_quiet_step (fail))
  go_big_quiet_step ((go_at_call 18; exact Calls.adds_of (m5 _ (by refine Adds.trans ?_ (addTo_adds _ _); repeat (first | with_reducible exact Adds.refl _ | with_reducible refine Adds.alloc ?_ _ | with_reducible refine Adds.more ?_ _ _ | with_reducible refine Adds.drew ?_ | with_reducible refine Adds.drewN ?_ _)))))
  repeat (go_big_quiet_step (fail))
  go_big_quiet_step ((go_at_call 9; exact Calls.adds_of (m6 _)))
  repeat (go_big_quiet_step (fail))
  refine wpQuiet_nil ?_
  rintro _ ⟨pl, rfl⟩
  unfold addTo
  go_wp2
  go_ret
  exact ⟨rfl, (by repeat (first | with_reducible exact Adds.refl _ | with_reducible refine Adds.alloc ?_ _ | with_reducible refine Adds.more ?_ _ _ | with_reducible refine Adds.drew ?_ | with_reducible refine Adds.drewN ?_ _))⟩

end Go.Proofs.Ytgnhkpihlghbmaa
