/-
  Answers alike, by contracts: the program's Same and the reference's. The reference's Same of any answers, by contract.
-/
import Derived.Test.YtgnhkpihlghbmaaMsqa
import Derived.Test.YtgnhkpihlghbmaaMsmg
namespace Go.Proofs.Ytgnhkpihlghbmaa
open Go.RowKit
attribute [local go_sem] cell?_more frozen?_more setCell_more size_more tape_more drew_more drewN_more more_drew more_drewN one_out plus_out plus_end lt_one le_p2 le_p3 le_p4 le_p5 le_p6 le_p7 le_p8 le_p9 le_p10 le_p11 le_p12 le_p13 le_p14 le_p15 le_p16 le_p17 le_p18 le_p19 le_p20 le_p21 le_p22 le_p23 le_p24 le_q0 le_q1 lt_q1 le_q2 lt_q2 le_q3 lt_q3 le_q4 lt_q4 le_q5 lt_q5 le_q6 lt_q6 le_q7 lt_q7 le_q8 lt_q8 le_q9 lt_q9 le_q10 lt_q10 le_q11 lt_q11 le_q12 lt_q12 le_q13 lt_q13 le_q14 lt_q14 le_q15 lt_q15 le_q16 lt_q16 le_q17 lt_q17 le_q18 lt_q18 le_q19 lt_q19 le_q20 lt_q20 le_q21 lt_q21 le_q22 lt_q22 le_q23 lt_q23 le_q24 lt_q24

/-- An answer. -/
structure An where
  code : Int
  has : Bool
  doc : List F
  docs : List Dn
  news : List Ch
  n : Int
  total : Int
  keys : List Sh.F

def An.val (a : An) (dv sv nv kv : Value) : Value := .agg #[.int .i64 a.code, .bool a.has, dv, sv, nv, .int .i64 a.n, .int .i64 a.total, kv]

/-- What an answer lies upon. -/
def AnOk (w : World) (a : An) (dv sv nv kv : Value) : Prop := Lst w dv a.doc ∧ LstD w sv a.docs ∧ LstH w nv a.news ∧ Sh.Lst w kv a.keys

theorem AnOk.adds {w w' : World} {a : An} {dv sv nv kv : Value} (h : AnOk w a dv sv nv kv) (hA : Adds w w') : AnOk w' a dv sv nv kv := ⟨h.1.adds hA, h.2.1.adds hA, h.2.2.1.adds hA, h.2.2.2.adds hA⟩

/-- None of an answer's lists is too long. -/
def AnSz (a : An) : Prop := a.doc.length ≤ 1000 ∧ a.docs.length ≤ 1000 ∧ (∀ d ∈ a.docs, d.doc.length ≤ 9223372036854775807) ∧ a.news.length ≤ 1000 ∧ (∀ d ∈ a.news, d.doc.length ≤ 9223372036854775807) ∧ a.keys.length ≤ 9223372036854775807

def sameB (a b : An) : Bool := decide (a.code = b.code) && (decide (a.has = b.has) && (decide (a.n = b.n) && (decide (a.total = b.total) && (decide (a.doc = b.doc) && (decide (a.docs = b.docs) && (decide (a.news = b.news) && decide (a.keys = b.keys)))))))

theorem sameB_self (a : An) : sameB a a = true := by simp [sameB]

theorem eqI {a b : Int} : (a == b) = decide (a = b) := rfl

set_option maxRecDepth 20000 in
set_option maxHeartbeats 8000000 in
theorem shSame_any (a b : An) (dv sv nv kv dv' sv' nv' kv' : Value) (w : World) (ha : AnOk w a dv sv nv kv) (hb : AnOk w b dv' sv' nv' kv') (za : AnSz a) (zb : AnSz b) :
    Calls Try.prog 15 #[a.val dv sv nv kv, b.val dv' sv' nv' kv'] w fun e w' => e = .returned (.bool (sameB a b)) ∧ Adds w w' := by
  obtain ⟨z1, z2, z3, z4, z5, z6⟩ := za
  obtain ⟨y1, y2, y3, y4, y5, y6⟩ := zb
  have k1 := fun W (hA : Adds w W) => sameG dv dv' a.doc b.doc W (ha.1.adds hA) (hb.1.adds hA) (by omega) (by omega)
  have k2 := fun W (hA : Adds w W) => docsEq_any sv sv' a.docs b.docs W (ha.2.1.adds hA) (hb.2.1.adds hA) z2 z3 y3
  have k3 := fun W (hA : Adds w W) => newsEq_any nv nv' a.news b.news W (ha.2.2.1.adds hA) (hb.2.2.1.adds hA) z4 z5 y5
  have k4 := fun W (hA : Adds w W) => Sh.equalG kv kv' a.keys b.keys W (ha.2.2.2.adds hA) (hb.2.2.2.adds hA) z6 y6
  obtain ⟨h1, h2, h3, h4⟩ := ha
  obtain ⟨g1, g2, g3, g4⟩ := hb
  unfold sameB
  obtain ⟨c, h, doc, docs, news, n, t, keys⟩ := a
  obtain ⟨c', h', doc', docs', news', n', t', keys'⟩ := b
  simp only [An.val] at *
  obtain ⟨_, _, rfl, _, _⟩ := h1
  obtain ⟨_, _, rfl, _, _⟩ := h2
  obtain ⟨_, _, rfl, _, _⟩ := h3
  obtain ⟨_, _, rfl, _, _⟩ := h4
  obtain ⟨_, _, rfl, _, _⟩ := g1
  obtain ⟨_, _, rfl, _, _⟩ := g2
  obtain ⟨_, _, rfl, _, _⟩ := g3
  obtain ⟨_, _, rfl, _, _⟩ := g4
  clear z1 z2 z3 z4 z5 z6 y1 y2 y3 y4 y5 y6
  generalize decide (doc = doc') = b1 at *
  generalize decide (docs = docs') = b2 at *
  generalize decide (news = news') = b3 at *
  generalize decide (keys = keys') = b4 at *
  generalize doc.length = l1 at *
  generalize doc'.length = l2 at *
  generalize docs.length = l3 at *
  generalize docs'.length = l4 at *
  generalize news.length = l5 at *
  generalize news'.length = l6 at *
  generalize keys.length = l7 at *
  generalize keys'.length = l8 at *
  by_cases e0 : c = c'
  rotate_left
  · have e0' : (c == c') = false := by simpa using e0
    rw [decide_eq_false e0, Bool.false_and]
    clear k1 k2 k3 k4
    go_enter Try.func15, Try.ntmps15
    go_wp2
    go_ret
    exact ⟨rfl, (by repeat (first | with_reducible exact Adds.refl _ | with_reducible refine Adds.alloc ?_ _ | with_reducible refine Adds.more ?_ _ _ | with_reducible refine Adds.drew ?_ | with_reducible refine Adds.drewN ?_ _))⟩
  by_cases e1 : h = h'
  rotate_left
  · have e1' : (h == h') = false := by simpa using e1
    have e0' : (c == c') = true := by simpa using e0
    rw [decide_eq_false e1, Bool.false_and, Bool.and_false]
    clear k1 k2 k3 k4
    go_enter Try.func15, Try.ntmps15
    go_wp2
    go_ret
    exact ⟨rfl, (by repeat (first | with_reducible exact Adds.refl _ | with_reducible refine Adds.alloc ?_ _ | with_reducible refine Adds.more ?_ _ _ | with_reducible refine Adds.drew ?_ | with_reducible refine Adds.drewN ?_ _))⟩
  by_cases e2 : n = n'
  rotate_left
  · have e2' : (n == n') = false := by simpa using e2
    have e1' : (h == h') = true := by simpa using e1
    have e0' : (c == c') = true := by simpa using e0
    rw [decide_eq_false e2, Bool.false_and, Bool.and_false, Bool.and_false]
    clear k1 k2 k3 k4
    go_enter Try.func15, Try.ntmps15
    go_wp2
    go_ret
    exact ⟨rfl, (by repeat (first | with_reducible exact Adds.refl _ | with_reducible refine Adds.alloc ?_ _ | with_reducible refine Adds.more ?_ _ _ | with_reducible refine Adds.drew ?_ | with_reducible refine Adds.drewN ?_ _))⟩
  by_cases e3 : t = t'
  rotate_left
  · have e3' : (t == t') = false := by simpa using e3
    have e2' : (n == n') = true := by simpa using e2
    have e1' : (h == h') = true := by simpa using e1
    have e0' : (c == c') = true := by simpa using e0
    rw [decide_eq_false e3, Bool.false_and, Bool.and_false, Bool.and_false, Bool.and_false]
    clear k1 k2 k3 k4
    go_enter Try.func15, Try.ntmps15
    go_wp2
    go_ret
    exact ⟨rfl, (by repeat (first | with_reducible exact Adds.refl _ | with_reducible refine Adds.alloc ?_ _ | with_reducible refine Adds.more ?_ _ _ | with_reducible refine Adds.drew ?_ | with_reducible refine Adds.drewN ?_ _))⟩
  rw [decide_eq_true e0, decide_eq_true e1, decide_eq_true e2, decide_eq_true e3, Bool.true_and, Bool.true_and, Bool.true_and, Bool.true_and]
  subst e0 e1 e2 e3
  cases b1 with
  | false =>
    clear k2 k3 k4
    go_enter Try.func15, Try.ntmps15
    go_wp2_with (go_at_call 26; refine (k1 _ (by repeat (first | with_reducible exact Adds.refl _ | with_reducible refine Adds.alloc ?_ _ | with_reducible refine Adds.more ?_ _ _ | with_reducible refine Adds.drew ?_ | with_reducible refine Adds.drewN ?_ _))).mono ?_; rintro e w1 ⟨rfl, os1, n1, rfl⟩)
    go_ret
    exact ⟨by simp, (by repeat (first | with_reducible exact Adds.refl _ | with_reducible refine Adds.alloc ?_ _ | with_reducible refine Adds.more ?_ _ _ | with_reducible refine Adds.drew ?_ | with_reducible refine Adds.drewN ?_ _))⟩
  | true =>
    cases b2 with
    | false =>
      clear k3 k4
      go_enter Try.func15, Try.ntmps15
      go_wp2_with (first
        | (go_at_call 26; refine (k1 _ (by repeat (first | with_reducible exact Adds.refl _ | with_reducible refine Adds.alloc ?_ _ | with_reducible refine Adds.more ?_ _ _ | with_reducible refine Adds.drew ?_ | with_reducible refine Adds.drewN ?_ _))).mono ?_; rintro e w1 ⟨rfl, os1, n1, rfl⟩)
        | (go_at_call 27; refine (k2 _ (by repeat (first | with_reducible exact Adds.refl _ | with_reducible refine Adds.alloc ?_ _ | with_reducible refine Adds.more ?_ _ _ | with_reducible refine Adds.drew ?_ | with_reducible refine Adds.drewN ?_ _))).mono ?_; rintro e w2 ⟨rfl, os2, n2, rfl⟩))
      go_ret
      exact ⟨by simp, (by repeat (first | with_reducible exact Adds.refl _ | with_reducible refine Adds.alloc ?_ _ | with_reducible refine Adds.more ?_ _ _ | with_reducible refine Adds.drew ?_ | with_reducible refine Adds.drewN ?_ _))⟩
    | true =>
      cases b3 with
      | false =>
        clear k4
        go_enter Try.func15, Try.ntmps15
        go_wp2_with (first
          | (go_at_call 26; refine (k1 _ (by repeat (first | with_reducible exact Adds.refl _ | with_reducible refine Adds.alloc ?_ _ | with_reducible refine Adds.more ?_ _ _ | with_reducible refine Adds.drew ?_ | with_reducible refine Adds.drewN ?_ _))).mono ?_; rintro e w1 ⟨rfl, os1, n1, rfl⟩)
          | (go_at_call 27; refine (k2 _ (by repeat (first | with_reducible exact Adds.refl _ | with_reducible refine Adds.alloc ?_ _ | with_reducible refine Adds.more ?_ _ _ | with_reducible refine Adds.drew ?_ | with_reducible refine Adds.drewN ?_ _))).mono ?_; rintro e w2 ⟨rfl, os2, n2, rfl⟩)
          | (go_at_call 29; refine (k3 _ (by repeat (first | with_reducible exact Adds.refl _ | with_reducible refine Adds.alloc ?_ _ | with_reducible refine Adds.more ?_ _ _ | with_reducible refine Adds.drew ?_ | with_reducible refine Adds.drewN ?_ _))).mono ?_; rintro e w3 ⟨rfl, os3, n3, rfl⟩))
        go_ret
        exact ⟨by simp, (by repeat (first | with_reducible exact Adds.refl _ | with_reducible refine Adds.alloc ?_ _ | with_reducible refine Adds.more ?_ _ _ | with_reducible refine Adds.drew ?_ | with_reducible refine Adds.drewN ?_ _))⟩
      | true =>
        go_enter Try.func15, Try.ntmps15
        go_wp2_with (first
          | (go_at_call 26; refine (k1 _ (by repeat (first | with_reducible exact Adds.refl _ | with_reducible refine Adds.alloc ?_ _ | with_reducible refine Adds.more ?_ _ _ | with_reducible refine Adds.drew ?_ | with_reducible refine Adds.drewN ?_ _))).mono ?_; rintro e w1 ⟨rfl, os1, n1, rfl⟩)
          | (go_at_call 27; refine (k2 _ (by repeat (first | with_reducible exact Adds.refl _ | with_reducible refine Adds.alloc ?_ _ | with_reducible refine Adds.more ?_ _ _ | with_reducible refine Adds.drew ?_ | with_reducible refine Adds.drewN ?_ _))).mono ?_; rintro e w2 ⟨rfl, os2, n2, rfl⟩)
          | (go_at_call 29; refine (k3 _ (by repeat (first | with_reducible exact Adds.refl _ | with_reducible refine Adds.alloc ?_ _ | with_reducible refine Adds.more ?_ _ _ | with_reducible refine Adds.drew ?_ | with_reducible refine Adds.drewN ?_ _))).mono ?_; rintro e w3 ⟨rfl, os3, n3, rfl⟩)
          | (go_at_call 31; refine (k4 _ (by repeat (first | with_reducible exact Adds.refl _ | with_reducible refine Adds.alloc ?_ _ | with_reducible refine Adds.more ?_ _ _ | with_reducible refine Adds.drew ?_ | with_reducible refine Adds.drewN ?_ _))).mono ?_; rintro e w4 ⟨rfl, os4, n4, rfl⟩))
        go_ret
        exact ⟨by simp, (by repeat (first | with_reducible exact Adds.refl _ | with_reducible refine Adds.alloc ?_ _ | with_reducible refine Adds.more ?_ _ _ | with_reducible refine Adds.drew ?_ | with_reducible refine Adds.drewN ?_ _))⟩

end Go.Proofs.Ytgnhkpihlghbmaa

namespace Go.Proofs.Ytgnhkpihlghbmaa
open Go.RowKit
attribute [local go_sem] cell?_more frozen?_more setCell_more size_more tape_more drew_more drewN_more more_drew more_drewN one_out plus_out plus_end lt_one le_p2 le_p3 le_p4 le_p5 le_p6 le_p7 le_p8 le_p9 le_p10 le_p11 le_p12 le_p13 le_p14 le_p15 le_p16 le_p17 le_p18 le_p19 le_p20 le_p21 le_p22 le_p23 le_p24 le_q0 le_q1 lt_q1 le_q2 lt_q2 le_q3 lt_q3 le_q4 lt_q4 le_q5 lt_q5 le_q6 lt_q6 le_q7 lt_q7 le_q8 lt_q8 le_q9 lt_q9 le_q10 lt_q10 le_q11 lt_q11 le_q12 lt_q12 le_q13 lt_q13 le_q14 lt_q14 le_q15 lt_q15 le_q16 lt_q16 le_q17 lt_q17 le_q18 lt_q18 le_q19 lt_q19 le_q20 lt_q20 le_q21 lt_q21 le_q22 lt_q22 le_q23 lt_q23 le_q24 lt_q24

set_option maxRecDepth 20000 in
set_option maxHeartbeats 8000000 in
theorem rSame_any (a b : An) (dv sv nv kv dv' sv' nv' kv' : Value) (w : World) (ha : AnOk w a dv sv nv kv) (hb : AnOk w b dv' sv' nv' kv') (za : AnSz a) (zb : AnSz b) :
    Calls Try.prog 16 #[a.val dv sv nv kv, b.val dv' sv' nv' kv'] w fun e w' => e = .returned (.bool (sameB a b)) ∧ Adds w w' := by
  obtain ⟨z1, z2, z3, z4, z5, z6⟩ := za
  obtain ⟨y1, y2, y3, y4, y5, y6⟩ := zb
  have k1 := fun W (hA : Adds w W) => refSameG dv dv' a.doc b.doc W (ha.1.adds hA) (hb.1.adds hA) (by omega) (by omega)
  have k2 := fun W (hA : Adds w W) => docsR_any sv sv' a.docs b.docs W (ha.2.1.adds hA) (hb.2.1.adds hA) z2 z3 y3
  have k3 := fun W (hA : Adds w W) => newsR_any nv nv' a.news b.news W (ha.2.2.1.adds hA) (hb.2.2.1.adds hA) z4 z5 y5
  have k4 := fun W (hA : Adds w W) => Sh.refSameG kv kv' a.keys b.keys W (ha.2.2.2.adds hA) (hb.2.2.2.adds hA) z6 y6
  obtain ⟨h1, h2, h3, h4⟩ := ha
  obtain ⟨g1, g2, g3, g4⟩ := hb
  unfold sameB
  obtain ⟨c, h, doc, docs, news, n, t, keys⟩ := a
  obtain ⟨c', h', doc', docs', news', n', t', keys'⟩ := b
  simp only [An.val] at *
  obtain ⟨_, _, rfl, _, _⟩ := h1
  obtain ⟨_, _, rfl, _, _⟩ := h2
  obtain ⟨_, _, rfl, _, _⟩ := h3
  obtain ⟨_, _, rfl, _, _⟩ := h4
  obtain ⟨_, _, rfl, _, _⟩ := g1
  obtain ⟨_, _, rfl, _, _⟩ := g2
  obtain ⟨_, _, rfl, _, _⟩ := g3
  obtain ⟨_, _, rfl, _, _⟩ := g4
  clear z1 z2 z3 z4 z5 z6 y1 y2 y3 y4 y5 y6
  generalize decide (doc = doc') = b1 at *
  generalize decide (docs = docs') = b2 at *
  generalize decide (news = news') = b3 at *
  generalize decide (keys = keys') = b4 at *
  generalize doc.length = l1 at *
  generalize doc'.length = l2 at *
  generalize docs.length = l3 at *
  generalize docs'.length = l4 at *
  generalize news.length = l5 at *
  generalize news'.length = l6 at *
  generalize keys.length = l7 at *
  generalize keys'.length = l8 at *
  by_cases e0 : c = c'
  rotate_left
  · have e0' : (c == c') = false := by simpa using e0
    rw [decide_eq_false e0, Bool.false_and]
    clear k1 k2 k3 k4
    go_enter Try.func16, Try.ntmps16
    go_wp2
    go_ret
    exact ⟨rfl, (by repeat (first | with_reducible exact Adds.refl _ | with_reducible refine Adds.alloc ?_ _ | with_reducible refine Adds.more ?_ _ _ | with_reducible refine Adds.drew ?_ | with_reducible refine Adds.drewN ?_ _))⟩
  by_cases e1 : h = h'
  rotate_left
  · have e1' : (h == h') = false := by simpa using e1
    have e0' : (c == c') = true := by simpa using e0
    rw [decide_eq_false e1, Bool.false_and, Bool.and_false]
    clear k1 k2 k3 k4
    go_enter Try.func16, Try.ntmps16
    go_wp2
    go_ret
    exact ⟨rfl, (by repeat (first | with_reducible exact Adds.refl _ | with_reducible refine Adds.alloc ?_ _ | with_reducible refine Adds.more ?_ _ _ | with_reducible refine Adds.drew ?_ | with_reducible refine Adds.drewN ?_ _))⟩
  by_cases e2 : n = n'
  rotate_left
  · have e2' : (n == n') = false := by simpa using e2
    have e1' : (h == h') = true := by simpa using e1
    have e0' : (c == c') = true := by simpa using e0
    rw [decide_eq_false e2, Bool.false_and, Bool.and_false, Bool.and_false]
    clear k1 k2 k3 k4
    go_enter Try.func16, Try.ntmps16
    go_wp2
    go_ret
    exact ⟨rfl, (by repeat (first | with_reducible exact Adds.refl _ | with_reducible refine Adds.alloc ?_ _ | with_reducible refine Adds.more ?_ _ _ | with_reducible refine Adds.drew ?_ | with_reducible refine Adds.drewN ?_ _))⟩
  by_cases e3 : t = t'
  rotate_left
  · have e3' : (t == t') = false := by simpa using e3
    have e2' : (n == n') = true := by simpa using e2
    have e1' : (h == h') = true := by simpa using e1
    have e0' : (c == c') = true := by simpa using e0
    rw [decide_eq_false e3, Bool.false_and, Bool.and_false, Bool.and_false, Bool.and_false]
    clear k1 k2 k3 k4
    go_enter Try.func16, Try.ntmps16
    go_wp2
    go_ret
    exact ⟨rfl, (by repeat (first | with_reducible exact Adds.refl _ | with_reducible refine Adds.alloc ?_ _ | with_reducible refine Adds.more ?_ _ _ | with_reducible refine Adds.drew ?_ | with_reducible refine Adds.drewN ?_ _))⟩
  rw [decide_eq_true e0, decide_eq_true e1, decide_eq_true e2, decide_eq_true e3, Bool.true_and, Bool.true_and, Bool.true_and, Bool.true_and]
  subst e0 e1 e2 e3
  cases b1 with
  | false =>
    clear k2 k3 k4
    go_enter Try.func16, Try.ntmps16
    go_wp2_with (go_at_call 23; refine (k1 _ (by repeat (first | with_reducible exact Adds.refl _ | with_reducible refine Adds.alloc ?_ _ | with_reducible refine Adds.more ?_ _ _ | with_reducible refine Adds.drew ?_ | with_reducible refine Adds.drewN ?_ _))).mono ?_; rintro e w1 ⟨rfl, os1, n1, rfl⟩)
    go_ret
    exact ⟨by simp, (by repeat (first | with_reducible exact Adds.refl _ | with_reducible refine Adds.alloc ?_ _ | with_reducible refine Adds.more ?_ _ _ | with_reducible refine Adds.drew ?_ | with_reducible refine Adds.drewN ?_ _))⟩
  | true =>
    cases b2 with
    | false =>
      clear k3 k4
      go_enter Try.func16, Try.ntmps16
      go_wp2_with (first
        | (go_at_call 23; refine (k1 _ (by repeat (first | with_reducible exact Adds.refl _ | with_reducible refine Adds.alloc ?_ _ | with_reducible refine Adds.more ?_ _ _ | with_reducible refine Adds.drew ?_ | with_reducible refine Adds.drewN ?_ _))).mono ?_; rintro e w1 ⟨rfl, os1, n1, rfl⟩)
        | (go_at_call 12; refine (k2 _ (by repeat (first | with_reducible exact Adds.refl _ | with_reducible refine Adds.alloc ?_ _ | with_reducible refine Adds.more ?_ _ _ | with_reducible refine Adds.drew ?_ | with_reducible refine Adds.drewN ?_ _))).mono ?_; rintro e w2 ⟨rfl, os2, n2, rfl⟩))
      go_ret
      exact ⟨by simp, (by repeat (first | with_reducible exact Adds.refl _ | with_reducible refine Adds.alloc ?_ _ | with_reducible refine Adds.more ?_ _ _ | with_reducible refine Adds.drew ?_ | with_reducible refine Adds.drewN ?_ _))⟩
    | true =>
      cases b3 with
      | false =>
        clear k4
        go_enter Try.func16, Try.ntmps16
        go_wp2_with (first
          | (go_at_call 23; refine (k1 _ (by repeat (first | with_reducible exact Adds.refl _ | with_reducible refine Adds.alloc ?_ _ | with_reducible refine Adds.more ?_ _ _ | with_reducible refine Adds.drew ?_ | with_reducible refine Adds.drewN ?_ _))).mono ?_; rintro e w1 ⟨rfl, os1, n1, rfl⟩)
          | (go_at_call 12; refine (k2 _ (by repeat (first | with_reducible exact Adds.refl _ | with_reducible refine Adds.alloc ?_ _ | with_reducible refine Adds.more ?_ _ _ | with_reducible refine Adds.drew ?_ | with_reducible refine Adds.drewN ?_ _))).mono ?_; rintro e w2 ⟨rfl, os2, n2, rfl⟩)
          | (go_at_call 32; refine (k3 _ (by repeat (first | with_reducible exact Adds.refl _ | with_reducible refine Adds.alloc ?_ _ | with_reducible refine Adds.more ?_ _ _ | with_reducible refine Adds.drew ?_ | with_reducible refine Adds.drewN ?_ _))).mono ?_; rintro e w3 ⟨rfl, os3, n3, rfl⟩))
        go_ret
        exact ⟨by simp, (by repeat (first | with_reducible exact Adds.refl _ | with_reducible refine Adds.alloc ?_ _ | with_reducible refine Adds.more ?_ _ _ | with_reducible refine Adds.drew ?_ | with_reducible refine Adds.drewN ?_ _))⟩
      | true =>
        go_enter Try.func16, Try.ntmps16
        go_wp2_with (first
          | (go_at_call 23; refine (k1 _ (by repeat (first | with_reducible exact Adds.refl _ | with_reducible refine Adds.alloc ?_ _ | with_reducible refine Adds.more ?_ _ _ | with_reducible refine Adds.drew ?_ | with_reducible refine Adds.drewN ?_ _))).mono ?_; rintro e w1 ⟨rfl, os1, n1, rfl⟩)
          | (go_at_call 12; refine (k2 _ (by repeat (first | with_reducible exact Adds.refl _ | with_reducible refine Adds.alloc ?_ _ | with_reducible refine Adds.more ?_ _ _ | with_reducible refine Adds.drew ?_ | with_reducible refine Adds.drewN ?_ _))).mono ?_; rintro e w2 ⟨rfl, os2, n2, rfl⟩)
          | (go_at_call 32; refine (k3 _ (by repeat (first | with_reducible exact Adds.refl _ | with_reducible refine Adds.alloc ?_ _ | with_reducible refine Adds.more ?_ _ _ | with_reducible refine Adds.drew ?_ | with_reducible refine Adds.drewN ?_ _))).mono ?_; rintro e w3 ⟨rfl, os3, n3, rfl⟩)
          | (go_at_call 33; refine (k4 _ (by repeat (first | with_reducible exact Adds.refl _ | with_reducible refine Adds.alloc ?_ _ | with_reducible refine Adds.more ?_ _ _ | with_reducible refine Adds.drew ?_ | with_reducible refine Adds.drewN ?_ _))).mono ?_; rintro e w4 ⟨rfl, os4, n4, rfl⟩))
        go_ret
        exact ⟨by simp, (by repeat (first | with_reducible exact Adds.refl _ | with_reducible refine Adds.alloc ?_ _ | with_reducible refine Adds.more ?_ _ _ | with_reducible refine Adds.drew ?_ | with_reducible refine Adds.drewN ?_ _))⟩

end Go.Proofs.Ytgnhkpihlghbmaa
