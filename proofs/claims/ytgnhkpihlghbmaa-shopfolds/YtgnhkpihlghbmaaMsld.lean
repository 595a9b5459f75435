/-
  The reference's Same of two answers of a code and a document that read alike. What stands behind a compared setting; what Apply tells, opened.
-/
import Derived.Test.YtgnhkpihlghbmaaMsla
import Derived.Test.YtgnhkpihlghbmaaSlc
namespace Go.Proofs.Ytgnhkpihlghbmaa
open Go.RowKit
attribute [local go_sem] cell?_more frozen?_more setCell_more size_more tape_more drew_more drewN_more more_drew more_drewN one_out plus_out plus_end lt_one le_p2 le_p3 le_p4 le_p5 le_p6 le_p7 le_p8 le_p9 le_p10 le_p11 le_p12 le_p13 le_p14 le_p15 le_p16 le_p17 le_p18 le_p19 le_p20 le_p21 le_p22 le_p23 le_p24 le_q0 le_q1 lt_q1 le_q2 lt_q2 le_q3 lt_q3 le_q4 lt_q4 le_q5 lt_q5 le_q6 lt_q6 le_q7 lt_q7 le_q8 lt_q8 le_q9 lt_q9 le_q10 lt_q10 le_q11 lt_q11 le_q12 lt_q12 le_q13 lt_q13 le_q14 lt_q14 le_q15 lt_q15 le_q16 lt_q16 le_q17 lt_q17 le_q18 lt_q18 le_q19 lt_q19 le_q20 lt_q20 le_q21 lt_q21 le_q22 lt_q22 le_q23 lt_q23 le_q24 lt_q24

theorem lstH_nil (W : World) : LstH W (.slice none 0 0) [] := ⟨none, 0, rfl, Nat.le_refl _, .inl rfl⟩
theorem lstD_nil (W : World) : LstD W (.slice none 0 0) [] := ⟨none, 0, rfl, Nat.le_refl _, .inl rfl⟩

set_option maxRecDepth 20000 in
set_option maxHeartbeats 2000000 in
theorem sameA_any (c n : Int) (h : Bool) (v v' : Value) (doc : List F) (w : World) (hv : Lst w v doc) (hv' : Lst w v' doc) (hd : doc.length ≤ 1000) :
    Calls Try.prog 16 #[ansW c h v nilV n, ansW c h v' nilV n] w fun e w' => e = .returned (.bool true) ∧ Adds w w' := by
  have kS := fun W (hA : Adds w W) => refSame_any v v' doc doc W (hv.adds hA) (hv'.adds hA) hd hd
  rw [decide_eq_true rfl] at kS
  have kD := fun W => docsS_any (.slice none 0 0) (.slice none 0 0) [] W (lstD_nil W) (lstD_nil W) (by simp) (fun d hd => by cases hd)
  have kN := fun W => news_any (.slice none 0 0) (.slice none 0 0) [] W (lstH_nil W) (lstH_nil W) (by simp) (fun d hd => by cases hd)
  have kK := fun W => Sh.refSame_any (.slice none 0 0) (.slice none 0 0) [] [] W ⟨none, 0, rfl, Nat.le_refl _, .inl rfl⟩ ⟨none, 0, rfl, Nat.le_refl _, .inl rfl⟩ (by simp) (by simp)
  rw [decide_eq_true rfl] at kK
  obtain ⟨ao, cap, rfl, _, _⟩ := hv
  obtain ⟨ao', cap', rfl, _, _⟩ := hv'
  go_enter Try.func16, Try.ntmps16
  go_wp2_with (first
    | (go_at_call 23; refine (kS _ (by repeat (first | with_reducible exact Adds.refl _ | with_reducible refine Adds.alloc ?_ _ | with_reducible refine Adds.more ?_ _ _ | with_reducible refine Adds.drew ?_ | with_reducible refine Adds.drewN ?_ _))).mono ?_; rintro e w1 ⟨rfl, os1, n1, rfl⟩)
    | (go_at_call 12; refine (kD _).mono ?_; rintro e w2 ⟨rfl, os2, n2, rfl⟩)
    | (go_at_call 32; refine (kN _).mono ?_; rintro e w3 ⟨rfl, os3, n3, rfl⟩)
    | (go_at_call 33; refine (kK _).mono ?_; rintro e w4 ⟨rfl, os4, n4, rfl⟩))
  go_ret
  exact ⟨rfl, (by repeat (first | with_reducible exact Adds.refl _ | with_reducible refine Adds.alloc ?_ _ | with_reducible refine Adds.more ?_ _ _ | with_reducible refine Adds.drew ?_ | with_reducible refine Adds.drewN ?_ _))⟩

end Go.Proofs.Ytgnhkpihlghbmaa

namespace Go.Proofs.Ytgnhkpihlghbmaa
open Go.RowKit
attribute [local go_sem] cell?_more frozen?_more setCell_more size_more tape_more drew_more drewN_more more_drew more_drewN one_out plus_out plus_end lt_one le_p2 le_p3 le_p4 le_p5 le_p6 le_p7 le_p8 le_p9 le_p10 le_p11 le_p12 le_p13 le_p14 le_p15 le_p16 le_p17 le_p18 le_p19 le_p20 le_p21 le_p22 le_p23 le_p24 le_q0 le_q1 lt_q1 le_q2 lt_q2 le_q3 lt_q3 le_q4 lt_q4 le_q5 lt_q5 le_q6 lt_q6 le_q7 lt_q7 le_q8 lt_q8 le_q9 lt_q9 le_q10 lt_q10 le_q11 lt_q11 le_q12 lt_q12 le_q13 lt_q13 le_q14 lt_q14 le_q15 lt_q15 le_q16 lt_q16 le_q17 lt_q17 le_q18 lt_q18 le_q19 lt_q19 le_q20 lt_q20 le_q21 lt_q21 le_q22 lt_q22 le_q23 lt_q23 le_q24 lt_q24

theorem foldS_here {d : Dn} {r : List Dn} {key : ByteArray} {doc : List F} (h : lessP d.key key = false) : ∃ t, foldS (d :: r) key true doc = ⟨key, doc⟩ :: t := by
  unfold foldS
  rw [cutAt_cons, h]
  exact ⟨_, rfl⟩

theorem foldS_put (ds : List Dn) (key : ByteArray) (doc : List F) : hasAt key (foldS ds key true doc) = true ∧ docAt key (foldS ds key true doc) = doc := by
  have hhead : ∀ t : List Dn, hasAt key (⟨key, doc⟩ :: t) = true ∧ docAt key (⟨key, doc⟩ :: t) = doc := by
    intro t
    have hh : hasAt key ((⟨key, doc⟩ : Dn) :: t) = true := by
      rw [hasAt_here (less_self key)]
      simp
    refine ⟨hh, ?_⟩
    rw [docAt_some hh]
    have hc : cutAt key ((⟨key, doc⟩ : Dn) :: t) = 0 := by
      rw [cutAt_cons, less_self key]
      rfl
    simp only [hc, List.getElem_cons_zero]
  induction ds with
  | nil => exact hhead []
  | cons d r ih =>
    cases hl : lessP d.key key with
    | false =>
      obtain ⟨t, ht⟩ := foldS_here (r := r) (doc := doc) hl
      rw [ht]
      exact hhead t
    | true =>
      rw [foldS_cons_less hl]
      have hh : hasAt key (d :: foldS r key true doc) = true := by
        rw [hasAt_less hl]
        exact ih.1
      refine ⟨hh, ?_⟩
      rw [docAt_some hh]
      have e := ih.2
      rw [docAt_some ih.1] at e
      have hc : cutAt key (d :: foldS r key true doc) = cutAt key (foldS r key true doc) + 1 := by
        rw [cutAt_cons, if_pos hl]
      simp only [hc, List.getElem_cons_succ]
      exact e

theorem ApplyTold.opened {ds : List Dn} {cs : List Ch} {code : Int} {hs : Bool} {doc : List F} {total : Int} {w : World} {e : Ending} {w' : World} (h : ApplyTold ds cs code hs doc total w e w') :
    ∃ to tn tc ao an ac co cn cc, e = .returned (.tuple #[.slice to tn tc, ansW code hs (.slice ao an ac) nilV (nOf total cs.length), .slice co cn cc, .int .i64 0]) ∧ Adds w w' ∧ Hid ((∀ w2, Far w.heap.size w' w2 → LstD w2 (.slice to tn tc) (foldC ds cs)) ∧ (∀ w2, Far w.heap.size w' w2 → Lst w2 (.slice ao an ac) doc) ∧ (∀ w2, Far w.heap.size w' w2 → LstH w2 (.slice co cn cc) (placed total cs cs.length))) := by
  obtain ⟨tv, ah, av, cv, rfl, hA, hF⟩ := h
  have h1 := hF.out.docs
  have h2 := hF.out.has
  have h3 := hF.out.doc
  have h4 := hF.out.news
  subst h2
  obtain ⟨to, tc, rfl, _, _⟩ := h1 _ (Far.refl _ _)
  obtain ⟨ao, ac, rfl, _, _⟩ := h3 _ (Far.refl _ _)
  obtain ⟨co, cc, rfl, _, _⟩ := h4 _ (Far.refl _ _)
  exact ⟨_, _, _, _, _, _, _, _, _, rfl, hA, h1, h3, h4⟩

theorem codeC_one {ds : List Dn} {q : Qs} (h : ¬ isKey q.key = true) : codeC ds q = 1 := by
  unfold codeC
  rw [if_neg (fun hh => h hh.1)]

theorem codeC_key {ds : List Dn} {q : Qs} (h : codeC ds q = 0 ∨ codeC ds q = 7) : isKey q.key = true := by
  cases hk : isKey q.key with
  | true => rfl
  | false =>
    have := codeC_one (ds := ds) (q := q) (by rw [hk]; simp)
    omega

end Go.Proofs.Ytgnhkpihlghbmaa
