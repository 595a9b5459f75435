/-
  The reference's Same of two answers of a code and a document that read alike. What stands behind a compared setting; what Apply tells, opened. The law ShopSwaps, of documents and one that is asked.
-/
import Derived.Test.YtgnhkpihlghbmaaMsla
import Derived.Test.YtgnhkpihlghbmaaSlc
namespace Go.Proofs.Ytgnhkpihlghbmaa
open Go.RowKit
attribute [local go_sem] cell?_more frozen?_more setCell_more size_more tape_more drew_more drewN_more more_drew more_drewN one_out plus_out plus_end lt_one le_p2 le_p3 le_p4 le_p5 le_p6 le_p7 le_p8 le_p9 le_p10 le_p11 le_p12 le_p13 le_p14 le_p15 le_p16 le_p17 le_p18 le_p19 le_p20 le_p21 le_p22 le_p23 le_p24 le_q0 le_q1 lt_q1 le_q2 lt_q2 le_q3 lt_q3 le_q4 lt_q4 le_q5 lt_q5 le_q6 lt_q6 le_q7 lt_q7 le_q8 lt_q8 le_q9 lt_q9 le_q10 lt_q10 le_q11 lt_q11 le_q12 lt_q12 le_q13 lt_q13 le_q14 lt_q14 le_q15 lt_q15 le_q16 lt_q16 le_q17 lt_q17 le_q18 lt_q18 le_q19 lt_q19 le_q20 lt_q20 le_q21 lt_q21 le_q22 lt_q22 le_q23 lt_q23 le_q24 lt_q24

theorem lstH_nil (W : World) : LstH W (.slice none 0 0) [] := ⟨none, 0, rfl, Nat.le_refl _, .inl rfl⟩
theorem lstD_nil (W : World) : LstD W (.slice none 0 0) [] := ⟨none, 0, rfl, Nat.le_refl _, .inl rfl⟩

set_option maxRecDepth 20000 in
set_option maxHeartbeats 2000000 in
theorem sameA_any (c n : Int) (h : Bool) (v v' : Value) (doc : List F) (w : World) (hv : Lst w v doc) (hv' : Lst w v' doc) (hd : doc.length ≤ 1000) :
    Calls Try.prog 16 #[ansW c h v nilV n, ansW c h v' nilV n] w fun e w' => e = .returned (.bool true) ∧ Adds w w' := by
  have kS := fun W (hA : Adds w W) => refSame_any v v' doc doc W (hv.adds hA) (hv'.adds hA) hd hd
  rw [decide_eq_true rfl] at kS
  have kD := fun W => docsS_any (.slice none 0 0) (.slice none 0 0) [] W (lstD_nil W) (lstD_nil W) (by simp) (fun d hd => by cases hd)
  have kN := fun W => news_any (.slice none 0 0) (.slice none 0 0) [] W (lstH_nil W) (lstH_nil W) (by simp) (fun d hd => by cases hd)
  have kK := fun W => Sh.refSame_any (.slice none 0 0) (.slice none 0 0) [] [] W ⟨none, 0, rfl, Nat.le_refl _, .inl rfl⟩ ⟨none, 0, rfl, Nat.le_refl _, .inl rfl⟩ (by simp) (by simp)
  rw [decide_eq_true rfl] at kK
  obtain ⟨ao, cap, rfl, _, _⟩ := hv
  obtain ⟨ao', cap', rfl, _, _⟩ := hv'
  go_enter Try.func16, Try.ntmps16
  go_wp2_with (first
    | (go_at_call 23; refine (kS _ (by repeat (first | with_reducible exact Adds.refl _ | with_reducible refine Adds.alloc ?_ _ | with_reducible refine Adds.more ?_ _ _ | with_reducible refine Adds.drew ?_ | with_reducible refine Adds.drewN ?_ _))).mono ?_; rintro e w1 ⟨rfl, os1, n1, rfl⟩)
    | (go_at_call 12; refine (kD _).mono ?_; rintro e w2 ⟨rfl, os2, n2, rfl⟩)
    | (go_at_call 32; refine (kN _).mono ?_; rintro e w3 ⟨rfl, os3, n3, rfl⟩)
    | (go_at_call 33; refine (kK _).mono ?_; rintro e w4 ⟨rfl, os4, n4, rfl⟩))
  go_ret
  exact ⟨rfl, (by repeat (first | with_reducible exact Adds.refl _ | with_reducible refine Adds.alloc ?_ _ | with_reducible refine Adds.more ?_ _ _ | with_reducible refine Adds.drew ?_ | with_reducible refine Adds.drewN ?_ _))⟩

end Go.Proofs.Ytgnhkpihlghbmaa

namespace Go.Proofs.Ytgnhkpihlghbmaa
open Go.RowKit
attribute [local go_sem] cell?_more frozen?_more setCell_more size_more tape_more drew_more drewN_more more_drew more_drewN one_out plus_out plus_end lt_one le_p2 le_p3 le_p4 le_p5 le_p6 le_p7 le_p8 le_p9 le_p10 le_p11 le_p12 le_p13 le_p14 le_p15 le_p16 le_p17 le_p18 le_p19 le_p20 le_p21 le_p22 le_p23 le_p24 le_q0 le_q1 lt_q1 le_q2 lt_q2 le_q3 lt_q3 le_q4 lt_q4 le_q5 lt_q5 le_q6 lt_q6 le_q7 lt_q7 le_q8 lt_q8 le_q9 lt_q9 le_q10 lt_q10 le_q11 lt_q11 le_q12 lt_q12 le_q13 lt_q13 le_q14 lt_q14 le_q15 lt_q15 le_q16 lt_q16 le_q17 lt_q17 le_q18 lt_q18 le_q19 lt_q19 le_q20 lt_q20 le_q21 lt_q21 le_q22 lt_q22 le_q23 lt_q23 le_q24 lt_q24

theorem foldS_here {d : Dn} {r : List Dn} {key : ByteArray} {doc : List F} (h : lessP d.key key = false) : ∃ t, foldS (d :: r) key true doc = ⟨key, doc⟩ :: t := by
  unfold foldS
  rw [cutAt_cons, h]
  exact ⟨_, rfl⟩

theorem foldS_put (ds : List Dn) (key : ByteArray) (doc : List F) : hasAt key (foldS ds key true doc) = true ∧ docAt key (foldS ds key true doc) = doc := by
  have hhead : ∀ t : List Dn, hasAt key (⟨key, doc⟩ :: t) = true ∧ docAt key (⟨key, doc⟩ :: t) = doc := by
    intro t
    have hh : hasAt key ((⟨key, doc⟩ : Dn) :: t) = true := by
      rw [hasAt_here (less_self key)]
      simp
    refine ⟨hh, ?_⟩
    rw [docAt_some hh]
    have hc : cutAt key ((⟨key, doc⟩ : Dn) :: t) = 0 := by
      rw [cutAt_cons, less_self key]
      rfl
    simp only [hc, List.getElem_cons_zero]
  induction ds with
  | nil => exact hhead []
  | cons d r ih =>
    cases hl : lessP d.key key with
    | false =>
      obtain ⟨t, ht⟩ := foldS_here (r := r) (doc := doc) hl
      rw [ht]
      exact hhead t
    | true =>
      rw [foldS_cons_less hl]
      have hh : hasAt key (d :: foldS r key true doc) = true := by
        rw [hasAt_less hl]
        exact ih.1
      refine ⟨hh, ?_⟩
      rw [docAt_some hh]
      have e := ih.2
      rw [docAt_some ih.1] at e
      have hc : cutAt key (d :: foldS r key true doc) = cutAt key (foldS r key true doc) + 1 := by
        rw [cutAt_cons, if_pos hl]
      simp only [hc, List.getElem_cons_succ]
      exact e

theorem ApplyTold.opened {ds : List Dn} {cs : List Ch} {code : Int} {hs : Bool} {doc : List F} {total : Int} {w : World} {e : Ending} {w' : World} (h : ApplyTold ds cs code hs doc total w e w') :
    ∃ to tn tc ao an ac co cn cc, e = .returned (.tuple #[.slice to tn tc, ansW code hs (.slice ao an ac) nilV (nOf total cs.length), .slice co cn cc, .int .i64 0]) ∧ Adds w w' ∧ Hid ((∀ w2, Far w.heap.size w' w2 → LstD w2 (.slice to tn tc) (foldC ds cs)) ∧ (∀ w2, Far w.heap.size w' w2 → Lst w2 (.slice ao an ac) doc) ∧ (∀ w2, Far w.heap.size w' w2 → LstH w2 (.slice co cn cc) (placed total cs cs.length))) := by
  obtain ⟨tv, ah, av, cv, rfl, hA, hF⟩ := h
  have h1 := hF.out.docs
  have h2 := hF.out.has
  have h3 := hF.out.doc
  have h4 := hF.out.news
  subst h2
  obtain ⟨to, tc, rfl, _, _⟩ := h1 _ (Far.refl _ _)
  obtain ⟨ao, ac, rfl, _, _⟩ := h3 _ (Far.refl _ _)
  obtain ⟨co, cc, rfl, _, _⟩ := h4 _ (Far.refl _ _)
  exact ⟨_, _, _, _, _, _, _, _, _, rfl, hA, h1, h3, h4⟩

theorem codeC_one {ds : List Dn} {q : Qs} (h : ¬ isKey q.key = true) : codeC ds q = 1 := by
  unfold codeC
  rw [if_neg (fun hh => h hh.1)]

theorem codeC_key {ds : List Dn} {q : Qs} (h : codeC ds q = 0 ∨ codeC ds q = 7) : isKey q.key = true := by
  cases hk : isKey q.key with
  | true => rfl
  | false =>
    have := codeC_one (ds := ds) (q := q) (by rw [hk]; simp)
    omega

end Go.Proofs.Ytgnhkpihlghbmaa

namespace Go.Proofs.Ytgnhkpihlghbmaa
open Go.RowKit
attribute [local go_sem] cell?_more frozen?_more setCell_more size_more tape_more drew_more drewN_more more_drew more_drewN one_out plus_out plus_end lt_one le_p2 le_p3 le_p4 le_p5 le_p6 le_p7 le_p8 le_p9 le_p10 le_p11 le_p12 le_p13 le_p14 le_p15 le_p16 le_p17 le_p18 le_p19 le_p20 le_p21 le_p22 le_p23 le_p24 le_q0 le_q1 lt_q1 le_q2 lt_q2 le_q3 lt_q3 le_q4 lt_q4 le_q5 lt_q5 le_q6 lt_q6 le_q7 lt_q7 le_q8 lt_q8 le_q9 lt_q9 le_q10 lt_q10 le_q11 lt_q11 le_q12 lt_q12 le_q13 lt_q13 le_q14 lt_q14 le_q15 lt_q15 le_q16 lt_q16 le_q17 lt_q17 le_q18 lt_q18 le_q19 lt_q19 le_q20 lt_q20 le_q21 lt_q21 le_q22 lt_q22 le_q23 lt_q23 le_q24 lt_q24

def getQ (key : ByteArray) : Qs := ⟨4, key, ⟨#[]⟩, [], [], false, 0, 0⟩

theorem get_opened (s : Value) (ds : List Dn) (key : ByteArray) (w : World) (hl : LstD w s ds) (hf : Fine ds) :
    Calls Try.prog 11 #[s, .agg #[.int .i64 4, .string key, .string ⟨#[]⟩, .slice none 0 0, .slice none 0 0, .bool false, .int .i64 0, .int .i64 0, .slice none 0 0, .slice none 0 0, .slice none 0 0], .int .i64 0] w fun e w' =>
      ∃ to tn tc ao an ac co cn cc, e = .returned (.tuple #[.slice to tn tc, ansW (if isKey key then 0 else 1) (isKey key && hasAt key ds) (.slice ao an ac) nilV 0, .slice co cn cc, .int .i64 0]) ∧ Adds w w' ∧ Hid ((∀ w2, Far w.heap.size w' w2 → LstD w2 (.slice to tn tc) ds) ∧ (∀ w2, Far w.heap.size w' w2 → Lst w2 (.slice ao an ac) (if isKey key then docAt key ds else []))) := by
  have := apply_get s ds ⟨getQ key, .slice none 0 0, .slice none 0 0, .slice none 0 0, .slice none 0 0, .slice none 0 0⟩ 0 w hl hf ⟨by omega, by omega⟩ ⟨lst_nil w, by simp [getQ], lst_nil w, by simp [getQ], ⟨none, 0, 0, rfl⟩, ⟨none, 0, 0, rfl⟩, ⟨none, 0, 0, rfl⟩⟩ rfl
  refine this.mono ?_
  intro e w' h
  obtain ⟨to, tn, tc, ao, an, ac, co, cn, cc, he, hA, hF⟩ := h.opened
  exact ⟨to, tn, tc, ao, an, ac, co, cn, cc, he, hA, hF.out.1, hF.out.2.1⟩

theorem cas_opened (s : Value) (ds : List Dn) (q : Qs) (da : Option Addr) (dn dc : Nat) (wa : Option Addr) (wn wc : Nat) (la : Option Addr) (ln lc : Nat) (sa : Option Addr) (sn sc : Nat) (na : Option Addr) (nn nc : Nat) (w : World) (hl : LstD w s ds) (hf : Fine ds) (hd : Lst w (.slice da dn dc) q.doc) (hw : Lst w (.slice wa wn wc) q.want) (h1 : q.doc.length ≤ 20) (h2 : q.want.length ≤ 20) (hk : q.kind = 3) :
    Calls Try.prog 11 #[s, .agg #[.int .i64 3, .string q.key, .string q.to, .slice da dn dc, .slice wa wn wc, .bool q.has, .int .i64 q.n, .int .i64 q.most, .slice la ln lc, .slice sa sn sc, .slice na nn nc], .int .i64 0] w fun e w' =>
      ∃ to tn tc ao an ac co cn cc, e = .returned (.tuple #[.slice to tn tc, ansW (codeC ds q) (decide (codeC ds q = 7) && hasAt q.key ds) (.slice ao an ac) nilV (nOf 0 (csT ds q).length), .slice co cn cc, .int .i64 0]) ∧ Adds w w' ∧ Hid ((∀ w2, Far w.heap.size w' w2 → LstD w2 (.slice to tn tc) (foldC ds (csT ds q))) ∧ (∀ w2, Far w.heap.size w' w2 → Lst w2 (.slice ao an ac) (if codeC ds q = 7 then docAt q.key ds else []))) := by
  have := apply_turn s ds ⟨q, .slice da dn dc, .slice wa wn wc, .slice la ln lc, .slice sa sn sc, .slice na nn nc⟩ 0 w hl hf ⟨by omega, by omega⟩ ⟨hd, by show q.doc.length ≤ 1000; omega, hw, by show q.want.length ≤ 1000; omega, ⟨la, ln, lc, rfl⟩, ⟨sa, sn, sc, rfl⟩, ⟨na, nn, nc, rfl⟩⟩ (by show ¬ q.kind = 4; omega) (by show ¬ q.kind = 5; omega) (by show ¬ q.kind = 6; omega)
  have hc : codeT ds q = codeC ds q := by
    unfold codeT
    rw [if_neg (by omega), if_neg (by omega), if_pos hk]
  simp only [Qv.val, opV, hk] at this
  refine this.mono ?_
  intro e w' h
  obtain ⟨to, tn, tc, ao, an, ac, co, cn, cc, he, hA, hF⟩ := h.opened
  rw [hc] at he hF
  exact ⟨to, tn, tc, ao, an, ac, co, cn, cc, he, hA, hF.out.1, hF.out.2.1⟩

set_option maxRecDepth 20000 in
set_option maxHeartbeats 4000000 in
theorem swaps_any (s : Value) (ds : List Dn) (v : Qv) (os : List Qv) (w : World) (hl : LstD w s ds) (hv : QvRaw w v) (ho : LstP w v.lv os) :
    Calls Try.prog 6 #[s, v.val] w fun e w' => e = .returned (.bool true) ∧ Adds w w' := by
  have kD := fun W (hA : Adds w W) => docsL_any s ds W (hl.adds hA)
  cases hdl : docsL ds with
  | false =>
    rw [hdl] at kD
    clear hv ho
    obtain ⟨so, sc, rfl, _, _⟩ := hl
    obtain ⟨q, dv, wv, lv, sv, nv⟩ := v
    simp only [Qv.val, opV]
    clear hdl
    go_enter Try.func6, Try.ntmps6
    go_wp2_with (first
      | (go_at_call 7; refine (kD _ (by repeat (first | with_reducible exact Adds.refl _ | with_reducible refine Adds.alloc ?_ _ | with_reducible refine Adds.more ?_ _ _ | with_reducible refine Adds.drew ?_ | with_reducible refine Adds.drewN ?_ _))).mono ?_; rintro e w1 ⟨rfl, os1, n1, rfl⟩)
      | (go_at_call 9; refine (awake_any _).mono ?_; rintro e w2 ⟨rfl, os2, n2, rfl⟩))
    go_ret
    exact ⟨rfl, (by repeat (first | with_reducible exact Adds.refl _ | with_reducible refine Adds.alloc ?_ _ | with_reducible refine Adds.more ?_ _ _ | with_reducible refine Adds.drew ?_ | with_reducible refine Adds.drewN ?_ _))⟩
  | true =>
    rw [hdl] at kD
    obtain ⟨h40, h20⟩ := docsL_true hdl
    clear hdl
    have kM := fun W (hA : Adds w W) => refMay_docs s ds W (hl.adds hA) (by omega) (fun d hd => by have := h20 d hd; omega)
    by_cases hf : ds.length ≤ 24 ∧ MayD ds
    · rw [decide_eq_true hf] at kM
      have hfine : Fine ds := ⟨hf.2, hf.1⟩
      have kL := fun W (hA : Adds w W) => lightL_any v os W (hv.adds hA) (ho.adds hA)
      obtain ⟨hd1, hw1, ⟨la, ln, lc, h51⟩, ⟨sa, sn, sc', h52⟩, ⟨na, nn, nc, h53⟩⟩ := hv
      obtain ⟨q, dv, wv, lv, sv, nv⟩ := v
      simp only at h51 h52 h53 hd1 hw1 ho
      subst h51 h52 h53
      have HD1 : Hid (Lst w dv q.doc) := hd1
      have HW1 : Hid (Lst w wv q.want) := hw1
      have HL : Hid (LstD w s ds) := hl
      obtain ⟨da, dc, rfl, _, _⟩ := hd1
      obtain ⟨wa, wc, rfl, _, _⟩ := hw1
      obtain ⟨so, sc, rfl, _, _⟩ := hl
      simp only [Qv.val, opV] at kL ⊢
      have HFI : Hid (Fine ds) := hfine
      clear hfine hf ho h40 h20
      by_cases h3 : q.kind = 3
      · rw [h3] at kL ⊢
        go_enter Try.func6, Try.ntmps6
        go_wp2_with (first
          | (go_at_call 7; refine (kD _ (by repeat (first | with_reducible exact Adds.refl _ | with_reducible refine Adds.alloc ?_ _ | with_reducible refine Adds.more ?_ _ _ | with_reducible refine Adds.drew ?_ | with_reducible refine Adds.drewN ?_ _))).mono ?_; rintro e w1 ⟨rfl, os1, n1, rfl⟩)
          | (go_at_call 8; refine (kM _ (by repeat (first | with_reducible exact Adds.refl _ | with_reducible refine Adds.alloc ?_ _ | with_reducible refine Adds.more ?_ _ _ | with_reducible refine Adds.drew ?_ | with_reducible refine Adds.drewN ?_ _))).mono ?_; rintro e w3 ⟨rfl, os3, n3, rfl⟩))
        refine (kL _ (by repeat (first | with_reducible exact Adds.refl _ | with_reducible refine Adds.alloc ?_ _ | with_reducible refine Adds.more ?_ _ _ | with_reducible refine Adds.drew ?_ | with_reducible refine Adds.drewN ?_ _))).mono ?_
        rintro e w4 ⟨b, rfl, ⟨os4, n4, rfl⟩, HB⟩
        cases b with
        | false =>
          go_wp2_with (go_at_call 9; refine (awake_any _).mono ?_; rintro e w2 ⟨rfl, os2, n2, rfl⟩)
          go_ret
          exact ⟨rfl, (by repeat (first | with_reducible exact Adds.refl _ | with_reducible refine Adds.alloc ?_ _ | with_reducible refine Adds.more ?_ _ _ | with_reducible refine Adds.drew ?_ | with_reducible refine Adds.drewN ?_ _))⟩
        | true =>
          obtain ⟨h1, h2, _, _⟩ := HB.out rfl
          simp only at h1 h2
          have kC := fun W (hA : Adds w W) => cas_opened (.slice so ds.length sc) ds q da q.doc.length dc wa q.want.length wc la ln lc sa sn sc' na nn nc W (HL.out.adds hA) HFI.out (Lst.adds HD1.out hA) (Lst.adds HW1.out hA) h1 h2 h3
          have kG := fun W (hA : Adds w W) => get_opened (.slice so ds.length sc) ds q.key W (HL.out.adds hA) HFI.out
          have hct : codeT ds q = codeC ds q := by
            unfold codeT
            rw [if_neg (by omega), if_neg (by omega), if_pos h3]
          clear kL kD kM
          by_cases h0 : codeC ds q = 0
          · have hkey := codeC_key (.inl h0)
            obtain ⟨hp0, hhas, hwant⟩ := codeC_zero h0
            have hcs : csT ds q = [chgT q] := by
              unfold csT
              rw [if_pos (by rw [hct]; exact h0)]
            have hT : hasT q = true := by simp [hasT, h3]
            have hD : docOf q = q.doc := by
              unfold docOf
              rw [if_neg (by omega)]
            have hst : foldC ds [chgT q] = stepT ds q := rfl
            have hsd : stepT ds q = foldS ds q.key true q.doc := by
              unfold stepT
              rw [hT, hD]
            have hput := foldS_put ds q.key q.doc
            rw [← hsd] at hput
            have HF2 : Hid (Fine (stepT ds q)) := HFI.out.step (by rw [hct]; exact h0)
            rw [hcs, hst] at kC
            have kF := fun W s' (hl' : LstD W s' (stepT ds q)) => get_opened s' (stepT ds q) q.key W hl' HF2.out
            have kA1 := fun W v1 v2 (g1 : Lst W v1 q.doc) (g2 : Lst W v2 q.doc) => sameA_any 0 0 true v1 v2 q.doc W g1 g2 (by omega)
            have kA2 := fun W v1 v2 (g1 : Lst W v1 q.want) (g2 : Lst W v2 q.want) => sameA_any 0 0 true v1 v2 q.want W g1 g2 (by omega)
            simp only [h0, show ((0 : Int) = 7) = False by simp, decide_false, Bool.false_and, if_false] at kC
            simp only [hkey, hput.1, hput.2, Bool.true_and, if_true] at kF
            simp only [hkey, hhas, Bool.true_and, if_true] at kG
            generalize nOf 0 ([chgT q] : List Ch).length = N0 at *
            cases hq : q.has with
            | true =>
              rw [hwant hq, hq] at kG
              rw [hq] at kC
              clear h0 hct hcs hkey hp0 hhas hwant hT hD hst hsd hput hq
              go_wp2_with fail
              refine (kG _ (by repeat (first | with_reducible exact Adds.refl _ | with_reducible refine Adds.alloc ?_ _ | with_reducible refine Adds.more ?_ _ _ | with_reducible refine Adds.drew ?_ | with_reducible refine Adds.drewN ?_ _))).mono ?_
              rintro e w5 ⟨to5, tn5, tc5, ao5, an5, ac5, co5, cn5, cc5, rfl, ⟨os5, n5, rfl⟩, H5⟩
              go_wp2_with fail
              refine (kC _ (by repeat (first | with_reducible exact Adds.refl _ | with_reducible refine Adds.alloc ?_ _ | with_reducible refine Adds.more ?_ _ _ | with_reducible refine Adds.drew ?_ | with_reducible refine Adds.drewN ?_ _))).mono ?_
              rintro e w6 ⟨to6, tn6, tc6, ao6, an6, ac6, co6, cn6, cc6, rfl, ⟨os6, n6, rfl⟩, H6⟩
              go_wp2_with fail
              refine (kF _ _ (by exact H6.out.1 _ (by repeat (first | with_reducible exact Far.refl _ _ | with_reducible refine Far.mores ?_ (by simp [go_sem]) _ _ _ | with_reducible refine Far.allocs ?_ (by simp [go_sem]) _ | with_reducible refine Far.low ?_ (by simp [go_sem]) (by first | omega | (simp [go_sem] <;> omega)) _ _ | with_reducible refine Far.more ?_ _ _ | with_reducible refine Far.alloc ?_ _ | with_reducible refine Far.drew ?_ | with_reducible refine Far.drewN ?_ _)))).mono ?_
              rintro e w7 ⟨to7, tn7, tc7, ao7, an7, ac7, co7, cn7, cc7, rfl, ⟨os7, n7, rfl⟩, H7⟩
              go_wp2_with (first
                | (go_at_call 16; refine (kA1 _ _ _ (by exact H7.out.2 _ (by repeat (first | with_reducible exact Far.refl _ _ | with_reducible refine Far.mores ?_ (by simp [go_sem]) _ _ _ | with_reducible refine Far.allocs ?_ (by simp [go_sem]) _ | with_reducible refine Far.low ?_ (by simp [go_sem]) (by first | omega | (simp [go_sem] <;> omega)) _ _ | with_reducible refine Far.more ?_ _ _ | with_reducible refine Far.alloc ?_ _ | with_reducible refine Far.drew ?_ | with_reducible refine Far.drewN ?_ _))) (by exact Lst.adds HD1.out (by repeat (first | with_reducible exact Adds.refl _ | with_reducible refine Adds.alloc ?_ _ | with_reducible refine Adds.more ?_ _ _ | with_reducible refine Adds.drew ?_ | with_reducible refine Adds.drewN ?_ _)))).mono ?_; rintro e w9 ⟨rfl, os9, n9, rfl⟩; clear kA1)
                | (go_at_call 16; refine (kA2 _ _ _ (by exact H5.out.2 _ (by repeat (first | with_reducible exact Far.refl _ _ | with_reducible refine Far.mores ?_ (by simp [go_sem]) _ _ _ | with_reducible refine Far.allocs ?_ (by simp [go_sem]) _ | with_reducible refine Far.low ?_ (by simp [go_sem]) (by first | omega | (simp [go_sem] <;> omega)) _ _ | with_reducible refine Far.more ?_ _ _ | with_reducible refine Far.alloc ?_ _ | with_reducible refine Far.drew ?_ | with_reducible refine Far.drewN ?_ _))) (by exact Lst.adds HW1.out (by repeat (first | with_reducible exact Adds.refl _ | with_reducible refine Adds.alloc ?_ _ | with_reducible refine Adds.more ?_ _ _ | with_reducible refine Adds.drew ?_ | with_reducible refine Adds.drewN ?_ _)))).mono ?_; rintro e wA ⟨rfl, osA, nA, rfl⟩; clear kA2)
                | (go_at_call 9; refine (awake_any _).mono ?_; rintro e w2 ⟨rfl, os2, n2, rfl⟩))
              go_ret
              exact ⟨rfl, (by repeat (first | with_reducible exact Adds.refl _ | with_reducible refine Adds.alloc ?_ _ | with_reducible refine Adds.more ?_ _ _ | with_reducible refine Adds.drew ?_ | with_reducible refine Adds.drewN ?_ _))⟩
            | false =>
              rw [hq] at kG kC
              clear h0 hct hcs hkey hp0 hhas hwant hT hD hst hsd hput hq kA2
              go_wp2_with fail
              refine (kG _ (by repeat (first | with_reducible exact Adds.refl _ | with_reducible refine Adds.alloc ?_ _ | with_reducible refine Adds.more ?_ _ _ | with_reducible refine Adds.drew ?_ | with_reducible refine Adds.drewN ?_ _))).mono ?_
              rintro e w5 ⟨to5, tn5, tc5, ao5, an5, ac5, co5, cn5, cc5, rfl, ⟨os5, n5, rfl⟩, H5⟩
              go_wp2_with fail
              refine (kC _ (by repeat (first | with_reducible exact Adds.refl _ | with_reducible refine Adds.alloc ?_ _ | with_reducible refine Adds.more ?_ _ _ | with_reducible refine Adds.drew ?_ | with_reducible refine Adds.drewN ?_ _))).mono ?_
              rintro e w6 ⟨to6, tn6, tc6, ao6, an6, ac6, co6, cn6, cc6, rfl, ⟨os6, n6, rfl⟩, H6⟩
              go_wp2_with fail
              refine (kF _ _ (by exact H6.out.1 _ (by repeat (first | with_reducible exact Far.refl _ _ | with_reducible refine Far.mores ?_ (by simp [go_sem]) _ _ _ | with_reducible refine Far.allocs ?_ (by simp [go_sem]) _ | with_reducible refine Far.low ?_ (by simp [go_sem]) (by first | omega | (simp [go_sem] <;> omega)) _ _ | with_reducible refine Far.more ?_ _ _ | with_reducible refine Far.alloc ?_ _ | with_reducible refine Far.drew ?_ | with_reducible refine Far.drewN ?_ _)))).mono ?_
              rintro e w7 ⟨to7, tn7, tc7, ao7, an7, ac7, co7, cn7, cc7, rfl, ⟨os7, n7, rfl⟩, H7⟩
              go_wp2_with (first
                | (go_at_call 16; refine (kA1 _ _ _ (by exact H7.out.2 _ (by repeat (first | with_reducible exact Far.refl _ _ | with_reducible refine Far.mores ?_ (by simp [go_sem]) _ _ _ | with_reducible refine Far.allocs ?_ (by simp [go_sem]) _ | with_reducible refine Far.low ?_ (by simp [go_sem]) (by first | omega | (simp [go_sem] <;> omega)) _ _ | with_reducible refine Far.more ?_ _ _ | with_reducible refine Far.alloc ?_ _ | with_reducible refine Far.drew ?_ | with_reducible refine Far.drewN ?_ _))) (by exact Lst.adds HD1.out (by repeat (first | with_reducible exact Adds.refl _ | with_reducible refine Adds.alloc ?_ _ | with_reducible refine Adds.more ?_ _ _ | with_reducible refine Adds.drew ?_ | with_reducible refine Adds.drewN ?_ _)))).mono ?_; rintro e w9 ⟨rfl, os9, n9, rfl⟩; clear kA1)
                | (go_at_call 9; refine (awake_any _).mono ?_; rintro e w2 ⟨rfl, os2, n2, rfl⟩))
              go_ret
              exact ⟨rfl, (by repeat (first | with_reducible exact Adds.refl _ | with_reducible refine Adds.alloc ?_ _ | with_reducible refine Adds.more ?_ _ _ | with_reducible refine Adds.drew ?_ | with_reducible refine Adds.drewN ?_ _))⟩
          by_cases h7 : codeC ds q = 7
          · have hkey := codeC_key (.inr h7)
            have hcs : csT ds q = [] := by
              unfold csT
              rw [if_neg (by rw [hct]; exact h0)]
            rw [hcs] at kC
            have kF := fun W s' (hl' : LstD W s' ds) => get_opened s' ds q.key W hl' HFI.out
            have kS := fun W s' (hl' : LstD W s' ds) (hA : Adds w W) => docsS_any s' (.slice so ds.length sc) ds W hl' (HL.out.adds hA) (by have := HFI.out.2; omega) HFI.out.docs
            have hdl6 := docAt_len q.key HFI.out.docs
            have kA := fun W v1 v2 (h1 : Lst W v1 (docAt q.key ds)) (h2 : Lst W v2 (docAt q.key ds)) => sameA_any 7 0 (hasAt q.key ds) v1 v2 (docAt q.key ds) W h1 h2 hdl6
            have e0 : foldC ds [] = ds := rfl
            have e1 : nOf 0 (List.length ([] : List Ch)) = 0 := rfl
            simp only [e0, e1, h7, decide_true, Bool.true_and, if_true] at kC
            simp only [hkey, Bool.true_and, if_true] at kG kF
            generalize hasAt q.key ds = g2 at *
            generalize docAt q.key ds = g3 at *
            clear h0 h7 hct hcs e0 e1 hkey hdl6
            go_wp2_with fail
            refine (kG _ (by repeat (first | with_reducible exact Adds.refl _ | with_reducible refine Adds.alloc ?_ _ | with_reducible refine Adds.more ?_ _ _ | with_reducible refine Adds.drew ?_ | with_reducible refine Adds.drewN ?_ _))).mono ?_
            rintro e w5 ⟨to5, tn5, tc5, ao5, an5, ac5, co5, cn5, cc5, rfl, ⟨os5, n5, rfl⟩, H5⟩
            go_wp2_with fail
            refine (kC _ (by repeat (first | with_reducible exact Adds.refl _ | with_reducible refine Adds.alloc ?_ _ | with_reducible refine Adds.more ?_ _ _ | with_reducible refine Adds.drew ?_ | with_reducible refine Adds.drewN ?_ _))).mono ?_
            rintro e w6 ⟨to6, tn6, tc6, ao6, an6, ac6, co6, cn6, cc6, rfl, ⟨os6, n6, rfl⟩, H6⟩
            go_wp2_with fail
            refine (kF _ _ (by exact H6.out.1 _ (by repeat (first | with_reducible exact Far.refl _ _ | with_reducible refine Far.mores ?_ (by simp [go_sem]) _ _ _ | with_reducible refine Far.allocs ?_ (by simp [go_sem]) _ | with_reducible refine Far.low ?_ (by simp [go_sem]) (by first | omega | (simp [go_sem] <;> omega)) _ _ | with_reducible refine Far.more ?_ _ _ | with_reducible refine Far.alloc ?_ _ | with_reducible refine Far.drew ?_ | with_reducible refine Far.drewN ?_ _)))).mono ?_
            rintro e w7 ⟨to7, tn7, tc7, ao7, an7, ac7, co7, cn7, cc7, rfl, ⟨os7, n7, rfl⟩, H7⟩
            go_wp2_with (first
              | (go_at_call 16; refine (kA _ _ _ (by exact H6.out.2 _ (by repeat (first | with_reducible exact Far.refl _ _ | with_reducible refine Far.mores ?_ (by simp [go_sem]) _ _ _ | with_reducible refine Far.allocs ?_ (by simp [go_sem]) _ | with_reducible refine Far.low ?_ (by simp [go_sem]) (by first | omega | (simp [go_sem] <;> omega)) _ _ | with_reducible refine Far.more ?_ _ _ | with_reducible refine Far.alloc ?_ _ | with_reducible refine Far.drew ?_ | with_reducible refine Far.drewN ?_ _))) (by exact H5.out.2 _ (by repeat (first | with_reducible exact Far.refl _ _ | with_reducible refine Far.mores ?_ (by simp [go_sem]) _ _ _ | with_reducible refine Far.allocs ?_ (by simp [go_sem]) _ | with_reducible refine Far.low ?_ (by simp [go_sem]) (by first | omega | (simp [go_sem] <;> omega)) _ _ | with_reducible refine Far.more ?_ _ _ | with_reducible refine Far.alloc ?_ _ | with_reducible refine Far.drew ?_ | with_reducible refine Far.drewN ?_ _)))).mono ?_; rintro e w9 ⟨rfl, os9, n9, rfl⟩)
              | (go_at_call 12; refine (kS _ _ (by exact H6.out.1 _ (by repeat (first | with_reducible exact Far.refl _ _ | with_reducible refine Far.mores ?_ (by simp [go_sem]) _ _ _ | with_reducible refine Far.allocs ?_ (by simp [go_sem]) _ | with_reducible refine Far.low ?_ (by simp [go_sem]) (by first | omega | (simp [go_sem] <;> omega)) _ _ | with_reducible refine Far.more ?_ _ _ | with_reducible refine Far.alloc ?_ _ | with_reducible refine Far.drew ?_ | with_reducible refine Far.drewN ?_ _))) (by repeat (first | with_reducible exact Adds.refl _ | with_reducible refine Adds.alloc ?_ _ | with_reducible refine Adds.more ?_ _ _ | with_reducible refine Adds.drew ?_ | with_reducible refine Adds.drewN ?_ _))).mono ?_; rintro e w8 ⟨rfl, os8, n8, rfl⟩)
              | (go_at_call 9; refine (awake_any _).mono ?_; rintro e w2 ⟨rfl, os2, n2, rfl⟩))
            go_ret
            exact ⟨rfl, (by repeat (first | with_reducible exact Adds.refl _ | with_reducible refine Adds.alloc ?_ _ | with_reducible refine Adds.more ?_ _ _ | with_reducible refine Adds.drew ?_ | with_reducible refine Adds.drewN ?_ _))⟩
          · have hz0 : ¬ codeC ds q = 0 := h0
            have hcs : csT ds q = [] := by
              unfold csT
              rw [if_neg (by rw [hct]; exact h0)]
            rw [hcs] at kC
            have kF := fun W s' (hl' : LstD W s' ds) => get_opened s' ds q.key W hl' HFI.out
            have kS := fun W s' (hl' : LstD W s' ds) (hA : Adds w W) => docsS_any s' (.slice so ds.length sc) ds W hl' (HL.out.adds hA) (by have := HFI.out.2; omega) HFI.out.docs
            have e0 : foldC ds [] = ds := rfl
            have e1 : nOf 0 (List.length ([] : List Ch)) = 0 := rfl
            simp only [e0, e1, h7, decide_false, Bool.false_and, if_false] at kC
            generalize (if isKey q.key = true then (0 : Int) else 1) = g1 at *
            generalize (isKey q.key && hasAt q.key ds) = g2 at *
            generalize (if isKey q.key = true then docAt q.key ds else []) = g3 at *
            generalize codeC ds q = c0 at *
            have hz1 : (c0 == 0) = false := by simpa using h0
            have hz2 : (c0 == 7) = false := by simpa using h7
            have HC0 : Hid (¬ c0 = 0 ∧ ¬ c0 = 7) := ⟨h0, h7⟩
            clear h0 h7 hz0 hct hcs e0 e1
            go_wp2_with fail
            refine (kG _ (by repeat (first | with_reducible exact Adds.refl _ | with_reducible refine Adds.alloc ?_ _ | with_reducible refine Adds.more ?_ _ _ | with_reducible refine Adds.drew ?_ | with_reducible refine Adds.drewN ?_ _))).mono ?_
            rintro e w5 ⟨to5, tn5, tc5, ao5, an5, ac5, co5, cn5, cc5, rfl, ⟨os5, n5, rfl⟩, H5⟩
            go_wp2_with fail
            refine (kC _ (by repeat (first | with_reducible exact Adds.refl _ | with_reducible refine Adds.alloc ?_ _ | with_reducible refine Adds.more ?_ _ _ | with_reducible refine Adds.drew ?_ | with_reducible refine Adds.drewN ?_ _))).mono ?_
            rintro e w6 ⟨to6, tn6, tc6, ao6, an6, ac6, co6, cn6, cc6, rfl, ⟨os6, n6, rfl⟩, H6⟩
            go_wp2_with fail
            refine (kF _ _ (by exact H6.out.1 _ (by repeat (first | with_reducible exact Far.refl _ _ | with_reducible refine Far.mores ?_ (by simp [go_sem]) _ _ _ | with_reducible refine Far.allocs ?_ (by simp [go_sem]) _ | with_reducible refine Far.low ?_ (by simp [go_sem]) (by first | omega | (simp [go_sem] <;> omega)) _ _ | with_reducible refine Far.more ?_ _ _ | with_reducible refine Far.alloc ?_ _ | with_reducible refine Far.drew ?_ | with_reducible refine Far.drewN ?_ _)))).mono ?_
            rintro e w7 ⟨to7, tn7, tc7, ao7, an7, ac7, co7, cn7, cc7, rfl, ⟨os7, n7, rfl⟩, H7⟩
            go_wp2_with (first
              | (go_at_call 12; refine (kS _ _ (by exact H6.out.1 _ (by repeat (first | with_reducible exact Far.refl _ _ | with_reducible refine Far.mores ?_ (by simp [go_sem]) _ _ _ | with_reducible refine Far.allocs ?_ (by simp [go_sem]) _ | with_reducible refine Far.low ?_ (by simp [go_sem]) (by first | omega | (simp [go_sem] <;> omega)) _ _ | with_reducible refine Far.more ?_ _ _ | with_reducible refine Far.alloc ?_ _ | with_reducible refine Far.drew ?_ | with_reducible refine Far.drewN ?_ _))) (by repeat (first | with_reducible exact Adds.refl _ | with_reducible refine Adds.alloc ?_ _ | with_reducible refine Adds.more ?_ _ _ | with_reducible refine Adds.drew ?_ | with_reducible refine Adds.drewN ?_ _))).mono ?_; rintro e w8 ⟨rfl, os8, n8, rfl⟩)
              | (go_at_call 9; refine (awake_any _).mono ?_; rintro e w2 ⟨rfl, os2, n2, rfl⟩))
            go_ret
            exact ⟨rfl, (by repeat (first | with_reducible exact Adds.refl _ | with_reducible refine Adds.alloc ?_ _ | with_reducible refine Adds.more ?_ _ _ | with_reducible refine Adds.drew ?_ | with_reducible refine Adds.drewN ?_ _))⟩
      · have b3 : (q.kind == 3) = false := by simpa using h3
        have b3' : (q.kind != 3) = true := by simpa using h3
        go_enter Try.func6, Try.ntmps6
        go_wp2_with (first
          | (go_at_call 7; refine (kD _ (by repeat (first | with_reducible exact Adds.refl _ | with_reducible refine Adds.alloc ?_ _ | with_reducible refine Adds.more ?_ _ _ | with_reducible refine Adds.drew ?_ | with_reducible refine Adds.drewN ?_ _))).mono ?_; rintro e w1 ⟨rfl, os1, n1, rfl⟩)
          | (go_at_call 8; refine (kM _ (by repeat (first | with_reducible exact Adds.refl _ | with_reducible refine Adds.alloc ?_ _ | with_reducible refine Adds.more ?_ _ _ | with_reducible refine Adds.drew ?_ | with_reducible refine Adds.drewN ?_ _))).mono ?_; rintro e w3 ⟨rfl, os3, n3, rfl⟩))
        refine (kL _ (by repeat (first | with_reducible exact Adds.refl _ | with_reducible refine Adds.alloc ?_ _ | with_reducible refine Adds.more ?_ _ _ | with_reducible refine Adds.drew ?_ | with_reducible refine Adds.drewN ?_ _))).mono ?_
        rintro e w4 ⟨b, rfl, ⟨os4, n4, rfl⟩, HB⟩
        cases b with
        | false =>
          go_wp2_with (go_at_call 9; refine (awake_any _).mono ?_; rintro e w2 ⟨rfl, os2, n2, rfl⟩)
          go_ret
          exact ⟨rfl, (by repeat (first | with_reducible exact Adds.refl _ | with_reducible refine Adds.alloc ?_ _ | with_reducible refine Adds.more ?_ _ _ | with_reducible refine Adds.drew ?_ | with_reducible refine Adds.drewN ?_ _))⟩
        | true =>
          go_wp2_with (go_at_call 9; refine (awake_any _).mono ?_; rintro e w2 ⟨rfl, os2, n2, rfl⟩)
          go_ret
          exact ⟨rfl, (by repeat (first | with_reducible exact Adds.refl _ | with_reducible refine Adds.alloc ?_ _ | with_reducible refine Adds.more ?_ _ _ | with_reducible refine Adds.drew ?_ | with_reducible refine Adds.drewN ?_ _))⟩
    · rw [decide_eq_false hf] at kM
      clear hv ho hf h40 h20
      obtain ⟨so, sc, rfl, _, _⟩ := hl
      obtain ⟨q, dv, wv, lv, sv, nv⟩ := v
      simp only [Qv.val, opV]
      go_enter Try.func6, Try.ntmps6
      go_wp2_with (first
        | (go_at_call 7; refine (kD _ (by repeat (first | with_reducible exact Adds.refl _ | with_reducible refine Adds.alloc ?_ _ | with_reducible refine Adds.more ?_ _ _ | with_reducible refine Adds.drew ?_ | with_reducible refine Adds.drewN ?_ _))).mono ?_; rintro e w1 ⟨rfl, os1, n1, rfl⟩)
        | (go_at_call 8; refine (kM _ (by repeat (first | with_reducible exact Adds.refl _ | with_reducible refine Adds.alloc ?_ _ | with_reducible refine Adds.more ?_ _ _ | with_reducible refine Adds.drew ?_ | with_reducible refine Adds.drewN ?_ _))).mono ?_; rintro e w3 ⟨rfl, os3, n3, rfl⟩)
        | (go_at_call 9; refine (awake_any _).mono ?_; rintro e w2 ⟨rfl, os2, n2, rfl⟩))
      go_ret
      exact ⟨rfl, (by repeat (first | with_reducible exact Adds.refl _ | with_reducible refine Adds.alloc ?_ _ | with_reducible refine Adds.more ?_ _ _ | with_reducible refine Adds.drew ?_ | with_reducible refine Adds.drewN ?_ _))⟩

end Go.Proofs.Ytgnhkpihlghbmaa
