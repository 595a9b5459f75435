/-
  The functions put and remove of package shop, by contracts. The functions remove, standing, of package shop, by contracts; what turning one document tells.
-/
import Derived.Test.YtgnhkpihlghbmaaMlen
import Derived.Test.YtgnhkpihlghbmaaMshm
import Derived.Test.YtgnhkpihlghbmaaMfdl
import Derived.Test.YtgnhkpihlghbmaaMcpn
namespace Go.Proofs.Ytgnhkpihlghbmaa
open Go.RowKit
attribute [local go_sem] cell?_more frozen?_more setCell_more size_more tape_more drew_more drewN_more more_drew more_drewN one_out plus_out plus_end lt_one le_p2 le_p3 le_p4 le_p5 le_p6 le_p7 le_p8 le_p9 le_p10 le_p11 le_p12 le_p13 le_p14 le_p15 le_p16 le_p17 le_p18 le_p19 le_p20 le_p21 le_p22 le_p23 le_p24 le_q0 le_q1 lt_q1 le_q2 lt_q2 le_q3 lt_q3 le_q4 lt_q4 le_q5 lt_q5 le_q6 lt_q6 le_q7 lt_q7 le_q8 lt_q8 le_q9 lt_q9 le_q10 lt_q10 le_q11 lt_q11 le_q12 lt_q12 le_q13 lt_q13 le_q14 lt_q14 le_q15 lt_q15 le_q16 lt_q16 le_q17 lt_q17 le_q18 lt_q18 le_q19 lt_q19 le_q20 lt_q20 le_q21 lt_q21 le_q22 lt_q22 le_q23 lt_q23 le_q24 lt_q24

abbrev chgV (key : ByteArray) (has : Bool) (v : Value) : Value := .agg #[.int .i64 0, .string key, .bool has, v]
abbrev nilV : Value := .slice none 0 0
abbrev ansV (c : Int) (has : Bool) (v : Value) : Value := .agg #[.int .i64 c, .bool has, v, .slice none 0 0, .slice none 0 0, .int .i64 0, .int .i64 0, .slice none 0 0]

theorem refused_ans (c : Int) (w : World) : Calls Try.prog 60 #[.int .i64 c] w fun e w' => e = .returned (ansV c false nilV) ∧ Adds w w' := refused_any c w

/-- What is told of a setting. -/
def PutTold (ds : List Dn) (q : Qs) (w : World) (e : Ending) (w' : World) : Prop :=
  ((codeP ds q = 0 ∧ ∃ vo vc, e = .returned (.tuple #[chgV q.key true (.slice vo q.doc.length vc), ansV 0 false nilV]) ∧ w'.ownsRow w.heap.size 54 6 (.slice vo q.doc.length vc) q.doc.length (cellsF q.doc)) ∨
   (¬ codeP ds q = 0 ∧ e = .returned (.tuple #[chgV ⟨#[]⟩ false nilV, ansV (codeP ds q) false nilV]))) ∧ Adds w w'

theorem told_bad {ds : List Dn} {q : Qs} {w w' : World} {c : Int} (h : codeP ds q = c) (h0 : ¬ c = 0) (hA : Adds w w') : PutTold ds q w (.returned (.tuple #[chgV ⟨#[]⟩ false nilV, ansV c false nilV])) w' :=
  ⟨.inr ⟨by rw [h]; exact h0, by rw [h]⟩, hA⟩

set_option maxRecDepth 20000 in
set_option maxHeartbeats 2000000 in
theorem put_any (s : Value) (ds : List Dn) (q : Qs) (dv wv lv sv nv : Value) (w : World) (hl : LstD w s ds) (hl6 : ds.length ≤ 500) (hr : Risen ds) (hd : Lst w dv q.doc) (hq6 : q.doc.length ≤ 1000) :
    Calls Try.prog 64 #[s, opV q dv wv lv sv nv] w fun e w' => PutTold ds q w e w' := by
  have kF := fun W (hA : Adds w W) => find_any s ds q.key W (hl.adds hA) (by omega) hr
  have kD := fun W (hA : Adds w W) => check_doc dv q.doc W (hd.adds hA)
  have kL := fun W (hA : Adds w W) => light_any dv q.doc W (hd.adds hA)
  have kC := fun W (hA : Adds w W) => clone_rowH dv q.doc W (hd.adds hA) hq6
  obtain ⟨so, sc, rfl, _, _⟩ := hl
  obtain ⟨uo, uc, rfl, _, _⟩ := hd
  have hcode : codeP ds q = if isKey q.key = true ∧ May q.doc then (if lightD q.doc then (if hasAt q.key ds = false ∧ ds.length = 24 then 2 else 0) else 3) else 1 := rfl
  have HT : Hid (∀ e w', PutTold ds q w e w' → PutTold ds q w e w') := fun _ _ h => h
  simp only [opV]
  cases hk : isKey q.key with
  | false =>
    have HB : Hid (codeP ds q = 1) := by
      show _ = _
      rw [hcode, hk]
      simp
    have kK := fun W => key_any q.key W
    rw [hk] at kK
    clear kF kD kL kC hcode HT hk
    go_enter Try.func64, Try.ntmps64
    go_wp2_with (first
      | (go_at_call 59; refine (kK _).mono ?_; rintro e w1 ⟨rfl, rfl⟩)
      | (go_at_call 60; refine (refused_ans _ _).mono ?_; rintro e w2 ⟨rfl, os2, n2, rfl⟩))
    refine bodyPost_ret (v := .tuple #[chgV ⟨#[]⟩ false nilV, ansV 1 false nilV]) (by simp [results, Try.results64, go_sem]) rfl (told_bad HB.out (by decide) (by repeat (first | with_reducible exact Adds.refl _ | with_reducible refine Adds.alloc ?_ _ | with_reducible refine Adds.more ?_ _ _ | with_reducible refine Adds.drew ?_ | with_reducible refine Adds.drewN ?_ _)))
  | true =>
    have kK := fun W => key_any q.key W
    rw [hk] at kK
    by_cases hm : May q.doc
    · rw [err_ok hm] at kD
      cases hlt : lightD q.doc with
      | false =>
        have HB : Hid (codeP ds q = 3) := by
          show _ = _
          rw [hcode, hk, hlt]
          simp [hm]
        rw [hlt] at kL
        clear kF kC hcode HT hk hm hlt
        go_enter Try.func64, Try.ntmps64
        go_wp2_with (first
          | (go_at_call 59; refine (kK _).mono ?_; rintro e w1 ⟨rfl, rfl⟩)
          | (go_at_call 50; refine (kD _ (by repeat (first | with_reducible exact Adds.refl _ | with_reducible refine Adds.alloc ?_ _ | with_reducible refine Adds.more ?_ _ _ | with_reducible refine Adds.drew ?_ | with_reducible refine Adds.drewN ?_ _))).mono ?_; rintro e w1 ⟨rfl, os1, n1, rfl⟩)
          | (go_at_call 17; refine (kL _ (by repeat (first | with_reducible exact Adds.refl _ | with_reducible refine Adds.alloc ?_ _ | with_reducible refine Adds.more ?_ _ _ | with_reducible refine Adds.drew ?_ | with_reducible refine Adds.drewN ?_ _))).mono ?_; rintro e w3 ⟨rfl, os3, n3, rfl⟩)
          | (go_at_call 60; refine (refused_ans _ _).mono ?_; rintro e w2 ⟨rfl, os2, n2, rfl⟩))
        refine bodyPost_ret (v := .tuple #[chgV ⟨#[]⟩ false nilV, ansV 3 false nilV]) (by simp [results, Try.results64, go_sem]) rfl (told_bad HB.out (by decide) (by repeat (first | with_reducible exact Adds.refl _ | with_reducible refine Adds.alloc ?_ _ | with_reducible refine Adds.more ?_ _ _ | with_reducible refine Adds.drew ?_ | with_reducible refine Adds.drewN ?_ _)))
      | true =>
        rw [hlt] at kL
        cases hh : hasAt q.key ds with
        | true =>
          have HB : Hid (codeP ds q = 0) := by
            show _ = _
            rw [hcode, hk, hlt, hh]
            simp [hm]
          rw [hh] at kF
          clear hcode HT hk hm hlt hh
          generalize cutAt q.key ds = c at *
          go_enter Try.func64, Try.ntmps64
          go_wp2_with (first
            | (go_at_call 59; refine (kK _).mono ?_; rintro e w1 ⟨rfl, rfl⟩)
            | (go_at_call 50; refine (kD _ (by repeat (first | with_reducible exact Adds.refl _ | with_reducible refine Adds.alloc ?_ _ | with_reducible refine Adds.more ?_ _ _ | with_reducible refine Adds.drew ?_ | with_reducible refine Adds.drewN ?_ _))).mono ?_; rintro e w1 ⟨rfl, os1, n1, rfl⟩)
            | (go_at_call 17; refine (kL _ (by repeat (first | with_reducible exact Adds.refl _ | with_reducible refine Adds.alloc ?_ _ | with_reducible refine Adds.more ?_ _ _ | with_reducible refine Adds.drew ?_ | with_reducible refine Adds.drewN ?_ _))).mono ?_; rintro e w3 ⟨rfl, os3, n3, rfl⟩)
            | (go_at_call 24; refine (kF _ (by repeat (first | with_reducible exact Adds.refl _ | with_reducible refine Adds.alloc ?_ _ | with_reducible refine Adds.more ?_ _ _ | with_reducible refine Adds.drew ?_ | with_reducible refine Adds.drewN ?_ _))).mono ?_; rintro e w4 ⟨rfl, os4, n4, rfl⟩)
            | fail)
          go_region_with (go_at_call 44; refine (kC _ (by repeat (first | with_reducible exact Adds.refl _ | with_reducible refine Adds.alloc ?_ _ | with_reducible refine Adds.more ?_ _ _ | with_reducible refine Adds.drew ?_ | with_reducible refine Adds.drewN ?_ _))).mono ?_; rintro e w5 ⟨⟨vo, vc, rfl, HL⟩, os5, n5, rfl⟩)
          all_goals
            go_wp2
            refine bodyPost_ret (v := .tuple #[chgV q.key true (.slice vo q.doc.length vc), ansV 0 false nilV]) (by simp [results, Try.results64, go_sem]) rfl ⟨.inl ⟨HB.out, vo, vc, rfl, row_lower (row_far HL.out (by repeat (first | with_reducible exact Far.refl _ _ | with_reducible refine Far.mores ?_ (by simp [go_sem]) _ _ _ | with_reducible refine Far.allocs ?_ (by simp [go_sem]) _ | with_reducible refine Far.low ?_ (by simp [go_sem]) (by first | omega | (simp [go_sem] <;> omega)) _ _ | with_reducible refine Far.more ?_ _ _ | with_reducible refine Far.alloc ?_ _ | with_reducible refine Far.drew ?_ | with_reducible refine Far.drewN ?_ _))) (by simp only [size_more, World.size_alloc]; omega)⟩, (by repeat (first | with_reducible exact Adds.refl _ | with_reducible refine Adds.alloc ?_ _ | with_reducible refine Adds.more ?_ _ _ | with_reducible refine Adds.drew ?_ | with_reducible refine Adds.drewN ?_ _))⟩
        | false =>
          rw [hh] at kF
          by_cases h24 : ds.length = 24
          · have h24' : (ds.length : Int) = 24 := by omega
            have HB : Hid (codeP ds q = 2) := by
              show _ = _
              rw [hcode, hk, hlt, hh]
              simp [hm, h24]
            clear hcode HT hk hm hlt hh h24 kC
            generalize cutAt q.key ds = c at *
            generalize ds.length = n at *
            go_enter Try.func64, Try.ntmps64
            go_wp2_with (first
              | (go_at_call 59; refine (kK _).mono ?_; rintro e w1 ⟨rfl, rfl⟩)
              | (go_at_call 50; refine (kD _ (by repeat (first | with_reducible exact Adds.refl _ | with_reducible refine Adds.alloc ?_ _ | with_reducible refine Adds.more ?_ _ _ | with_reducible refine Adds.drew ?_ | with_reducible refine Adds.drewN ?_ _))).mono ?_; rintro e w1 ⟨rfl, os1, n1, rfl⟩)
              | (go_at_call 17; refine (kL _ (by repeat (first | with_reducible exact Adds.refl _ | with_reducible refine Adds.alloc ?_ _ | with_reducible refine Adds.more ?_ _ _ | with_reducible refine Adds.drew ?_ | with_reducible refine Adds.drewN ?_ _))).mono ?_; rintro e w3 ⟨rfl, os3, n3, rfl⟩)
              | (go_at_call 24; refine (kF _ (by repeat (first | with_reducible exact Adds.refl _ | with_reducible refine Adds.alloc ?_ _ | with_reducible refine Adds.more ?_ _ _ | with_reducible refine Adds.drew ?_ | with_reducible refine Adds.drewN ?_ _))).mono ?_; rintro e w4 ⟨rfl, os4, n4, rfl⟩)
              | (go_at_call 60; refine (refused_ans _ _).mono ?_; rintro e w2 ⟨rfl, os2, n2, rfl⟩))
            refine bodyPost_ret (v := .tuple #[chgV ⟨#[]⟩ false nilV, ansV 2 false nilV]) (by simp [results, Try.results64, go_sem]) rfl (told_bad HB.out (by decide) (by repeat (first | with_reducible exact Adds.refl _ | with_reducible refine Adds.alloc ?_ _ | with_reducible refine Adds.more ?_ _ _ | with_reducible refine Adds.drew ?_ | with_reducible refine Adds.drewN ?_ _)))
          · have h24' : ¬ (ds.length : Int) = 24 := by omega
            have h24b : ((ds.length : Int) == 24) = false := by simpa using h24'
            have HB : Hid (codeP ds q = 0) := by
              show _ = _
              rw [hcode, hk, hlt, hh]
              simp [hm, h24]
            clear hcode HT hk hm hlt hh h24
            generalize cutAt q.key ds = c at *
            generalize ds.length = n at *
            go_enter Try.func64, Try.ntmps64
            go_wp2_with (first
              | (go_at_call 59; refine (kK _).mono ?_; rintro e w1 ⟨rfl, rfl⟩)
              | (go_at_call 50; refine (kD _ (by repeat (first | with_reducible exact Adds.refl _ | with_reducible refine Adds.alloc ?_ _ | with_reducible refine Adds.more ?_ _ _ | with_reducible refine Adds.drew ?_ | with_reducible refine Adds.drewN ?_ _))).mono ?_; rintro e w1 ⟨rfl, os1, n1, rfl⟩)
              | (go_at_call 17; refine (kL _ (by repeat (first | with_reducible exact Adds.refl _ | with_reducible refine Adds.alloc ?_ _ | with_reducible refine Adds.more ?_ _ _ | with_reducible refine Adds.drew ?_ | with_reducible refine Adds.drewN ?_ _))).mono ?_; rintro e w3 ⟨rfl, os3, n3, rfl⟩)
              | (go_at_call 24; refine (kF _ (by repeat (first | with_reducible exact Adds.refl _ | with_reducible refine Adds.alloc ?_ _ | with_reducible refine Adds.more ?_ _ _ | with_reducible refine Adds.drew ?_ | with_reducible refine Adds.drewN ?_ _))).mono ?_; rintro e w4 ⟨rfl, os4, n4, rfl⟩)
              | fail)
            go_region_with (go_at_call 44; refine (kC _ (by repeat (first | with_reducible exact Adds.refl _ | with_reducible refine Adds.alloc ?_ _ | with_reducible refine Adds.more ?_ _ _ | with_reducible refine Adds.drew ?_ | with_reducible refine Adds.drewN ?_ _))).mono ?_; rintro e w5 ⟨⟨vo, vc, rfl, HL⟩, os5, n5, rfl⟩)
            all_goals
              go_wp2
              refine bodyPost_ret (v := .tuple #[chgV q.key true (.slice vo q.doc.length vc), ansV 0 false nilV]) (by simp [results, Try.results64, go_sem]) rfl ⟨.inl ⟨HB.out, vo, vc, rfl, row_lower (row_far HL.out (by repeat (first | with_reducible exact Far.refl _ _ | with_reducible refine Far.mores ?_ (by simp [go_sem]) _ _ _ | with_reducible refine Far.allocs ?_ (by simp [go_sem]) _ | with_reducible refine Far.low ?_ (by simp [go_sem]) (by first | omega | (simp [go_sem] <;> omega)) _ _ | with_reducible refine Far.more ?_ _ _ | with_reducible refine Far.alloc ?_ _ | with_reducible refine Far.drew ?_ | with_reducible refine Far.drewN ?_ _))) (by simp only [size_more, World.size_alloc]; omega)⟩, (by repeat (first | with_reducible exact Adds.refl _ | with_reducible refine Adds.alloc ?_ _ | with_reducible refine Adds.more ?_ _ _ | with_reducible refine Adds.drew ?_ | with_reducible refine Adds.drewN ?_ _))⟩
    · rw [err_bad hm] at kD
      have HB : Hid (codeP ds q = 1) := by
        show _ = _
        rw [hcode, hk]
        simp [hm]
      clear kF kL kC hcode HT hk hm
      go_enter Try.func64, Try.ntmps64
      go_wp2_with (first
        | (go_at_call 59; refine (kK _).mono ?_; rintro e w1 ⟨rfl, rfl⟩)
        | (go_at_call 50; refine (kD _ (by repeat (first | with_reducible exact Adds.refl _ | with_reducible refine Adds.alloc ?_ _ | with_reducible refine Adds.more ?_ _ _ | with_reducible refine Adds.drew ?_ | with_reducible refine Adds.drewN ?_ _))).mono ?_; rintro e w1 ⟨rfl, os1, n1, rfl⟩)
        | (go_at_call 60; refine (refused_ans _ _).mono ?_; rintro e w2 ⟨rfl, os2, n2, rfl⟩))
      refine bodyPost_ret (v := .tuple #[chgV ⟨#[]⟩ false nilV, ansV 1 false nilV]) (by simp [results, Try.results64, go_sem]) rfl (told_bad HB.out (by decide) (by repeat (first | with_reducible exact Adds.refl _ | with_reducible refine Adds.alloc ?_ _ | with_reducible refine Adds.more ?_ _ _ | with_reducible refine Adds.drew ?_ | with_reducible refine Adds.drewN ?_ _)))

end Go.Proofs.Ytgnhkpihlghbmaa

namespace Go.Proofs.Ytgnhkpihlghbmaa
open Go.RowKit
attribute [local go_sem] cell?_more frozen?_more setCell_more size_more tape_more drew_more drewN_more more_drew more_drewN one_out plus_out plus_end lt_one le_p2 le_p3 le_p4 le_p5 le_p6 le_p7 le_p8 le_p9 le_p10 le_p11 le_p12 le_p13 le_p14 le_p15 le_p16 le_p17 le_p18 le_p19 le_p20 le_p21 le_p22 le_p23 le_p24 le_q0 le_q1 lt_q1 le_q2 lt_q2 le_q3 lt_q3 le_q4 lt_q4 le_q5 lt_q5 le_q6 lt_q6 le_q7 lt_q7 le_q8 lt_q8 le_q9 lt_q9 le_q10 lt_q10 le_q11 lt_q11 le_q12 lt_q12 le_q13 lt_q13 le_q14 lt_q14 le_q15 lt_q15 le_q16 lt_q16 le_q17 lt_q17 le_q18 lt_q18 le_q19 lt_q19 le_q20 lt_q20 le_q21 lt_q21 le_q22 lt_q22 le_q23 lt_q23 le_q24 lt_q24

theorem Far.drew {n : Nat} {w w' : World} (h : Far n w w') : Far n w w'.drew := h
theorem Far.drewN {n : Nat} {w w' : World} (h : Far n w w') (k : Nat) : Far n w (w'.drewN k) := h

/-- What is told of one that turns a document. -/
structure TurnFacts (code : Int) (ds : List Dn) (q : Qs) (w w' : World) (ck : ByteArray) (ch : Bool) (cv : Value) (ah : Bool) (av : Value) : Prop where
  good : code = 0 → ck = q.key ∧ ch = hasT q ∧ RowF w.heap.size w' cv (docOf q)
  bad : ¬ code = 0 → ck = ⟨#[]⟩ ∧ ch = false ∧ cv = nilV
  none : ¬ code = 7 → ah = false ∧ av = nilV
  some : code = 7 → ah = hasAt q.key ds ∧ RowF w.heap.size w' av (docAt q.key ds)

theorem TurnFacts.far {code : Int} {ds : List Dn} {q : Qs} {w W w' w2 : World} {ck : ByteArray} {ch : Bool} {cv : Value} {ah : Bool} {av : Value} (h : TurnFacts code ds q W w' ck ch cv ah av) (hf : Far W.heap.size w' w2) (hs : w.heap.size ≤ W.heap.size) : TurnFacts code ds q w w2 ck ch cv ah av :=
  ⟨fun h0 => ⟨(h.good h0).1, (h.good h0).2.1, row_lower (row_far (h.good h0).2.2 hf) hs⟩, h.bad, h.none, fun h7 => ⟨(h.some h7).1, row_lower (row_far (h.some h7).2 hf) hs⟩⟩

def TurnTold (code : Int) (ds : List Dn) (q : Qs) (w : World) (e : Ending) (w' : World) : Prop :=
  ∃ ck ch co cn cc ah ao an ac, e = .returned (.tuple #[chgV ck ch (.slice co cn cc), ansV code ah (.slice ao an ac)]) ∧ Adds w w' ∧ Hid (TurnFacts code ds q w w' ck ch (.slice co cn cc) ah (.slice ao an ac))

theorem facts_bad {code : Int} {ds : List Dn} {q : Qs} {w w' : World} (h0 : ¬ code = 0) (h7 : ¬ code = 7) : TurnFacts code ds q w w' ⟨#[]⟩ false nilV false nilV :=
  ⟨fun h => absurd h h0, fun _ => ⟨rfl, rfl, rfl⟩, fun _ => ⟨rfl, rfl⟩, fun h => absurd h h7⟩

theorem facts_good {code : Int} {ds : List Dn} {q : Qs} {w w' : World} {ck : ByteArray} {ch : Bool} {cv : Value} (h0 : code = 0) (hk : ck = q.key) (hh : ch = hasT q) (hr : RowF w.heap.size w' cv (docOf q)) : TurnFacts code ds q w w' ck ch cv false nilV :=
  ⟨fun _ => ⟨hk, hh, hr⟩, fun h => absurd h0 h, fun _ => ⟨rfl, rfl⟩, fun h => by omega⟩

theorem codeP_ne (ds : List Dn) (q : Qs) : ¬ codeP ds q = 7 := by
  unfold codeP
  split
  · split
    · split <;> decide
    · decide
  · decide

theorem put_turn (s : Value) (ds : List Dn) (q : Qs) (dv wv lv sv nv : Value) (w : World) (hl : LstD w s ds) (hl6 : ds.length ≤ 500) (hr : Risen ds) (hd : Lst w dv q.doc) (hq6 : q.doc.length ≤ 1000) (hk : ¬ q.kind = 2) :
    Calls Try.prog 64 #[s, opV q dv wv lv sv nv] w fun e w' => TurnTold (codeP ds q) ds q w e w' := by
  have hT : hasT q = true := by simp [hasT, hk]
  have hD : docOf q = q.doc := by simp [docOf, hk]
  refine (put_any s ds q dv wv lv sv nv w hl hl6 hr hd hq6).mono ?_
  rintro e w' ⟨⟨h0, vo, vc, rfl, hrow⟩ | ⟨h0, rfl⟩, hA⟩
  · refine ⟨q.key, true, vo, _, vc, false, none, 0, 0, by rw [h0], hA, facts_good h0 rfl hT.symm (by rw [hD]; exact hrow)⟩
  · exact ⟨⟨#[]⟩, false, none, 0, 0, false, none, 0, 0, rfl, hA, facts_bad h0 (codeP_ne ds q)⟩

theorem standing_any (s : Value) (ds : List Dn) (p : ByteArray) (w : World) (hl : LstD w s ds) (hl6 : ds.length ≤ 500) (hr : Risen ds) (hd6 : ∀ d ∈ ds, d.doc.length ≤ 1000) :
    Calls Try.prog 61 #[s, .string p] w fun e w' => ∃ ao ac, e = .returned (ansV 0 (hasAt p ds) (.slice ao (docAt p ds).length ac)) ∧ Adds w w' ∧ Hid (RowF w.heap.size w' (.slice ao (docAt p ds).length ac) (docAt p ds)) := by
  cases hh : hasAt p ds with
  | false =>
    refine (standing_none s ds p w hl (by omega) hr hh).mono ?_
    rintro e w' ⟨rfl, hA⟩
    rw [docAt_none hh]
    exact ⟨none, 0, rfl, hA, World.ownsRow_nil _ _ _ _⟩
  | true =>
    refine (standing_some s ds p w hl (by omega) hr hd6 (hasAt_lt hh) hh).mono ?_
    rintro e w' ⟨⟨vo, vc, rfl, hrow⟩, hA⟩
    rw [docAt_some hh]
    exact ⟨vo, vc, rfl, hA, hrow.out⟩

set_option maxRecDepth 20000 in
set_option maxHeartbeats 2000000 in
theorem remove_turn (s : Value) (ds : List Dn) (q : Qs) (dv wv lv sv nv : Value) (w : World) (hl : LstD w s ds) (hl6 : ds.length ≤ 500) (hr : Risen ds) (hk2 : q.kind = 2) :
    Calls Try.prog 65 #[s, opV q dv wv lv sv nv] w fun e w' => TurnTold (codeD ds q) ds q w e w' := by
  have kF := fun W (hA : Adds w W) => find_any s ds q.key W (hl.adds hA) (by omega) hr
  have hT : hasT q = false := by simp [hasT, hk2]
  have hD : docOf q = [] := by simp [docOf, hk2]
  obtain ⟨so, sc, rfl, _, _⟩ := hl
  have hcode : codeD ds q = if isKey q.key then (if hasAt q.key ds then 0 else 4) else 1 := rfl
  have kK := fun W => key_any q.key W
  simp only [opV]
  clear hk2
  cases hk : isKey q.key with
  | false =>
    have HB : Hid (codeD ds q = 1) := by
      show _ = _
      rw [hcode, hk]
      rfl
    rw [hk] at kK
    rw [HB.out]
    clear kF hcode hk hT hD HB
    go_enter Try.func65, Try.ntmps65
    go_wp2_with (first
      | (go_at_call 59; refine (kK _).mono ?_; rintro e w1 ⟨rfl, rfl⟩)
      | (go_at_call 60; refine (refused_ans _ _).mono ?_; rintro e w2 ⟨rfl, os2, n2, rfl⟩))
    refine bodyPost_ret (v := .tuple #[chgV ⟨#[]⟩ false nilV, ansV 1 false nilV]) (by simp [results, Try.results65, go_sem]) rfl ⟨⟨#[]⟩, false, none, 0, 0, false, none, 0, 0, rfl, (by repeat (first | with_reducible exact Adds.refl _ | with_reducible refine Adds.alloc ?_ _ | with_reducible refine Adds.more ?_ _ _ | with_reducible refine Adds.drew ?_ | with_reducible refine Adds.drewN ?_ _)), facts_bad (by decide) (by decide)⟩
  | true =>
    rw [hk] at kK
    cases hh : hasAt q.key ds with
    | false =>
      have HB : Hid (codeD ds q = 4) := by
        show _ = _
        rw [hcode, hk, hh]
        rfl
      rw [hh] at kF
      rw [HB.out]
      clear hcode hk hT hD HB hh
      generalize cutAt q.key ds = c at *
      go_enter Try.func65, Try.ntmps65
      go_wp2_with (first
        | (go_at_call 59; refine (kK _).mono ?_; rintro e w1 ⟨rfl, rfl⟩)
        | (go_at_call 24; refine (kF _ (by repeat (first | with_reducible exact Adds.refl _ | with_reducible refine Adds.alloc ?_ _ | with_reducible refine Adds.more ?_ _ _ | with_reducible refine Adds.drew ?_ | with_reducible refine Adds.drewN ?_ _))).mono ?_; rintro e w4 ⟨rfl, os4, n4, rfl⟩)
        | (go_at_call 60; refine (refused_ans _ _).mono ?_; rintro e w2 ⟨rfl, os2, n2, rfl⟩))
      refine bodyPost_ret (v := .tuple #[chgV ⟨#[]⟩ false nilV, ansV 4 false nilV]) (by simp [results, Try.results65, go_sem]) rfl ⟨⟨#[]⟩, false, none, 0, 0, false, none, 0, 0, rfl, (by repeat (first | with_reducible exact Adds.refl _ | with_reducible refine Adds.alloc ?_ _ | with_reducible refine Adds.more ?_ _ _ | with_reducible refine Adds.drew ?_ | with_reducible refine Adds.drewN ?_ _)), facts_bad (by decide) (by decide)⟩
    | true =>
      have HB : Hid (codeD ds q = 0) := by
        show _ = _
        rw [hcode, hk, hh]
        rfl
      have HT : Hid (false = hasT q) := hT.symm
      have HR : Hid (∀ w', RowF w.heap.size w' nilV (docOf q)) := by
        show ∀ w', _
        rw [hD]
        exact fun w' => World.ownsRow_nil _ _ _ _
      rw [hh] at kF
      rw [HB.out]
      clear hcode hk hT hD HB hh
      generalize cutAt q.key ds = c at *
      go_enter Try.func65, Try.ntmps65
      go_wp2_with (first
        | (go_at_call 59; refine (kK _).mono ?_; rintro e w1 ⟨rfl, rfl⟩)
        | (go_at_call 24; refine (kF _ (by repeat (first | with_reducible exact Adds.refl _ | with_reducible refine Adds.alloc ?_ _ | with_reducible refine Adds.more ?_ _ _ | with_reducible refine Adds.drew ?_ | with_reducible refine Adds.drewN ?_ _))).mono ?_; rintro e w4 ⟨rfl, os4, n4, rfl⟩)
        | (go_at_call 60; refine (refused_ans _ _).mono ?_; rintro e w2 ⟨rfl, os2, n2, rfl⟩))
      refine bodyPost_ret (v := .tuple #[chgV q.key false nilV, ansV 0 false nilV]) (by simp [results, Try.results65, go_sem]) rfl ⟨q.key, false, none, 0, 0, false, none, 0, 0, rfl, (by repeat (first | with_reducible exact Adds.refl _ | with_reducible refine Adds.alloc ?_ _ | with_reducible refine Adds.more ?_ _ _ | with_reducible refine Adds.drew ?_ | with_reducible refine Adds.drewN ?_ _)), facts_good rfl rfl HT.out (HR.out _)⟩

end Go.Proofs.Ytgnhkpihlghbmaa
