/-
  The function swap of package shop, by contract. The function turn of package shop, by contract.
-/
import Derived.Test.YtgnhkpihlghbmaaMspt
namespace Go.Proofs.Ytgnhkpihlghbmaa
open Go.RowKit
attribute [local go_sem] cell?_more frozen?_more setCell_more size_more tape_more drew_more drewN_more more_drew more_drewN one_out plus_out plus_end lt_one le_p2 le_p3 le_p4 le_p5 le_p6 le_p7 le_p8 le_p9 le_p10 le_p11 le_p12 le_p13 le_p14 le_p15 le_p16 le_p17 le_p18 le_p19 le_p20 le_p21 le_p22 le_p23 le_p24 le_q0 le_q1 lt_q1 le_q2 lt_q2 le_q3 lt_q3 le_q4 lt_q4 le_q5 lt_q5 le_q6 lt_q6 le_q7 lt_q7 le_q8 lt_q8 le_q9 lt_q9 le_q10 lt_q10 le_q11 lt_q11 le_q12 lt_q12 le_q13 lt_q13 le_q14 lt_q14 le_q15 lt_q15 le_q16 lt_q16 le_q17 lt_q17 le_q18 lt_q18 le_q19 lt_q19 le_q20 lt_q20 le_q21 lt_q21 le_q22 lt_q22 le_q23 lt_q23 le_q24 lt_q24

/-- What a setting tells, in one form. -/
theorem put_one (s : Value) (ds : List Dn) (q : Qs) (dv wv lv sv nv : Value) (w : World) (hl : LstD w s ds) (hl6 : ds.length ≤ 500) (hr : Risen ds) (hd : Lst w dv q.doc) (hq6 : q.doc.length ≤ 1000) :
    Calls Try.prog 64 #[s, opV q dv wv lv sv nv] w fun e w' => ∃ ck ch co cn cc, e = .returned (.tuple #[chgV ck ch (.slice co cn cc), ansV (codeP ds q) false nilV]) ∧ Adds w w' ∧
      Hid ((codeP ds q = 0 → ck = q.key ∧ ch = true ∧ RowF w.heap.size w' (.slice co cn cc) q.doc) ∧ (¬ codeP ds q = 0 → ck = ⟨#[]⟩ ∧ ch = false ∧ Value.slice co cn cc = nilV)) := by
  refine (put_any s ds q dv wv lv sv nv w hl hl6 hr hd hq6).mono ?_
  rintro e w' ⟨⟨h0, vo, vc, rfl, hrow⟩ | ⟨h0, rfl⟩, hA⟩
  · exact ⟨q.key, true, vo, _, vc, by rw [h0], hA, fun _ => ⟨rfl, rfl, hrow⟩, fun h => absurd h0 h⟩
  · exact ⟨⟨#[]⟩, false, none, 0, 0, rfl, hA, fun h => absurd h h0, fun _ => ⟨rfl, rfl, rfl⟩⟩

theorem facts_put {code : Int} {ds : List Dn} {q : Qs} {w w' : World} {ck : ByteArray} {ch : Bool} {cv : Value} (h7 : ¬ code = 7) (hk : ¬ q.kind = 2) (h0 : code = 0 → ck = q.key ∧ ch = true ∧ RowF w.heap.size w' cv q.doc) (hn : ¬ code = 0 → ck = ⟨#[]⟩ ∧ ch = false ∧ cv = nilV) : TurnFacts code ds q w w' ck ch cv false nilV := by
  have hT : hasT q = true := by simp [hasT, hk]
  have hD : docOf q = q.doc := by simp [docOf, hk]
  exact ⟨fun h => by rw [hT, hD]; exact h0 h, hn, fun _ => ⟨rfl, rfl⟩, fun h => absurd h h7⟩

theorem facts_cas {ds : List Dn} {q : Qs} {w w' : World} {ah : Bool} {av : Value} (h1 : ah = hasAt q.key ds) (h2 : RowF w.heap.size w' av (docAt q.key ds)) : TurnFacts 7 ds q w w' ⟨#[]⟩ false nilV ah av :=
  ⟨fun h => (by cases h), fun _ => ⟨rfl, rfl, rfl⟩, fun h => absurd rfl h, fun _ => ⟨h1, h2⟩⟩

theorem docAt_len {ds : List Dn} (p : ByteArray) (hd6 : ∀ d ∈ ds, d.doc.length ≤ 1000) : (docAt p ds).length ≤ 1000 := by
  unfold docAt
  split
  · split
    · exact hd6 _ (List.getElem_mem _)
    · simp
  · simp

set_option maxRecDepth 20000 in
set_option maxHeartbeats 4000000 in
theorem swap_turn (s : Value) (ds : List Dn) (q : Qs) (dv wv lv sv nv : Value) (w : World) (hl : LstD w s ds) (hl6 : ds.length ≤ 500) (hr : Risen ds) (hd6 : ∀ d ∈ ds, d.doc.length ≤ 1000) (hd : Lst w dv q.doc) (hq6 : q.doc.length ≤ 1000) (hw : Lst w wv q.want) (hw6 : q.want.length ≤ 1000) (hk3 : q.kind = 3) :
    Calls Try.prog 66 #[s, opV q dv wv lv sv nv] w fun e w' => TurnTold (codeC ds q) ds q w e w' := by
  have kS := fun W (hA : Adds w W) => standing_any s ds q.key W (hl.adds hA) hl6 hr hd6
  have kD := fun W (hA : Adds w W) => check_doc dv q.doc W (hd.adds hA)
  have kW := fun W (hA : Adds w W) => check_doc wv q.want W (hw.adds hA)
  have kP := fun W (hA : Adds w W) => put_one s ds q dv wv lv sv nv W (hl.adds hA) hl6 hr (hd.adds hA) hq6
  have kE := fun W v (hA : Adds w W) (hv : Lst W v (docAt q.key ds)) => same_any v wv (docAt q.key ds) q.want W hv (hw.adds hA) (docAt_len _ hd6) hw6
  have hcode : codeC ds q = if isKey q.key = true ∧ May q.doc ∧ (q.has = true → May q.want) then (if hasAt q.key ds = q.has ∧ (q.has = true → docAt q.key ds = q.want) then codeP ds q else 7) else 1 := rfl
  have H2 : Hid (¬ q.kind = 2) := by
    show ¬ _
    omega
  have H7 : Hid (¬ codeP ds q = 7) := codeP_ne ds q
  obtain ⟨so, sc, rfl, _, _⟩ := hl
  obtain ⟨uo, uc, rfl, _, _⟩ := hd
  obtain ⟨xo, xc, rfl, _, _⟩ := hw
  have kK := fun W => key_any q.key W
  simp only [opV] at kP ⊢
  clear hk3
  by_cases hgood : isKey q.key = true ∧ May q.doc ∧ (q.has = true → May q.want)
  · rw [if_pos hgood] at hcode
    obtain ⟨hk, hm, hmw⟩ := hgood
    rw [hk] at kK
    rw [err_ok hm] at kD
    cases hqh : q.has with
    | true =>
      rw [err_ok (hmw hqh)] at kW
      rw [hqh] at kP hcode
      cases hh : hasAt q.key ds with
      | false =>
        rw [hh] at kS hcode
        rw [if_neg (by simp)] at hcode
        have HH : Hid (false = hasAt q.key ds) := hh.symm
        rw [hcode]
        clear hcode hk hm hmw hqh hh kE kP H7 H2
        generalize hda : docAt q.key ds = da at *
        have HDA : Hid _ := hda
        clear hda
        go_enter Try.func66, Try.ntmps66
        go_wp2_with (first
          | (go_at_call 59; refine (kK _).mono ?_; rintro e w1 ⟨rfl, rfl⟩)
          | (go_at_call 50; first | (refine (kD _ (by repeat (first | with_reducible exact Adds.refl _ | with_reducible refine Adds.alloc ?_ _ | with_reducible refine Adds.more ?_ _ _ | with_reducible refine Adds.drew ?_ | with_reducible refine Adds.drewN ?_ _))).mono ?_; rintro e w1 ⟨rfl, os1, n1, rfl⟩; clear kD) | (refine (kW _ (by repeat (first | with_reducible exact Adds.refl _ | with_reducible refine Adds.alloc ?_ _ | with_reducible refine Adds.more ?_ _ _ | with_reducible refine Adds.drew ?_ | with_reducible refine Adds.drewN ?_ _))).mono ?_; rintro e w2 ⟨rfl, os2, n2, rfl⟩; clear kW))
          | (go_at_call 61; refine (kS _ (by repeat (first | with_reducible exact Adds.refl _ | with_reducible refine Adds.alloc ?_ _ | with_reducible refine Adds.more ?_ _ _ | with_reducible refine Adds.drew ?_ | with_reducible refine Adds.drewN ?_ _))).mono ?_; rintro e w3 ⟨ao, ac, rfl, ⟨os3, n3, rfl⟩, HL⟩))
        go_region
        all_goals
          go_wp2
          refine bodyPost_ret (v := .tuple #[chgV ⟨#[]⟩ false nilV, ansV 7 false (.slice ao da.length ac)]) (by simp [results, Try.results66, go_sem]) rfl ⟨⟨#[]⟩, false, none, 0, 0, false, ao, _, ac, rfl, (by repeat (first | with_reducible exact Adds.refl _ | with_reducible refine Adds.alloc ?_ _ | with_reducible refine Adds.more ?_ _ _ | with_reducible refine Adds.drew ?_ | with_reducible refine Adds.drewN ?_ _)), facts_cas HH.out (by rw [HDA.out]; exact row_lower (row_far HL.out (by repeat (first | with_reducible exact Far.refl _ _ | with_reducible refine Far.mores ?_ (by simp [go_sem]) _ _ _ | with_reducible refine Far.allocs ?_ (by simp [go_sem]) _ | with_reducible refine Far.low ?_ (by simp [go_sem]) (by first | omega | (simp [go_sem] <;> omega)) _ _ | with_reducible refine Far.more ?_ _ _ | with_reducible refine Far.alloc ?_ _ | with_reducible refine Far.drew ?_ | with_reducible refine Far.drewN ?_ _))) (by simp only [size_more, World.size_alloc]; omega))⟩
      | true =>
        rw [hh] at kS hcode
        by_cases hE : docAt q.key ds = q.want
        · rw [if_pos ⟨rfl, fun _ => hE⟩] at hcode
          rw [decide_eq_true hE] at kE
          clear hE
          have HH : Hid (true = hasAt q.key ds) := hh.symm
          rw [hcode]
          clear hcode hk hm hmw hqh hh
          generalize hda : docAt q.key ds = da at *
          have HDA : Hid _ := hda
          clear hda
          generalize codeP ds q = cp at *
          go_enter Try.func66, Try.ntmps66
          go_wp2_with (first
            | (go_at_call 59; refine (kK _).mono ?_; rintro e w1 ⟨rfl, rfl⟩)
            | (go_at_call 50; first | (refine (kD _ (by repeat (first | with_reducible exact Adds.refl _ | with_reducible refine Adds.alloc ?_ _ | with_reducible refine Adds.more ?_ _ _ | with_reducible refine Adds.drew ?_ | with_reducible refine Adds.drewN ?_ _))).mono ?_; rintro e w1 ⟨rfl, os1, n1, rfl⟩; clear kD) | (refine (kW _ (by repeat (first | with_reducible exact Adds.refl _ | with_reducible refine Adds.alloc ?_ _ | with_reducible refine Adds.more ?_ _ _ | with_reducible refine Adds.drew ?_ | with_reducible refine Adds.drewN ?_ _))).mono ?_; rintro e w2 ⟨rfl, os2, n2, rfl⟩; clear kW))
            | (go_at_call 61; refine (kS _ (by repeat (first | with_reducible exact Adds.refl _ | with_reducible refine Adds.alloc ?_ _ | with_reducible refine Adds.more ?_ _ _ | with_reducible refine Adds.drew ?_ | with_reducible refine Adds.drewN ?_ _))).mono ?_; rintro e w3 ⟨ao, ac, rfl, ⟨os3, n3, rfl⟩, HL⟩)
            | (go_at_call 26; refine (kE _ _ (by repeat (first | with_reducible exact Adds.refl _ | with_reducible refine Adds.alloc ?_ _ | with_reducible refine Adds.more ?_ _ _ | with_reducible refine Adds.drew ?_ | with_reducible refine Adds.drewN ?_ _)) (RowF.lst (row_far HL.out (by repeat (first | with_reducible exact Far.refl _ _ | with_reducible refine Far.mores ?_ (by simp [go_sem]) _ _ _ | with_reducible refine Far.allocs ?_ (by simp [go_sem]) _ | with_reducible refine Far.low ?_ (by simp [go_sem]) (by first | omega | (simp [go_sem] <;> omega)) _ _ | with_reducible refine Far.more ?_ _ _ | with_reducible refine Far.alloc ?_ _ | with_reducible refine Far.drew ?_ | with_reducible refine Far.drewN ?_ _))))).mono ?_; rintro e w5 ⟨rfl, os5, n5, rfl⟩)
            | (go_at_call 64; refine (kP _ (by repeat (first | with_reducible exact Adds.refl _ | with_reducible refine Adds.alloc ?_ _ | with_reducible refine Adds.more ?_ _ _ | with_reducible refine Adds.drew ?_ | with_reducible refine Adds.drewN ?_ _))).mono ?_; rintro e w4 ⟨ck, ch, co, cn, cc, rfl, ⟨os4, n4, rfl⟩, HP⟩))
          refine bodyPost_ret (v := .tuple #[chgV ck ch (.slice co cn cc), ansV cp false nilV]) (by simp [results, Try.results66, go_sem]) rfl ⟨ck, ch, co, cn, cc, false, none, 0, 0, rfl, (by repeat (first | with_reducible exact Adds.refl _ | with_reducible refine Adds.alloc ?_ _ | with_reducible refine Adds.more ?_ _ _ | with_reducible refine Adds.drew ?_ | with_reducible refine Adds.drewN ?_ _)), facts_put H7.out H2.out (fun h => ⟨(HP.out.1 h).1, (HP.out.1 h).2.1, row_lower (row_far (HP.out.1 h).2.2 (by repeat (first | with_reducible exact Far.refl _ _ | with_reducible refine Far.mores ?_ (by simp [go_sem]) _ _ _ | with_reducible refine Far.allocs ?_ (by simp [go_sem]) _ | with_reducible refine Far.low ?_ (by simp [go_sem]) (by first | omega | (simp [go_sem] <;> omega)) _ _ | with_reducible refine Far.more ?_ _ _ | with_reducible refine Far.alloc ?_ _ | with_reducible refine Far.drew ?_ | with_reducible refine Far.drewN ?_ _))) (by simp only [size_more, World.size_alloc]; omega)⟩) HP.out.2⟩
        · rw [if_neg (fun h => hE (h.2 rfl))] at hcode
          rw [decide_eq_false hE] at kE
          clear hE
          have HH : Hid (true = hasAt q.key ds) := hh.symm
          rw [hcode]
          clear hcode hk hm hmw hqh hh kP H7 H2
          generalize hda : docAt q.key ds = da at *
          have HDA : Hid _ := hda
          clear hda
          go_enter Try.func66, Try.ntmps66
          go_wp2_with (first
            | (go_at_call 59; refine (kK _).mono ?_; rintro e w1 ⟨rfl, rfl⟩)
            | (go_at_call 50; first | (refine (kD _ (by repeat (first | with_reducible exact Adds.refl _ | with_reducible refine Adds.alloc ?_ _ | with_reducible refine Adds.more ?_ _ _ | with_reducible refine Adds.drew ?_ | with_reducible refine Adds.drewN ?_ _))).mono ?_; rintro e w1 ⟨rfl, os1, n1, rfl⟩; clear kD) | (refine (kW _ (by repeat (first | with_reducible exact Adds.refl _ | with_reducible refine Adds.alloc ?_ _ | with_reducible refine Adds.more ?_ _ _ | with_reducible refine Adds.drew ?_ | with_reducible refine Adds.drewN ?_ _))).mono ?_; rintro e w2 ⟨rfl, os2, n2, rfl⟩; clear kW))
            | (go_at_call 61; refine (kS _ (by repeat (first | with_reducible exact Adds.refl _ | with_reducible refine Adds.alloc ?_ _ | with_reducible refine Adds.more ?_ _ _ | with_reducible refine Adds.drew ?_ | with_reducible refine Adds.drewN ?_ _))).mono ?_; rintro e w3 ⟨ao, ac, rfl, ⟨os3, n3, rfl⟩, HL⟩)
            | (go_at_call 26; refine (kE _ _ (by repeat (first | with_reducible exact Adds.refl _ | with_reducible refine Adds.alloc ?_ _ | with_reducible refine Adds.more ?_ _ _ | with_reducible refine Adds.drew ?_ | with_reducible refine Adds.drewN ?_ _)) (RowF.lst (row_far HL.out (by repeat (first | with_reducible exact Far.refl _ _ | with_reducible refine Far.mores ?_ (by simp [go_sem]) _ _ _ | with_reducible refine Far.allocs ?_ (by simp [go_sem]) _ | with_reducible refine Far.low ?_ (by simp [go_sem]) (by first | omega | (simp [go_sem] <;> omega)) _ _ | with_reducible refine Far.more ?_ _ _ | with_reducible refine Far.alloc ?_ _ | with_reducible refine Far.drew ?_ | with_reducible refine Far.drewN ?_ _))))).mono ?_; rintro e w5 ⟨rfl, os5, n5, rfl⟩))
          go_region
          all_goals
            go_wp2
            refine bodyPost_ret (v := .tuple #[chgV ⟨#[]⟩ false nilV, ansV 7 true (.slice ao da.length ac)]) (by simp [results, Try.results66, go_sem]) rfl ⟨⟨#[]⟩, false, none, 0, 0, true, ao, _, ac, rfl, (by repeat (first | with_reducible exact Adds.refl _ | with_reducible refine Adds.alloc ?_ _ | with_reducible refine Adds.more ?_ _ _ | with_reducible refine Adds.drew ?_ | with_reducible refine Adds.drewN ?_ _)), facts_cas HH.out (by rw [HDA.out]; exact row_lower (row_far HL.out (by repeat (first | with_reducible exact Far.refl _ _ | with_reducible refine Far.mores ?_ (by simp [go_sem]) _ _ _ | with_reducible refine Far.allocs ?_ (by simp [go_sem]) _ | with_reducible refine Far.low ?_ (by simp [go_sem]) (by first | omega | (simp [go_sem] <;> omega)) _ _ | with_reducible refine Far.more ?_ _ _ | with_reducible refine Far.alloc ?_ _ | with_reducible refine Far.drew ?_ | with_reducible refine Far.drewN ?_ _))) (by simp only [size_more, World.size_alloc]; omega))⟩
    | false =>
      rw [hqh] at kP hcode
      cases hh : hasAt q.key ds with
      | false =>
        rw [hh] at kS hcode
        rw [if_pos ⟨rfl, fun h => by cases h⟩] at hcode
        clear kW
        have HH : Hid (false = hasAt q.key ds) := hh.symm
        rw [hcode]
        clear hcode hk hm hmw hqh hh kE
        generalize hda : docAt q.key ds = da at *
        have HDA : Hid _ := hda
        clear hda
        generalize codeP ds q = cp at *
        go_enter Try.func66, Try.ntmps66
        go_wp2_with (first
          | (go_at_call 59; refine (kK _).mono ?_; rintro e w1 ⟨rfl, rfl⟩)
          | (go_at_call 50; refine (kD _ (by repeat (first | with_reducible exact Adds.refl _ | with_reducible refine Adds.alloc ?_ _ | with_reducible refine Adds.more ?_ _ _ | with_reducible refine Adds.drew ?_ | with_reducible refine Adds.drewN ?_ _))).mono ?_; rintro e w1 ⟨rfl, os1, n1, rfl⟩)
          | (go_at_call 61; refine (kS _ (by repeat (first | with_reducible exact Adds.refl _ | with_reducible refine Adds.alloc ?_ _ | with_reducible refine Adds.more ?_ _ _ | with_reducible refine Adds.drew ?_ | with_reducible refine Adds.drewN ?_ _))).mono ?_; rintro e w3 ⟨ao, ac, rfl, ⟨os3, n3, rfl⟩, HL⟩)
          | (go_at_call 64; refine (kP _ (by repeat (first | with_reducible exact Adds.refl _ | with_reducible refine Adds.alloc ?_ _ | with_reducible refine Adds.more ?_ _ _ | with_reducible refine Adds.drew ?_ | with_reducible refine Adds.drewN ?_ _))).mono ?_; rintro e w4 ⟨ck, ch, co, cn, cc, rfl, ⟨os4, n4, rfl⟩, HP⟩))
        refine bodyPost_ret (v := .tuple #[chgV ck ch (.slice co cn cc), ansV cp false nilV]) (by simp [results, Try.results66, go_sem]) rfl ⟨ck, ch, co, cn, cc, false, none, 0, 0, rfl, (by repeat (first | with_reducible exact Adds.refl _ | with_reducible refine Adds.alloc ?_ _ | with_reducible refine Adds.more ?_ _ _ | with_reducible refine Adds.drew ?_ | with_reducible refine Adds.drewN ?_ _)), facts_put H7.out H2.out (fun h => ⟨(HP.out.1 h).1, (HP.out.1 h).2.1, row_lower (row_far (HP.out.1 h).2.2 (by repeat (first | with_reducible exact Far.refl _ _ | with_reducible refine Far.mores ?_ (by simp [go_sem]) _ _ _ | with_reducible refine Far.allocs ?_ (by simp [go_sem]) _ | with_reducible refine Far.low ?_ (by simp [go_sem]) (by first | omega | (simp [go_sem] <;> omega)) _ _ | with_reducible refine Far.more ?_ _ _ | with_reducible refine Far.alloc ?_ _ | with_reducible refine Far.drew ?_ | with_reducible refine Far.drewN ?_ _))) (by simp only [size_more, World.size_alloc]; omega)⟩) HP.out.2⟩
      | true =>
        rw [hh] at kS hcode
        rw [if_neg (by simp)] at hcode
        clear kW
        have HH : Hid (true = hasAt q.key ds) := hh.symm
        rw [hcode]
        clear hcode hk hm hmw hqh hh kE kP H7 H2
        generalize hda : docAt q.key ds = da at *
        have HDA : Hid _ := hda
        clear hda
        go_enter Try.func66, Try.ntmps66
        go_wp2_with (first
          | (go_at_call 59; refine (kK _).mono ?_; rintro e w1 ⟨rfl, rfl⟩)
          | (go_at_call 50; refine (kD _ (by repeat (first | with_reducible exact Adds.refl _ | with_reducible refine Adds.alloc ?_ _ | with_reducible refine Adds.more ?_ _ _ | with_reducible refine Adds.drew ?_ | with_reducible refine Adds.drewN ?_ _))).mono ?_; rintro e w1 ⟨rfl, os1, n1, rfl⟩)
          | (go_at_call 61; refine (kS _ (by repeat (first | with_reducible exact Adds.refl _ | with_reducible refine Adds.alloc ?_ _ | with_reducible refine Adds.more ?_ _ _ | with_reducible refine Adds.drew ?_ | with_reducible refine Adds.drewN ?_ _))).mono ?_; rintro e w3 ⟨ao, ac, rfl, ⟨os3, n3, rfl⟩, HL⟩))
        go_region
        all_goals
          go_wp2
          refine bodyPost_ret (v := .tuple #[chgV ⟨#[]⟩ false nilV, ansV 7 true (.slice ao da.length ac)]) (by simp [results, Try.results66, go_sem]) rfl ⟨⟨#[]⟩, false, none, 0, 0, true, ao, _, ac, rfl, (by repeat (first | with_reducible exact Adds.refl _ | with_reducible refine Adds.alloc ?_ _ | with_reducible refine Adds.more ?_ _ _ | with_reducible refine Adds.drew ?_ | with_reducible refine Adds.drewN ?_ _)), facts_cas HH.out (by rw [HDA.out]; exact row_lower (row_far HL.out (by repeat (first | with_reducible exact Far.refl _ _ | with_reducible refine Far.mores ?_ (by simp [go_sem]) _ _ _ | with_reducible refine Far.allocs ?_ (by simp [go_sem]) _ | with_reducible refine Far.low ?_ (by simp [go_sem]) (by first | omega | (simp [go_sem] <;> omega)) _ _ | with_reducible refine Far.more ?_ _ _ | with_reducible refine Far.alloc ?_ _ | with_reducible refine Far.drew ?_ | with_reducible refine Far.drewN ?_ _))) (by simp only [size_more, World.size_alloc]; omega))⟩
  · rw [if_neg hgood] at hcode
    rw [hcode]
    clear hcode kS kP kE H7 H2
    cases hk : isKey q.key with
    | false =>
      rw [hk] at kK
      clear kD kW hgood
      go_enter Try.func66, Try.ntmps66
      go_wp2_with (first
        | (go_at_call 59; refine (kK _).mono ?_; rintro e w1 ⟨rfl, rfl⟩)
        | (go_at_call 60; refine (refused_ans _ _).mono ?_; rintro e w2 ⟨rfl, os2, n2, rfl⟩))
      refine bodyPost_ret (v := .tuple #[chgV ⟨#[]⟩ false nilV, ansV 1 false nilV]) (by simp [results, Try.results66, go_sem]) rfl ⟨⟨#[]⟩, false, none, 0, 0, false, none, 0, 0, rfl, (by repeat (first | with_reducible exact Adds.refl _ | with_reducible refine Adds.alloc ?_ _ | with_reducible refine Adds.more ?_ _ _ | with_reducible refine Adds.drew ?_ | with_reducible refine Adds.drewN ?_ _)), facts_bad (by decide) (by decide)⟩
    | true =>
      rw [hk] at kK hgood
      by_cases hm : May q.doc
      · rw [err_ok hm] at kD
        by_cases hq : q.has = true ∧ ¬ May q.want
        · rw [err_bad hq.2] at kW
          rw [hq.1]
          clear hgood hq
          go_enter Try.func66, Try.ntmps66
          go_wp2_with (first
            | (go_at_call 59; refine (kK _).mono ?_; rintro e w1 ⟨rfl, rfl⟩)
            | (go_at_call 50; first | (refine (kD _ (by repeat (first | with_reducible exact Adds.refl _ | with_reducible refine Adds.alloc ?_ _ | with_reducible refine Adds.more ?_ _ _ | with_reducible refine Adds.drew ?_ | with_reducible refine Adds.drewN ?_ _))).mono ?_; rintro e w1 ⟨rfl, os1, n1, rfl⟩; clear kD) | (refine (kW _ (by repeat (first | with_reducible exact Adds.refl _ | with_reducible refine Adds.alloc ?_ _ | with_reducible refine Adds.more ?_ _ _ | with_reducible refine Adds.drew ?_ | with_reducible refine Adds.drewN ?_ _))).mono ?_; rintro e w2 ⟨rfl, os2, n2, rfl⟩; clear kW))
            | (go_at_call 60; refine (refused_ans _ _).mono ?_; rintro e w2 ⟨rfl, os2, n2, rfl⟩))
          refine bodyPost_ret (v := .tuple #[chgV ⟨#[]⟩ false nilV, ansV 1 false nilV]) (by simp [results, Try.results66, go_sem]) rfl ⟨⟨#[]⟩, false, none, 0, 0, false, none, 0, 0, rfl, (by repeat (first | with_reducible exact Adds.refl _ | with_reducible refine Adds.alloc ?_ _ | with_reducible refine Adds.more ?_ _ _ | with_reducible refine Adds.drew ?_ | with_reducible refine Adds.drewN ?_ _)), facts_bad (by decide) (by decide)⟩
        · exact absurd ⟨rfl, hm, fun h => Classical.byContradiction fun hn => hq ⟨h, hn⟩⟩ hgood
      · rw [err_bad hm] at kD
        clear hgood kW
        go_enter Try.func66, Try.ntmps66
        go_wp2_with (first
          | (go_at_call 59; refine (kK _).mono ?_; rintro e w1 ⟨rfl, rfl⟩)
          | (go_at_call 50; refine (kD _ (by repeat (first | with_reducible exact Adds.refl _ | with_reducible refine Adds.alloc ?_ _ | with_reducible refine Adds.more ?_ _ _ | with_reducible refine Adds.drew ?_ | with_reducible refine Adds.drewN ?_ _))).mono ?_; rintro e w1 ⟨rfl, os1, n1, rfl⟩)
          | (go_at_call 60; refine (refused_ans _ _).mono ?_; rintro e w2 ⟨rfl, os2, n2, rfl⟩))
        refine bodyPost_ret (v := .tuple #[chgV ⟨#[]⟩ false nilV, ansV 1 false nilV]) (by simp [results, Try.results66, go_sem]) rfl ⟨⟨#[]⟩, false, none, 0, 0, false, none, 0, 0, rfl, (by repeat (first | with_reducible exact Adds.refl _ | with_reducible refine Adds.alloc ?_ _ | with_reducible refine Adds.more ?_ _ _ | with_reducible refine Adds.drew ?_ | with_reducible refine Adds.drewN ?_ _)), facts_bad (by decide) (by decide)⟩

end Go.Proofs.Ytgnhkpihlghbmaa

namespace Go.Proofs.Ytgnhkpihlghbmaa
open Go.RowKit
attribute [local go_sem] cell?_more frozen?_more setCell_more size_more tape_more drew_more drewN_more more_drew more_drewN one_out plus_out plus_end lt_one le_p2 le_p3 le_p4 le_p5 le_p6 le_p7 le_p8 le_p9 le_p10 le_p11 le_p12 le_p13 le_p14 le_p15 le_p16 le_p17 le_p18 le_p19 le_p20 le_p21 le_p22 le_p23 le_p24 le_q0 le_q1 lt_q1 le_q2 lt_q2 le_q3 lt_q3 le_q4 lt_q4 le_q5 lt_q5 le_q6 lt_q6 le_q7 lt_q7 le_q8 lt_q8 le_q9 lt_q9 le_q10 lt_q10 le_q11 lt_q11 le_q12 lt_q12 le_q13 lt_q13 le_q14 lt_q14 le_q15 lt_q15 le_q16 lt_q16 le_q17 lt_q17 le_q18 lt_q18 le_q19 lt_q19 le_q20 lt_q20 le_q21 lt_q21 le_q22 lt_q22 le_q23 lt_q23 le_q24 lt_q24

def turnOk (ds : List Dn) (q : Qs) (dv wv : Value) (w : World) : Prop := ds.length ≤ 500 ∧ Risen ds ∧ (∀ d ∈ ds, d.doc.length ≤ 1000) ∧ Lst w dv q.doc ∧ q.doc.length ≤ 1000 ∧ Lst w wv q.want ∧ q.want.length ≤ 1000

set_option maxRecDepth 20000 in
set_option maxHeartbeats 2000000 in
theorem turn_any (s : Value) (ds : List Dn) (q : Qs) (dv wv lv sv nv : Value) (w : World) (hl : LstD w s ds) (ho : turnOk ds q dv wv w) :
    Calls Try.prog 43 #[s, opV q dv wv lv sv nv] w fun e w' => TurnTold (codeT ds q) ds q w e w' := by
  obtain ⟨hl6, hr, hd6, hd, hq6, hw, hw6⟩ := ho
  have hcode : codeT ds q = if q.kind = 1 then codeP ds q else if q.kind = 2 then codeD ds q else if q.kind = 3 then codeC ds q else 1 := rfl
  have kP := fun W (hA : Adds w W) (hk : ¬ q.kind = 2) => put_turn s ds q dv wv lv sv nv W (hl.adds hA) hl6 hr (hd.adds hA) hq6 hk
  have kR := fun W (hA : Adds w W) (hk : q.kind = 2) => remove_turn s ds q dv wv lv sv nv W (hl.adds hA) hl6 hr hk
  have kS := fun W (hA : Adds w W) (hk : q.kind = 3) => swap_turn s ds q dv wv lv sv nv W (hl.adds hA) hl6 hr hd6 (hd.adds hA) hq6 (hw.adds hA) hw6 hk
  obtain ⟨so, sc, rfl, _, _⟩ := hl
  simp only [opV] at kP kR kS ⊢
  clear hd hw hd6 hr hq6 hw6
  by_cases h1 : q.kind = 1
  · have H2 : ¬ q.kind = 2 := by omega
    rw [if_pos h1] at hcode
    rw [hcode]
    have kP' := fun W hA => kP W hA H2
    rw [h1] at kP' ⊢
    clear kP kR kS hcode h1 H2
    generalize codeP ds q = cp at *
    go_enter Try.func43, Try.ntmps43
    go_wp2_with (go_at_call 64; refine (kP' _ (by repeat (first | with_reducible exact Adds.refl _ | with_reducible refine Adds.alloc ?_ _ | with_reducible refine Adds.more ?_ _ _ | with_reducible refine Adds.drew ?_ | with_reducible refine Adds.drewN ?_ _))).mono ?_; rintro e w4 ⟨ck, ch, co, cn, cc, ah, ao, an, ac, rfl, ⟨os4, n4, rfl⟩, HP⟩)
    refine bodyPost_ret (v := .tuple #[chgV ck ch (.slice co cn cc), ansV cp ah (.slice ao an ac)]) (by simp [results, Try.results43, go_sem]) rfl ⟨ck, ch, co, cn, cc, ah, ao, an, ac, rfl, (by repeat (first | with_reducible exact Adds.refl _ | with_reducible refine Adds.alloc ?_ _ | with_reducible refine Adds.more ?_ _ _ | with_reducible refine Adds.drew ?_ | with_reducible refine Adds.drewN ?_ _)), HP.out.far (by repeat (first | with_reducible exact Far.refl _ _ | with_reducible refine Far.mores ?_ (by simp [go_sem]) _ _ _ | with_reducible refine Far.allocs ?_ (by simp [go_sem]) _ | with_reducible refine Far.low ?_ (by simp [go_sem]) (by first | omega | (simp [go_sem] <;> omega)) _ _ | with_reducible refine Far.more ?_ _ _ | with_reducible refine Far.alloc ?_ _ | with_reducible refine Far.drew ?_ | with_reducible refine Far.drewN ?_ _)) (by simp only [World.size_alloc]; omega)⟩
  rw [if_neg h1] at hcode
  by_cases h2 : q.kind = 2
  · rw [if_pos h2] at hcode
    rw [hcode]
    have kR' := fun W hA => kR W hA h2
    rw [h2] at kR' ⊢
    clear kP kR kS hcode h1 h2
    generalize codeD ds q = cp at *
    go_enter Try.func43, Try.ntmps43
    go_wp2_with (go_at_call 65; refine (kR' _ (by repeat (first | with_reducible exact Adds.refl _ | with_reducible refine Adds.alloc ?_ _ | with_reducible refine Adds.more ?_ _ _ | with_reducible refine Adds.drew ?_ | with_reducible refine Adds.drewN ?_ _))).mono ?_; rintro e w4 ⟨ck, ch, co, cn, cc, ah, ao, an, ac, rfl, ⟨os4, n4, rfl⟩, HP⟩)
    refine bodyPost_ret (v := .tuple #[chgV ck ch (.slice co cn cc), ansV cp ah (.slice ao an ac)]) (by simp [results, Try.results43, go_sem]) rfl ⟨ck, ch, co, cn, cc, ah, ao, an, ac, rfl, (by repeat (first | with_reducible exact Adds.refl _ | with_reducible refine Adds.alloc ?_ _ | with_reducible refine Adds.more ?_ _ _ | with_reducible refine Adds.drew ?_ | with_reducible refine Adds.drewN ?_ _)), HP.out.far (by repeat (first | with_reducible exact Far.refl _ _ | with_reducible refine Far.mores ?_ (by simp [go_sem]) _ _ _ | with_reducible refine Far.allocs ?_ (by simp [go_sem]) _ | with_reducible refine Far.low ?_ (by simp [go_sem]) (by first | omega | (simp [go_sem] <;> omega)) _ _ | with_reducible refine Far.more ?_ _ _ | with_reducible refine Far.alloc ?_ _ | with_reducible refine Far.drew ?_ | with_reducible refine Far.drewN ?_ _)) (by simp only [World.size_alloc]; omega)⟩
  rw [if_neg h2] at hcode
  by_cases h3 : q.kind = 3
  · rw [if_pos h3] at hcode
    rw [hcode]
    have kS' := fun W hA => kS W hA h3
    rw [h3] at kS' ⊢
    clear kP kR kS hcode h1 h2 h3
    generalize codeC ds q = cp at *
    go_enter Try.func43, Try.ntmps43
    go_wp2_with (go_at_call 66; refine (kS' _ (by repeat (first | with_reducible exact Adds.refl _ | with_reducible refine Adds.alloc ?_ _ | with_reducible refine Adds.more ?_ _ _ | with_reducible refine Adds.drew ?_ | with_reducible refine Adds.drewN ?_ _))).mono ?_; rintro e w4 ⟨ck, ch, co, cn, cc, ah, ao, an, ac, rfl, ⟨os4, n4, rfl⟩, HP⟩)
    refine bodyPost_ret (v := .tuple #[chgV ck ch (.slice co cn cc), ansV cp ah (.slice ao an ac)]) (by simp [results, Try.results43, go_sem]) rfl ⟨ck, ch, co, cn, cc, ah, ao, an, ac, rfl, (by repeat (first | with_reducible exact Adds.refl _ | with_reducible refine Adds.alloc ?_ _ | with_reducible refine Adds.more ?_ _ _ | with_reducible refine Adds.drew ?_ | with_reducible refine Adds.drewN ?_ _)), HP.out.far (by repeat (first | with_reducible exact Far.refl _ _ | with_reducible refine Far.mores ?_ (by simp [go_sem]) _ _ _ | with_reducible refine Far.allocs ?_ (by simp [go_sem]) _ | with_reducible refine Far.low ?_ (by simp [go_sem]) (by first | omega | (simp [go_sem] <;> omega)) _ _ | with_reducible refine Far.more ?_ _ _ | with_reducible refine Far.alloc ?_ _ | with_reducible refine Far.drew ?_ | with_reducible refine Far.drewN ?_ _)) (by simp only [World.size_alloc]; omega)⟩
  · rw [if_neg h3] at hcode
    rw [hcode]
    clear kP kR kS hcode
    have b1 : (q.kind == 1) = false := by simpa using h1
    have b2 : (q.kind == 2) = false := by simpa using h2
    have b3 : (q.kind == 3) = false := by simpa using h3
    go_enter Try.func43, Try.ntmps43
    go_wp2_with (go_at_call 60; refine (refused_ans _ _).mono ?_; rintro e w2 ⟨rfl, os2, n2, rfl⟩)
    refine bodyPost_ret (v := .tuple #[chgV ⟨#[]⟩ false nilV, ansV 1 false nilV]) (by simp [results, Try.results43, go_sem]) rfl ⟨⟨#[]⟩, false, none, 0, 0, false, none, 0, 0, rfl, (by repeat (first | with_reducible exact Adds.refl _ | with_reducible refine Adds.alloc ?_ _ | with_reducible refine Adds.more ?_ _ _ | with_reducible refine Adds.drew ?_ | with_reducible refine Adds.drewN ?_ _)), facts_bad (by decide) (by decide)⟩

end Go.Proofs.Ytgnhkpihlghbmaa
