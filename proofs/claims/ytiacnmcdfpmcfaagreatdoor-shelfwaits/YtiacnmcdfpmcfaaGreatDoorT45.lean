/-
  The reference's Docs, by contract.
  The reference's Build, by contract.
  The reference's Build, by contract.
-/
import Derived.Test.YtiacnmcdfpmcfaaGreatDoorT34
import Derived.Test.YtiacnmcdfpmcfaaGreatDoorT13
import Derived.Test.YtiacnmcdfpmcfaaGreatDoorT44
import Derived.Test.YtiacnmcdfpmcfaaGreatDoorT40
import Derived.StillTailTactics
namespace Go.Proofs.YtiacnmcdfpmcfaaGreatDoor
open Go.RowKit
attribute [local go_sem] cell?_more frozen?_more setCell_more size_more tape_more drew_more drewN_more more_drew more_drewN one_out plus_out plus_end lt_one le_p2 le_p3 le_p4 le_p5 le_p6 le_p7 le_p8 le_p9 le_p10 le_p11 le_p12 le_p13 le_p14 le_p15 le_p16 le_p17 le_p18 le_p19 le_p20 le_p21 le_p22 le_p23 le_p24 le_q0 le_q1 lt_q1 le_q2 lt_q2 le_q3 lt_q3 le_q4 lt_q4 le_q5 lt_q5 le_q6 lt_q6 le_q7 lt_q7 le_q8 lt_q8 le_q9 lt_q9 le_q10 lt_q10 le_q11 lt_q11 le_q12 lt_q12 le_q13 lt_q13 le_q14 lt_q14 le_q15 lt_q15 le_q16 lt_q16 le_q17 lt_q17 le_q18 lt_q18 le_q19 lt_q19 le_q20 lt_q20 le_q21 lt_q21 le_q22 lt_q22 le_q23 lt_q23 le_q24 lt_q24

attribute [local go_sem] cell?_addTo

set_option maxHeartbeats 4000000 in
set_option maxRecDepth 20000 in
theorem refDocs_any (s : Value) (ds : List Dn) (w : World) (h : LstD w s ds) (hl6 : ds.length ≤ 1000) (hd6 : ∀ d ∈ ds, d.doc.length ≤ 1000) :
    Calls Tryz.prog 35 #[s] w fun e w' => e = .returned (.bool (decide (MayD ds))) ∧ Adds w w' := by
  obtain ⟨ao, cap, rfl, hcap, hlo⟩ := h
  go_enter Tryz.func35, Tryz.ntmps35
  go_wp2
  go_loopw [3] (fun i wr => ∃ k : Nat, k ≤ ds.length ∧ i = .int .i64 k ∧ (∀ j (hj : j < ds.length), j < k → GoodD ds j hj) ∧ Adds w wr) (fun i _ => ds.length - (intOf i).toNat)
  case atStart => exact ⟨0, Nat.zero_le _, rfl, fun j _ hj => absurd hj (by omega), Adds.refl _⟩
  case round =>
    obtain ⟨k, hk, rfl, hgood, hA⟩ := hrel
    have HG : Hid (∀ j (hj : j < ds.length), j < k → GoodD ds j hj) := hgood
    have HA : Hid (Adds w wr) := hA
    clear hgood hA
    by_cases hlt : k < ds.length
    · rcases hlo with rfl | ⟨b, off, rfl, hb, hl⟩
      · simp at hlt
      have hlr := hl.adds HA.out hb
      obtain ⟨v, c0, c1, hdoc⟩ := hlr k hlt
      have hbl : b < wr.heap.size := Nat.lt_of_lt_of_le hb HA.out.below.size
      have hM := fun W' (hA : Adds wr W') => refMay_any v ds[k].doc W' (hdoc.adds hA) (hd6 _ (List.getElem_mem hlt))
      have hM' := fun (p : Plus) => Calls.adds_of (hM (addTo wr p) ⟨p.os, p.draws, rfl⟩)
      obtain ⟨vo, vc, rfl, _, _⟩ := hdoc
      clear hM
      have hlt' : (k : Int) < (ds.length : Int) := by omega
      have hor : ((ds[k].key.size : Int) < 1 ∧ ¬ isKey ds[k].key = true) ∨ (decide ((ds[k].key.size : Int) < 1) = false ∧ decide ((64 : Int) < (ds[k].key.size : Int)) = true ∧ ¬ isKey ds[k].key = true) ∨ (decide ((ds[k].key.size : Int) < 1) = false ∧ decide ((64 : Int) < (ds[k].key.size : Int)) = false ∧ isKey ds[k].key = true) := by
        unfold isKey
        rw [decide_eq_true_eq, decide_eq_false_iff_not, decide_eq_true_eq, decide_eq_false_iff_not]
        omega
      rcases hor with ⟨hk1, hn⟩ | ⟨hk1, hk2, hn⟩ | ⟨hk1, hk2, hy⟩
      · have HB : Hid (¬ GoodD ds k hlt) := fun h => hn h.1
        clear hn hM' hlr
        generalize ds[k].key = ky at *
        generalize ds[k].doc.length = nd at *
        go_wp2
        refine wp_region_adds (by kernel_rfl) (by kernel_rfl) ?_
        repeat (go_big_quiet_step (fail))
        refine wpQuiet_nil ?_
        rintro _ ⟨pl, rfl⟩
        unfold addTo
        go_wp2
        go_ret
        exact ⟨by rw [decide_eq_false (mayD_bad (h := hlt) HB.out)]; rfl, HA.out.trans (by repeat (first | with_reducible exact Adds.refl _ | with_reducible refine Adds.alloc ?_ _ | with_reducible refine Adds.more ?_ _ _ | with_reducible refine Adds.drew ?_ | with_reducible refine Adds.drewN ?_ _))⟩
      · have HB : Hid (¬ GoodD ds k hlt) := fun h => hn h.1
        clear hn hM' hlr
        generalize ds[k].key = ky at *
        generalize ds[k].doc.length = nd at *
        go_wp2
        refine wp_region_adds (by kernel_rfl) (by kernel_rfl) ?_
        repeat (go_big_quiet_step (fail))
        refine wpQuiet_nil ?_
        rintro _ ⟨pl, rfl⟩
        unfold addTo
        go_wp2
        go_ret
        exact ⟨by rw [decide_eq_false (mayD_bad (h := hlt) HB.out)]; rfl, HA.out.trans (by repeat (first | with_reducible exact Adds.refl _ | with_reducible refine Adds.alloc ?_ _ | with_reducible refine Adds.more ?_ _ _ | with_reducible refine Adds.drew ?_ | with_reducible refine Adds.drewN ?_ _))⟩
      · by_cases hD : May ds[k].doc
        rotate_left
        · have HB : Hid (¬ GoodD ds k hlt) := fun h => hD h.2.1
          rw [decide_eq_false hD] at hM'
          clear hD hlr hy
          generalize ds[k].key = ky at *
          generalize ds[k].doc.length = nd at *
          go_wp2
          refine wp_region_adds (by kernel_rfl) (by kernel_rfl) ?_
          repeat (go_big_quiet_step ((go_at_call 20; exact hM' _)))
          refine wpQuiet_nil ?_
          rintro _ ⟨pl, rfl⟩
          unfold addTo
          go_wp2
          go_ret
          exact ⟨by rw [decide_eq_false (mayD_bad (h := hlt) HB.out)]; rfl, HA.out.trans (by repeat (first | with_reducible exact Adds.refl _ | with_reducible refine Adds.alloc ?_ _ | with_reducible refine Adds.more ?_ _ _ | with_reducible refine Adds.drew ?_ | with_reducible refine Adds.drewN ?_ _))⟩
        · rw [decide_eq_true hD] at hM'
          cases k with
          | zero =>
            have HN : Hid (∀ j (hj : j < ds.length), j < 1 → GoodD ds j hj) := fun j hj h1 => by
              have : j = 0 := by omega
              subst this
              exact ⟨hy, hD, fun h => absurd h (by omega)⟩
            clear hD hlr hy HG
            simp only [Nat.zero_mul, Nat.add_zero] at c0 c1
            generalize ds[0].key = ky at *
            generalize ds[0].doc.length = nd at *
            go_wp2
            refine wp_region_adds (by kernel_rfl) (by kernel_rfl) ?_
            repeat (go_big_quiet_step ((go_at_call 20; exact hM' _)))
            refine wpQuiet_nil ?_
            rintro _ ⟨pl, rfl⟩
            unfold addTo
            go_wp2
            go_roundw
            case rel => exact ⟨0 + 1, by omega, by go_num, HN.out, HA.out.trans (by repeat (first | with_reducible exact Adds.refl _ | with_reducible refine Adds.alloc ?_ _ | with_reducible refine Adds.more ?_ _ _ | with_reducible refine Adds.drew ?_ | with_reducible refine Adds.drewN ?_ _))⟩
            case measure => simp [intOf]; omega
          | succ m =>
            obtain ⟨v2, d0, _, _⟩ := hlr m (by omega)
            obtain ⟨q, hq⟩ : ∃ q, Op.bytesLess ds[m].key.toList ds[m + 1].key.toList = q := ⟨_, rfl⟩
            have hml : m < ds.length := by omega
            have hw1 : IntKind.i64.wrap (m : Int) = m := by rw [IntKind.wrap_i64]; omega
            have hp1 : (0 : Int) < (m : Int) + 1 := by omega
            have HN : Hid (q = true → ∀ j (hj : j < ds.length), j < m + 1 + 1 → GoodD ds j hj) := fun hq' j hj h1 => by
              by_cases e : j = m + 1
              · subst e
                exact ⟨hy, hD, fun _ => by show lessP _ _ = true; rw [← hq', ← hq]; rfl⟩
              · exact HG.out j hj (by omega)
            have HB : Hid (q = false → ¬ GoodD ds (m + 1) hlt) := fun hq' h => by
              have h3 := h.2.2 (by omega)
              have e : lessP ds[m].key ds[m + 1].key = false := hq.trans hq'
              simp only [Nat.add_sub_cancel] at h3
              rw [e] at h3
              cases h3
            clear hD hlr hy HG
            generalize ds[m + 1].key = ky at *
            generalize ds[m].key = kp at *
            generalize ds[m + 1].doc.length = nd at *
            cases q
            · go_wp2
              refine wp_region_adds (by kernel_rfl) (by kernel_rfl) ?_
              repeat (go_big_quiet_step ((go_at_call 20; exact hM' _)))
              refine wpQuiet_nil ?_
              rintro _ ⟨pl, rfl⟩
              unfold addTo
              go_wp2
              go_ret
              exact ⟨by rw [decide_eq_false (mayD_bad (h := hlt) (HB.out (by trivial)))]; rfl, HA.out.trans (by repeat (first | with_reducible exact Adds.refl _ | with_reducible refine Adds.alloc ?_ _ | with_reducible refine Adds.more ?_ _ _ | with_reducible refine Adds.drew ?_ | with_reducible refine Adds.drewN ?_ _))⟩
            · go_wp2
              refine wp_region_adds (by kernel_rfl) (by kernel_rfl) ?_
              repeat (go_big_quiet_step ((go_at_call 20; exact hM' _)))
              refine wpQuiet_nil ?_
              rintro _ ⟨pl, rfl⟩
              unfold addTo
              go_wp2
              go_roundw
              case rel => exact ⟨(m + 1) + 1, by omega, by go_num, HN.out (by trivial), HA.out.trans (by repeat (first | with_reducible exact Adds.refl _ | with_reducible refine Adds.alloc ?_ _ | with_reducible refine Adds.more ?_ _ _ | with_reducible refine Adds.drew ?_ | with_reducible refine Adds.drewN ?_ _))⟩
              case measure => simp [intOf]; omega
    · have hlt' : ¬ (k : Int) < (ds.length : Int) := by omega
      go_wp2
      go_ret
      exact ⟨by rw [decide_eq_true (show MayD ds from fun j hj => HG.out j hj (by omega))]; rfl, HA.out⟩

attribute [local go_sem] cell?_addTo

/-- Entries of documents, put one behind the other. -/
noncomputable def putAll (xs : List E) : List Sh.F → List Dn → List Sh.F
  | l, [] => l
  | l, d :: r => putAll xs (withE xs l d.key d.doc) r

theorem withE_mem {xs : List E} {l : List Sh.F} {key : ByteArray} {doc : List F} {g : Sh.F} : g ∈ withE xs l key doc ↔ g ∈ l ∨ entryOf xs key doc = some g := by
  unfold withE
  cases h : entryOf xs key doc with
  | none => simp
  | some f =>
    simp only [putE_mem]
    constructor
    · rintro (rfl | h)
      · exact .inr rfl
      · exact .inl h
    · rintro (h | h)
      · exact .inr h
      · exact .inl (Option.some.inj h).symm

theorem withE_length (xs : List E) (l : List Sh.F) (key : ByteArray) (doc : List F) : (withE xs l key doc).length ≤ l.length + 1 := by
  unfold withE
  cases entryOf xs key doc with
  | none => simp
  | some f =>
    simp only [putE, List.length_append, List.length_cons, List.length_take, List.length_drop]
    omega

theorem putAll_mem {xs : List E} {g : Sh.F} : ∀ {ds : List Dn} {l : List Sh.F}, g ∈ putAll xs l ds ↔ g ∈ l ∨ ∃ d ∈ ds, entryOf xs d.key d.doc = some g
  | [], l => by simp [putAll]
  | d :: r, l => by
    unfold putAll
    rw [putAll_mem, withE_mem]
    constructor
    · rintro ((h | h) | ⟨e, he, h⟩)
      · exact .inl h
      · exact .inr ⟨d, by simp, h⟩
      · exact .inr ⟨e, List.mem_cons_of_mem _ he, h⟩
    · rintro (h | ⟨e, he, h⟩)
      · exact .inl (.inl h)
      · rcases List.mem_cons.1 he with rfl | he
        · exact .inl (.inr h)
        · exact .inr ⟨e, he, h⟩

theorem putAll_climbs {xs : List E} : ∀ {ds : List Dn} {l : List Sh.F}, Risen ds → l.Pairwise (fun a b => Sh.lessE a b = true) → (∀ g ∈ l, ∀ d ∈ ds, g.val ≠ d.key) → (putAll xs l ds).Pairwise (fun a b => Sh.lessE a b = true)
  | [], l, _, h, _ => h
  | d :: r, l, hr, h, hv => by
    unfold putAll
    have hr' := List.pairwise_cons.1 hr
    refine putAll_climbs hr'.2 ?_ ?_
    · unfold withE
      cases he : entryOf xs d.key d.doc with
      | none => exact h
      | some f => exact putE_climbs h (fun hf => hv f hf d (by simp) (entryOf_val he))
    · intro g hg e he
      rcases withE_mem.1 hg with hg | hg
      · exact hv g hg e (List.mem_cons_of_mem _ he)
      · rw [entryOf_val hg]
        intro ek
        have := hr'.1 e he
        rw [ek, lessP_irr rfl] at this
        cases this

theorem putAll_build {xs : List E} {ds : List Dn} (h : MayD ds) : putAll xs [] ds = Sh.sortE (ents xs ds) := by
  refine climb_ext (putAll_climbs (mayD_iff.1 h).2 List.Pairwise.nil (fun g hg => by cases hg)) (build_climbs h) (fun g => ?_)
  rw [putAll_mem, sortE_mem, ents_mem]
  simp

theorem putAll_next {xs : List E} : ∀ {ds : List Dn} {l : List Sh.F} {j : Nat} (hj : j < ds.length), putAll xs l (ds.take (j + 1)) = withE xs (putAll xs l (ds.take j)) ds[j].key ds[j].doc
  | d :: r, l, 0, _ => by simp [putAll]
  | d :: r, l, j + 1, hj => by
    simp only [List.take_succ_cons, putAll, List.getElem_cons_succ]
    exact putAll_next (by simpa using hj)

theorem putAll_length (xs : List E) : ∀ (ds : List Dn) (l : List Sh.F), (putAll xs l ds).length ≤ l.length + ds.length
  | [], l => by simp [putAll]
  | d :: r, l => by
    have h1 := putAll_length xs r (withE xs l d.key d.doc)
    have h2 := withE_length xs l d.key d.doc
    unfold putAll
    simp only [List.length_cons]
    omega

set_option maxHeartbeats 4000000 in
set_option maxRecDepth 20000 in
theorem rBuild_ok (s : ByteArray) (dv : Value) (ds : List Dn) (w : World) (hs : s.size ≤ 2000) (h : LstD w dv ds) (hl6 : ds.length ≤ 200) (hd6 : ∀ d ∈ ds, d.doc.length ≤ 1000) (xs : List E) (hx : parseA s.toList = .ok xs) (hM : MayD ds) :
    Calls Tryz.prog 23 #[.string s, dv] w fun e w' => (∃ v, e = .returned (.tuple #[v, .int .i64 0]) ∧ Sh.Lst w' v (Sh.sortE (ents xs ds))) ∧ Adds w w' := by
  have kP := fun w' => rParseAll_any s hs w'
  rw [hx] at kP
  simp only [GaveR] at kP
  have HX4 : Hid (xs.length ≤ 4) := parseA_len hx
  have kD := fun w' hA => refDocs_any dv ds w' (h.adds hA) (by omega) hd6
  rw [decide_eq_true hM] at kD
  have HB : Hid (putAll xs [] ds = Sh.sortE (ents xs ds)) := putAll_build hM
  have HD6 : Hid (∀ d ∈ ds, d.doc.length ≤ 1000) := hd6
  obtain ⟨ao, cap, rfl, hcap, hlo⟩ := h
  clear hx hM hd6
  go_enter Tryz.func23, Tryz.ntmps23
  go_wp2_with (first
    | (go_at_call 18; refine (kP _).mono ?_; rintro e w1 ⟨⟨no, nc, D, rfl, hT, hok⟩, os1, n1, rfl⟩; have HT : Hid (Tn (fun _ => True) D _ _ _) := hT; have HK : Hid (∀ x ∈ xs, x.ok ∧ ∀ d, cntN d [x.toN] ≤ 256) := hok; clear hT hok)
    | (go_at_call 35; refine (kD _ (by repeat (first | with_reducible exact Adds.refl _ | with_reducible refine Adds.alloc ?_ _ | with_reducible refine Adds.more ?_ _ _ | with_reducible refine Adds.drew ?_ | with_reducible refine Adds.drewN ?_ _))).mono ?_; rintro e w2 ⟨rfl, os2, n2, rfl⟩))
  obtain ⟨W, hW⟩ : ∃ W, W = (more (more w os1 n1) os2 n2).alloc (.cells #[] 70) := ⟨_, rfl⟩
  have hWA : Adds w W := by rw [hW]; exact (by repeat (first | with_reducible exact Adds.refl _ | with_reducible refine Adds.alloc ?_ _ | with_reducible refine Adds.more ?_ _ _ | with_reducible refine Adds.drew ?_ | with_reducible refine Adds.drewN ?_ _))
  have HT2 : Hid (Tn (fun _ => True) D W (.slice no xs.length nc) (xs.map E.toN)) := by
    rw [hW]
    exact HT.out.adds (by repeat (first | with_reducible exact Adds.refl _ | with_reducible refine Adds.alloc ?_ _ | with_reducible refine Adds.more ?_ _ _ | with_reducible refine Adds.drew ?_ | with_reducible refine Adds.drewN ?_ _))
  have HWA : Hid (Adds w W) := hWA
  rw [← hW]
  clear hW HT hWA kP kD
  go_loopw [8, 9] (fun nv i wr => ∃ j : Nat, j ≤ ds.length ∧ i = .int .i64 j ∧ Hid (Sh.Lst wr nv (putAll xs [] (ds.take j))) ∧ Hid (Adds W wr)) (fun _ i _ => ds.length - (intOf i).toNat)
  case atStart => exact ⟨0, Nat.zero_le _, rfl, Sh.Lst.empty _ _ _ _ _ rfl rfl, Adds.refl _⟩
  case round =>
    obtain ⟨j, hj, rfl, HL, HA⟩ := hrel
    by_cases hlt : j < ds.length
    · rcases hlo with rfl | ⟨b, off, rfl, hb, hl⟩
      · simp at hlt
      obtain ⟨v, c0, c1, hdoc⟩ := hl.adds (HWA.out.trans HA.out) hb j hlt
      have hbl : b < wr.heap.size := Nat.lt_of_lt_of_le hb (HWA.out.trans HA.out).below.size
      have hlt' : (j : Int) < (ds.length : Int) := by omega
      have hpl := putAll_length xs (ds.take j) []
      rw [List.length_take, List.length_nil] at hpl
      have kW := fun W' (hA : Adds wr W') => with_any _ _ xs HX4.out no nc ds[j].key v ds[j].doc W' (Sh.Lst.adds HL.out hA) (by omega) (HT2.out.adds (HA.out.trans hA)) HK.out (hdoc.adds hA) (HD6.out _ (List.getElem_mem hlt))
      rw [← putAll_next hlt] at kW
      obtain ⟨vo, vc, rfl, _, _⟩ := hdoc
      obtain ⟨uo, uc, rfl⟩ := Sh.Lst.slice HL.out
      clear hpl
      generalize ds[j].key = ky at *
      generalize ds[j].doc.length = nd at *
      generalize (putAll xs [] (ds.take j)).length = np at *
      go_wp2
      refine wp_region_still_tail 12 (by kernel_rfl) (by kernel_rfl) ?_
      simp only [List.take_succ_cons, List.take_zero, List.drop_succ_cons, List.drop_zero]
      change wpStill _ _ (World.drew _) (fun a' => wpList _ _ _ _ a' (World.drew _)) _ _
      repeat still_step
      refine wpStill_nil ?_
      go_wp2_with (go_at_call 42; refine (kW _ (by repeat (first | with_reducible exact Adds.refl _ | with_reducible refine Adds.alloc ?_ _ | with_reducible refine Adds.more ?_ _ _ | with_reducible refine Adds.drew ?_ | with_reducible refine Adds.drewN ?_ _))).mono ?_; rintro e w5 ⟨⟨v5, rfl, hL5⟩, os5, n5, rfl⟩)
      go_roundw
      case rel => exact ⟨j + 1, by omega, by go_num, hL5, HA.out.trans (by repeat (first | with_reducible exact Adds.refl _ | with_reducible refine Adds.alloc ?_ _ | with_reducible refine Adds.more ?_ _ _ | with_reducible refine Adds.drew ?_ | with_reducible refine Adds.drewN ?_ _))⟩
      case measure => simp [intOf]; omega
    · have hlt' : ¬ (j : Int) < (ds.length : Int) := by omega
      have hj' : j = ds.length := by omega
      subst hj'
      rw [List.take_length, HB.out] at HL
      go_wp2
      go_ret2
      exact ⟨⟨_, rfl, HL.out⟩, HWA.out.trans HA.out⟩

end Go.Proofs.YtiacnmcdfpmcfaaGreatDoor
