/-
  The function Build of package index, by a contract.
-/
import Derived.Test.YtiacnmcdfpmcfaaGreatDoorT34
import Derived.Test.YtiacnmcdfpmcfaaGreatDoorT14
import Derived.Test.YtiacnmcdfpmcfaaGreatDoorT35
namespace Go.Proofs.YtiacnmcdfpmcfaaGreatDoor
open Go.RowKit
attribute [local go_sem] cell?_more frozen?_more setCell_more size_more tape_more drew_more drewN_more more_drew more_drewN one_out plus_out plus_end lt_one le_p2 le_p3 le_p4 le_p5 le_p6 le_p7 le_p8 le_p9 le_p10 le_p11 le_p12 le_p13 le_p14 le_p15 le_p16 le_p17 le_p18 le_p19 le_p20 le_p21 le_p22 le_p23 le_p24 le_q0 le_q1 lt_q1 le_q2 lt_q2 le_q3 lt_q3 le_q4 lt_q4 le_q5 lt_q5 le_q6 lt_q6 le_q7 lt_q7 le_q8 lt_q8 le_q9 lt_q9 le_q10 lt_q10 le_q11 lt_q11 le_q12 lt_q12 le_q13 lt_q13 le_q14 lt_q14 le_q15 lt_q15 le_q16 lt_q16 le_q17 lt_q17 le_q18 lt_q18 le_q19 lt_q19 le_q20 lt_q20 le_q21 lt_q21 le_q22 lt_q22 le_q23 lt_q23 le_q24 lt_q24


/-- The entries of documents, in the documents' order. -/
noncomputable def ents (xs : List E) (ds : List Dn) : List Sh.F := ds.filterMap fun d => entryOf xs d.key d.doc

theorem ents_next {xs : List E} {ds : List Dn} {k : Nat} (hk : k < ds.length) : ents xs (ds.take (k + 1)) = ents xs (ds.take k) ++ (entryOf xs ds[k].key ds[k].doc).toList := by
  unfold ents
  rw [List.take_succ_eq_append_getElem hk, List.filterMap_append]
  congr 1

theorem ents_le (xs : List E) (ds : List Dn) (k : Nat) : (ents xs (ds.take k)).length ≤ ds.length := by
  unfold ents
  exact Nat.le_trans (List.length_filterMap_le _ _) (by rw [List.length_take]; omega)

def GaveB (R : Except Int (List Sh.F)) (e : Ending) (w' : World) : Prop :=
  match R with
  | .error c => e = .returned (.tuple #[.slice none 0 0, .int .i64 c])
  | .ok l => ∃ v, e = .returned (.tuple #[v, .int .i64 0]) ∧ Sh.Lst w' v l

set_option maxHeartbeats 4000000 in
set_option maxRecDepth 20000 in
theorem build_ok (s : ByteArray) (dv : Value) (ds : List Dn) (w : World) (hs : s.size ≤ 2000) (h : LstD w dv ds) (hl6 : ds.length ≤ 200) (xs : List E) (hx : parseA s.toList = .ok xs) (hM : MayD ds) :
    Calls Tryz.prog 57 #[.string s, dv] w fun e w' => (∃ v, e = .returned (.tuple #[v, .int .i64 0]) ∧ Sh.Lst w' v (Sh.sortE (ents xs ds))) ∧ Adds w w' := by
  have kP := fun w' => parseAll_any s hs w'
  rw [hx] at kP
  simp only [GaveR] at kP
  have kD := fun w' hA => docs_any dv ds w' (h.adds hA) (by omega)
  rw [err_ok hM] at kD
  obtain ⟨ao, cap, rfl, hcap, hlo⟩ := h
  have hlen := Sh.sortE_length (ents xs ds)
  clear hx hM
  go_enter Tryz.func57, Tryz.ntmps57
  go_wp2_with (first
    | (go_at_call 28; refine (kP _).mono ?_; rintro e w1 ⟨⟨no, nc, D, rfl, hT, hok⟩, hA1⟩; have HA1 : Hid (Adds w w1) := hA1; clear hA1)
    | (go_at_call 76; refine (kD _ HA1.out).mono ?_; rintro e w2 ⟨rfl, hA2⟩; have HA2 : Hid (Adds w1 w2) := hA2; clear hA2))
  have HT : Hid (Adds w w2) := HA1.out.trans HA2.out
  go_loopw [9, 29] (fun nv i wr => ∃ j : Nat, j ≤ ds.length ∧ i = .int .i64 j ∧ Sh.Own w2.heap.size nv (ents xs (ds.take j)) w2 wr) (fun _ i _ => ds.length - (intOf i).toNat)
  case atStart => exact ⟨0, Nat.zero_le _, rfl, by simpa [ents] using Sh.Own.nil _ w2 (Nat.le_refl _)⟩
  case round =>
    obtain ⟨j, hj, rfl, hown⟩ := hrel
    have hAr : Adds w2 wr := Adds.of hown.2.1
    by_cases hlt : j < ds.length
    · rcases hlo with rfl | ⟨b, off, rfl, hbb, hl⟩
      · simp at hlt
      obtain ⟨v, c0, c1, hdoc⟩ := hl.adds (HT.out.trans hAr) hbb j hlt
      have hbl : b < wr.heap.size := Nat.lt_of_lt_of_le hbb (HT.out.trans hAr).below.size
      have hE := fun w' hA => entry_any xs no nc ds[j].key v ds[j].doc w' (hT.adds ((HA2.out.trans hAr).trans hA)) hok (hdoc.adds hA)
      have HJ : Hid _ := ents_next (xs := xs) hlt
      have hle := ents_le xs ds j
      have hlt' : (j : Int) < (ds.length : Int) := by omega
      obtain ⟨vo, vc, rfl, _, _⟩ := hdoc
      cases ho : entryOf xs ds[j].key ds[j].doc with
      | none =>
        rw [ho] at hE HJ
        simp only [GaveE] at hE
        simp only [Option.toList, List.append_nil] at HJ
        clear ho
        generalize ds[j].key = ky at *
        generalize ds[j].doc.length = nd at *
        generalize ents xs (ds.take j) = A at *
        generalize xs.length = nx at *
        go_wp2_with (go_at_call 77; refine (hE _ (by repeat (first | with_reducible exact Adds.refl _ | with_reducible refine Adds.alloc ?_ _ | with_reducible refine Adds.more ?_ _ _ | with_reducible refine Adds.drew ?_ | with_reducible refine Adds.drewN ?_ _))).mono ?_; rintro e w5 ⟨rfl, os5, n5, rfl⟩)
        go_roundw
        case rel => exact ⟨j + 1, by omega, by go_num, by rw [HJ.out]; exact hown.adds (by repeat (first | with_reducible exact Adds.refl _ | with_reducible refine Adds.alloc ?_ _ | with_reducible refine Adds.more ?_ _ _ | with_reducible refine Adds.drew ?_ | with_reducible refine Adds.drewN ?_ _))⟩
        case measure => simp [intOf]; omega
      | some f =>
        rw [ho] at hE HJ
        simp only [GaveE] at hE
        simp only [Option.toList] at HJ
        clear ho
        generalize ds[j].key = ky at *
        generalize ds[j].doc.length = nd at *
        generalize ents xs (ds.take j) = A at *
        generalize xs.length = nx at *
        go_wp2_with (first
          | (go_at_call 77; refine (hE _ (by repeat (first | with_reducible exact Adds.refl _ | with_reducible refine Adds.alloc ?_ _ | with_reducible refine Adds.more ?_ _ _ | with_reducible refine Adds.drew ?_ | with_reducible refine Adds.drewN ?_ _))).mono ?_; rintro e w5 ⟨rfl, os5, n5, rfl⟩)
          | (at_builtin; refine Sh.own_app rfl (.tmp 43) (.tmp 45) rfl ((hown.adds (by repeat (first | with_reducible exact Adds.refl _ | with_reducible refine Adds.alloc ?_ _ | with_reducible refine Adds.more ?_ _ _ | with_reducible refine Adds.drew ?_ | with_reducible refine Adds.drewN ?_ _))).alloc _) rfl (Sh.lst_new (f := f) (by simp [go_sem])) rfl (by simp only [List.length_singleton]; omega) ?_; intro v2 w6 hown2))
        go_roundw
        case rel => exact ⟨j + 1, by omega, by go_num, by rw [HJ.out]; exact hown2⟩
        case measure => simp [intOf]; omega
    · have hj' : j = ds.length := by omega
      subst hj'
      rw [List.take_length] at hown
      have hle := ents_le xs ds ds.length
      rw [List.take_length] at hle
      have kS := Sh.sort_any hown (by omega)
      go_wp2_with (go_at_call 78; refine kS.mono ?_; rintro e w7 ⟨rfl, hL7, hB7, hs7⟩)
      go_ret2
      exact ⟨⟨_, rfl, hL7⟩, HT.out.trans (Adds.of hB7)⟩


end Go.Proofs.YtiacnmcdfpmcfaaGreatDoor
