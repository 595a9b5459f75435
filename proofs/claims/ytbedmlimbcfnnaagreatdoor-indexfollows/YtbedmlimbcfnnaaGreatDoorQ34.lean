/-
  ParseAll of package expr, by a contract.
  The function Build of package index, by a contract.
-/
import Derived.Test.YtbedmlimbcfnnaaGreatDoorQ29
import Derived.Test.YtbedmlimbcfnnaaGreatDoorQ33
import Derived.Test.YtbedmlimbcfnnaaGreatDoorQ14
namespace Go.Proofs.YtbedmlimbcfnnaaGreatDoor
open Go.RowKit
attribute [local go_sem] cell?_more frozen?_more setCell_more size_more tape_more drew_more drewN_more more_drew more_drewN one_out plus_out plus_end lt_one le_p2 le_p3 le_p4 le_p5 le_p6 le_p7 le_p8 le_p9 le_p10 le_p11 le_p12 le_p13 le_p14 le_p15 le_p16 le_p17 le_p18 le_p19 le_p20 le_p21 le_p22 le_p23 le_p24 le_q0 le_q1 lt_q1 le_q2 lt_q2 le_q3 lt_q3 le_q4 lt_q4 le_q5 lt_q5 le_q6 lt_q6 le_q7 lt_q7 le_q8 lt_q8 le_q9 lt_q9 le_q10 lt_q10 le_q11 lt_q11 le_q12 lt_q12 le_q13 lt_q13 le_q14 lt_q14 le_q15 lt_q15 le_q16 lt_q16 le_q17 lt_q17 le_q18 lt_q18 le_q19 lt_q19 le_q20 lt_q20 le_q21 lt_q21 le_q22 lt_q22 le_q23 lt_q23 le_q24 lt_q24


set_option maxHeartbeats 2000000 in
theorem parseAll_many (s : ByteArray) (h4 : 4 < (spl s.toList).length) (w : World) : Calls Tryz.prog 23 #[.string s] w fun e w' => e = .returned (.tuple #[.slice none 0 0, .int .i64 5]) ∧ Adds w w' := by
  have kC := count_any s
  have hc : (4 : Int) ≤ ((s.toList.count 44 : Nat) : Int) := by rw [spl_len] at h4; omega
  clear h4
  generalize s.toList.count 44 = cn at *
  go_enter Tryz.func23, Tryz.ntmps23
  go_wp2_with (go_at_call 39; refine (kC _).mono ?_; rintro e w1 ⟨rfl, hw⟩; subst w1)
  exact bodyPost_ret (v := .tuple #[.slice none 0 0, .int .i64 5]) (by simp [results, Tryz.results23, go_sem]) rfl ⟨rfl, by repeat (first | with_reducible exact Adds.refl _ | with_reducible refine Adds.alloc ?_ _ | with_reducible refine Adds.more ?_ _ _ | with_reducible refine Adds.drew ?_ | with_reducible refine Adds.drewN ?_ _)⟩

theorem piece_cell {w : World} {ls : List (List UInt8)} {j : Nat} (hj : j < ls.length) : (w.alloc (.cells (ls.map (fun l => Value.string (toB l))).toArray 9)).cell? ⟨w.heap.size, j, none⟩ = some (.string (toB ls[j])) := by
  refine cell_new rfl ?_
  simp [hj]

set_option maxHeartbeats 4000000 in
set_option maxRecDepth 20000 in
theorem parseAll_few (s : ByteArray) (hs : s.size ≤ 2000) (h4 : ¬ 4 < (spl s.toList).length) (w : World) : Calls Tryz.prog 23 #[.string s] w fun e w' => GaveR (parseLs (spl s.toList)) e w' ∧ Adds w w' := by
  have kC := count_any s
  have kS := split_any s hs
  have hc : ¬ (4 : Int) ≤ ((s.toList.count 44 : Nat) : Int) := by rw [spl_len] at h4; omega
  generalize s.toList.count 44 = cn at *
  generalize spl s.toList = ls at *
  go_enter Tryz.func23, Tryz.ntmps23
  go_wp2_with (first
    | (go_at_call 39; refine (kC _).mono ?_; rintro e w1 ⟨rfl, hw⟩; subst w1)
    | (go_at_call 40; refine (kS _).mono ?_; rintro e w1 ⟨rfl, hw⟩; subst w1))
  clear kC kS
  have hcell : ∀ (j : Nat) (hj : j < ls.length), (w.alloc (.cells (ls.map (fun l => Value.string (toB l))).toArray 9)).cell? ⟨w.heap.size, j, none⟩ = some (.string (toB ls[j])) := fun j hj => piece_cell hj
  have HA1 : Hid (Adds w (w.alloc (.cells (ls.map (fun l => Value.string (toB l))).toArray 9))) := (Adds.refl w).alloc _
  have hws : w.heap.size < (w.alloc (.cells (ls.map (fun l => Value.string (toB l))).toArray 9)).heap.size := by simp
  generalize w.alloc (.cells (ls.map (fun l => Value.string (toB l))).toArray 9) = w1 at *
  have HCL : Hid _ := hcell
  clear hcell
  go_loopw [4, 15] (fun lv iv wr => ∃ (j D : Nat) (xs : List E) (ns : List NV), j ≤ ls.length ∧ iv = .int .i64 j ∧ Hid (Sofar ls j xs) ∧ Hid (Nr w1 wr lv xs ns D)) (fun _ iv _ => ls.length - (intOf iv).toNat)
  case atStart => exact ⟨0, 0, [], [], Nat.zero_le _, rfl, sofar_nil ls, nr_nil w1⟩
  case round =>
    obtain ⟨j, D, xs, ns, hj, rfl, HSo, HN⟩ := hrel
    obtain ⟨vo, vc, rfl⟩ := HN.out.shape
    have hlx : xs.length = j := HSo.out.1
    have hln : ns.length = j := HN.out.rx.1.trans hlx
    obtain ⟨os, n0, rfl⟩ := HN.out.adds
    by_cases hlt : j < ls.length
    · have cj := HCL.out j hlt
      have hnl : ns.length ≤ 10000 := by omega
      have HLN : Hid (ns.length = j) := hln
      clear hln hlx
      cases hp : parseL ls[j] with
      | error c =>
        have kP := fun W => (parse_E hp W).1
        have HE : Hid (parseLs ls = .error c) := HSo.out.err hlt hp
        have hc0 : (c == 0) = false := by simpa using parseL_err hp
        clear hp HCL HSo HN
        generalize toB ls[j] = one at *
        go_wp2_with (go_at_call 41; refine (kP _).mono ?_; rintro e w2 ⟨rfl, os2, n2, rfl⟩)
        exact bodyPost_ret (v := .tuple #[.slice none 0 0, .int .i64 c]) (by simp [results, Tryz.results23, go_sem]) rfl ⟨by rw [HE.out]; rfl, HA1.out.trans (by repeat (first | with_reducible exact Adds.refl _ | with_reducible refine Adds.alloc ?_ _ | with_reducible refine Adds.more ?_ _ _ | with_reducible refine Adds.drew ?_ | with_reducible refine Adds.drewN ?_ _))⟩
      | ok x =>
        have kP := fun W => (parse_O hp W).1
        have HNX : Hid (Sofar ls (j + 1) (xs ++ [x])) := HSo.out.next hlt hp
        clear hp HCL HSo
        generalize toB ls[j] = one at *
        simp only [Gave, nodeV] at kP
        go_wp2_with (first
          | (go_at_call 41; refine (kP _).mono ?_; rintro e w2 ⟨⟨ao, cap, D', rfl, hT⟩, os2, n2, rfl⟩)
          | (at_builtin; refine node_app rfl (.tmp 27) (.tmp 29) rfl (Nr.own HN.out) (by repeat (first | with_reducible exact Adds.refl _ | with_reducible refine Adds.alloc ?_ _ | with_reducible refine Adds.more ?_ _ _ | with_reducible refine Adds.drew ?_ | with_reducible refine Adds.drewN ?_ _)) (by simp [size_more]) rfl (by first | rfl | simp [size_more] | (simp [size_more]; omega)) rfl hnl ?_; intro v6 w6 ho6 hg6 hv6))
        go_roundw
        case rel =>
          refine ⟨j + 1, _, xs ++ [x], _, by omega, by go_num, HNX, Nr.push (D' := D') HN.out (by repeat (first | with_reducible exact Adds.refl _ | with_reducible refine Adds.alloc ?_ _ | with_reducible refine Adds.more ?_ _ _ | with_reducible refine Adds.drew ?_ | with_reducible refine Adds.drewN ?_ _)) ?_ ho6 hg6 hv6⟩
          exact (Tn.adds hT.out (by repeat (first | with_reducible exact Adds.refl _ | with_reducible refine Adds.alloc ?_ _ | with_reducible refine Adds.more ?_ _ _ | with_reducible refine Adds.drew ?_ | with_reducible refine Adds.drewN ?_ _))).weak (fun b hb _ => Nat.le_trans (Nat.le_succ _) hb)
        case measure => simp [intOf]; omega
    · have hj' : j = ls.length := by omega
      subst hj'
      have HG := HN.out.gave HSo.out
      have HG' : Hid _ := HG
      clear HG HSo HN hln
      go_wp2
      exact bodyPost_ret (v := .tuple #[.slice vo xs.length vc, .int .i64 0]) (by simp [results, Tryz.results23, go_sem]) rfl ⟨HG'.out, HA1.out.trans (by repeat (first | with_reducible exact Adds.refl _ | with_reducible refine Adds.alloc ?_ _ | with_reducible refine Adds.more ?_ _ _ | with_reducible refine Adds.drew ?_ | with_reducible refine Adds.drewN ?_ _))⟩

theorem parseAll_any (s : ByteArray) (hs : s.size ≤ 2000) (w : World) : Calls Tryz.prog 23 #[.string s] w fun e w' => GaveR (parseA s.toList) e w' ∧ Adds w w' := by
  unfold parseA
  split
  · rename_i h4
    exact parseAll_many s h4 w
  · rename_i h4
    exact parseAll_few s hs h4 w

end Go.Proofs.YtbedmlimbcfnnaaGreatDoor

namespace Go.Proofs.YtbedmlimbcfnnaaGreatDoor
open Go.RowKit
attribute [local go_sem] cell?_more frozen?_more setCell_more size_more tape_more drew_more drewN_more more_drew more_drewN one_out plus_out plus_end lt_one le_p2 le_p3 le_p4 le_p5 le_p6 le_p7 le_p8 le_p9 le_p10 le_p11 le_p12 le_p13 le_p14 le_p15 le_p16 le_p17 le_p18 le_p19 le_p20 le_p21 le_p22 le_p23 le_p24 le_q0 le_q1 lt_q1 le_q2 lt_q2 le_q3 lt_q3 le_q4 lt_q4 le_q5 lt_q5 le_q6 lt_q6 le_q7 lt_q7 le_q8 lt_q8 le_q9 lt_q9 le_q10 lt_q10 le_q11 lt_q11 le_q12 lt_q12 le_q13 lt_q13 le_q14 lt_q14 le_q15 lt_q15 le_q16 lt_q16 le_q17 lt_q17 le_q18 lt_q18 le_q19 lt_q19 le_q20 lt_q20 le_q21 lt_q21 le_q22 lt_q22 le_q23 lt_q23 le_q24 lt_q24


/-- The entries of documents, in the documents' order. -/
noncomputable def ents (xs : List E) (ds : List Dn) : List Sh.F := ds.filterMap fun d => entryOf xs d.key d.doc

theorem ents_next {xs : List E} {ds : List Dn} {k : Nat} (hk : k < ds.length) : ents xs (ds.take (k + 1)) = ents xs (ds.take k) ++ (entryOf xs ds[k].key ds[k].doc).toList := by
  unfold ents
  rw [List.take_succ_eq_append_getElem hk, List.filterMap_append]
  congr 1

theorem ents_le (xs : List E) (ds : List Dn) (k : Nat) : (ents xs (ds.take k)).length ≤ ds.length := by
  unfold ents
  exact Nat.le_trans (List.length_filterMap_le _ _) (by rw [List.length_take]; omega)

noncomputable def buildA (s : List UInt8) (ds : List Dn) : Except Int (List Sh.F) :=
  match parseA s with
  | .error c => .error c
  | .ok xs => if MayD ds then .ok (Sh.sortE (ents xs ds)) else .error 1

def GaveB (R : Except Int (List Sh.F)) (e : Ending) (w' : World) : Prop :=
  match R with
  | .error c => e = .returned (.tuple #[.slice none 0 0, .int .i64 c])
  | .ok l => ∃ v, e = .returned (.tuple #[v, .int .i64 0]) ∧ Sh.Lst w' v l

set_option maxHeartbeats 4000000 in
set_option maxRecDepth 20000 in
theorem build_ok (s : ByteArray) (dv : Value) (ds : List Dn) (w : World) (hs : s.size ≤ 2000) (h : LstD w dv ds) (hl6 : ds.length ≤ 200) (xs : List E) (hx : parseA s.toList = .ok xs) (hM : MayD ds) :
    Calls Tryz.prog 10 #[.string s, dv] w fun e w' => (∃ v, e = .returned (.tuple #[v, .int .i64 0]) ∧ Sh.Lst w' v (Sh.sortE (ents xs ds))) ∧ Adds w w' := by
  have kP := fun w' => parseAll_any s hs w'
  rw [hx] at kP
  simp only [GaveR] at kP
  have kD := fun w' hA => docs_any dv ds w' (h.adds hA) (by omega)
  rw [err_ok hM] at kD
  obtain ⟨ao, cap, rfl, hcap, hlo⟩ := h
  have hlen := Sh.sortE_length (ents xs ds)
  clear hx hM
  go_enter Tryz.func10, Tryz.ntmps10
  go_wp2_with (first
    | (go_at_call 23; refine (kP _).mono ?_; rintro e w1 ⟨⟨no, nc, D, rfl, hT, hok⟩, hA1⟩; have HA1 : Hid (Adds w w1) := hA1; clear hA1)
    | (go_at_call 13; refine (kD _ HA1.out).mono ?_; rintro e w2 ⟨rfl, hA2⟩; have HA2 : Hid (Adds w1 w2) := hA2; clear hA2))
  have HT : Hid (Adds w w2) := HA1.out.trans HA2.out
  go_loopw [9, 29] (fun nv i wr => ∃ j : Nat, j ≤ ds.length ∧ i = .int .i64 j ∧ Sh.Own w2.heap.size nv (ents xs (ds.take j)) w2 wr) (fun _ i _ => ds.length - (intOf i).toNat)
  case atStart => exact ⟨0, Nat.zero_le _, rfl, by simpa [ents] using Sh.Own.nil _ w2 (Nat.le_refl _)⟩
  case round =>
    obtain ⟨j, hj, rfl, hown⟩ := hrel
    have hAr : Adds w2 wr := Adds.of hown.2.1
    by_cases hlt : j < ds.length
    · rcases hlo with rfl | ⟨b, off, rfl, hbb, hl⟩
      · simp at hlt
      obtain ⟨v, c0, c1, hdoc⟩ := hl.adds (HT.out.trans hAr) hbb j hlt
      have hbl : b < wr.heap.size := Nat.lt_of_lt_of_le hbb (HT.out.trans hAr).below.size
      have hE := fun w' hA => entry_any xs no nc ds[j].key v ds[j].doc w' (hT.adds ((HA2.out.trans hAr).trans hA)) hok (hdoc.adds hA)
      have HJ : Hid _ := ents_next (xs := xs) hlt
      have hle := ents_le xs ds j
      have hlt' : (j : Int) < (ds.length : Int) := by omega
      obtain ⟨vo, vc, rfl, _, _⟩ := hdoc
      cases ho : entryOf xs ds[j].key ds[j].doc with
      | none =>
        rw [ho] at hE HJ
        simp only [GaveE] at hE
        simp only [Option.toList, List.append_nil] at HJ
        clear ho
        generalize ds[j].key = ky at *
        generalize ds[j].doc.length = nd at *
        generalize ents xs (ds.take j) = A at *
        generalize xs.length = nx at *
        go_wp2_with (go_at_call 24; refine (hE _ (by repeat (first | with_reducible exact Adds.refl _ | with_reducible refine Adds.alloc ?_ _ | with_reducible refine Adds.more ?_ _ _ | with_reducible refine Adds.drew ?_ | with_reducible refine Adds.drewN ?_ _))).mono ?_; rintro e w5 ⟨rfl, os5, n5, rfl⟩)
        go_roundw
        case rel => exact ⟨j + 1, by omega, by go_num, by rw [HJ.out]; exact hown.adds (by repeat (first | with_reducible exact Adds.refl _ | with_reducible refine Adds.alloc ?_ _ | with_reducible refine Adds.more ?_ _ _ | with_reducible refine Adds.drew ?_ | with_reducible refine Adds.drewN ?_ _))⟩
        case measure => simp [intOf]; omega
      | some f =>
        rw [ho] at hE HJ
        simp only [GaveE] at hE
        simp only [Option.toList] at HJ
        clear ho
        generalize ds[j].key = ky at *
        generalize ds[j].doc.length = nd at *
        generalize ents xs (ds.take j) = A at *
        generalize xs.length = nx at *
        go_wp2_with (first
          | (go_at_call 24; refine (hE _ (by repeat (first | with_reducible exact Adds.refl _ | with_reducible refine Adds.alloc ?_ _ | with_reducible refine Adds.more ?_ _ _ | with_reducible refine Adds.drew ?_ | with_reducible refine Adds.drewN ?_ _))).mono ?_; rintro e w5 ⟨rfl, os5, n5, rfl⟩)
          | (at_builtin; refine Sh.own_app rfl (.tmp 43) (.tmp 45) rfl ((hown.adds (by repeat (first | with_reducible exact Adds.refl _ | with_reducible refine Adds.alloc ?_ _ | with_reducible refine Adds.more ?_ _ _ | with_reducible refine Adds.drew ?_ | with_reducible refine Adds.drewN ?_ _))).alloc _) rfl (Sh.lst_new (f := f) (by simp [go_sem])) rfl (by simp only [List.length_singleton]; omega) ?_; intro v2 w6 hown2))
        go_roundw
        case rel => exact ⟨j + 1, by omega, by go_num, by rw [HJ.out]; exact hown2⟩
        case measure => simp [intOf]; omega
    · have hj' : j = ds.length := by omega
      subst hj'
      rw [List.take_length] at hown
      have hle := ents_le xs ds ds.length
      rw [List.take_length] at hle
      have kS := Sh.sort_any hown (by omega)
      go_wp2_with (go_at_call 25; refine kS.mono ?_; rintro e w7 ⟨rfl, hL7, hB7, hs7⟩)
      go_ret2
      exact ⟨⟨_, rfl, hL7⟩, HT.out.trans (Adds.of hB7)⟩


end Go.Proofs.YtbedmlimbcfnnaaGreatDoor
