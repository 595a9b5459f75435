/-
  The function Build of package index, by a contract.
  The document's example: two documents in an index's order.
-/
import Derived.Test.YtbedmlimbcfnnaaGreatDoorM46
import Derived.Test.YtbedmlimbcfnnaaGreatDoorIxs
import Derived.Test.YtbedmlimbcfnnaaGreatDoorPall
import Derived.Test.YtbedmlimbcfnnaaGreatDoorM47
import Derived.Test.YtbedmlimbcfnnaaGreatDoorM39
namespace Go.Proofs.YtbedmlimbcfnnaaGreatDoor
open Go.RowKit
attribute [local go_sem] cell?_more frozen?_more setCell_more size_more tape_more drew_more drewN_more more_drew more_drewN one_out plus_out plus_end lt_one le_p2 le_p3 le_p4 le_p5 le_p6 le_p7 le_p8 le_p9 le_p10 le_p11 le_p12 le_p13 le_p14 le_p15 le_p16 le_p17 le_p18 le_p19 le_p20 le_p21 le_p22 le_p23 le_p24 le_q0 le_q1 lt_q1 le_q2 lt_q2 le_q3 lt_q3 le_q4 lt_q4 le_q5 lt_q5 le_q6 lt_q6 le_q7 lt_q7 le_q8 lt_q8 le_q9 lt_q9 le_q10 lt_q10 le_q11 lt_q11 le_q12 lt_q12 le_q13 lt_q13 le_q14 lt_q14 le_q15 lt_q15 le_q16 lt_q16 le_q17 lt_q17 le_q18 lt_q18 le_q19 lt_q19 le_q20 lt_q20 le_q21 lt_q21 le_q22 lt_q22 le_q23 lt_q23 le_q24 lt_q24


/-- The entries of documents, in the documents' order. -/
noncomputable def ents (xs : List E) (ds : List Dn) : List Sh.F := ds.filterMap fun d => entryOf xs d.key d.doc

theorem ents_next {xs : List E} {ds : List Dn} {k : Nat} (hk : k < ds.length) : ents xs (ds.take (k + 1)) = ents xs (ds.take k) ++ (entryOf xs ds[k].key ds[k].doc).toList := by
  unfold ents
  rw [List.take_succ_eq_append_getElem hk, List.filterMap_append]
  congr 1

theorem ents_le (xs : List E) (ds : List Dn) (k : Nat) : (ents xs (ds.take k)).length ≤ ds.length := by
  unfold ents
  exact Nat.le_trans (List.length_filterMap_le _ _) (by rw [List.length_take]; omega)

noncomputable def buildA (s : List UInt8) (ds : List Dn) : Except Int (List Sh.F) :=
  match parseA s with
  | .error c => .error c
  | .ok xs => if MayD ds then .ok (Sh.sortE (ents xs ds)) else .error 1

def GaveB (R : Except Int (List Sh.F)) (e : Ending) (w' : World) : Prop :=
  match R with
  | .error c => e = .returned (.tuple #[.slice none 0 0, .int .i64 c])
  | .ok l => ∃ v, e = .returned (.tuple #[v, .int .i64 0]) ∧ Sh.Lst w' v l

set_option maxHeartbeats 4000000 in
set_option maxRecDepth 20000 in
theorem build_ok (s : ByteArray) (dv : Value) (ds : List Dn) (w : World) (hs : s.size ≤ 2000) (h : LstD w dv ds) (hl6 : ds.length ≤ 200) (xs : List E) (hx : parseA s.toList = .ok xs) (hM : MayD ds) :
    Calls Tryz.prog 10 #[.string s, dv] w fun e w' => (∃ v, e = .returned (.tuple #[v, .int .i64 0]) ∧ Sh.Lst w' v (Sh.sortE (ents xs ds))) ∧ Adds w w' := by
  have kP := fun w' => parseAll_any s hs w'
  rw [hx] at kP
  simp only [GaveR] at kP
  have kD := fun w' hA => docs_any dv ds w' (h.adds hA) (by omega)
  rw [err_ok hM] at kD
  obtain ⟨ao, cap, rfl, hcap, hlo⟩ := h
  have hlen := Sh.sortE_length (ents xs ds)
  clear hx hM
  go_enter Tryz.func10, Tryz.ntmps10
  go_wp2_with (first
    | (go_at_call 23; refine (kP _).mono ?_; rintro e w1 ⟨⟨no, nc, D, rfl, hT, hok⟩, hA1⟩; have HA1 : Hid (Adds w w1) := hA1; clear hA1)
    | (go_at_call 13; refine (kD _ HA1.out).mono ?_; rintro e w2 ⟨rfl, hA2⟩; have HA2 : Hid (Adds w1 w2) := hA2; clear hA2))
  have HT : Hid (Adds w w2) := HA1.out.trans HA2.out
  go_loopw [9, 29] (fun nv i wr => ∃ j : Nat, j ≤ ds.length ∧ i = .int .i64 j ∧ Sh.Own w2.heap.size nv (ents xs (ds.take j)) w2 wr) (fun _ i _ => ds.length - (intOf i).toNat)
  case atStart => exact ⟨0, Nat.zero_le _, rfl, by simpa [ents] using Sh.Own.nil _ w2 (Nat.le_refl _)⟩
  case round =>
    obtain ⟨j, hj, rfl, hown⟩ := hrel
    have hAr : Adds w2 wr := Adds.of hown.2.1
    by_cases hlt : j < ds.length
    · rcases hlo with rfl | ⟨b, off, rfl, hbb, hl⟩
      · simp at hlt
      obtain ⟨v, c0, c1, hdoc⟩ := hl.adds (HT.out.trans hAr) hbb j hlt
      have hbl : b < wr.heap.size := Nat.lt_of_lt_of_le hbb (HT.out.trans hAr).below.size
      have hE := fun w' hA => entry_any xs no nc ds[j].key v ds[j].doc w' (hT.adds ((HA2.out.trans hAr).trans hA)) hok (hdoc.adds hA)
      have HJ : Hid _ := ents_next (xs := xs) hlt
      have hle := ents_le xs ds j
      have hlt' : (j : Int) < (ds.length : Int) := by omega
      obtain ⟨vo, vc, rfl, _, _⟩ := hdoc
      cases ho : entryOf xs ds[j].key ds[j].doc with
      | none =>
        rw [ho] at hE HJ
        simp only [GaveE] at hE
        simp only [Option.toList, List.append_nil] at HJ
        clear ho
        generalize ds[j].key = ky at *
        generalize ds[j].doc.length = nd at *
        generalize ents xs (ds.take j) = A at *
        generalize xs.length = nx at *
        go_wp2_with (go_at_call 24; refine (hE _ (by repeat (first | with_reducible exact Adds.refl _ | with_reducible refine Adds.alloc ?_ _ | with_reducible refine Adds.more ?_ _ _ | with_reducible refine Adds.drew ?_ | with_reducible refine Adds.drewN ?_ _))).mono ?_; rintro e w5 ⟨rfl, os5, n5, rfl⟩)
        go_roundw
        case rel => exact ⟨j + 1, by omega, by go_num, by rw [HJ.out]; exact hown.adds (by repeat (first | with_reducible exact Adds.refl _ | with_reducible refine Adds.alloc ?_ _ | with_reducible refine Adds.more ?_ _ _ | with_reducible refine Adds.drew ?_ | with_reducible refine Adds.drewN ?_ _))⟩
        case measure => simp [intOf]; omega
      | some f =>
        rw [ho] at hE HJ
        simp only [GaveE] at hE
        simp only [Option.toList] at HJ
        clear ho
        generalize ds[j].key = ky at *
        generalize ds[j].doc.length = nd at *
        generalize ents xs (ds.take j) = A at *
        generalize xs.length = nx at *
        go_wp2_with (first
          | (go_at_call 24; refine (hE _ (by repeat (first | with_reducible exact Adds.refl _ | with_reducible refine Adds.alloc ?_ _ | with_reducible refine Adds.more ?_ _ _ | with_reducible refine Adds.drew ?_ | with_reducible refine Adds.drewN ?_ _))).mono ?_; rintro e w5 ⟨rfl, os5, n5, rfl⟩)
          | (at_builtin; refine Sh.own_app rfl (.tmp 43) (.tmp 45) rfl ((hown.adds (by repeat (first | with_reducible exact Adds.refl _ | with_reducible refine Adds.alloc ?_ _ | with_reducible refine Adds.more ?_ _ _ | with_reducible refine Adds.drew ?_ | with_reducible refine Adds.drewN ?_ _))).alloc _) rfl (Sh.lst_new (f := f) (by simp [go_sem])) rfl (by simp only [List.length_singleton]; omega) ?_; intro v2 w6 hown2))
        go_roundw
        case rel => exact ⟨j + 1, by omega, by go_num, by rw [HJ.out]; exact hown2⟩
        case measure => simp [intOf]; omega
    · have hj' : j = ds.length := by omega
      subst hj'
      rw [List.take_length] at hown
      have hle := ents_le xs ds ds.length
      rw [List.take_length] at hle
      have kS := Sh.sort_any hown (by omega)
      go_wp2_with (go_at_call 25; refine kS.mono ?_; rintro e w7 ⟨rfl, hL7, hB7, hs7⟩)
      go_ret2
      exact ⟨⟨_, rfl, hL7⟩, HT.out.trans (Adds.of hB7)⟩


end Go.Proofs.YtbedmlimbcfnnaaGreatDoor

namespace Go.Proofs.YtbedmlimbcfnnaaGreatDoor
open Go.RowKit
attribute [local go_sem] cell?_more frozen?_more setCell_more size_more tape_more drew_more drewN_more more_drew more_drewN one_out plus_out plus_end lt_one le_p2 le_p3 le_p4 le_p5 le_p6 le_p7 le_p8 le_p9 le_p10 le_p11 le_p12 le_p13 le_p14 le_p15 le_p16 le_p17 le_p18 le_p19 le_p20 le_p21 le_p22 le_p23 le_p24 le_q0 le_q1 lt_q1 le_q2 lt_q2 le_q3 lt_q3 le_q4 lt_q4 le_q5 lt_q5 le_q6 lt_q6 le_q7 lt_q7 le_q8 lt_q8 le_q9 lt_q9 le_q10 lt_q10 le_q11 lt_q11 le_q12 lt_q12 le_q13 lt_q13 le_q14 lt_q14 le_q15 lt_q15 le_q16 lt_q16 le_q17 lt_q17 le_q18 lt_q18 le_q19 lt_q19 le_q20 lt_q20 le_q21 lt_q21 le_q22 lt_q22 le_q23 lt_q23 le_q24 lt_q24


def xA : E := .path [97]
def fA (n : Int) : F := ⟨⟨#[97]⟩, V.mkNum n, by decide⟩

theorem a_list : (⟨#[97]⟩ : ByteArray).toList = [97] := by rw [ByteArray.toList_eq]

theorem parse_a : parseA [97] = .ok [xA] := by
  have hM : M [97] [] Fr.none none = some xA := M_whole (.up2 (.up1 (.leaf rfl)))
  have hp : parseL [97] = .ok xA := by
    unfold parseL
    rw [if_neg (by decide), hM]
    rfl
  have hs : spl [97] = [[97]] := by decide
  unfold parseA
  rw [hs, if_neg (by decide)]
  simp [parseLs, hp]

theorem xA_fits : fitsN 8 xA.toN = true := by
  simp [fitsN, xA, E.toN, N.kind, N.text, N.num, N.args, aloneN, toB_toList]
  try decide

theorem xA_ok : xA.ok := (show G .sum [97] xA from .up2 (.up1 (.leaf rfl))).ok

theorem fA_may (n : Int) (h : -1000 ≤ n) (h' : n ≤ 1000) : May [fA n] := by
  refine ⟨by simp, fun k hk => ?_⟩
  have : k = 0 := by simpa using hk
  subst this
  refine ⟨?_, mkNum_ok (by omega) (by omega), fun h => absurd h (by decide)⟩
  show isPath ⟨#[97]⟩ = true
  rw [isPath_L, a_list]
  decide

theorem nil_may : May [] := ⟨by decide, fun k hk => by simp at hk⟩

theorem val_a (n : Int) : valE [fA n] xA = some (V.mkNum n) := by
  have e : firstAt (toB [97]) [fA n] = 0 := by
    simp only [firstAt]
    rw [if_pos (by rw [toB_toList]; exact a_list)]
  simp only [xA, valE, got, e]
  rfl

theorem evO_a (n : Int) (h : -1000 ≤ n) (h' : n ≤ 1000) : evO [fA n] xA.toN = some (V.mkNum n) :=
  (evO_is (o := some (V.mkNum n)) ⟨fun _ _ => ⟨xA, rfl, xA_ok, (val_a n).symm⟩, fun hq => absurd ⟨xA_fits, fA_may n h h'⟩ hq⟩).symm

theorem evO_z : evO [] xA.toN = none :=
  (evO_is (o := none) ⟨fun _ _ => ⟨xA, rfl, xA_ok, rfl⟩, fun _ => rfl⟩).symm

theorem entry_a (n : Int) (h : -1000 ≤ n) (h' : n ≤ 1000) (key : ByteArray) : entryOf [xA] key [fA n] = some ⟨keyStr [V.mkNum n], key⟩ := by
  unfold entryOf evA
  rw [if_neg (by decide)]
  simp [evs, evO_a n h h']

theorem entry_z (key : ByteArray) : entryOf [xA] key [] = none := by
  unfold entryOf evA
  rw [if_neg (by decide)]
  simp [evs, evO_z]

def dsA : List Dn := [⟨⟨#[120]⟩, [fA 2]⟩, ⟨⟨#[121]⟩, [fA 1]⟩, ⟨⟨#[122]⟩, []⟩]

theorem dsA_may : MayD dsA := by
  intro k hk
  have h3 : k = 0 ∨ k = 1 ∨ k = 2 := by simp [dsA] at hk; omega
  rcases h3 with rfl | rfl | rfl
  · exact ⟨(by decide : isKey ⟨#[120]⟩ = true), fA_may 2 (by omega) (by omega), fun h => absurd h (by decide)⟩
  · refine ⟨(by decide : isKey ⟨#[121]⟩ = true), fA_may 1 (by omega) (by omega), fun _ => ?_⟩
    show Op.bytesLess (⟨#[120]⟩ : ByteArray).toList (⟨#[121]⟩ : ByteArray).toList = true
    rw [ByteArray.toList_eq, ByteArray.toList_eq]
    decide
  · refine ⟨(by decide : isKey ⟨#[122]⟩ = true), nil_may, fun _ => ?_⟩
    show Op.bytesLess (⟨#[121]⟩ : ByteArray).toList (⟨#[122]⟩ : ByteArray).toList = true
    rw [ByteArray.toList_eq, ByteArray.toList_eq]
    decide

theorem key_12 : Lib.compareBytes (keyBytes [V.mkNum 1]) (keyBytes [V.mkNum 2]) = -1 := by decide +kernel

theorem keyStr_list (n : Int) (h : -1000 ≤ n) (h' : n ≤ 1000) : (keyStr [V.mkNum n]).toList = keyBytes [V.mkNum n] := by
  unfold keyStr
  rw [if_pos (firstBad_none (fun v hv => by rw [List.mem_singleton.1 hv]; exact mkNum_ok (by omega) (by omega))), ByteArray.toList_eq]

theorem cmp_12 (k1 k2 : ByteArray) : Sh.cmpE ⟨keyStr [V.mkNum 1], k1⟩ ⟨keyStr [V.mkNum 2], k2⟩ = -1 := by
  have e : Sh.cmpP (keyStr [V.mkNum 1]) (keyStr [V.mkNum 2]) = -1 := by
    unfold Sh.cmpP
    rw [keyStr_list 1 (by omega) (by omega), keyStr_list 2 (by omega) (by omega)]
    exact key_12
  unfold Sh.cmpE
  simp only [e]
  rfl

end Go.Proofs.YtbedmlimbcfnnaaGreatDoor
