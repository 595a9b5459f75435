/-
  The document's example: two documents in an index's order.
  The statements' own documents, by contract.
  The statements' function awake, by contract.
-/
import Derived.Test.YtbedmlimbcfnnaaGreatDoorQ33
import Derived.Test.YtbedmlimbcfnnaaGreatDoorQ09
import Derived.Test.YtbedmlimbcfnnaaGreatDoorQ29
import Derived.Test.YtbedmlimbcfnnaaGreatDoorQ34
namespace Go.Proofs.YtbedmlimbcfnnaaGreatDoor
open Go.RowKit
attribute [local go_sem] cell?_more frozen?_more setCell_more size_more tape_more drew_more drewN_more more_drew more_drewN one_out plus_out plus_end lt_one le_p2 le_p3 le_p4 le_p5 le_p6 le_p7 le_p8 le_p9 le_p10 le_p11 le_p12 le_p13 le_p14 le_p15 le_p16 le_p17 le_p18 le_p19 le_p20 le_p21 le_p22 le_p23 le_p24 le_q0 le_q1 lt_q1 le_q2 lt_q2 le_q3 lt_q3 le_q4 lt_q4 le_q5 lt_q5 le_q6 lt_q6 le_q7 lt_q7 le_q8 lt_q8 le_q9 lt_q9 le_q10 lt_q10 le_q11 lt_q11 le_q12 lt_q12 le_q13 lt_q13 le_q14 lt_q14 le_q15 lt_q15 le_q16 lt_q16 le_q17 lt_q17 le_q18 lt_q18 le_q19 lt_q19 le_q20 lt_q20 le_q21 lt_q21 le_q22 lt_q22 le_q23 lt_q23 le_q24 lt_q24


def xA : E := .path [97]
def fA (n : Int) : F := ⟨⟨#[97]⟩, V.mkNum n, by decide⟩

theorem a_list : (⟨#[97]⟩ : ByteArray).toList = [97] := by rw [ByteArray.toList_eq]

theorem parse_a : parseA [97] = .ok [xA] := by
  have hM : M [97] [] Fr.none none = some xA := M_whole (.up2 (.up1 (.leaf rfl)))
  have hp : parseL [97] = .ok xA := by
    unfold parseL
    rw [if_neg (by decide), hM]
    rfl
  have hs : spl [97] = [[97]] := by decide
  unfold parseA
  rw [hs, if_neg (by decide)]
  simp [parseLs, hp]

theorem xA_fits : fitsN 8 xA.toN = true := by
  simp [fitsN, xA, E.toN, N.kind, N.text, N.num, N.args, aloneN, toB_toList]
  try decide

theorem xA_ok : xA.ok := (show G .sum [97] xA from .up2 (.up1 (.leaf rfl))).ok

theorem fA_may (n : Int) (h : -1000 ≤ n) (h' : n ≤ 1000) : May [fA n] := by
  refine ⟨by simp, fun k hk => ?_⟩
  have : k = 0 := by simpa using hk
  subst this
  refine ⟨?_, mkNum_ok (by omega) (by omega), fun h => absurd h (by decide)⟩
  show isPath ⟨#[97]⟩ = true
  rw [isPath_L, a_list]
  decide

theorem nil_may : May [] := ⟨by decide, fun k hk => by simp at hk⟩

theorem val_a (n : Int) : valE [fA n] xA = some (V.mkNum n) := by
  have e : firstAt (toB [97]) [fA n] = 0 := by
    simp only [firstAt]
    rw [if_pos (by rw [toB_toList]; exact a_list)]
  simp only [xA, valE, got, e]
  rfl

theorem evO_a (n : Int) (h : -1000 ≤ n) (h' : n ≤ 1000) : evO [fA n] xA.toN = some (V.mkNum n) :=
  (evO_is (o := some (V.mkNum n)) ⟨fun _ _ => ⟨xA, rfl, xA_ok, (val_a n).symm⟩, fun hq => absurd ⟨xA_fits, fA_may n h h'⟩ hq⟩).symm

theorem evO_z : evO [] xA.toN = none :=
  (evO_is (o := none) ⟨fun _ _ => ⟨xA, rfl, xA_ok, rfl⟩, fun _ => rfl⟩).symm

theorem entry_a (n : Int) (h : -1000 ≤ n) (h' : n ≤ 1000) (key : ByteArray) : entryOf [xA] key [fA n] = some ⟨keyStr [V.mkNum n], key⟩ := by
  unfold entryOf evA
  rw [if_neg (by decide)]
  simp [evs, evO_a n h h']

theorem entry_z (key : ByteArray) : entryOf [xA] key [] = none := by
  unfold entryOf evA
  rw [if_neg (by decide)]
  simp [evs, evO_z]

def dsA : List Dn := [⟨⟨#[120]⟩, [fA 2]⟩, ⟨⟨#[121]⟩, [fA 1]⟩, ⟨⟨#[122]⟩, []⟩]

theorem dsA_may : MayD dsA := by
  intro k hk
  have h3 : k = 0 ∨ k = 1 ∨ k = 2 := by simp [dsA] at hk; omega
  rcases h3 with rfl | rfl | rfl
  · exact ⟨(by decide : isKey ⟨#[120]⟩ = true), fA_may 2 (by omega) (by omega), fun h => absurd h (by decide)⟩
  · refine ⟨(by decide : isKey ⟨#[121]⟩ = true), fA_may 1 (by omega) (by omega), fun _ => ?_⟩
    show Op.bytesLess (⟨#[120]⟩ : ByteArray).toList (⟨#[121]⟩ : ByteArray).toList = true
    rw [ByteArray.toList_eq, ByteArray.toList_eq]
    decide
  · refine ⟨(by decide : isKey ⟨#[122]⟩ = true), nil_may, fun _ => ?_⟩
    show Op.bytesLess (⟨#[121]⟩ : ByteArray).toList (⟨#[122]⟩ : ByteArray).toList = true
    rw [ByteArray.toList_eq, ByteArray.toList_eq]
    decide

theorem key_12 : Lib.compareBytes (keyBytes [V.mkNum 1]) (keyBytes [V.mkNum 2]) = -1 := by decide +kernel

theorem keyStr_list (n : Int) (h : -1000 ≤ n) (h' : n ≤ 1000) : (keyStr [V.mkNum n]).toList = keyBytes [V.mkNum n] := by
  unfold keyStr
  rw [if_pos (firstBad_none (fun v hv => by rw [List.mem_singleton.1 hv]; exact mkNum_ok (by omega) (by omega))), ByteArray.toList_eq]

theorem cmp_12 (k1 k2 : ByteArray) : Sh.cmpE ⟨keyStr [V.mkNum 1], k1⟩ ⟨keyStr [V.mkNum 2], k2⟩ = -1 := by
  have e : Sh.cmpP (keyStr [V.mkNum 1]) (keyStr [V.mkNum 2]) = -1 := by
    unfold Sh.cmpP
    rw [keyStr_list 1 (by omega) (by omega), keyStr_list 2 (by omega) (by omega)]
    exact key_12
  unfold Sh.cmpE
  simp only [e]
  rfl

end Go.Proofs.YtbedmlimbcfnnaaGreatDoor

namespace Go.Proofs.YtbedmlimbcfnnaaGreatDoor
open Go.RowKit
attribute [local go_sem] cell?_more frozen?_more setCell_more size_more tape_more drew_more drewN_more more_drew more_drewN one_out plus_out plus_end lt_one le_p2 le_p3 le_p4 le_p5 le_p6 le_p7 le_p8 le_p9 le_p10 le_p11 le_p12 le_p13 le_p14 le_p15 le_p16 le_p17 le_p18 le_p19 le_p20 le_p21 le_p22 le_p23 le_p24 le_q0 le_q1 lt_q1 le_q2 lt_q2 le_q3 lt_q3 le_q4 lt_q4 le_q5 lt_q5 le_q6 lt_q6 le_q7 lt_q7 le_q8 lt_q8 le_q9 lt_q9 le_q10 lt_q10 le_q11 lt_q11 le_q12 lt_q12 le_q13 lt_q13 le_q14 lt_q14 le_q15 lt_q15 le_q16 lt_q16 le_q17 lt_q17 le_q18 lt_q18 le_q19 lt_q19 le_q20 lt_q20 le_q21 lt_q21 le_q22 lt_q22 le_q23 lt_q23 le_q24 lt_q24


theorem lst_fA {X : World} {k : Nat} {n : Int} (hk : k = X.heap.size) : Lst (X.alloc (.cells #[.string ⟨#[97]⟩, .int .i64 1, .int .i64 n, .string ⟨#[]⟩, .int .i64 0, .int .i64 0] 77)) (.slice (some ⟨k, 0, none⟩) 1 1) [fA n] := by
  refine ⟨_, 1, rfl, Nat.le_refl _, .inr ⟨k, 0, rfl, by rw [World.size_alloc]; omega, fun j hj => ?_⟩⟩
  have hj0 : j = 0 := by simpa using hj
  subst hj0
  exact ⟨cell_new hk rfl, cell_new hk rfl, cell_new hk rfl, cell_new hk rfl, cell_new hk rfl, cell_new hk rfl⟩

set_option maxHeartbeats 2000000 in
theorem one_any (n : Int) (w : World) : Calls Tryz.prog 22 #[.int .i64 n] w fun e w' => (∃ k, e = .returned (.slice (some ⟨k, 0, none⟩) 1 1) ∧ Hid (Lst w' (.slice (some ⟨k, 0, none⟩) 1 1) [fA n])) ∧ Adds w w' := by
  go_enter Tryz.func22, Tryz.ntmps22
  go_wp2
  go_ret
  refine ⟨⟨_, rfl, ?_⟩, ?_⟩
  · show Lst _ _ _
    exact lst_fA (by simp [go_sem])
  · repeat (first | with_reducible exact Adds.refl _ | with_reducible refine Adds.alloc ?_ _ | with_reducible refine Adds.more ?_ _ _ | with_reducible refine Adds.drew ?_ | with_reducible refine Adds.drewN ?_ _)

end Go.Proofs.YtbedmlimbcfnnaaGreatDoor

namespace Go.Proofs.YtbedmlimbcfnnaaGreatDoor
open Go.RowKit
attribute [local go_sem] cell?_more frozen?_more setCell_more size_more tape_more drew_more drewN_more more_drew more_drewN one_out plus_out plus_end lt_one le_p2 le_p3 le_p4 le_p5 le_p6 le_p7 le_p8 le_p9 le_p10 le_p11 le_p12 le_p13 le_p14 le_p15 le_p16 le_p17 le_p18 le_p19 le_p20 le_p21 le_p22 le_p23 le_p24 le_q0 le_q1 lt_q1 le_q2 lt_q2 le_q3 lt_q3 le_q4 lt_q4 le_q5 lt_q5 le_q6 lt_q6 le_q7 lt_q7 le_q8 lt_q8 le_q9 lt_q9 le_q10 lt_q10 le_q11 lt_q11 le_q12 lt_q12 le_q13 lt_q13 le_q14 lt_q14 le_q15 lt_q15 le_q16 lt_q16 le_q17 lt_q17 le_q18 lt_q18 le_q19 lt_q19 le_q20 lt_q20 le_q21 lt_q21 le_q22 lt_q22 le_q23 lt_q23 le_q24 lt_q24


theorem lstD_A {X : World} {k : Nat} {v1 v2 : Value} (hk : k = X.heap.size) (h1 : Lst X v1 [fA 2]) (h2 : Lst X v2 [fA 1]) :
    LstD (X.alloc (.cells #[.string ⟨#[120]⟩, v1, .string ⟨#[121]⟩, v2, .string ⟨#[122]⟩, .slice none 0 0] 49)) (.slice (some ⟨k, 0, none⟩) 3 3) dsA := by
  have hA : Adds X (X.alloc (.cells #[.string ⟨#[120]⟩, v1, .string ⟨#[121]⟩, v2, .string ⟨#[122]⟩, .slice none 0 0] 49)) := (Adds.refl _).alloc _
  refine ⟨_, 3, rfl, Nat.le_refl _, .inr ⟨k, 0, rfl, by rw [World.size_alloc]; omega, fun j hj => ?_⟩⟩
  have h3 : j = 0 ∨ j = 1 ∨ j = 2 := by simp [dsA] at hj; omega
  rcases h3 with rfl | rfl | rfl
  · exact ⟨v1, cell_new hk rfl, cell_new hk rfl, h1.adds hA⟩
  · exact ⟨v2, cell_new hk rfl, cell_new hk rfl, h2.adds hA⟩
  · exact ⟨.slice none 0 0, cell_new hk rfl, cell_new hk rfl, ⟨none, 0, rfl, Nat.le_refl _, .inl rfl⟩⟩

theorem sort_A : Sh.sortE (ents [xA] dsA) = [⟨keyStr [V.mkNum 1], ⟨#[121]⟩⟩, ⟨keyStr [V.mkNum 2], ⟨#[120]⟩⟩] := by
  have e : ents [xA] dsA = [⟨keyStr [V.mkNum 2], ⟨#[120]⟩⟩, ⟨keyStr [V.mkNum 1], ⟨#[121]⟩⟩] := by
    unfold ents dsA
    simp [entry_a, entry_z]
  rw [e]
  unfold Sh.sortE
  have h1 : ltOf Sh.cmpE ⟨keyStr [V.mkNum 1], ⟨#[121]⟩⟩ ⟨keyStr [V.mkNum 2], ⟨#[120]⟩⟩ = true := by
    unfold ltOf
    rw [cmp_12]
    rfl
  simp [List.mergeSort, List.MergeSort.Internal.splitInTwo, h1]

set_option maxHeartbeats 4000000 in
set_option maxRecDepth 20000 in
theorem awake_any (w : World) : Calls Tryz.prog 9 #[] w fun e w' => e = .returned (.bool true) ∧ Adds w w' := by
  have kB : ∀ W dv, LstD W dv dsA → Calls Tryz.prog 10 #[.string ⟨#[97]⟩, dv] W fun e w' => (∃ b off cap, e = .returned (.tuple #[.slice (some ⟨b, off, none⟩) 2 cap, .int .i64 0]) ∧ 2 ≤ cap ∧ b < w'.heap.size ∧ (∃ x, w'.cell? ⟨b, off, none⟩ = some (.string x)) ∧ w'.cell? ⟨b, off + 1, none⟩ = some (.string ⟨#[121]⟩) ∧ (∃ x, w'.cell? ⟨b, off + 2, none⟩ = some (.string x)) ∧ w'.cell? ⟨b, off + 3, none⟩ = some (.string ⟨#[120]⟩)) ∧ Adds W w' := by
    intro W dv hD
    refine (build_ok ⟨#[97]⟩ dv dsA W (by decide) hD (by decide) [xA] (by rw [a_list]; exact parse_a) dsA_may).mono ?_
    rintro e w' ⟨⟨v, rfl, hL⟩, hA⟩
    rw [sort_A] at hL
    obtain ⟨ao, cap, rfl, hc, h0 | ⟨b, off, rfl, hb, hl⟩⟩ := hL
    · cases h0
    · have c0 := hl 0 (by simp)
      have c1 := hl 1 (by simp)
      exact ⟨⟨b, off, cap, rfl, hc, hb, ⟨_, c0.1⟩, c0.2, ⟨_, c1.1⟩, c1.2⟩, hA⟩
  have k1 := one_any 1
  have k2 := one_any 2
  have hyl : ((⟨#[121]⟩ : ByteArray).toList == (⟨#[121]⟩ : ByteArray).toList) = true := by simp
  go_enter Tryz.func9, Tryz.ntmps9
  go_wp2_with (first
    | (go_at_call 22; (with_reducible refine (k2 _).mono ?_); rintro e w1 ⟨⟨p1, rfl, HL1⟩, os1, n1, rfl⟩)
    | (go_at_call 22; (with_reducible refine (k1 _).mono ?_); rintro e w2 ⟨⟨p2, rfl, HL2⟩, os2, n2, rfl⟩)
    | (go_at_call 10; refine (kB _ _ (lstD_A (by simp [go_sem]) (Lst.adds HL1.out (by repeat (first | with_reducible exact Adds.refl _ | with_reducible refine Adds.alloc ?_ _ | with_reducible refine Adds.more ?_ _ _ | with_reducible refine Adds.drew ?_ | with_reducible refine Adds.drewN ?_ _))) (Lst.adds HL2.out (by repeat (first | with_reducible exact Adds.refl _ | with_reducible refine Adds.alloc ?_ _ | with_reducible refine Adds.more ?_ _ _ | with_reducible refine Adds.drew ?_ | with_reducible refine Adds.drewN ?_ _))))).mono ?_; rintro e w3 ⟨⟨b, off, cap, rfl, hc, hb, ⟨x0, c0⟩, c1, ⟨x2, c2⟩, c3⟩, os3, n3, rfl⟩))
  go_ret
  exact ⟨rfl, by repeat (first | with_reducible exact Adds.refl _ | with_reducible refine Adds.alloc ?_ _ | with_reducible refine Adds.more ?_ _ _ | with_reducible refine Adds.drew ?_ | with_reducible refine Adds.drewN ?_ _)⟩

end Go.Proofs.YtbedmlimbcfnnaaGreatDoor
