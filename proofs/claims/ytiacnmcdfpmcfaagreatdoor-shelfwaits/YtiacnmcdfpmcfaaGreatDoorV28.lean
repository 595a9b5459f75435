/-
  The reference's calls, by contracts.
  The reference's raw, by a contract: call.
  The reference's raw, by a contract: mul.
-/
import Derived.Test.YtiacnmcdfpmcfaaGreatDoorQ20
import Derived.Test.YtiacnmcdfpmcfaaGreatDoorQ17
import Derived.Test.YtiacnmcdfpmcfaaGreatDoorQ18
import Derived.Test.YtiacnmcdfpmcfaaGreatDoorQ21
import Derived.BigQuiet
namespace Go.Proofs.YtiacnmcdfpmcfaaGreatDoor
open Go.RowKit
attribute [local go_sem] cell?_more frozen?_more setCell_more size_more tape_more drew_more drewN_more more_drew more_drewN one_out plus_out plus_end lt_one le_p2 le_p3 le_p4 le_p5 le_p6 le_p7 le_p8 le_p9 le_p10 le_p11 le_p12 le_p13 le_p14 le_p15 le_p16 le_p17 le_p18 le_p19 le_p20 le_p21 le_p22 le_p23 le_p24 le_q0 le_q1 lt_q1 le_q2 lt_q2 le_q3 lt_q3 le_q4 lt_q4 le_q5 lt_q5 le_q6 lt_q6 le_q7 lt_q7 le_q8 lt_q8 le_q9 lt_q9 le_q10 lt_q10 le_q11 lt_q11 le_q12 lt_q12 le_q13 lt_q13 le_q14 lt_q14 le_q15 lt_q15 le_q16 lt_q16 le_q17 lt_q17 le_q18 lt_q18 le_q19 lt_q19 le_q20 lt_q20 le_q21 lt_q21 le_q22 lt_q22 le_q23 lt_q23 le_q24 lt_q24


set_option maxHeartbeats 2000000 in
theorem rCallP_any (f : ByteArray) (x y : Int) (h : Gs.May x y) (w : World) :
    Calls Tryz.prog 151 #[.string f, (V.mkPoint x y).val] w fun e w' => e = .returned (optV (callP f.toList x y)) ∧ Adds w w' := by
  have k1 : (⟨#[110, 111, 114, 109]⟩ : ByteArray).toList = nNorm := by rw [ByteArray.toList_eq]; rfl
  have k2 : (⟨#[99, 111, 110, 106]⟩ : ByteArray).toList = nConj := by rw [ByteArray.toList_eq]; rfl
  have k3 : (⟨#[116, 117, 114, 110]⟩ : ByteArray).toList = nTurn := by rw [ByteArray.toList_eq]; rfl
  have kN := Gs.rnorm_any x y h
  have kT := Gs.rturn_may x y 1 h
  have kI := rNum_any (x * x + y * y)
  have kP1 := rPoint_any x (-y)
  have kP2 := rPoint_any (-y) x
  have hq : Gs.quarters 1 = 1 := by decide
  rw [hq] at kT
  simp only [Gs.rot] at kT
  obtain ⟨⟨y1, y2⟩, y3, y4⟩ : (-9007199254740992 ≤ x ∧ x ≤ 9007199254740992) ∧ -9007199254740992 ≤ y ∧ y ≤ 9007199254740992 := by
    unfold Gs.May at h
    omega
  unfold callP
  simp only [optV, V.val, V.mkNum, V.mkPoint] at *
  clear h hq
  by_cases h1 : f.toList = nNorm
  · have h1' : (f.toList == nNorm) = true := by simpa using h1
    rw [if_pos h1]
    clear h1
    generalize x * x + y * y = z at *
    go_enter Tryz.func151, Tryz.ntmps151
    go_wp2_with (first
      | (go_at_call 164; refine (kN _).mono ?_; rintro e w1 ⟨rfl, os1, n1, rfl⟩)
      | (go_at_call 147; refine (kI _).mono ?_; rintro e w2 ⟨rfl, os2, n2, rfl⟩))
    exact bodyPost_ret (v := .tuple #[.agg #[.int .i64 1, .int .i64 z, .string ⟨#[]⟩, .int .i64 0, .int .i64 0], .bool true]) (by simp [results, Tryz.results151, go_sem]) rfl ⟨rfl, by repeat (first | with_reducible exact Adds.refl _ | with_reducible refine Adds.alloc ?_ _ | with_reducible refine Adds.more ?_ _ _ | with_reducible refine Adds.drew ?_ | with_reducible refine Adds.drewN ?_ _)⟩
  have h1' : (f.toList == nNorm) = false := by simpa using h1
  rw [if_neg h1]
  by_cases h2 : f.toList = nConj
  · have h2' : (f.toList == nConj) = true := by simpa using h2
    rw [if_pos h2]
    clear h1 h2
    go_enter Tryz.func151, Tryz.ntmps151
    go_wp2_with (first
      | (go_at_call 150; refine (kP1 _).mono ?_; rintro e w2 ⟨rfl, os2, n2, rfl⟩))
    exact bodyPost_ret (v := .tuple #[.agg #[.int .i64 3, .int .i64 0, .string ⟨#[]⟩, .int .i64 x, .int .i64 (-y)], .bool true]) (by simp [results, Tryz.results151, go_sem]) rfl ⟨rfl, by repeat (first | with_reducible exact Adds.refl _ | with_reducible refine Adds.alloc ?_ _ | with_reducible refine Adds.more ?_ _ _ | with_reducible refine Adds.drew ?_ | with_reducible refine Adds.drewN ?_ _)⟩
  have h2' : (f.toList == nConj) = false := by simpa using h2
  rw [if_neg h2]
  by_cases h3 : f.toList = nTurn
  · have h3' : (f.toList == nTurn) = true := by simpa using h3
    rw [if_pos h3]
    clear h1 h2 h3
    go_enter Tryz.func151, Tryz.ntmps151
    go_wp2_with (first
      | (go_at_call 165; refine (kT _).mono ?_; rintro e w1 ⟨rfl, os1, n1, rfl⟩)
      | (go_at_call 150; refine (kP2 _).mono ?_; rintro e w2 ⟨rfl, os2, n2, rfl⟩))
    exact bodyPost_ret (v := .tuple #[.agg #[.int .i64 3, .int .i64 0, .string ⟨#[]⟩, .int .i64 (-y), .int .i64 x], .bool true]) (by simp [results, Tryz.results151, go_sem]) rfl ⟨rfl, by repeat (first | with_reducible exact Adds.refl _ | with_reducible refine Adds.alloc ?_ _ | with_reducible refine Adds.more ?_ _ _ | with_reducible refine Adds.drew ?_ | with_reducible refine Adds.drewN ?_ _)⟩
  have h3' : (f.toList == nTurn) = false := by simpa using h3
  rw [if_neg h3]
  clear h1 h2 h3
  simp only [Option.getD_none, Option.isSome_none, vZ]
  go_enter Tryz.func151, Tryz.ntmps151
  go_wp2
  exact bodyPost_ret (v := .tuple #[.agg #[.int .i64 0, .int .i64 0, .string ⟨#[]⟩, .int .i64 0, .int .i64 0], .bool false]) (by simp [results, Tryz.results151, go_sem]) rfl ⟨rfl, by repeat (first | with_reducible exact Adds.refl _ | with_reducible refine Adds.alloc ?_ _ | with_reducible refine Adds.more ?_ _ _ | with_reducible refine Adds.drew ?_ | with_reducible refine Adds.drewN ?_ _)⟩

theorem rCallN_any (f : ByteArray) (x : Int) (w : World) :
    Calls Tryz.prog 151 #[.string f, (V.mkNum x).val] w fun e w' => e = .returned (optV none) ∧ Adds w w' := by
  simp only [optV, Option.getD_none, Option.isSome_none, vZ, V.val, V.mkNum]
  go_enter Tryz.func151, Tryz.ntmps151
  go_wp2
  exact bodyPost_ret (v := .tuple #[.agg #[.int .i64 0, .int .i64 0, .string ⟨#[]⟩, .int .i64 0, .int .i64 0], .bool false]) (by simp [results, Tryz.results151, go_sem]) rfl ⟨rfl, by repeat (first | with_reducible exact Adds.refl _ | with_reducible refine Adds.alloc ?_ _ | with_reducible refine Adds.more ?_ _ _ | with_reducible refine Adds.drew ?_ | with_reducible refine Adds.drewN ?_ _)⟩

set_option maxHeartbeats 4000000 in
theorem rCallLow_any (f s : ByteArray) (hs : s.size ≤ 256) (hf : f.toList = nLow) (w : World) :
    Calls Tryz.prog 151 #[.string f, (V.mkText s).val] w fun e w' => e = .returned (optV (some (V.mkText (lowB s)))) ∧ Adds w w' := by
  have k4 : (⟨#[108, 111, 119]⟩ : ByteArray).toList = nLow := by rw [ByteArray.toList_eq]; rfl
  have hf' : (f.toList == nLow) = true := by simpa using hf
  clear hf
  have kT := rText_any (lowB s)
  simp only [optV, Option.getD_some, Option.isSome_some, V.val, V.mkText] at *
  generalize hw0 : (w.alloc (.cells #[.int .i64 2, .int .i64 0, .string s, .int .i64 0, .int .i64 0] 87)).alloc (.cells #[.int .i64 0, .int .i64 0, .string ⟨#[]⟩, .int .i64 0, .int .i64 0] 87) = w0
  have hc0 := Lib.run_convert_string_bytes (P := Tryz.prog) w0 9 120 5 s Tryz.underlying9 Tryz.underlying120 Tryz.underlying5
  have hL := LB.conv w0 s
  have hM : Adds w0 (Lib.bytesWorld w0 5 s) := Mv.adds ⟨rfl, rfl, rfl, by rw [Lib.bytesWorld_size]; omega, fun k hk _ => Lib.bytesWorld_at_old w0 5 s k hk⟩
  have hz : w0.heap.size = w.heap.size + 1 + 1 := by rw [← hw0]; simp
  rw [hz] at hc0 hL
  generalize Lib.bytesWorld w0 5 s = W0 at *
  generalize grownCap w0 s.size 0 5 = cap at *
  unfold lowB at kT ⊢
  have hsz := toList_length s
  generalize hl : s.toList = l at *
  rw [← hsz] at hc0 hs
  subst hw0
  have HL : Hid (LB W0 (w.heap.size + 1 + 1) l) := hL
  have HM : Hid (Adds _ W0) := hM
  clear hL hM hz hsz hl
  go_enter Tryz.func151, Tryz.ntmps151
  go_wp2
  go_loopw [7] (fun iv wr => ∃ k : Nat, k ≤ l.length ∧ iv = .int .i64 k ∧ Hid (LB wr (w.heap.size + 1 + 1) (mixL lowC l k)) ∧ Hid (Adds ((w.alloc (.cells #[.int .i64 2, .int .i64 0, .string s, .int .i64 0, .int .i64 0] 87)).alloc (.cells #[.int .i64 0, .int .i64 0, .string ⟨#[]⟩, .int .i64 0, .int .i64 0] 87)) wr)) (fun iv _ => l.length - (intOf iv).toNat)
  case atStart => exact ⟨0, Nat.zero_le _, rfl, by simpa [mixL] using HL, HM⟩
  case round =>
    obtain ⟨k, hk, rfl, hB, hMv⟩ := hrel
    by_cases hlt : k < l.length
    · have hlen := mixL_length lowC l hk
      have c0 := hB.out.2.1 k (by rw [hlen]; exact hlt)
      rw [mixL_at lowC l hlt] at c0
      have cf := hB.out.2.2 k (by rw [hlen]; exact hlt)
      have hgl := hB.out.1
      have HN : Hid (mixL lowC l (k + 1) = (mixL lowC l k).set k (lowC l[k])) := mixL_next lowC l hlt
      have HS : Hid (LB (wr.setCell ⟨w.heap.size + 1 + 1, k, none⟩ (.int .u8 ((lowC l[k]).toNat : Int))) (w.heap.size + 1 + 1) (mixL lowC l (k + 1))) := by
        have := hB.out.set (by rw [hlen]; exact hlt) (lowC l[k])
        rw [← HN.out] at this
        exact this
      have HK : Hid (¬ (65 ≤ l[k].toNat ∧ l[k].toNat ≤ 90) → mixL lowC l (k + 1) = mixL lowC l k) := by
        intro h
        rw [HN.out]
        have e : lowC l[k] = l[k] := by simp only [lowC, h, if_false]
        rw [e]
        have := mixL_at lowC l hlt
        rw [← this]
        simp
      have HU : Hid (65 ≤ l[k].toNat ∧ l[k].toNat ≤ 90 → ((lowC l[k]).toNat : Int) = (l[k].toNat : Int) + 32) := lowC_up
      have HMs : Hid (∀ x, Adds ((w.alloc (.cells #[.int .i64 2, .int .i64 0, .string s, .int .i64 0, .int .i64 0] 87)).alloc (.cells #[.int .i64 0, .int .i64 0, .string ⟨#[]⟩, .int .i64 0, .int .i64 0] 87)) (wr.setCell ⟨w.heap.size + 1 + 1, k, none⟩ x)) := fun x => Mv.adds (Mv.trans hMv.out.mv (Mv.set _ _ (by simp)))
      clear hlen
      by_cases h1 : 65 ≤ (l[k].toNat : Int)
      · by_cases h2 : (l[k].toNat : Int) ≤ 90
        · have hu := HU.out ⟨by omega, by omega⟩
          rw [hu] at HS
          clear hu HU HK HN
          generalize (l[k].toNat : Int) = c at *
          have w2 : IntKind.u8.wrap (c + 32) = c + 32 := by rw [IntKind.wrap_u8]; omega
          go_wp2
          go_roundw
          case rel => exact ⟨k + 1, by omega, by go_num, HS, HMs.out _⟩
          case measure => simp [intOf]; omega
        · have HE : Hid (mixL lowC l (k + 1) = mixL lowC l k) := HK.out (by omega)
          clear HU HK HN HS
          go_wp2
          go_roundw
          case rel => exact ⟨k + 1, by omega, by go_num, by rw [HE.out]; exact hB, hMv⟩
          case measure => simp [intOf]; omega
      · have HE : Hid (mixL lowC l (k + 1) = mixL lowC l k) := HK.out (by omega)
        clear HU HK HN HS
        go_wp2
        go_roundw
        case rel => exact ⟨k + 1, by omega, by go_num, by rw [HE.out]; exact hB, hMv⟩
        case measure => simp [intOf]; omega
    · have hk' : k = l.length := by omega
      subst hk'
      have hcv := hB.out.str cap
      rw [mixL_length lowC l (Nat.le_refl _), mixL_all] at hcv
      obtain ⟨os, n0, rfl⟩ := hMv.out
      clear hB hMv HL HM hc0
      go_wp2_with (first
        | (go_at_call 149; refine (kT _).mono ?_; rintro e w2 ⟨rfl, os2, n2, rfl⟩))
      exact bodyPost_ret (v := .tuple #[.agg #[.int .i64 2, .int .i64 0, .string (toB (l.map lowC)), .int .i64 0, .int .i64 0], .bool true]) (by simp [results, Tryz.results151, go_sem]) rfl ⟨rfl, by repeat (first | with_reducible exact Adds.refl _ | with_reducible refine Adds.alloc ?_ _ | with_reducible refine Adds.more ?_ _ _ | with_reducible refine Adds.drew ?_ | with_reducible refine Adds.drewN ?_ _)⟩

set_option maxHeartbeats 2000000 in
theorem rCallT_any (f s : ByteArray) (hs : s.size ≤ 256) (w : World) :
    Calls Tryz.prog 151 #[.string f, (V.mkText s).val] w fun e w' => e = .returned (optV (callT f.toList s)) ∧ Adds w w' := by
  unfold callT
  by_cases h1 : f.toList = nLow
  · rw [if_pos h1]
    exact rCallLow_any f s hs h1 w
  have k4 : (⟨#[108, 111, 119]⟩ : ByteArray).toList = nLow := by rw [ByteArray.toList_eq]; rfl
  have k5 : (⟨#[104, 101, 97, 100]⟩ : ByteArray).toList = nHead := by rw [ByteArray.toList_eq]; rfl
  have kT := fun x => rText_any x
  have h1' : (f.toList == nLow) = false := by simpa using h1
  rw [if_neg h1]
  by_cases h2 : f.toList = nHead
  · have h2' : (f.toList == nHead) = true := by simpa using h2
    rw [if_pos h2]
    simp only [optV, Option.getD_some, Option.isSome_some, V.val, V.mkText]
    clear h1 h2
    by_cases h0 : s.toList = []
    · have he : s.extract 0 1 = s := by
        apply toList_inj
        rw [extract_L, h0]
        rfl
      rw [he]
      have h0' : (s.toList == []) = true := by simp [h0]
      clear h0 he
      go_enter Tryz.func151, Tryz.ntmps151
      go_wp2_with (first
        | (go_at_call 149; refine (kT _ _).mono ?_; rintro e w2 ⟨rfl, os2, n2, rfl⟩))
      exact bodyPost_ret (v := .tuple #[.agg #[.int .i64 2, .int .i64 0, .string s, .int .i64 0, .int .i64 0], .bool true]) (by simp [results, Tryz.results151, go_sem]) rfl ⟨rfl, by repeat (first | with_reducible exact Adds.refl _ | with_reducible refine Adds.alloc ?_ _ | with_reducible refine Adds.more ?_ _ _ | with_reducible refine Adds.drew ?_ | with_reducible refine Adds.drewN ?_ _)⟩
    · have h0' : (s.toList == []) = false := by simp [h0]
      have h0n : 1 ≤ s.size := by
        rw [← toList_length]
        cases hq : s.toList with
        | nil => exact absurd hq h0
        | cons a r => simp
      have h0a : 1 ≤ (s.size : Int) := by omega
      clear h0
      go_enter Tryz.func151, Tryz.ntmps151
      go_wp2_with (first
        | (go_at_call 149; refine (kT _ _).mono ?_; rintro e w2 ⟨rfl, os2, n2, rfl⟩))
      exact bodyPost_ret (v := .tuple #[.agg #[.int .i64 2, .int .i64 0, .string (s.extract 0 1), .int .i64 0, .int .i64 0], .bool true]) (by simp [results, Tryz.results151, go_sem]) rfl ⟨rfl, by repeat (first | with_reducible exact Adds.refl _ | with_reducible refine Adds.alloc ?_ _ | with_reducible refine Adds.more ?_ _ _ | with_reducible refine Adds.drew ?_ | with_reducible refine Adds.drewN ?_ _)⟩
  have h2' : (f.toList == nHead) = false := by simpa using h2
  rw [if_neg h2]
  clear h1 h2
  simp only [optV, Option.getD_none, Option.isSome_none, vZ, V.val, V.mkText]
  go_enter Tryz.func151, Tryz.ntmps151
  go_wp2
  exact bodyPost_ret (v := .tuple #[.agg #[.int .i64 0, .int .i64 0, .string ⟨#[]⟩, .int .i64 0, .int .i64 0], .bool false]) (by simp [results, Tryz.results151, go_sem]) rfl ⟨rfl, by repeat (first | with_reducible exact Adds.refl _ | with_reducible refine Adds.alloc ?_ _ | with_reducible refine Adds.more ?_ _ _ | with_reducible refine Adds.drew ?_ | with_reducible refine Adds.drewN ?_ _)⟩

theorem rCall_any (f : ByteArray) (v : V) (hv : v.check = 0) (w : World) :
    Calls Tryz.prog 151 #[.string f, v.val] w fun e w' => e = .returned (optV (callO f.toList v)) ∧ Adds w w' := by
  rcases V.cases hv with ⟨a, rfl, a1, a2⟩ | ⟨s, rfl, hs⟩ | ⟨x, y, rfl, hxy⟩
  · have e : callO f.toList (V.mkNum a) = none := by simp [callO, V.mkNum]
    rw [e]
    exact rCallN_any f a w
  · have e : callO f.toList (V.mkText s) = callT f.toList s := by simp [callO, callT, V.mkText]
    rw [e]
    exact rCallT_any f s hs w
  · have e : callO f.toList (V.mkPoint x y) = callP f.toList x y := by simp [callO, callP, V.mkPoint]
    rw [e]
    exact rCallP_any f x y hxy w

end Go.Proofs.YtiacnmcdfpmcfaaGreatDoor

namespace Go.Proofs.YtiacnmcdfpmcfaaGreatDoor
open Go.RowKit
attribute [local go_sem] cell?_more frozen?_more setCell_more size_more tape_more drew_more drewN_more more_drew more_drewN one_out plus_out plus_end lt_one le_p2 le_p3 le_p4 le_p5 le_p6 le_p7 le_p8 le_p9 le_p10 le_p11 le_p12 le_p13 le_p14 le_p15 le_p16 le_p17 le_p18 le_p19 le_p20 le_p21 le_p22 le_p23 le_p24 le_q0 le_q1 lt_q1 le_q2 lt_q2 le_q3 lt_q3 le_q4 lt_q4 le_q5 lt_q5 le_q6 lt_q6 le_q7 lt_q7 le_q8 lt_q8 le_q9 lt_q9 le_q10 lt_q10 le_q11 lt_q11 le_q12 lt_q12 le_q13 lt_q13 le_q14 lt_q14 le_q15 lt_q15 le_q16 lt_q16 le_q17 lt_q17 le_q18 lt_q18 le_q19 lt_q19 le_q20 lt_q20 le_q21 lt_q21 le_q22 lt_q22 le_q23 lt_q23 le_q24 lt_q24


set_option maxHeartbeats 4000000 in
theorem raw_call {ok : Nat → Prop} {d : Nat} (cs : List E) (hcs : cs.length = 1) (t : ByteArray) (n : Int) (fs : List F) (hm : May fs) (dv : Value) (sn : Value) (w : World) (hT : Tn ok d w sn (cs.map E.toN)) (_hL : Lst w dv fs) (hok : ∀ c ∈ cs, c.ok)
    (HV : ∀ (j : Nat) (h : j < cs.length) (e : Nat) (x : Value) (W : World), Adds w W → Tn ok e W x cs[j].toN.args → Calls Tryz.prog 100 #[nodeV cs[j].toN x, dv] W fun z w' => z = .returned (optV (valE fs cs[j])) ∧ Adds W w') :
    Calls Tryz.prog 126 #[.agg #[.int .i64 5, .string t, .int .i64 n, sn], dv] w fun x w' => x = .returned (optV ((kidsV fs cs).bind (fun l => callO t.toList (l.getD 0 vZ)))) ∧ Adds w w' := by
  obtain ⟨ao, cap, rfl⟩ := hT.shape
  have HCS : Hid (cs.length = 1) := hcs
  rw [List.length_map, hcs] at hT ⊢
  have HT : Hid (Tn ok d w (.slice ao 1 cap) (cs.map E.toN)) := hT
  have HC : Hid (∀ (j : Nat) (h : j < cs.length) v, valE fs cs[j] = some v → v.check = 0) := fun j h v hv => valE_ok hm (hok _ (List.getElem_mem h)) hv
  have kC := fun v hv => rCall_any t v hv
  clear hT hok hm _hL
  clear hcs
  have HX : Hid _ := HV
  clear HV
  go_enter Tryz.func126, Tryz.ntmps126
  go_wp2
  go_loopw [6, 7] (fun lv iv wr => ∃ (j : Nat) (vs : List V), j ≤ 1 ∧ iv = .int .i64 j ∧ Hid (Kn fs cs ((w.alloc (.cells #[.int .i64 5, .string t, .int .i64 n, .slice ao 1 cap] 81)).alloc (.cells #[.int .i64 0, .int .i64 0, .string ⟨#[]⟩, .int .i64 0, .int .i64 0] 87)) wr lv j vs)) (fun _ iv _ => 1 - (intOf iv).toNat)
  case atStart =>
    refine ⟨0, [], Nat.zero_le _, rfl, ⟨rfl, ?_, by simp, own_empty (by simp) (Nat.le_refl _), by repeat (first | with_reducible exact Adds.refl _ | with_reducible refine Adds.alloc ?_ _ | with_reducible refine Adds.more ?_ _ _ | with_reducible refine Adds.drew ?_ | with_reducible refine Adds.drewN ?_ _)⟩⟩
    rw [List.drop_zero]
    cases kidsV fs cs <;> rfl
  case round =>
    obtain ⟨j, vs, hj, rfl, hK⟩ := hrel
    by_cases hltM : j < 1
    · have hlt : j < cs.length := by rw [HCS.out]; exact hltM
      obtain ⟨e, b1, o1, x, he, rfl, hb1, ⟨c0, c1, c2, c3⟩, hsz, htx⟩ := HT.out.elem (k := j) (by simpa using hlt)
      simp only [List.getElem_map] at c0 c1 c2 c3 htx
      have kR := fun W (hA : Adds w W) => HX.out j hlt e x W hA (htx.adds hA)
      obtain ⟨xo, xc, rfl⟩ := htx.shape
      obtain ⟨os, n0, rfl⟩ := hK.out.adds
      have hKl := hK.out.len
      have HCj := HC.out j hlt
      cases hv : valE fs cs[j] with
      | none =>
        have HNn : Hid (kidsV fs cs = none) := hK.out.none hlt hv
        rw [hv] at kR
        simp only [optV, Option.getD_none, Option.isSome_none, vZ, V.val, nodeV] at kR
        clear htx he HT HX hsz HC HCj hv hK hKl HCS kC
        generalize cs[j].toN.args.length = la at *
        generalize cs[j].toN.kind = ka at *
        generalize cs[j].toN.text = ta at *
        generalize cs[j].toN.num = na at *
        go_wp2_with (go_at_call 100; refine (kR _ (by repeat (first | with_reducible exact Adds.refl _ | with_reducible refine Adds.alloc ?_ _ | with_reducible refine Adds.more ?_ _ _ | with_reducible refine Adds.drew ?_ | with_reducible refine Adds.drewN ?_ _))).mono ?_; rintro e w2 ⟨rfl, os2, n2, rfl⟩)
        exact bodyPost_ret (v := .tuple #[.agg #[.int .i64 0, .int .i64 0, .string ⟨#[]⟩, .int .i64 0, .int .i64 0], .bool false]) (by simp [results, Tryz.results126, go_sem]) rfl ⟨by rw [HNn.out]; rfl, by repeat (first | with_reducible exact Adds.refl _ | with_reducible refine Adds.alloc ?_ _ | with_reducible refine Adds.more ?_ _ _ | with_reducible refine Adds.drew ?_ | with_reducible refine Adds.drewN ?_ _)⟩
      | some v =>
        obtain ⟨vk, vn, vt, vr, vi⟩ := v
        have HVv : Hid (valE fs cs[j] = some ⟨vk, vn, vt, vr, vi⟩) := hv
        have HCv : Hid ((⟨vk, vn, vt, vr, vi⟩ : V).check = 0) := HCj _ hv
        rw [hv] at kR
        simp only [optV, Option.getD_some, Option.isSome_some, V.val, nodeV] at kR
        clear htx he HT HX hsz HC HCj hv kC
        generalize cs[j].toN.args.length = la at *
        generalize cs[j].toN.kind = ka at *
        generalize cs[j].toN.text = ta at *
        generalize cs[j].toN.num = na at *
        go_wp2_with (first
          | (go_at_call 100; refine (kR _ (by repeat (first | with_reducible exact Adds.refl _ | with_reducible refine Adds.alloc ?_ _ | with_reducible refine Adds.more ?_ _ _ | with_reducible refine Adds.drew ?_ | with_reducible refine Adds.drewN ?_ _))).mono ?_; rintro e w2 ⟨rfl, os2, n2, rfl⟩)
          | (at_builtin; refine val_app rfl (.tmp 34) (.tmp 36) rfl hK.out.own (by repeat (first | with_reducible exact Adds.refl _ | with_reducible refine Adds.alloc ?_ _ | with_reducible refine Adds.more ?_ _ _ | with_reducible refine Adds.drew ?_ | with_reducible refine Adds.drewN ?_ _)) hK.out.adds.below.size rfl (by simp only [size_more, World.size_alloc]; omega) rfl (by omega) ?_; intro v6 w6 ho6 hg6))
        go_roundw
        case rel =>
          refine ⟨j + 1, vs ++ [(⟨vk, vn, vt, vr, vi⟩ : V)], by omega, by go_num, ?_⟩
          exact hK.out.push hlt HVv.out HCv.out (by repeat (first | with_reducible exact Adds.refl _ | with_reducible refine Adds.alloc ?_ _ | with_reducible refine Adds.more ?_ _ _ | with_reducible refine Adds.drew ?_ | with_reducible refine Adds.drewN ?_ _)) ho6 hg6
        case measure => simp [intOf]; omega
    · have hj' : j = cs.length := by rw [HCS.out]; omega
      subst hj'
      rw [HCS.out] at hj hltM
      have HLa : Hid (kidsV fs cs = some vs) := hK.out.last
      have hvl := hK.out.len
      have hgood := hK.out.good
      have hown := hK.out.own
      have HA1 : Hid (Adds w wr) := Adds.trans (by repeat (first | with_reducible exact Adds.refl _ | with_reducible refine Adds.alloc ?_ _ | with_reducible refine Adds.more ?_ _ _ | with_reducible refine Adds.drew ?_ | with_reducible refine Adds.drewN ?_ _)) hK.out.adds
      have hA1 := hK.out.adds
      have hbel := hA1.below
      have hsz := hbel.size
      simp only [World.size_alloc] at hsz
      have fB : ∀ i, wr.cell? ⟨w.heap.size, i, none⟩ = (((w.alloc (.cells #[.int .i64 5, .string t, .int .i64 n, .slice ao 1 cap] 81)).alloc (.cells #[.int .i64 0, .int .i64 0, .string ⟨#[]⟩, .int .i64 0, .int .i64 0] 87))).cell? ⟨w.heap.size, i, none⟩ := fun i => World.cell?_of_block (hbel.block _ (by rw [World.size_alloc, World.size_alloc]; show _ < w.heap.size + 1 + 1; simp only; omega))
      have gB : ∀ i, wr.cell? ⟨w.heap.size + 1, i, none⟩ = (((w.alloc (.cells #[.int .i64 5, .string t, .int .i64 n, .slice ao 1 cap] 81)).alloc (.cells #[.int .i64 0, .int .i64 0, .string ⟨#[]⟩, .int .i64 0, .int .i64 0] 87))).cell? ⟨w.heap.size + 1, i, none⟩ := fun i => World.cell?_of_block (hbel.block _ (by rw [World.size_alloc, World.size_alloc]; show _ < w.heap.size + 1 + 1; simp only; omega))
      have zB : ∀ i, wr.frozen? ⟨w.heap.size + 1, i, none⟩ = (((w.alloc (.cells #[.int .i64 5, .string t, .int .i64 n, .slice ao 1 cap] 81)).alloc (.cells #[.int .i64 0, .int .i64 0, .string ⟨#[]⟩, .int .i64 0, .int .i64 0] 87))).frozen? ⟨w.heap.size + 1, i, none⟩ := fun i => World.frozen?_of_block (hbel.block _ (by rw [World.size_alloc, World.size_alloc]; show _ < w.heap.size + 1 + 1; simp only; omega))
      have f0 := (fB 0).trans (show _ = some (.int .i64 5) by simp)
      have f1 := (fB 1).trans (show _ = some (.string t) by simp)
      have f2 := (fB 2).trans (show _ = some (.int .i64 n) by simp)
      have f3 := (fB 3).trans (show _ = some (.slice ao 1 cap) by simp)
      have g0 := (gB 0).trans (show _ = some (.int .i64 0) by simp)
      have g1 := (gB 1).trans (show _ = some (.int .i64 0) by simp)
      have g2 := (gB 2).trans (show _ = some (.string ⟨#[]⟩) by simp)
      have g3 := (gB 3).trans (show _ = some (.int .i64 0) by simp)
      have g4 := (gB 4).trans (show _ = some (.int .i64 0) by simp)
      have z0 := (zB 0).trans (show _ = false by simp)
      have z1 := (zB 1).trans (show _ = false by simp)
      have z2 := (zB 2).trans (show _ = false by simp)
      have z3 := (zB 3).trans (show _ = false by simp)
      have z4 := (zB 4).trans (show _ = false by simp)
      have s0 : w.heap.size < wr.heap.size := by omega
      have s1 : w.heap.size + 1 < wr.heap.size := by omega
      rw [HCS.out] at hvl ⊢
      clear hK HT HX HC hA1 hbel fB gB zB
      obtain ⟨x, rfl⟩ : ∃ x, vs = [x] := by
        match vs, hvl with
        | [x], _ => exact ⟨x, rfl⟩
      obtain ⟨g, gcap, rfl, hg, e0, e1, e2, e3, e4⟩ := own_one hown
      have kC' := kC x (hgood x (by simp))
      have HRR : Hid ((kidsV fs cs).bind (fun l => callO t.toList (l.getD 0 vZ)) = callO t.toList x) := by show _ = _; rw [HLa.out]; rfl
      clear kC hgood hown HLa
      generalize callO t.toList x = o at *
      obtain ⟨⟨k, n', t', re, im⟩, hq⟩ : ∃ q, o.getD vZ = q := ⟨_, rfl⟩
      obtain ⟨xk, xn, xt, xr, xi⟩ := x
      simp only [optV, hq, V.val] at kC'
      have HQ : Hid (o.getD vZ = ⟨k, n', t', re, im⟩) := hq
      obtain ⟨q2, hq2⟩ : ∃ q2, o.isSome = q2 := ⟨_, rfl⟩
      have HQ2 : Hid (o.isSome = q2) := hq2
      rw [hq2] at kC'
      clear hq hq2
      go_wp2
      go_region_with (first
        | (go_at_call 151; refine (kC' _).mono ?_; rintro e w2 ⟨rfl, os2, n2, rfl⟩))
      all_goals
        go_wp2
        exact bodyPost_ret (v := .tuple #[.agg #[.int .i64 k, .int .i64 n', .string t', .int .i64 re, .int .i64 im], .bool q2]) (by simp [results, Tryz.results126, go_sem, s1, g0, g1, g2, g3, g4]) rfl ⟨by rw [HRR.out]; simp only [optV, HQ.out, HQ2.out, V.val], by repeat (first | with_reducible exact HA1.out | with_reducible refine Adds.put ?_ (by omega) _ _ | with_reducible refine Adds.alloc ?_ _ | with_reducible refine Adds.more ?_ _ _ | with_reducible refine Adds.drew ?_ | with_reducible refine Adds.drewN ?_ _)⟩

end Go.Proofs.YtiacnmcdfpmcfaaGreatDoor

namespace Go.Proofs.YtiacnmcdfpmcfaaGreatDoor
open Go.RowKit
attribute [local go_sem] cell?_more frozen?_more setCell_more size_more tape_more drew_more drewN_more more_drew more_drewN one_out plus_out plus_end lt_one le_p2 le_p3 le_p4 le_p5 le_p6 le_p7 le_p8 le_p9 le_p10 le_p11 le_p12 le_p13 le_p14 le_p15 le_p16 le_p17 le_p18 le_p19 le_p20 le_p21 le_p22 le_p23 le_p24 le_q0 le_q1 lt_q1 le_q2 lt_q2 le_q3 lt_q3 le_q4 lt_q4 le_q5 lt_q5 le_q6 lt_q6 le_q7 lt_q7 le_q8 lt_q8 le_q9 lt_q9 le_q10 lt_q10 le_q11 lt_q11 le_q12 lt_q12 le_q13 lt_q13 le_q14 lt_q14 le_q15 lt_q15 le_q16 lt_q16 le_q17 lt_q17 le_q18 lt_q18 le_q19 lt_q19 le_q20 lt_q20 le_q21 lt_q21 le_q22 lt_q22 le_q23 lt_q23 le_q24 lt_q24


set_option maxHeartbeats 4000000 in
theorem raw_mul {ok : Nat → Prop} {d : Nat} (cs : List E) (hcs : cs.length = 2) (t : ByteArray) (n : Int) (fs : List F) (hm : May fs) (dv : Value) (sn : Value) (w : World) (hT : Tn ok d w sn (cs.map E.toN)) (_hL : Lst w dv fs) (hok : ∀ c ∈ cs, c.ok)
    (HV : ∀ (j : Nat) (h : j < cs.length) (e : Nat) (x : Value) (W : World), Adds w W → Tn ok e W x cs[j].toN.args → Calls Tryz.prog 100 #[nodeV cs[j].toN x, dv] W fun z w' => z = .returned (optV (valE fs cs[j])) ∧ Adds W w') :
    Calls Tryz.prog 126 #[.agg #[.int .i64 4, .string t, .int .i64 n, sn], dv] w fun x w' => x = .returned (optV ((kidsV fs cs).bind (fun l => mulR (l.getD 0 vZ) (l.getD 1 vZ)))) ∧ Adds w w' := by
  obtain ⟨ao, cap, rfl⟩ := hT.shape
  have HCS : Hid (cs.length = 2) := hcs
  rw [List.length_map, hcs] at hT ⊢
  have HT : Hid (Tn ok d w (.slice ao 2 cap) (cs.map E.toN)) := hT
  have HC : Hid (∀ (j : Nat) (h : j < cs.length) v, valE fs cs[j] = some v → v.check = 0) := fun j h v hv => valE_ok hm (hok _ (List.getElem_mem h)) hv
  have kC := fun u v hu hv => rMul_any u v hu hv
  clear hT hok hm _hL
  clear hcs
  have HX : Hid _ := HV
  clear HV
  go_enter Tryz.func126, Tryz.ntmps126
  go_wp2
  go_loopw [6, 7] (fun lv iv wr => ∃ (j : Nat) (vs : List V), j ≤ 2 ∧ iv = .int .i64 j ∧ Hid (Kn fs cs ((w.alloc (.cells #[.int .i64 4, .string t, .int .i64 n, .slice ao 2 cap] 81)).alloc (.cells #[.int .i64 0, .int .i64 0, .string ⟨#[]⟩, .int .i64 0, .int .i64 0] 87)) wr lv j vs)) (fun _ iv _ => 2 - (intOf iv).toNat)
  case atStart =>
    refine ⟨0, [], Nat.zero_le _, rfl, ⟨rfl, ?_, by simp, own_empty (by simp) (Nat.le_refl _), by repeat (first | with_reducible exact Adds.refl _ | with_reducible refine Adds.alloc ?_ _ | with_reducible refine Adds.more ?_ _ _ | with_reducible refine Adds.drew ?_ | with_reducible refine Adds.drewN ?_ _)⟩⟩
    rw [List.drop_zero]
    cases kidsV fs cs <;> rfl
  case round =>
    obtain ⟨j, vs, hj, rfl, hK⟩ := hrel
    by_cases hltM : j < 2
    · have hlt : j < cs.length := by rw [HCS.out]; exact hltM
      obtain ⟨e, b1, o1, x, he, rfl, hb1, ⟨c0, c1, c2, c3⟩, hsz, htx⟩ := HT.out.elem (k := j) (by simpa using hlt)
      simp only [List.getElem_map] at c0 c1 c2 c3 htx
      have kR := fun W (hA : Adds w W) => HX.out j hlt e x W hA (htx.adds hA)
      obtain ⟨xo, xc, rfl⟩ := htx.shape
      obtain ⟨os, n0, rfl⟩ := hK.out.adds
      have hKl := hK.out.len
      have HCj := HC.out j hlt
      cases hv : valE fs cs[j] with
      | none =>
        have HNn : Hid (kidsV fs cs = none) := hK.out.none hlt hv
        rw [hv] at kR
        simp only [optV, Option.getD_none, Option.isSome_none, vZ, V.val, nodeV] at kR
        clear htx he HT HX hsz HC HCj hv hK hKl HCS kC
        generalize cs[j].toN.args.length = la at *
        generalize cs[j].toN.kind = ka at *
        generalize cs[j].toN.text = ta at *
        generalize cs[j].toN.num = na at *
        go_wp2_with (go_at_call 100; refine (kR _ (by repeat (first | with_reducible exact Adds.refl _ | with_reducible refine Adds.alloc ?_ _ | with_reducible refine Adds.more ?_ _ _ | with_reducible refine Adds.drew ?_ | with_reducible refine Adds.drewN ?_ _))).mono ?_; rintro e w2 ⟨rfl, os2, n2, rfl⟩)
        exact bodyPost_ret (v := .tuple #[.agg #[.int .i64 0, .int .i64 0, .string ⟨#[]⟩, .int .i64 0, .int .i64 0], .bool false]) (by simp [results, Tryz.results126, go_sem]) rfl ⟨by rw [HNn.out]; rfl, by repeat (first | with_reducible exact Adds.refl _ | with_reducible refine Adds.alloc ?_ _ | with_reducible refine Adds.more ?_ _ _ | with_reducible refine Adds.drew ?_ | with_reducible refine Adds.drewN ?_ _)⟩
      | some v =>
        obtain ⟨vk, vn, vt, vr, vi⟩ := v
        have HVv : Hid (valE fs cs[j] = some ⟨vk, vn, vt, vr, vi⟩) := hv
        have HCv : Hid ((⟨vk, vn, vt, vr, vi⟩ : V).check = 0) := HCj _ hv
        rw [hv] at kR
        simp only [optV, Option.getD_some, Option.isSome_some, V.val, nodeV] at kR
        clear htx he HT HX hsz HC HCj hv kC
        generalize cs[j].toN.args.length = la at *
        generalize cs[j].toN.kind = ka at *
        generalize cs[j].toN.text = ta at *
        generalize cs[j].toN.num = na at *
        go_wp2_with (first
          | (go_at_call 100; refine (kR _ (by repeat (first | with_reducible exact Adds.refl _ | with_reducible refine Adds.alloc ?_ _ | with_reducible refine Adds.more ?_ _ _ | with_reducible refine Adds.drew ?_ | with_reducible refine Adds.drewN ?_ _))).mono ?_; rintro e w2 ⟨rfl, os2, n2, rfl⟩)
          | (at_builtin; refine val_app rfl (.tmp 34) (.tmp 36) rfl hK.out.own (by repeat (first | with_reducible exact Adds.refl _ | with_reducible refine Adds.alloc ?_ _ | with_reducible refine Adds.more ?_ _ _ | with_reducible refine Adds.drew ?_ | with_reducible refine Adds.drewN ?_ _)) hK.out.adds.below.size rfl (by simp only [size_more, World.size_alloc]; omega) rfl (by omega) ?_; intro v6 w6 ho6 hg6))
        go_roundw
        case rel =>
          refine ⟨j + 1, vs ++ [(⟨vk, vn, vt, vr, vi⟩ : V)], by omega, by go_num, ?_⟩
          exact hK.out.push hlt HVv.out HCv.out (by repeat (first | with_reducible exact Adds.refl _ | with_reducible refine Adds.alloc ?_ _ | with_reducible refine Adds.more ?_ _ _ | with_reducible refine Adds.drew ?_ | with_reducible refine Adds.drewN ?_ _)) ho6 hg6
        case measure => simp [intOf]; omega
    · have hj' : j = cs.length := by rw [HCS.out]; omega
      subst hj'
      rw [HCS.out] at hj hltM
      have HLa : Hid (kidsV fs cs = some vs) := hK.out.last
      have hvl := hK.out.len
      have hgood := hK.out.good
      have hown := hK.out.own
      have HA1 : Hid (Adds w wr) := Adds.trans (by repeat (first | with_reducible exact Adds.refl _ | with_reducible refine Adds.alloc ?_ _ | with_reducible refine Adds.more ?_ _ _ | with_reducible refine Adds.drew ?_ | with_reducible refine Adds.drewN ?_ _)) hK.out.adds
      have hA1 := hK.out.adds
      have hbel := hA1.below
      have hsz := hbel.size
      simp only [World.size_alloc] at hsz
      have fB : ∀ i, wr.cell? ⟨w.heap.size, i, none⟩ = (((w.alloc (.cells #[.int .i64 4, .string t, .int .i64 n, .slice ao 2 cap] 81)).alloc (.cells #[.int .i64 0, .int .i64 0, .string ⟨#[]⟩, .int .i64 0, .int .i64 0] 87))).cell? ⟨w.heap.size, i, none⟩ := fun i => World.cell?_of_block (hbel.block _ (by rw [World.size_alloc, World.size_alloc]; show _ < w.heap.size + 1 + 1; simp only; omega))
      have gB : ∀ i, wr.cell? ⟨w.heap.size + 1, i, none⟩ = (((w.alloc (.cells #[.int .i64 4, .string t, .int .i64 n, .slice ao 2 cap] 81)).alloc (.cells #[.int .i64 0, .int .i64 0, .string ⟨#[]⟩, .int .i64 0, .int .i64 0] 87))).cell? ⟨w.heap.size + 1, i, none⟩ := fun i => World.cell?_of_block (hbel.block _ (by rw [World.size_alloc, World.size_alloc]; show _ < w.heap.size + 1 + 1; simp only; omega))
      have zB : ∀ i, wr.frozen? ⟨w.heap.size + 1, i, none⟩ = (((w.alloc (.cells #[.int .i64 4, .string t, .int .i64 n, .slice ao 2 cap] 81)).alloc (.cells #[.int .i64 0, .int .i64 0, .string ⟨#[]⟩, .int .i64 0, .int .i64 0] 87))).frozen? ⟨w.heap.size + 1, i, none⟩ := fun i => World.frozen?_of_block (hbel.block _ (by rw [World.size_alloc, World.size_alloc]; show _ < w.heap.size + 1 + 1; simp only; omega))
      have f0 := (fB 0).trans (show _ = some (.int .i64 4) by simp)
      have f1 := (fB 1).trans (show _ = some (.string t) by simp)
      have f2 := (fB 2).trans (show _ = some (.int .i64 n) by simp)
      have f3 := (fB 3).trans (show _ = some (.slice ao 2 cap) by simp)
      have g0 := (gB 0).trans (show _ = some (.int .i64 0) by simp)
      have g1 := (gB 1).trans (show _ = some (.int .i64 0) by simp)
      have g2 := (gB 2).trans (show _ = some (.string ⟨#[]⟩) by simp)
      have g3 := (gB 3).trans (show _ = some (.int .i64 0) by simp)
      have g4 := (gB 4).trans (show _ = some (.int .i64 0) by simp)
      have z0 := (zB 0).trans (show _ = false by simp)
      have z1 := (zB 1).trans (show _ = false by simp)
      have z2 := (zB 2).trans (show _ = false by simp)
      have z3 := (zB 3).trans (show _ = false by simp)
      have z4 := (zB 4).trans (show _ = false by simp)
      have s0 : w.heap.size < wr.heap.size := by omega
      have s1 : w.heap.size + 1 < wr.heap.size := by omega
      rw [HCS.out] at hvl ⊢
      clear hK HT HX HC hA1 hbel fB gB zB
      obtain ⟨x, y, rfl⟩ : ∃ x y, vs = [x, y] := by
        match vs, hvl with
        | [x, y], _ => exact ⟨x, y, rfl⟩
      obtain ⟨g, gcap, rfl, hg, ⟨e0, e1, e2, e3, e4⟩, e5, e6, e7, e8, e9⟩ := own_two hown
      have kC' := kC x y (hgood x (by simp)) (hgood y (by simp))
      have HRR : Hid ((kidsV fs cs).bind (fun l => mulR (l.getD 0 vZ) (l.getD 1 vZ)) = mulR x y) := by show _ = _; rw [HLa.out]; rfl
      clear kC hgood hown HLa
      generalize mulR x y = o at *
      obtain ⟨⟨k, n', t', re, im⟩, hq⟩ : ∃ q, o.getD vZ = q := ⟨_, rfl⟩
      obtain ⟨xk, xn, xt, xr, xi⟩ := x
      obtain ⟨yk, yn, yt, yr, yi⟩ := y
      simp only [optV, hq, V.val] at kC'
      have HQ : Hid (o.getD vZ = ⟨k, n', t', re, im⟩) := hq
      obtain ⟨q2, hq2⟩ : ∃ q2, o.isSome = q2 := ⟨_, rfl⟩
      have HQ2 : Hid (o.isSome = q2) := hq2
      rw [hq2] at kC'
      clear hq hq2
      go_wp2
      go_region_with (first
        | (go_at_call 148; refine (kC' _).mono ?_; rintro e w2 ⟨rfl, os2, n2, rfl⟩))
      all_goals
        go_wp2
        exact bodyPost_ret (v := .tuple #[.agg #[.int .i64 k, .int .i64 n', .string t', .int .i64 re, .int .i64 im], .bool q2]) (by simp [results, Tryz.results126, go_sem, s1, g0, g1, g2, g3, g4]) rfl ⟨by rw [HRR.out]; simp only [optV, HQ.out, HQ2.out, V.val], by repeat (first | with_reducible exact HA1.out | with_reducible refine Adds.put ?_ (by omega) _ _ | with_reducible refine Adds.alloc ?_ _ | with_reducible refine Adds.more ?_ _ _ | with_reducible refine Adds.drew ?_ | with_reducible refine Adds.drewN ?_ _)⟩

end Go.Proofs.YtiacnmcdfpmcfaaGreatDoor
