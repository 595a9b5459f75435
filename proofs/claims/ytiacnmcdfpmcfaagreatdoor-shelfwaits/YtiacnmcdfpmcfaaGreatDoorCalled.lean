/-
  Calls, by contracts.
-/
import Derived.Test.YtiacnmcdfpmcfaaGreatDoorQ09
import Derived.Test.YtiacnmcdfpmcfaaGreatDoorQ08
namespace Go.Proofs.YtiacnmcdfpmcfaaGreatDoor
open Go.RowKit
attribute [local go_sem] cell?_more frozen?_more setCell_more size_more tape_more drew_more drewN_more more_drew more_drewN one_out plus_out plus_end lt_one le_p2 le_p3 le_p4 le_p5 le_p6 le_p7 le_p8 le_p9 le_p10 le_p11 le_p12 le_p13 le_p14 le_p15 le_p16 le_p17 le_p18 le_p19 le_p20 le_p21 le_p22 le_p23 le_p24 le_q0 le_q1 lt_q1 le_q2 lt_q2 le_q3 lt_q3 le_q4 lt_q4 le_q5 lt_q5 le_q6 lt_q6 le_q7 lt_q7 le_q8 lt_q8 le_q9 lt_q9 le_q10 lt_q10 le_q11 lt_q11 le_q12 lt_q12 le_q13 lt_q13 le_q14 lt_q14 le_q15 lt_q15 le_q16 lt_q16 le_q17 lt_q17 le_q18 lt_q18 le_q19 lt_q19 le_q20 lt_q20 le_q21 lt_q21 le_q22 lt_q22 le_q23 lt_q23 le_q24 lt_q24


def callP (f : List UInt8) (x y : Int) : Option V := if f = nNorm then some (V.mkNum (x * x + y * y)) else if f = nConj then some (V.mkPoint x (-y)) else if f = nTurn then some (V.mkPoint (-y) x) else none
def callT (f : List UInt8) (s : ByteArray) : Option V := if f = nLow then some (V.mkText (lowB s)) else if f = nHead then some (V.mkText (s.extract 0 1)) else none

set_option maxHeartbeats 2000000 in
theorem calledP_any (f : ByteArray) (x y : Int) (h : Gs.May x y) (w : World) :
    Calls Tryz.prog 176 #[.string f, Gs.pt x y] w fun e w' => e = .returned (optV (callP f.toList x y)) ∧ Adds w w' := by
  have k1 : (⟨#[110, 111, 114, 109]⟩ : ByteArray).toList = nNorm := by rw [ByteArray.toList_eq]; rfl
  have k2 : (⟨#[99, 111, 110, 106]⟩ : ByteArray).toList = nConj := by rw [ByteArray.toList_eq]; rfl
  have k3 : (⟨#[116, 117, 114, 110]⟩ : ByteArray).toList = nTurn := by rw [ByteArray.toList_eq]; rfl
  have kN := Gs.norm_may x y h
  have kM := Gs.mirror_may x y h
  have kT := Gs.turn_may x y 1 h
  have kI := num_any (x * x + y * y)
  have kP1 := pointOr_yes x (-y)
  have kP2 := pointOr_yes (-y) x
  have hq : Gs.quarters 1 = 1 := by decide
  rw [hq] at kT
  simp only [Gs.rot] at kT
  unfold callP
  simp only [optV, Option.getD_some, Option.isSome_some, V.val, V.mkNum, V.mkPoint] at *
  clear h hq
  by_cases h1 : f.toList = nNorm
  · have h1' : (f.toList == nNorm) = true := by simpa using h1
    rw [if_pos h1]
    clear h1
    generalize x * x + y * y = z at *
    go_enter Tryz.func176, Tryz.ntmps176
    go_wp2_with (first
      | (go_at_call 184; refine (kN _).mono ?_; rintro e w1 ⟨rfl, os1, n1, rfl⟩)
      | (go_at_call 166; refine (kI _).mono ?_; rintro e w2 ⟨rfl, os2, n2, rfl⟩))
    exact bodyPost_ret (v := .tuple #[.agg #[.int .i64 1, .int .i64 z, .string ⟨#[]⟩, .int .i64 0, .int .i64 0], .bool true]) (by simp [results, Tryz.results176, go_sem]) rfl ⟨rfl, by repeat (first | with_reducible exact Adds.refl _ | with_reducible refine Adds.alloc ?_ _ | with_reducible refine Adds.more ?_ _ _ | with_reducible refine Adds.drew ?_ | with_reducible refine Adds.drewN ?_ _)⟩
  have h1' : (f.toList == nNorm) = false := by simpa using h1
  rw [if_neg h1]
  by_cases h2 : f.toList = nConj
  · have h2' : (f.toList == nConj) = true := by simpa using h2
    rw [if_pos h2]
    clear h1 h2
    go_enter Tryz.func176, Tryz.ntmps176
    go_wp2_with (first
      | (go_at_call 185; refine (kM _).mono ?_; rintro e w1 ⟨rfl, os1, n1, rfl⟩)
      | (go_at_call 179; refine (kP1 _).mono ?_; rintro e w2 ⟨rfl, os2, n2, rfl⟩))
    exact bodyPost_ret (v := .tuple #[.agg #[.int .i64 3, .int .i64 0, .string ⟨#[]⟩, .int .i64 x, .int .i64 (-y)], .bool true]) (by simp [results, Tryz.results176, go_sem]) rfl ⟨rfl, by repeat (first | with_reducible exact Adds.refl _ | with_reducible refine Adds.alloc ?_ _ | with_reducible refine Adds.more ?_ _ _ | with_reducible refine Adds.drew ?_ | with_reducible refine Adds.drewN ?_ _)⟩
  have h2' : (f.toList == nConj) = false := by simpa using h2
  rw [if_neg h2]
  by_cases h3 : f.toList = nTurn
  · have h3' : (f.toList == nTurn) = true := by simpa using h3
    rw [if_pos h3]
    clear h1 h2 h3
    go_enter Tryz.func176, Tryz.ntmps176
    go_wp2_with (first
      | (go_at_call 186; refine (kT _).mono ?_; rintro e w1 ⟨rfl, os1, n1, rfl⟩)
      | (go_at_call 179; refine (kP2 _).mono ?_; rintro e w2 ⟨rfl, os2, n2, rfl⟩))
    exact bodyPost_ret (v := .tuple #[.agg #[.int .i64 3, .int .i64 0, .string ⟨#[]⟩, .int .i64 (-y), .int .i64 x], .bool true]) (by simp [results, Tryz.results176, go_sem]) rfl ⟨rfl, by repeat (first | with_reducible exact Adds.refl _ | with_reducible refine Adds.alloc ?_ _ | with_reducible refine Adds.more ?_ _ _ | with_reducible refine Adds.drew ?_ | with_reducible refine Adds.drewN ?_ _)⟩
  have h3' : (f.toList == nTurn) = false := by simpa using h3
  rw [if_neg h3]
  clear h1 h2 h3
  simp only [Option.getD_none, Option.isSome_none, vZ]
  go_enter Tryz.func176, Tryz.ntmps176
  go_wp2
  exact bodyPost_ret (v := .tuple #[.agg #[.int .i64 0, .int .i64 0, .string ⟨#[]⟩, .int .i64 0, .int .i64 0], .bool false]) (by simp [results, Tryz.results176, go_sem]) rfl ⟨rfl, by repeat (first | with_reducible exact Adds.refl _ | with_reducible refine Adds.alloc ?_ _ | with_reducible refine Adds.more ?_ _ _ | with_reducible refine Adds.drew ?_ | with_reducible refine Adds.drewN ?_ _)⟩

theorem ret_tup {a b : Value} (h : a = b) : Ending.returned a = .returned b := by rw [h]

set_option maxHeartbeats 2000000 in
theorem calledT_any (f s : ByteArray) (hs : s.size ≤ 256) (w : World) :
    Calls Tryz.prog 177 #[.string f, .string s] w fun e w' => e = .returned (optV (callT f.toList s)) ∧ Adds w w' := by
  have k4 : (⟨#[108, 111, 119]⟩ : ByteArray).toList = nLow := by rw [ByteArray.toList_eq]; rfl
  have k5 : (⟨#[104, 101, 97, 100]⟩ : ByteArray).toList = nHead := by rw [ByteArray.toList_eq]; rfl
  have kL := low_any s hs
  have kT := fun x => text_any x
  unfold callT
  by_cases h1 : f.toList = nLow
  · have h1' : (f.toList == nLow) = true := by simpa using h1
    rw [if_pos h1]
    simp only [optV, Option.getD_some, Option.isSome_some, V.val, V.mkText]
    clear h1
    generalize lowB s = z at *
    go_enter Tryz.func177, Tryz.ntmps177
    go_wp2_with (first
      | (go_at_call 187; refine (kL _).mono ?_; rintro e w1 ⟨rfl, os1, n1, rfl⟩)
      | (go_at_call 168; refine (kT _ _).mono ?_; rintro e w2 ⟨rfl, os2, n2, rfl⟩))
    exact bodyPost_ret (v := .tuple #[.agg #[.int .i64 2, .int .i64 0, .string z, .int .i64 0, .int .i64 0], .bool true]) (by simp [results, Tryz.results177, go_sem]) rfl ⟨rfl, by repeat (first | with_reducible exact Adds.refl _ | with_reducible refine Adds.alloc ?_ _ | with_reducible refine Adds.more ?_ _ _ | with_reducible refine Adds.drew ?_ | with_reducible refine Adds.drewN ?_ _)⟩
  have h1' : (f.toList == nLow) = false := by simpa using h1
  rw [if_neg h1]
  by_cases h2 : f.toList = nHead
  · have h2' : (f.toList == nHead) = true := by simpa using h2
    rw [if_pos h2]
    simp only [optV, Option.getD_some, Option.isSome_some, V.val, V.mkText]
    clear h1 h2
    by_cases h0 : s.size = 0
    · have he : s.extract 0 1 = s.extract 0 0 := by
        apply toList_inj
        rw [extract_L, extract_L]
        have : s.toList = [] := List.length_eq_zero_iff.1 (by rw [toList_length]; exact h0)
        rw [this]
        rfl
      rw [he]
      have hm : min (s.size : Int) 1 = 0 := by omega
      have HZ : Hid (s.size = 0) := h0
      clear h0
      clear he
      go_enter Tryz.func177, Tryz.ntmps177
      go_wp2_with (first
        | (go_at_call 168; refine (kT _ _).mono ?_; rintro e w2 ⟨rfl, os2, n2, rfl⟩))
      exact bodyPost_ret (v := .tuple #[.agg #[.int .i64 2, .int .i64 0, .string (s.extract 0 0), .int .i64 0, .int .i64 0], .bool true]) (by simp [results, Tryz.results177, go_sem]) rfl ⟨rfl, by repeat (first | with_reducible exact Adds.refl _ | with_reducible refine Adds.alloc ?_ _ | with_reducible refine Adds.more ?_ _ _ | with_reducible refine Adds.drew ?_ | with_reducible refine Adds.drewN ?_ _)⟩
    · have h0' : ¬ (s.size : Int) < 1 := by omega
      have h0a : 1 ≤ (s.size : Int) := by omega
      have hm : min (s.size : Int) 1 = 1 := by omega
      go_enter Tryz.func177, Tryz.ntmps177
      go_wp2_with (first
        | (go_at_call 168; refine (kT _ _).mono ?_; rintro e w2 ⟨rfl, os2, n2, rfl⟩))
      all_goals first
        | exact bodyPost_ret (v := .tuple #[.agg #[.int .i64 2, .int .i64 0, .string (s.extract 0 1), .int .i64 0, .int .i64 0], .bool true]) (by simp [results, Tryz.results177, go_sem]) rfl ⟨rfl, by repeat (first | with_reducible exact Adds.refl _ | with_reducible refine Adds.alloc ?_ _ | with_reducible refine Adds.more ?_ _ _ | with_reducible refine Adds.drew ?_ | with_reducible refine Adds.drewN ?_ _)⟩
  have h2' : (f.toList == nHead) = false := by simpa using h2
  rw [if_neg h2]
  clear h1 h2
  simp only [optV, Option.getD_none, Option.isSome_none, vZ, V.val]
  go_enter Tryz.func177, Tryz.ntmps177
  go_wp2
  exact bodyPost_ret (v := .tuple #[.agg #[.int .i64 0, .int .i64 0, .string ⟨#[]⟩, .int .i64 0, .int .i64 0], .bool false]) (by simp [results, Tryz.results177, go_sem]) rfl ⟨rfl, by repeat (first | with_reducible exact Adds.refl _ | with_reducible refine Adds.alloc ?_ _ | with_reducible refine Adds.more ?_ _ _ | with_reducible refine Adds.drew ?_ | with_reducible refine Adds.drewN ?_ _)⟩

set_option maxHeartbeats 1000000 in
theorem called_any (f : ByteArray) (v : V) (hv : v.check = 0) (w : World) :
    Calls Tryz.prog 171 #[.string f, v.val] w fun e w' => e = .returned (optV (callO f.toList v)) ∧ Adds w w' := by
  rcases V.cases hv with ⟨a, rfl, a1, a2⟩ | ⟨s, rfl, hs⟩ | ⟨x, y, rfl, hxy⟩
  · have e : callO f.toList (V.mkNum a) = none := by simp [callO, V.mkNum]
    rw [e]
    simp only [optV, Option.getD_none, Option.isSome_none, vZ, V.val, V.mkNum]
    clear e
    go_enter Tryz.func171, Tryz.ntmps171
    go_wp2
    exact bodyPost_ret (v := .tuple #[.agg #[.int .i64 0, .int .i64 0, .string ⟨#[]⟩, .int .i64 0, .int .i64 0], .bool false]) (by simp [results, Tryz.results171, go_sem]) rfl ⟨rfl, by repeat (first | with_reducible exact Adds.refl _ | with_reducible refine Adds.alloc ?_ _ | with_reducible refine Adds.more ?_ _ _ | with_reducible refine Adds.drew ?_ | with_reducible refine Adds.drewN ?_ _)⟩
  · have kT := calledT_any f s hs
    have e : callO f.toList (V.mkText s) = callT f.toList s := by simp [callO, callT, V.mkText]
    rw [e]
    clear e
    generalize callT f.toList s = o at *
    obtain ⟨⟨k, n, t, re, im⟩, hq⟩ : ∃ q, o.getD vZ = q := ⟨_, rfl⟩
    simp only [optV, hq, V.val, V.mkText] at *
    generalize o.isSome = q2 at *
    clear hq hv
    go_enter Tryz.func171, Tryz.ntmps171
    go_wp2_with (go_at_call 177; refine (kT _).mono ?_; rintro e w1 ⟨rfl, os1, n1, rfl⟩)
    exact bodyPost_ret (v := .tuple #[.agg #[.int .i64 k, .int .i64 n, .string t, .int .i64 re, .int .i64 im], .bool q2]) (by simp [results, Tryz.results171, go_sem]) rfl ⟨rfl, by repeat (first | with_reducible exact Adds.refl _ | with_reducible refine Adds.alloc ?_ _ | with_reducible refine Adds.more ?_ _ _ | with_reducible refine Adds.drew ?_ | with_reducible refine Adds.drewN ?_ _)⟩
  · have kT := calledP_any f x y hxy
    have e : callO f.toList (V.mkPoint x y) = callP f.toList x y := by simp [callO, callP, V.mkPoint]
    rw [e]
    clear e
    generalize callP f.toList x y = o at *
    obtain ⟨⟨k, n, t, re, im⟩, hq⟩ : ∃ q, o.getD vZ = q := ⟨_, rfl⟩
    simp only [optV, hq, V.val, V.mkPoint] at *
    generalize o.isSome = q2 at *
    clear hq hv
    go_enter Tryz.func171, Tryz.ntmps171
    go_wp2_with (go_at_call 176; refine (kT _).mono ?_; rintro e w1 ⟨rfl, os1, n1, rfl⟩)
    exact bodyPost_ret (v := .tuple #[.agg #[.int .i64 k, .int .i64 n, .string t, .int .i64 re, .int .i64 im], .bool q2]) (by simp [results, Tryz.results171, go_sem]) rfl ⟨rfl, by repeat (first | with_reducible exact Adds.refl _ | with_reducible refine Adds.alloc ?_ _ | with_reducible refine Adds.more ?_ _ _ | with_reducible refine Adds.drew ?_ | with_reducible refine Adds.drewN ?_ _)⟩

end Go.Proofs.YtiacnmcdfpmcfaaGreatDoor
