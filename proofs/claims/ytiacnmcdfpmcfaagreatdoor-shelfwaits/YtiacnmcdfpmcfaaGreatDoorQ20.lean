/-
  The reference's values, by contracts.
  The reference's products, by contracts.
  The functions Parse, Eval and awake, by contracts.
-/
import Derived.Test.YtiacnmcdfpmcfaaGreatDoorQ18
import Derived.Test.YtiacnmcdfpmcfaaGreatDoorQ16
import Derived.Test.YtiacnmcdfpmcfaaGreatDoorQ15
import Derived.Test.YtiacnmcdfpmcfaaGreatDoorQ03
import Derived.BigQuiet
import Derived.Test.YtiacnmcdfpmcfaaGreatDoorQ19
import Derived.Test.YtiacnmcdfpmcfaaGreatDoorQ10
import Derived.Test.YtiacnmcdfpmcfaaGreatDoorV12
namespace Go.Proofs.YtiacnmcdfpmcfaaGreatDoor
open Go.RowKit
attribute [local go_sem] cell?_more frozen?_more setCell_more size_more tape_more drew_more drewN_more more_drew more_drewN one_out plus_out plus_end lt_one le_p2 le_p3 le_p4 le_p5 le_p6 le_p7 le_p8 le_p9 le_p10 le_p11 le_p12 le_p13 le_p14 le_p15 le_p16 le_p17 le_p18 le_p19 le_p20 le_p21 le_p22 le_p23 le_p24 le_q0 le_q1 lt_q1 le_q2 lt_q2 le_q3 lt_q3 le_q4 lt_q4 le_q5 lt_q5 le_q6 lt_q6 le_q7 lt_q7 le_q8 lt_q8 le_q9 lt_q9 le_q10 lt_q10 le_q11 lt_q11 le_q12 lt_q12 le_q13 lt_q13 le_q14 lt_q14 le_q15 lt_q15 le_q16 lt_q16 le_q17 lt_q17 le_q18 lt_q18 le_q19 lt_q19 le_q20 lt_q20 le_q21 lt_q21 le_q22 lt_q22 le_q23 lt_q23 le_q24 lt_q24


theorem rNum_any (n : Int) (w : World) :
    Calls Tryz.prog 147 #[.int .i64 n] w fun e w' => e = .returned (.agg #[.int .i64 1, .int .i64 n, .string ⟨#[]⟩, .int .i64 0, .int .i64 0]) ∧ Adds w w' := by
  go_enter Tryz.func147, Tryz.ntmps147
  go_wp2
  exact bodyPost_ret (v := (V.mkNum n).val) (by simp [results, Tryz.results147, go_sem, V.val, V.mkNum]) rfl ⟨rfl, by repeat (first | with_reducible exact Adds.refl _ | with_reducible refine Adds.alloc ?_ _ | with_reducible refine Adds.more ?_ _ _ | with_reducible refine Adds.drew ?_ | with_reducible refine Adds.drewN ?_ _)⟩

theorem rText_any (s : ByteArray) (w : World) :
    Calls Tryz.prog 149 #[.string s] w fun e w' => e = .returned (.agg #[.int .i64 2, .int .i64 0, .string s, .int .i64 0, .int .i64 0]) ∧ Adds w w' := by
  go_enter Tryz.func149, Tryz.ntmps149
  go_wp2
  exact bodyPost_ret (v := (V.mkText s).val) (by simp [results, Tryz.results149, go_sem, V.val, V.mkText]) rfl ⟨rfl, by repeat (first | with_reducible exact Adds.refl _ | with_reducible refine Adds.alloc ?_ _ | with_reducible refine Adds.more ?_ _ _ | with_reducible refine Adds.drew ?_ | with_reducible refine Adds.drewN ?_ _)⟩

theorem rPoint_any (x y : Int) (w : World) :
    Calls Tryz.prog 150 #[Gs.pt x y] w fun e w' => e = .returned (.agg #[.int .i64 3, .int .i64 0, .string ⟨#[]⟩, .int .i64 x, .int .i64 y]) ∧ Adds w w' := by
  go_enter Tryz.func150, Tryz.ntmps150
  go_wp2
  exact bodyPost_ret (v := (V.mkPoint x y).val) (by simp [results, Tryz.results150, go_sem, V.val, V.mkPoint]) rfl ⟨rfl, by repeat (first | with_reducible exact Adds.refl _ | with_reducible refine Adds.alloc ?_ _ | with_reducible refine Adds.more ?_ _ _ | with_reducible refine Adds.drew ?_ | with_reducible refine Adds.drewN ?_ _)⟩

set_option maxHeartbeats 1000000 in
theorem rAs_any (v : V) (w : World) :
    Calls Tryz.prog 162 #[v.val] w fun e w' => e = .returned (.tuple #[Gs.pt (asRe v) (asIm v), .bool (if v.kind = 1 then decide (Gs.May v.num 0) else (v.kind == 3))]) ∧ Adds w w' := by
  obtain ⟨k, n, t, re, im⟩ := v
  simp only [V.val, asRe, asIm]
  by_cases hk : k = 1
  · subst hk
    have kM := Gs.rmay_any n 0
    rw [if_pos rfl, if_pos rfl, if_pos rfl]
    generalize decide (Gs.May n 0) = q at *
    go_enter Tryz.func162, Tryz.ntmps162
    go_wp2
    go_region_with (first
      | (go_at_call 175; refine (kM _).mono ?_; rintro e w1 ⟨rfl, os1, n1, rfl⟩))
    all_goals
      go_wp2
      exact bodyPost_ret (v := .tuple #[Gs.pt n 0, .bool q]) (by simp [results, Tryz.results162, go_sem]) rfl ⟨rfl, by repeat (first | with_reducible exact Adds.refl _ | with_reducible refine Adds.alloc ?_ _ | with_reducible refine Adds.more ?_ _ _ | with_reducible refine Adds.drew ?_ | with_reducible refine Adds.drewN ?_ _)⟩
  · have hk' : (k == 1) = false := by simpa using hk
    rw [if_neg hk, if_neg hk, if_neg hk]
    clear hk
    generalize hk3 : (k == 3) = q at *
    go_enter Tryz.func162, Tryz.ntmps162
    go_wp2
    go_region
    all_goals
      go_wp2
      exact bodyPost_ret (v := .tuple #[Gs.pt re im, .bool q]) (by simp [results, Tryz.results162, go_sem]) rfl ⟨rfl, by repeat (first | with_reducible exact Adds.refl _ | with_reducible refine Adds.alloc ?_ _ | with_reducible refine Adds.more ?_ _ _ | with_reducible refine Adds.drew ?_ | with_reducible refine Adds.drewN ?_ _)⟩


end Go.Proofs.YtiacnmcdfpmcfaaGreatDoor

namespace Go.Proofs.YtiacnmcdfpmcfaaGreatDoor
open Go.RowKit
attribute [local go_sem] cell?_more frozen?_more setCell_more size_more tape_more drew_more drewN_more more_drew more_drewN one_out plus_out plus_end lt_one le_p2 le_p3 le_p4 le_p5 le_p6 le_p7 le_p8 le_p9 le_p10 le_p11 le_p12 le_p13 le_p14 le_p15 le_p16 le_p17 le_p18 le_p19 le_p20 le_p21 le_p22 le_p23 le_p24 le_q0 le_q1 lt_q1 le_q2 lt_q2 le_q3 lt_q3 le_q4 lt_q4 le_q5 lt_q5 le_q6 lt_q6 le_q7 lt_q7 le_q8 lt_q8 le_q9 lt_q9 le_q10 lt_q10 le_q11 lt_q11 le_q12 lt_q12 le_q13 lt_q13 le_q14 lt_q14 le_q15 lt_q15 le_q16 lt_q16 le_q17 lt_q17 le_q18 lt_q18 le_q19 lt_q19 le_q20 lt_q20 le_q21 lt_q21 le_q22 lt_q22 le_q23 lt_q23 le_q24 lt_q24


theorem Adds.put {w X : World} (h : Adds w X) {b : Nat} (hb : w.heap.size ≤ b) (i : Nat) (x : Value) : Adds w (X.setCell ⟨b, i, none⟩ x) :=
  Mv.adds (Mv.trans h.mv (Mv.set _ _ hb))

set_option maxHeartbeats 1000000 in
theorem rMul_nums00 (a b : Int) (ha1 : -9007199254740992 ≤ a) (ha2 : a ≤ 9007199254740992) (hb1 : -9007199254740992 ≤ b) (hb2 : b ≤ 9007199254740992) (ha : ¬ a < 0) (hb : ¬ b < 0) (w : World) :
    Calls Tryz.prog 148 #[(V.mkNum a).val, (V.mkNum b).val] w fun e w' => e = .returned (optV (timesO a b)) ∧ Adds w w' := by
  have kN := rNum_any (a * b)
  simp only [V.val, V.mkNum]
  unfold timesO
  by_cases h : -9007199254740992 ≤ a * b ∧ a * b ≤ 9007199254740992
  · rw [if_pos h]
    simp only [optV, Option.getD_some, Option.isSome_some, V.val, V.mkNum]
    have hd : a ≠ 0 → ¬ 9007199254740992 / a < b := by
      intro h0
      have := (abs_mul_le (a := b) h0).2 (by rw [Int.mul_comm]; exact h)
      rw [show max b (-b) = b by omega, show max a (-a) = a by omega] at this
      omega
    obtain ⟨h1, h2⟩ := h
    by_cases h0 : a = 0
    · subst h0
      clear hd
      rw [Int.zero_mul] at *
      go_enter Tryz.func148, Tryz.ntmps148
      go_wp2
      go_quiet (fail)
      go_wp2_with (first
        | (go_at_call 147; refine (kN _).mono ?_; rintro e w2 ⟨rfl, os2, n2, rfl⟩))
      exact bodyPost_ret (v := .tuple #[.agg #[.int .i64 1, .int .i64 0, .string ⟨#[]⟩, .int .i64 0, .int .i64 0], .bool true]) (by simp [results, Tryz.results148, go_sem]) rfl ⟨rfl, by repeat (first | with_reducible refine Adds.put ?_ (by omega) _ _ | with_reducible exact Adds.refl _ | with_reducible refine Adds.alloc ?_ _ | with_reducible refine Adds.more ?_ _ _ | with_reducible refine Adds.drew ?_ | with_reducible refine Adds.drewN ?_ _)⟩
    · have hd' := hd h0
      have h0' : (a != 0) = true := by simp; omega
      clear hd
      go_enter Tryz.func148, Tryz.ntmps148
      go_wp2
      go_quiet (fail)
      go_wp2_with (first
        | (go_at_call 147; refine (kN _).mono ?_; rintro e w2 ⟨rfl, os2, n2, rfl⟩))
      exact bodyPost_ret (v := .tuple #[.agg #[.int .i64 1, .int .i64 (a * b), .string ⟨#[]⟩, .int .i64 0, .int .i64 0], .bool true]) (by simp [results, Tryz.results148, go_sem]) rfl ⟨rfl, by repeat (first | with_reducible refine Adds.put ?_ (by omega) _ _ | with_reducible exact Adds.refl _ | with_reducible refine Adds.alloc ?_ _ | with_reducible refine Adds.more ?_ _ _ | with_reducible refine Adds.drew ?_ | with_reducible refine Adds.drewN ?_ _)⟩
  · rw [if_neg h]
    simp only [optV, Option.getD_none, Option.isSome_none, vZ, V.val]
    have h0 : a ≠ 0 := by
      rintro rfl
      rw [Int.zero_mul] at h
      omega
    have hd' : 9007199254740992 / a < b := by
      have := mt (abs_mul_le (a := b) h0).1 (by rw [Int.mul_comm]; exact h)
      rw [show max b (-b) = b by omega, show max a (-a) = a by omega] at this
      omega
    have h0' : (a != 0) = true := by simp; omega
    clear h
    go_enter Tryz.func148, Tryz.ntmps148
    go_wp2
    go_quiet (fail)
    go_wp2_with (first
      | (go_at_call 147; refine (kN _).mono ?_; rintro e w2 ⟨rfl, os2, n2, rfl⟩))
    exact bodyPost_ret (v := .tuple #[.agg #[.int .i64 0, .int .i64 0, .string ⟨#[]⟩, .int .i64 0, .int .i64 0], .bool false]) (by simp [results, Tryz.results148, go_sem]) rfl ⟨rfl, by repeat (first | with_reducible refine Adds.put ?_ (by omega) _ _ | with_reducible exact Adds.refl _ | with_reducible refine Adds.alloc ?_ _ | with_reducible refine Adds.more ?_ _ _ | with_reducible refine Adds.drew ?_ | with_reducible refine Adds.drewN ?_ _)⟩

set_option maxHeartbeats 1000000 in
theorem rMul_nums01 (a b : Int) (ha1 : -9007199254740992 ≤ a) (ha2 : a ≤ 9007199254740992) (hb1 : -9007199254740992 ≤ b) (hb2 : b ≤ 9007199254740992) (ha : ¬ a < 0) (hb : b < 0) (w : World) :
    Calls Tryz.prog 148 #[(V.mkNum a).val, (V.mkNum b).val] w fun e w' => e = .returned (optV (timesO a b)) ∧ Adds w w' := by
  have kN := rNum_any (a * b)
  simp only [V.val, V.mkNum]
  unfold timesO
  by_cases h : -9007199254740992 ≤ a * b ∧ a * b ≤ 9007199254740992
  · rw [if_pos h]
    simp only [optV, Option.getD_some, Option.isSome_some, V.val, V.mkNum]
    have hd : a ≠ 0 → ¬ 9007199254740992 / a < (-b) := by
      intro h0
      have := (abs_mul_le (a := b) h0).2 (by rw [Int.mul_comm]; exact h)
      rw [show max b (-b) = (-b) by omega, show max a (-a) = a by omega] at this
      omega
    obtain ⟨h1, h2⟩ := h
    by_cases h0 : a = 0
    · subst h0
      clear hd
      rw [Int.zero_mul] at *
      go_enter Tryz.func148, Tryz.ntmps148
      go_wp2
      go_quiet (fail)
      go_wp2_with (first
        | (go_at_call 147; refine (kN _).mono ?_; rintro e w2 ⟨rfl, os2, n2, rfl⟩))
      exact bodyPost_ret (v := .tuple #[.agg #[.int .i64 1, .int .i64 0, .string ⟨#[]⟩, .int .i64 0, .int .i64 0], .bool true]) (by simp [results, Tryz.results148, go_sem]) rfl ⟨rfl, by repeat (first | with_reducible refine Adds.put ?_ (by omega) _ _ | with_reducible exact Adds.refl _ | with_reducible refine Adds.alloc ?_ _ | with_reducible refine Adds.more ?_ _ _ | with_reducible refine Adds.drew ?_ | with_reducible refine Adds.drewN ?_ _)⟩
    · have hd' := hd h0
      have h0' : (a != 0) = true := by simp; omega
      clear hd
      go_enter Tryz.func148, Tryz.ntmps148
      go_wp2
      go_quiet (fail)
      go_wp2_with (first
        | (go_at_call 147; refine (kN _).mono ?_; rintro e w2 ⟨rfl, os2, n2, rfl⟩))
      exact bodyPost_ret (v := .tuple #[.agg #[.int .i64 1, .int .i64 (a * b), .string ⟨#[]⟩, .int .i64 0, .int .i64 0], .bool true]) (by simp [results, Tryz.results148, go_sem]) rfl ⟨rfl, by repeat (first | with_reducible refine Adds.put ?_ (by omega) _ _ | with_reducible exact Adds.refl _ | with_reducible refine Adds.alloc ?_ _ | with_reducible refine Adds.more ?_ _ _ | with_reducible refine Adds.drew ?_ | with_reducible refine Adds.drewN ?_ _)⟩
  · rw [if_neg h]
    simp only [optV, Option.getD_none, Option.isSome_none, vZ, V.val]
    have h0 : a ≠ 0 := by
      rintro rfl
      rw [Int.zero_mul] at h
      omega
    have hd' : 9007199254740992 / a < (-b) := by
      have := mt (abs_mul_le (a := b) h0).1 (by rw [Int.mul_comm]; exact h)
      rw [show max b (-b) = (-b) by omega, show max a (-a) = a by omega] at this
      omega
    have h0' : (a != 0) = true := by simp; omega
    clear h
    go_enter Tryz.func148, Tryz.ntmps148
    go_wp2
    go_quiet (fail)
    go_wp2_with (first
      | (go_at_call 147; refine (kN _).mono ?_; rintro e w2 ⟨rfl, os2, n2, rfl⟩))
    exact bodyPost_ret (v := .tuple #[.agg #[.int .i64 0, .int .i64 0, .string ⟨#[]⟩, .int .i64 0, .int .i64 0], .bool false]) (by simp [results, Tryz.results148, go_sem]) rfl ⟨rfl, by repeat (first | with_reducible refine Adds.put ?_ (by omega) _ _ | with_reducible exact Adds.refl _ | with_reducible refine Adds.alloc ?_ _ | with_reducible refine Adds.more ?_ _ _ | with_reducible refine Adds.drew ?_ | with_reducible refine Adds.drewN ?_ _)⟩

set_option maxHeartbeats 1000000 in
theorem rMul_nums10 (a b : Int) (ha1 : -9007199254740992 ≤ a) (ha2 : a ≤ 9007199254740992) (hb1 : -9007199254740992 ≤ b) (hb2 : b ≤ 9007199254740992) (ha : a < 0) (hb : ¬ b < 0) (w : World) :
    Calls Tryz.prog 148 #[(V.mkNum a).val, (V.mkNum b).val] w fun e w' => e = .returned (optV (timesO a b)) ∧ Adds w w' := by
  have kN := rNum_any (a * b)
  simp only [V.val, V.mkNum]
  unfold timesO
  by_cases h : -9007199254740992 ≤ a * b ∧ a * b ≤ 9007199254740992
  · rw [if_pos h]
    simp only [optV, Option.getD_some, Option.isSome_some, V.val, V.mkNum]
    have hd : a ≠ 0 → ¬ 9007199254740992 / (-a) < b := by
      intro h0
      have := (abs_mul_le (a := b) h0).2 (by rw [Int.mul_comm]; exact h)
      rw [show max b (-b) = b by omega, show max a (-a) = (-a) by omega] at this
      omega
    obtain ⟨h1, h2⟩ := h
    have h0 : a ≠ 0 := by omega
    · have hd' := hd h0
      have h0' : ((-a) != 0) = true := by simp; omega
      clear hd
      obtain ⟨D, hD⟩ : ∃ D, 9007199254740992 / (-a) = D := ⟨_, rfl⟩
      have ht : wrap64 (-Int.tdiv 9007199254740992 a) = D := by
        have e : Int.tdiv 9007199254740992 (-a) = 9007199254740992 / (-a) := Int.tdiv_eq_ediv_of_nonneg (by decide)
        rw [Int.tdiv_neg] at e
        rw [e, hD]
        have h1 := Int.ediv_nonneg (a := 9007199254740992) (b := -a) (by decide) (by omega)
        have h2 := Int.ediv_le_self (a := 9007199254740992) (-a) (by decide)
        rw [hD] at h1 h2
        unfold wrap64
        omega
      rw [hD] at hd'
      clear hD
      go_enter Tryz.func148, Tryz.ntmps148
      go_wp2
      go_quiet (fail)
      go_wp2_with (first
        | (go_at_call 147; refine (kN _).mono ?_; rintro e w2 ⟨rfl, os2, n2, rfl⟩))
      exact bodyPost_ret (v := .tuple #[.agg #[.int .i64 1, .int .i64 (a * b), .string ⟨#[]⟩, .int .i64 0, .int .i64 0], .bool true]) (by simp [results, Tryz.results148, go_sem]) rfl ⟨rfl, by repeat (first | with_reducible refine Adds.put ?_ (by omega) _ _ | with_reducible exact Adds.refl _ | with_reducible refine Adds.alloc ?_ _ | with_reducible refine Adds.more ?_ _ _ | with_reducible refine Adds.drew ?_ | with_reducible refine Adds.drewN ?_ _)⟩
  · rw [if_neg h]
    simp only [optV, Option.getD_none, Option.isSome_none, vZ, V.val]
    have h0 : a ≠ 0 := by
      rintro rfl
      rw [Int.zero_mul] at h
      omega
    have hd' : 9007199254740992 / (-a) < b := by
      have := mt (abs_mul_le (a := b) h0).1 (by rw [Int.mul_comm]; exact h)
      rw [show max b (-b) = b by omega, show max a (-a) = (-a) by omega] at this
      omega
    have h0' : ((-a) != 0) = true := by simp; omega
    clear h
    obtain ⟨D, hD⟩ : ∃ D, 9007199254740992 / (-a) = D := ⟨_, rfl⟩
    have ht : wrap64 (-Int.tdiv 9007199254740992 a) = D := by
      have e : Int.tdiv 9007199254740992 (-a) = 9007199254740992 / (-a) := Int.tdiv_eq_ediv_of_nonneg (by decide)
      rw [Int.tdiv_neg] at e
      rw [e, hD]
      have h1 := Int.ediv_nonneg (a := 9007199254740992) (b := -a) (by decide) (by omega)
      have h2 := Int.ediv_le_self (a := 9007199254740992) (-a) (by decide)
      rw [hD] at h1 h2
      unfold wrap64
      omega
    rw [hD] at hd'
    clear hD
    go_enter Tryz.func148, Tryz.ntmps148
    go_wp2
    go_quiet (fail)
    go_wp2_with (first
      | (go_at_call 147; refine (kN _).mono ?_; rintro e w2 ⟨rfl, os2, n2, rfl⟩))
    exact bodyPost_ret (v := .tuple #[.agg #[.int .i64 0, .int .i64 0, .string ⟨#[]⟩, .int .i64 0, .int .i64 0], .bool false]) (by simp [results, Tryz.results148, go_sem]) rfl ⟨rfl, by repeat (first | with_reducible refine Adds.put ?_ (by omega) _ _ | with_reducible exact Adds.refl _ | with_reducible refine Adds.alloc ?_ _ | with_reducible refine Adds.more ?_ _ _ | with_reducible refine Adds.drew ?_ | with_reducible refine Adds.drewN ?_ _)⟩

set_option maxHeartbeats 1000000 in
theorem rMul_nums11 (a b : Int) (ha1 : -9007199254740992 ≤ a) (ha2 : a ≤ 9007199254740992) (hb1 : -9007199254740992 ≤ b) (hb2 : b ≤ 9007199254740992) (ha : a < 0) (hb : b < 0) (w : World) :
    Calls Tryz.prog 148 #[(V.mkNum a).val, (V.mkNum b).val] w fun e w' => e = .returned (optV (timesO a b)) ∧ Adds w w' := by
  have kN := rNum_any (a * b)
  simp only [V.val, V.mkNum]
  unfold timesO
  by_cases h : -9007199254740992 ≤ a * b ∧ a * b ≤ 9007199254740992
  · rw [if_pos h]
    simp only [optV, Option.getD_some, Option.isSome_some, V.val, V.mkNum]
    have hd : a ≠ 0 → ¬ 9007199254740992 / (-a) < (-b) := by
      intro h0
      have := (abs_mul_le (a := b) h0).2 (by rw [Int.mul_comm]; exact h)
      rw [show max b (-b) = (-b) by omega, show max a (-a) = (-a) by omega] at this
      omega
    obtain ⟨h1, h2⟩ := h
    have h0 : a ≠ 0 := by omega
    · have hd' := hd h0
      have h0' : ((-a) != 0) = true := by simp; omega
      clear hd
      obtain ⟨D, hD⟩ : ∃ D, 9007199254740992 / (-a) = D := ⟨_, rfl⟩
      have ht : wrap64 (-Int.tdiv 9007199254740992 a) = D := by
        have e : Int.tdiv 9007199254740992 (-a) = 9007199254740992 / (-a) := Int.tdiv_eq_ediv_of_nonneg (by decide)
        rw [Int.tdiv_neg] at e
        rw [e, hD]
        have h1 := Int.ediv_nonneg (a := 9007199254740992) (b := -a) (by decide) (by omega)
        have h2 := Int.ediv_le_self (a := 9007199254740992) (-a) (by decide)
        rw [hD] at h1 h2
        unfold wrap64
        omega
      rw [hD] at hd'
      clear hD
      go_enter Tryz.func148, Tryz.ntmps148
      go_wp2
      go_quiet (fail)
      go_wp2_with (first
        | (go_at_call 147; refine (kN _).mono ?_; rintro e w2 ⟨rfl, os2, n2, rfl⟩))
      exact bodyPost_ret (v := .tuple #[.agg #[.int .i64 1, .int .i64 (a * b), .string ⟨#[]⟩, .int .i64 0, .int .i64 0], .bool true]) (by simp [results, Tryz.results148, go_sem]) rfl ⟨rfl, by repeat (first | with_reducible refine Adds.put ?_ (by omega) _ _ | with_reducible exact Adds.refl _ | with_reducible refine Adds.alloc ?_ _ | with_reducible refine Adds.more ?_ _ _ | with_reducible refine Adds.drew ?_ | with_reducible refine Adds.drewN ?_ _)⟩
  · rw [if_neg h]
    simp only [optV, Option.getD_none, Option.isSome_none, vZ, V.val]
    have h0 : a ≠ 0 := by
      rintro rfl
      rw [Int.zero_mul] at h
      omega
    have hd' : 9007199254740992 / (-a) < (-b) := by
      have := mt (abs_mul_le (a := b) h0).1 (by rw [Int.mul_comm]; exact h)
      rw [show max b (-b) = (-b) by omega, show max a (-a) = (-a) by omega] at this
      omega
    have h0' : ((-a) != 0) = true := by simp; omega
    clear h
    obtain ⟨D, hD⟩ : ∃ D, 9007199254740992 / (-a) = D := ⟨_, rfl⟩
    have ht : wrap64 (-Int.tdiv 9007199254740992 a) = D := by
      have e : Int.tdiv 9007199254740992 (-a) = 9007199254740992 / (-a) := Int.tdiv_eq_ediv_of_nonneg (by decide)
      rw [Int.tdiv_neg] at e
      rw [e, hD]
      have h1 := Int.ediv_nonneg (a := 9007199254740992) (b := -a) (by decide) (by omega)
      have h2 := Int.ediv_le_self (a := 9007199254740992) (-a) (by decide)
      rw [hD] at h1 h2
      unfold wrap64
      omega
    rw [hD] at hd'
    clear hD
    go_enter Tryz.func148, Tryz.ntmps148
    go_wp2
    go_quiet (fail)
    go_wp2_with (first
      | (go_at_call 147; refine (kN _).mono ?_; rintro e w2 ⟨rfl, os2, n2, rfl⟩))
    exact bodyPost_ret (v := .tuple #[.agg #[.int .i64 0, .int .i64 0, .string ⟨#[]⟩, .int .i64 0, .int .i64 0], .bool false]) (by simp [results, Tryz.results148, go_sem]) rfl ⟨rfl, by repeat (first | with_reducible refine Adds.put ?_ (by omega) _ _ | with_reducible exact Adds.refl _ | with_reducible refine Adds.alloc ?_ _ | with_reducible refine Adds.more ?_ _ _ | with_reducible refine Adds.drew ?_ | with_reducible refine Adds.drewN ?_ _)⟩

theorem rMul_nums (a b : Int) (ha1 : -9007199254740992 ≤ a) (ha2 : a ≤ 9007199254740992) (hb1 : -9007199254740992 ≤ b) (hb2 : b ≤ 9007199254740992) (w : World) :
    Calls Tryz.prog 148 #[(V.mkNum a).val, (V.mkNum b).val] w fun e w' => e = .returned (optV (timesO a b)) ∧ Adds w w' := by
  by_cases ha : a < 0 <;> by_cases hb : b < 0
  · exact rMul_nums11 a b ha1 ha2 hb1 hb2 ha hb w
  · exact rMul_nums10 a b ha1 ha2 hb1 hb2 ha hb w
  · exact rMul_nums01 a b ha1 ha2 hb1 hb2 ha hb w
  · exact rMul_nums00 a b ha1 ha2 hb1 hb2 ha hb w

/-- The product, ahead of the question whether it fits. -/
def mulR (u v : V) : Option V :=
  if u.kind = 1 ∧ v.kind = 1 then timesO u.num v.num
  else if ¬ (u.kind = 2 ∨ v.kind = 2) ∧ Gs.May (asRe u) (asIm u) ∧ Gs.May (asRe v) (asIm v) then some (V.mkPoint (asRe u * asRe v - asIm u * asIm v) (asRe u * asIm v + asIm u * asRe v)) else none

theorem pt_fit (x y : Int) : fitO (V.mkPoint x y) = ptO x y := by
  unfold fitO ptO
  by_cases h : Gs.May x y
  · rw [if_pos h, if_pos (mkPoint_ok h)]
  · rw [if_neg h, if_neg]
    intro hc
    apply h
    rcases V.cases hc with ⟨n, e, _⟩ | ⟨s, e, _⟩ | ⟨a, b, e, hm⟩
    · simp [V.mkPoint, V.mkNum] at e
    · simp [V.mkPoint, V.mkText] at e
    · simp only [V.mkPoint, V.mk.injEq] at e
      obtain ⟨_, _, _, rfl, rfl⟩ := e
      exact hm

theorem mulR_fit (u v : V) : (mulR u v).bind fitO = mulO u v := by
  unfold mulR mulO
  by_cases h1 : u.kind = 1 ∧ v.kind = 1
  · rw [if_pos h1, if_neg (by omega), if_pos h1]
    unfold timesO
    split
    · rename_i h
      simp only [Option.bind_some, fitO, mkNum_ok h.1 h.2, if_true]
    · rfl
  · rw [if_neg h1]
    by_cases h2 : u.kind = 2 ∨ v.kind = 2
    · rw [if_pos h2, if_neg (fun h => h.1 h2)]
      rfl
    · rw [if_neg h2, if_neg h1]
      by_cases h3 : Gs.May (asRe u) (asIm u) ∧ Gs.May (asRe v) (asIm v)
      · rw [if_pos h3, if_pos ⟨h2, h3⟩]
        exact pt_fit _ _
      · rw [if_neg h3, if_neg (fun h => h3 h.2)]
        rfl

/-- A value as a point: is it one? -/
def asOk (v : V) : Bool := if v.kind = 1 then decide (Gs.May v.num 0) else (v.kind == 3)
theorem asOk_is {v : V} (h : v.check = 0) : asOk v = true ↔ v.kind ≠ 2 ∧ Gs.May (asRe v) (asIm v) := by
  rcases V.cases h with ⟨n, rfl, a1, a2⟩ | ⟨s, rfl, hs⟩ | ⟨x, y, rfl, hm⟩
  · simp [asOk, V.mkNum, asRe, asIm]
    exact decide_eq_true_iff
  · simp [asOk, V.mkText]
  · simp [asOk, V.mkPoint, asRe, asIm, hm]

set_option maxHeartbeats 4000000 in
theorem rMul_points (u v : V) (hu : u.check = 0) (hv : v.check = 0) (h1 : ¬ (u.kind = 1 ∧ v.kind = 1)) (w : World) :
    Calls Tryz.prog 148 #[u.val, v.val] w fun e w' => e = .returned (optV (mulR u v)) ∧ Adds w w' := by
  have kU := rAs_any u
  have kV := rAs_any v
  have eU := asOk_is hu
  have eV := asOk_is hv
  change ∀ w, Calls Tryz.prog 162 #[u.val] w fun e w' => e = .returned (.tuple #[Gs.pt (asRe u) (asIm u), .bool (asOk u)]) ∧ Adds w w' at kU
  change ∀ w, Calls Tryz.prog 162 #[v.val] w fun e w' => e = .returned (.tuple #[Gs.pt (asRe v) (asIm v), .bool (asOk v)]) ∧ Adds w w' at kV
  have eM : mulR u v = if asOk u = true ∧ asOk v = true then some (V.mkPoint (asRe u * asRe v - asIm u * asIm v) (asRe u * asIm v + asIm u * asRe v)) else none := by
    unfold mulR
    rw [if_neg h1]
    by_cases hq : asOk u = true ∧ asOk v = true
    · have a := eU.1 hq.1
      have b := eV.1 hq.2
      rw [if_pos hq, if_pos ⟨by rintro (h | h); exact a.1 h; exact b.1 h, a.2, b.2⟩]
    · rw [if_neg hq, if_neg]
      rintro ⟨a, b, c⟩
      exact hq ⟨eU.2 ⟨fun h => a (.inl h), b⟩, eV.2 ⟨fun h => a (.inr h), c⟩⟩
  rw [eM]
  have mU : asOk u = true → Gs.May (asRe u) (asIm u) := fun h => (eU.1 h).2
  have mV : asOk v = true → Gs.May (asRe v) (asIm v) := fun h => (eV.1 h).2
  clear eM eU eV hu hv
  have hk : ((u.kind == 1) && (v.kind == 1)) = false := by
    cases hq : ((u.kind == 1) && (v.kind == 1)) with
    | false => rfl
    | true => simp at hq; exact absurd hq h1
  clear h1
  generalize asOk u = qu at *
  generalize asOk v = qv at *
  generalize asRe u = ux at *
  generalize asIm u = uy at *
  generalize asRe v = vx at *
  generalize asIm v = vy at *
  obtain ⟨k, n, t, re, im⟩ := u
  obtain ⟨k', n', t', re', im'⟩ := v
  simp only [V.val] at *
  have hpost : ∀ q, (qu && qv) = q → (if qu = true ∧ qv = true then some (V.mkPoint (ux * vx - uy * vy) (ux * vy + uy * vx)) else none) = if q = true then some (V.mkPoint (ux * vx - uy * vy) (ux * vy + uy * vx)) else none := by
    rintro q rfl
    simp
  by_cases hqq : (qu && qv) = true
  · rw [hpost true hqq, if_pos rfl]
    have hu' : qu = true := by cases qu <;> simp_all
    have hv' : qv = true := by cases qv <;> simp_all
    have kM := Gs.rmul_any ux uy vx vy (mU hu') (mV hv')
    subst hu' hv'
    have kP := rPoint_any (ux * vx - uy * vy) (ux * vy + uy * vx)
    simp only [optV, Option.getD_some, Option.isSome_some, V.val, V.mkPoint]
    clear mU mV hpost hqq
    generalize ux * vx - uy * vy = px at *
    generalize ux * vy + uy * vx = py at *
    by_cases hk1 : k = 1
    · have hk1' : (k' == 1) = false := by subst hk1; simpa using hk
      subst hk1
      clear hk
      go_enter Tryz.func148, Tryz.ntmps148
      go_wp2_with (first
        | (go_at_call 162; (with_reducible refine (kU _).mono ?_); rintro e w1 ⟨rfl, os1, n1, rfl⟩)
        | (go_at_call 162; (with_reducible refine (kV _).mono ?_); rintro e w2 ⟨rfl, os2, n2, rfl⟩)
        | (go_at_call 163; refine (kM _).mono ?_; rintro e w3 ⟨rfl, os3, n3, rfl⟩)
        | (go_at_call 150; refine (kP _).mono ?_; rintro e w4 ⟨rfl, os4, n4, rfl⟩))
      exact bodyPost_ret (v := .tuple #[.agg #[.int .i64 3, .int .i64 0, .string ⟨#[]⟩, .int .i64 px, .int .i64 py], .bool true]) (by simp [results, Tryz.results148, go_sem]) rfl ⟨rfl, by repeat (first | with_reducible refine Adds.put ?_ (by omega) _ _ | with_reducible exact Adds.refl _ | with_reducible refine Adds.alloc ?_ _ | with_reducible refine Adds.more ?_ _ _ | with_reducible refine Adds.drew ?_ | with_reducible refine Adds.drewN ?_ _)⟩
    · have hk1' : (k == 1) = false := by simpa using hk1
      clear hk hk1
      go_enter Tryz.func148, Tryz.ntmps148
      go_wp2_with (first
        | (go_at_call 162; (with_reducible refine (kU _).mono ?_); rintro e w1 ⟨rfl, os1, n1, rfl⟩)
        | (go_at_call 162; (with_reducible refine (kV _).mono ?_); rintro e w2 ⟨rfl, os2, n2, rfl⟩)
        | (go_at_call 163; refine (kM _).mono ?_; rintro e w3 ⟨rfl, os3, n3, rfl⟩)
        | (go_at_call 150; refine (kP _).mono ?_; rintro e w4 ⟨rfl, os4, n4, rfl⟩))
      exact bodyPost_ret (v := .tuple #[.agg #[.int .i64 3, .int .i64 0, .string ⟨#[]⟩, .int .i64 px, .int .i64 py], .bool true]) (by simp [results, Tryz.results148, go_sem]) rfl ⟨rfl, by repeat (first | with_reducible refine Adds.put ?_ (by omega) _ _ | with_reducible exact Adds.refl _ | with_reducible refine Adds.alloc ?_ _ | with_reducible refine Adds.more ?_ _ _ | with_reducible refine Adds.drew ?_ | with_reducible refine Adds.drewN ?_ _)⟩
  · have hqf : (qu && qv) = false := by simpa using hqq
    rw [hpost false hqf, if_neg (by simp)]
    simp only [optV, Option.getD_none, Option.isSome_none, vZ, V.val]
    clear mU mV hpost hqq
    by_cases hk1 : k = 1
    · have hk1' : (k' == 1) = false := by subst hk1; simpa using hk
      subst hk1
      clear hk
      cases qu
      all_goals
        (try cases qv)
        all_goals first
          | (exfalso; exact absurd hqf (by decide))
          | (go_enter Tryz.func148, Tryz.ntmps148
             go_wp2_with (first
               | (go_at_call 162; (with_reducible refine (kU _).mono ?_); rintro e w1 ⟨rfl, os1, n1, rfl⟩)
               | (go_at_call 162; (with_reducible refine (kV _).mono ?_); rintro e w2 ⟨rfl, os2, n2, rfl⟩))
             exact bodyPost_ret (v := .tuple #[.agg #[.int .i64 0, .int .i64 0, .string ⟨#[]⟩, .int .i64 0, .int .i64 0], .bool false]) (by simp [results, Tryz.results148, go_sem]) rfl ⟨rfl, by repeat (first | with_reducible refine Adds.put ?_ (by omega) _ _ | with_reducible exact Adds.refl _ | with_reducible refine Adds.alloc ?_ _ | with_reducible refine Adds.more ?_ _ _ | with_reducible refine Adds.drew ?_ | with_reducible refine Adds.drewN ?_ _)⟩)
    · have hk1' : (k == 1) = false := by simpa using hk1
      clear hk hk1
      cases qu
      all_goals
        (try cases qv)
        all_goals first
          | (exfalso; exact absurd hqf (by decide))
          | (go_enter Tryz.func148, Tryz.ntmps148
             go_wp2_with (first
               | (go_at_call 162; (with_reducible refine (kU _).mono ?_); rintro e w1 ⟨rfl, os1, n1, rfl⟩)
               | (go_at_call 162; (with_reducible refine (kV _).mono ?_); rintro e w2 ⟨rfl, os2, n2, rfl⟩))
             exact bodyPost_ret (v := .tuple #[.agg #[.int .i64 0, .int .i64 0, .string ⟨#[]⟩, .int .i64 0, .int .i64 0], .bool false]) (by simp [results, Tryz.results148, go_sem]) rfl ⟨rfl, by repeat (first | with_reducible refine Adds.put ?_ (by omega) _ _ | with_reducible exact Adds.refl _ | with_reducible refine Adds.alloc ?_ _ | with_reducible refine Adds.more ?_ _ _ | with_reducible refine Adds.drew ?_ | with_reducible refine Adds.drewN ?_ _)⟩)

theorem rMul_any (u v : V) (hu : u.check = 0) (hv : v.check = 0) (w : World) :
    Calls Tryz.prog 148 #[u.val, v.val] w fun e w' => e = .returned (optV (mulR u v)) ∧ Adds w w' := by
  by_cases h1 : u.kind = 1 ∧ v.kind = 1
  · rcases V.cases hu with ⟨a, rfl, a1, a2⟩ | ⟨s, rfl, hs⟩ | ⟨x, y, rfl, hm⟩
    · rcases V.cases hv with ⟨b, rfl, b1, b2⟩ | ⟨s, rfl, hs⟩ | ⟨x, y, rfl, hm⟩
      · have e : mulR (V.mkNum a) (V.mkNum b) = timesO a b := by
          unfold mulR
          rw [if_pos h1]
          rfl
        rw [e]
        exact rMul_nums a b a1 a2 b1 b2 w
      · simp [V.mkText] at h1
      · simp [V.mkPoint] at h1
    · simp [V.mkText] at h1
    · simp [V.mkPoint] at h1
  · exact rMul_points u v hu hv h1 w

end Go.Proofs.YtiacnmcdfpmcfaaGreatDoor

namespace Go.Proofs.YtiacnmcdfpmcfaaGreatDoor
open Go.RowKit
attribute [local go_sem] cell?_more frozen?_more setCell_more size_more tape_more drew_more drewN_more more_drew more_drewN one_out plus_out plus_end lt_one le_p2 le_p3 le_p4 le_p5 le_p6 le_p7 le_p8 le_p9 le_p10 le_p11 le_p12 le_p13 le_p14 le_p15 le_p16 le_p17 le_p18 le_p19 le_p20 le_p21 le_p22 le_p23 le_p24 le_q0 le_q1 lt_q1 le_q2 lt_q2 le_q3 lt_q3 le_q4 lt_q4 le_q5 lt_q5 le_q6 lt_q6 le_q7 lt_q7 le_q8 lt_q8 le_q9 lt_q9 le_q10 lt_q10 le_q11 lt_q11 le_q12 lt_q12 le_q13 lt_q13 le_q14 lt_q14 le_q15 lt_q15 le_q16 lt_q16 le_q17 lt_q17 le_q18 lt_q18 le_q19 lt_q19 le_q20 lt_q20 le_q21 lt_q21 le_q22 lt_q22 le_q23 lt_q23 le_q24 lt_q24


/-- What Eval tells: of nodes that may be and documents that may be the value. -/
def evalN (fs : List F) (n : N) (o : Option V) : Prop := (fitsN 8 n = true → May fs → ∃ e : E, n = e.toN ∧ e.ok ∧ o = valE fs e) ∧ (¬ (fitsN 8 n = true ∧ May fs) → o = none)

set_option maxHeartbeats 2000000 in
theorem eval_any {D : Nat} (n : N) (s dv : Value) (fs : List F) (w : World) (hT : Tn (fun _ => True) D w s n.args) (hx : n.text.size ≤ 9223372036854775807) (hc : ∀ d, cntN d [n] ≤ 10000) (hL : Lst w dv fs) :
    Calls Tryz.prog 128 #[nodeV n s, dv] w fun e w' => (∃ o, e = .returned (optV o) ∧ evalN fs n o) ∧ Adds w w' := by
  have kC := fun W hA => checkE_any (D := D) n s W (hT.adds hA) hx hc
  have kD := fun W hA => check_doc dv fs W (hL.adds hA)
  by_cases hf : fitsN 8 n = true
  · by_cases hm : May fs
    · obtain ⟨x, rfl, hok⟩ := fits_E 8 n hf
      have kV := fun W hA => value_any (ok := fun _ => True) fs hm dv x D s W hok (hL.adds hA) (hT.adds hA)
      have HE : Hid (evalN fs x.toN (valE fs x)) := ⟨fun _ _ => ⟨x, rfl, hok, rfl⟩, fun h => absurd ⟨hf, hm⟩ h⟩
      obtain ⟨ao, cap, rfl⟩ := hT.shape
      have kC' : ∀ W, Adds w W → Calls Tryz.prog 66 #[nodeV x.toN (.slice ao x.toN.args.length cap)] W fun e w' => e = .returned (.int .i64 0) ∧ Adds W w' := fun W hA => (kC W hA).mono (by rintro e w' ⟨⟨y, rfl, hy⟩, hA'⟩; exact ⟨by rw [hy.2 hf], hA'⟩)
      have kD' : ∀ W, Adds w W → Calls Tryz.prog 104 #[dv] W fun e w' => e = .returned (.int .i64 0) ∧ Adds W w' := fun W hA => (kD W hA).mono (by rintro e w' ⟨rfl, hA'⟩; exact ⟨congrArg (fun z => Ending.returned (.int .i64 z)) (err_ok hm 1), hA'⟩)
      obtain ⟨⟨k, n', t, re, im⟩, hq⟩ : ∃ q, (valE fs x).getD vZ = q := ⟨_, rfl⟩
      have HQ : Hid ((valE fs x).getD vZ = ⟨k, n', t, re, im⟩) := hq
      obtain ⟨q2, hq2⟩ : ∃ q2, (valE fs x).isSome = q2 := ⟨_, rfl⟩
      have HQ2 : Hid ((valE fs x).isSome = q2) := hq2
      simp only [optV, hq, hq2, nodeV, V.val] at kV kC' ⊢
      clear hq hq2 kC kD hT hL hx hc hf hm hok
      generalize x.toN.args.length = la at *
      generalize x.toN.kind = xk at *
      generalize x.toN.text = xt at *
      generalize x.toN.num = xn at *
      go_enter Tryz.func128, Tryz.ntmps128
      go_wp2_with (first
        | (go_at_call 66; refine (kC' _ (by repeat (first | with_reducible exact Adds.refl _ | with_reducible refine Adds.alloc ?_ _ | with_reducible refine Adds.more ?_ _ _ | with_reducible refine Adds.drew ?_ | with_reducible refine Adds.drewN ?_ _))).mono ?_; rintro e w1 ⟨rfl, os1, n1, rfl⟩)
        | (go_at_call 104; refine (kD' _ (by repeat (first | with_reducible exact Adds.refl _ | with_reducible refine Adds.alloc ?_ _ | with_reducible refine Adds.more ?_ _ _ | with_reducible refine Adds.drew ?_ | with_reducible refine Adds.drewN ?_ _))).mono ?_; rintro e w2 ⟨rfl, os2, n2, rfl⟩)
        | (go_at_call 153; refine (kV _ (by repeat (first | with_reducible exact Adds.refl _ | with_reducible refine Adds.alloc ?_ _ | with_reducible refine Adds.more ?_ _ _ | with_reducible refine Adds.drew ?_ | with_reducible refine Adds.drewN ?_ _))).mono ?_; rintro e w3 ⟨rfl, os3, n3, rfl⟩))
      exact bodyPost_ret (v := .tuple #[.agg #[.int .i64 k, .int .i64 n', .string t, .int .i64 re, .int .i64 im], .bool q2]) (by simp [results, Tryz.results128, go_sem]) rfl ⟨⟨valE fs x, by rw [HQ.out, HQ2.out], HE.out⟩, by repeat (first | with_reducible exact Adds.refl _ | with_reducible refine Adds.alloc ?_ _ | with_reducible refine Adds.more ?_ _ _ | with_reducible refine Adds.drew ?_ | with_reducible refine Adds.drewN ?_ _)⟩
    · have HE : Hid (evalN fs n none) := ⟨fun _ h => absurd h hm, fun _ => rfl⟩
      obtain ⟨ao, cap, rfl⟩ := hT.shape
      have kC' : ∀ W, Adds w W → Calls Tryz.prog 66 #[nodeV n (.slice ao n.args.length cap)] W fun e w' => e = .returned (.int .i64 0) ∧ Adds W w' := fun W hA => (kC W hA).mono (by rintro e w' ⟨⟨y, rfl, hy⟩, hA'⟩; exact ⟨by rw [hy.2 hf], hA'⟩)
      have kD' : ∀ W, Adds w W → Calls Tryz.prog 104 #[dv] W fun e w' => e = .returned (.int .i64 1) ∧ Adds W w' := fun W hA => (kD W hA).mono (by rintro e w' ⟨rfl, hA'⟩; exact ⟨congrArg (fun z => Ending.returned (.int .i64 z)) (err_bad hm 1), hA'⟩)
      simp only [nodeV] at kC' ⊢
      clear kC kD hT hL hx hc hf hm
      generalize n.args.length = la at *
      generalize n.kind = xk at *
      generalize n.text = xt at *
      generalize n.num = xn at *
      go_enter Tryz.func128, Tryz.ntmps128
      go_wp2_with (first
        | (go_at_call 66; refine (kC' _ (by repeat (first | with_reducible exact Adds.refl _ | with_reducible refine Adds.alloc ?_ _ | with_reducible refine Adds.more ?_ _ _ | with_reducible refine Adds.drew ?_ | with_reducible refine Adds.drewN ?_ _))).mono ?_; rintro e w1 ⟨rfl, os1, n1, rfl⟩)
        | (go_at_call 104; refine (kD' _ (by repeat (first | with_reducible exact Adds.refl _ | with_reducible refine Adds.alloc ?_ _ | with_reducible refine Adds.more ?_ _ _ | with_reducible refine Adds.drew ?_ | with_reducible refine Adds.drewN ?_ _))).mono ?_; rintro e w2 ⟨rfl, os2, n2, rfl⟩))
      exact bodyPost_ret (v := .tuple #[.agg #[.int .i64 0, .int .i64 0, .string ⟨#[]⟩, .int .i64 0, .int .i64 0], .bool false]) (by simp [results, Tryz.results128, go_sem]) rfl ⟨⟨none, rfl, HE.out⟩, by repeat (first | with_reducible exact Adds.refl _ | with_reducible refine Adds.alloc ?_ _ | with_reducible refine Adds.more ?_ _ _ | with_reducible refine Adds.drew ?_ | with_reducible refine Adds.drewN ?_ _)⟩
  · have HE : Hid (evalN fs n none) := ⟨fun h _ => absurd h hf, fun _ => rfl⟩
    obtain ⟨ao, cap, rfl⟩ := hT.shape
    have kC' : ∀ W, Adds w W → Calls Tryz.prog 66 #[nodeV n (.slice ao n.args.length cap)] W fun e w' => (∃ y : Int, e = .returned (.int .i64 y) ∧ (y != 0) = true) ∧ Adds W w' := fun W hA => (kC W hA).mono (by rintro e w' ⟨⟨y, rfl, hy⟩, hA'⟩; exact ⟨⟨y, rfl, by simpa using fun h => hf (hy.1 h)⟩, hA'⟩)
    simp only [nodeV] at kC' ⊢
    clear kC kD hT hL hx hc hf
    generalize n.args.length = la at *
    generalize n.kind = xk at *
    generalize n.text = xt at *
    generalize n.num = xn at *
    go_enter Tryz.func128, Tryz.ntmps128
    go_wp2_with (first
      | (go_at_call 66; refine (kC' _ (by repeat (first | with_reducible exact Adds.refl _ | with_reducible refine Adds.alloc ?_ _ | with_reducible refine Adds.more ?_ _ _ | with_reducible refine Adds.drew ?_ | with_reducible refine Adds.drewN ?_ _))).mono ?_; rintro e w1 ⟨⟨y, rfl, hy⟩, os1, n1, rfl⟩))
    exact bodyPost_ret (v := .tuple #[.agg #[.int .i64 0, .int .i64 0, .string ⟨#[]⟩, .int .i64 0, .int .i64 0], .bool false]) (by simp [results, Tryz.results128, go_sem]) rfl ⟨⟨none, rfl, HE.out⟩, by repeat (first | with_reducible exact Adds.refl _ | with_reducible refine Adds.alloc ?_ _ | with_reducible refine Adds.more ?_ _ _ | with_reducible refine Adds.drew ?_ | with_reducible refine Adds.drewN ?_ _)⟩

theorem Tn.box {w : World} {o o' : Obj} {os : Array Obj} {k d : Nat} {s : Value} {ts : List N} (h : Tn (fun b => (w.alloc o).heap.size ≤ b) d (more (w.alloc o) os k) s ts) : Tn (fun b => w.heap.size + 1 ≤ b) d (more (w.alloc o') os k) s ts := by
  refine h.frame (by simp [size_more]) (fun b hb _ => ?_)
  have hb' : w.heap.size + 1 ≤ b := by simpa using hb
  refine ⟨?_, hb'⟩
  show ((w.heap.push o') ++ os)[b]? = ((w.heap.push o) ++ os)[b]?
  rw [Array.getElem?_append_right (by simpa using hb'), Array.getElem?_append_right (by simpa using hb')]
  simp

set_option maxHeartbeats 2000000 in
theorem parse_ok (s0 : ByteArray) (hs : s0.size ≤ 256) (x : E) (hM : M s0.toList [] Fr.none none = some x) (hf : fitsN 8 x.toN = true) (hok : x.ok) (hc : ∀ d, cntN d [x.toN] ≤ 10000) (w : World) :
    Calls Tryz.prog 48 #[.string s0] w fun e w' => (∃ sr D, e = .returned (.tuple #[nodeV x.toN sr, .int .i64 0]) ∧ Tn (fun b => w.heap.size + 1 ≤ b) D w' sr x.toN.args) ∧ Adds w w' := by
  have kR := fun W => read_any s0 hs W
  have kR' : ∀ W, Calls Tryz.prog 65 #[.string s0] W fun e w' => (∃ ao cap D, e = .returned (.tuple #[nodeV x.toN (.slice ao x.toN.args.length cap), .bool true]) ∧ Hid (Tn (fun b => W.heap.size ≤ b) D w' (.slice ao x.toN.args.length cap) x.toN.args)) ∧ Adds W w' := by
    intro W
    refine (kR W).mono ?_
    rintro e w' (⟨y, sr, D, h1, rfl, hT, hA⟩ | ⟨h1, _⟩)
    · rw [hM] at h1
      cases h1
      obtain ⟨ao, cap, rfl⟩ := hT.shape
      exact ⟨⟨ao, cap, D, rfl, hT⟩, hA⟩
    · rw [hM] at h1
      cases h1
  have kC : ∀ W ao cap D, Tn (fun _ => True) D W (.slice ao x.toN.args.length cap) x.toN.args → Calls Tryz.prog 66 #[nodeV x.toN (.slice ao x.toN.args.length cap)] W fun e w' => e = .returned (.int .i64 0) ∧ Adds W w' := fun W ao cap D hT => (checkE_any (D := D) x.toN _ W hT (ok_size hok) hc).mono (by rintro e w' ⟨⟨y, rfl, hy⟩, hA'⟩; exact ⟨by rw [hy.2 hf], hA'⟩)
  have hs' : ¬ (256 : Int) < (s0.size : Int) := by omega
  simp only [nodeV] at kR' kC ⊢
  clear kR hM hf hok hc
  generalize x.toN.args = xa at *
  generalize x.toN.kind = xk at *
  generalize x.toN.text = xt at *
  generalize x.toN.num = xn at *
  go_enter Tryz.func48, Tryz.ntmps48
  go_wp2_with (first
    | (go_at_call 65; refine (kR' _).mono ?_; rintro e w1 ⟨⟨ao, cap, D, rfl, hT⟩, os1, n1, rfl⟩)
    | (go_at_call 66; refine (kC _ _ _ D ((Tn.adds hT.out (by repeat (first | with_reducible exact Adds.refl _ | with_reducible refine Adds.alloc ?_ _ | with_reducible refine Adds.more ?_ _ _ | with_reducible refine Adds.drew ?_ | with_reducible refine Adds.drewN ?_ _))).weak (fun _ _ _ => trivial))).mono ?_; rintro e w2 ⟨rfl, os2, n2, rfl⟩))
  refine bodyPost_ret (v := .tuple #[.agg #[.int .i64 xk, .string xt, .int .i64 xn, .slice ao xa.length cap], .int .i64 0]) (by simp [results, Tryz.results48, go_sem]) rfl ⟨⟨_, D, rfl, ?_⟩, by repeat (first | with_reducible exact Adds.refl _ | with_reducible refine Adds.alloc ?_ _ | with_reducible refine Adds.more ?_ _ _ | with_reducible refine Adds.drew ?_ | with_reducible refine Adds.drewN ?_ _)⟩
  exact Tn.adds (Tn.box hT.out) (by repeat (first | with_reducible exact Adds.refl _ | with_reducible refine Adds.alloc ?_ _ | with_reducible refine Adds.more ?_ _ _ | with_reducible refine Adds.drew ?_ | with_reducible refine Adds.drewN ?_ _))

def eAwake : E := .sum (.call nNorm (.mul (.path [112]) (.path [112]))) (.num 1)

theorem gAwake : G .sum [110, 111, 114, 109, 40, 112, 42, 112, 41, 43, 49] eAwake := by
  have hp : G .part [112] (.path [112]) := .leaf rfl
  have hm : G .mul [112, 42, 112] (.mul (.path [112]) (.path [112])) := .mul (a := [112]) (b := [112]) (.up1 hp) hp
  have hc : G .part [110, 111, 114, 109, 40, 112, 42, 112, 41] (.call nNorm (.mul (.path [112]) (.path [112]))) := .call (f := nNorm) (a := [112, 42, 112]) (by decide) (.up2 hm)
  exact .add (a := [110, 111, 114, 109, 40, 112, 42, 112, 41]) (b := [49]) (.up2 (.up1 hc)) (.up1 (.leaf rfl))

theorem toB_inj {a b : List UInt8} (h : toB a = toB b) : a = b := by rw [← toB_toList a, h, toB_toList]

theorem E.toN_inj : ∀ {a b : E}, a.toN = b.toN → a = b := by
  intro a
  induction a with
  | path t => intro b h; cases b <;> simp [E.toN] at h; rw [toB_inj h]
  | num n => intro b h; cases b <;> simp [E.toN] at h; congr 1; omega
  | sum x y ihx ihy => intro b h; cases b <;> simp [E.toN] at h; rw [ihx h.1, ihy h.2]
  | mul x y ihx ihy => intro b h; cases b <;> simp [E.toN] at h; rw [ihx h.1, ihy h.2]
  | call f x ih => intro b h; cases b <;> simp [E.toN] at h; rw [toB_inj h.1, ih h.2]

theorem cnt_small (n : N) (m : Nat) : (∀ d, cntN d n.args ≤ m) → ∀ d, cntN d [n] ≤ m + 1 := by
  intro h d
  cases d with
  | zero => simp [cntN]
  | succ d =>
    have := h d
    simp [cntN]
    omega
theorem cnt_cons (n : N) (r : List N) (d : Nat) : cntN d (n :: r) = cntN d [n] + cntN d r := by
  cases d with
  | zero => simp [cntN]; omega
  | succ d => simp [cntN]; omega
theorem cnt_nil (d : Nat) : cntN d [] = 0 := by cases d <;> simp [cntN]

/-- How many nodes an expression has. -/
def E.nodes : E → Nat
  | .path _ => 1
  | .num _ => 1
  | .sum a b => a.nodes + b.nodes + 1
  | .mul a b => a.nodes + b.nodes + 1
  | .call _ a => a.nodes + 1

theorem cnt_E (e : E) : ∀ d, cntN d [e.toN] ≤ e.nodes := by
  induction e with
  | path t => exact cnt_small _ 0 (fun d => by simp [E.toN, N.args, cnt_nil])
  | num n => exact cnt_small _ 0 (fun d => by simp [E.toN, N.args, cnt_nil])
  | sum a b iha ihb => exact cnt_small _ _ (fun d => by have := iha d; have := ihb d; simp only [E.toN, N.args]; rw [cnt_cons]; omega)
  | mul a b iha ihb => exact cnt_small _ _ (fun d => by have := iha d; have := ihb d; simp only [E.toN, N.args]; rw [cnt_cons]; omega)
  | call f a iha => exact cnt_small _ _ (fun d => by have := iha d; simp only [E.toN, N.args]; omega)

def fAw : F := ⟨⟨#[112]⟩, V.mkPoint 1 2, by decide⟩

theorem p_list : (⟨#[112]⟩ : ByteArray).toList = [112] := by rw [ByteArray.toList_eq]

theorem fAw_may : May [fAw] := by
  refine ⟨by decide, fun k hk => ?_⟩
  have : k = 0 := by simpa using hk
  subst this
  refine ⟨?_, mkPoint_ok (by decide), fun h => absurd h (by decide)⟩
  show isPath ⟨#[112]⟩ = true
  rw [isPath_L, p_list]
  decide

theorem vAwake : valE [fAw] eAwake = some (V.mkNum 26) := by
  have h0 : valE [fAw] (.path [112]) = some (V.mkPoint 1 2) := by
    have e : firstAt (toB [112]) [fAw] = 0 := by
      simp only [firstAt]
      rw [if_pos (by rw [toB_toList]; exact p_list)]
    simp only [valE, got, e]
    rfl
  have h1 : mulO (V.mkPoint 1 2) (V.mkPoint 1 2) = some (V.mkPoint (-3) 4) := rfl
  have h2 : callO nNorm (V.mkPoint (-3) 4) = some (V.mkNum 25) := rfl
  have h3 : sumO (V.mkNum 25) (V.mkNum 1) = some (V.mkNum 26) := by
    have e : sumO (V.mkNum 25) (V.mkNum 1) = fitO (V.mkNum 26) := rfl
    rw [e, fitO, if_pos (mkNum_ok (by decide) (by decide))]
  show ((valE [fAw] (.call nNorm (.mul (.path [112]) (.path [112])))).bind fun x => (valE [fAw] (.num 1)).bind fun y => sumO x y) = _
  have h4 : valE [fAw] (.call nNorm (.mul (.path [112]) (.path [112]))) = some (V.mkNum 25) := by
    show (((valE [fAw] (.path [112])).bind fun x => (valE [fAw] (.path [112])).bind fun y => mulO x y)).bind (fun x => callO nNorm x) = _
    rw [h0]
    simp only [Option.bind_some]
    rw [h1]
    exact h2
  rw [h4]
  exact h3

theorem run_eql37 (ak an : Int) (ax : ByteArray) (ar ai bk bn : Int) (bx : ByteArray) (br bi : Int) (w : World) :
    (binOp .eql 87 (.agg #[.int .i64 ak, .int .i64 an, .string ax, .int .i64 ar, .int .i64 ai]) (.agg #[.int .i64 bk, .int .i64 bn, .string bx, .int .i64 br, .int .i64 bi])).run Tryz.prog w
      = .ok (.bool (V.eqv ⟨ak, an, ax, ar, ai⟩ ⟨bk, bn, bx, br, bi⟩)) w := by
  go_simp
  simp only [V.eqv]
  by_cases h1 : ak = bk <;> by_cases h2 : an = bn <;> by_cases h3 : ax.toList = bx.toList <;> by_cases h4 : ar = br <;> by_cases h5 : ai = bi <;> simp [h1, h2, h3, h4, h5]

theorem lst_aw {X : World} {k : Nat} (hk : k = X.heap.size) : Lst (X.alloc (.cells #[.string ⟨#[112]⟩, .int .i64 3, .int .i64 0, .string ⟨#[]⟩, .int .i64 1, .int .i64 2] 89)) (.slice (some ⟨k, 0, none⟩) 1 1) [fAw] := by
  refine ⟨_, 1, rfl, Nat.le_refl _, .inr ⟨k, 0, rfl, by rw [World.size_alloc]; omega, fun j hj => ?_⟩⟩
  have hj0 : j = 0 := by simpa using hj
  subst hj0
  exact ⟨cell_new hk rfl, cell_new hk rfl, cell_new hk rfl, cell_new hk rfl, cell_new hk rfl, cell_new hk rfl⟩

end Go.Proofs.YtiacnmcdfpmcfaaGreatDoor
