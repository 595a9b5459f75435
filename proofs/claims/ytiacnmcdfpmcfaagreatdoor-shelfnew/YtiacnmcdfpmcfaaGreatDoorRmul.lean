/-
  The reference's products, by contracts.
-/
import Derived.Test.YtiacnmcdfpmcfaaGreatDoorQ20
import Derived.Test.YtiacnmcdfpmcfaaGreatDoorQ09
import Derived.Test.YtiacnmcdfpmcfaaGreatDoorRdr
import Derived.BigQuiet
namespace Go.Proofs.YtiacnmcdfpmcfaaGreatDoor
open Go.RowKit
attribute [local go_sem] cell?_more frozen?_more setCell_more size_more tape_more drew_more drewN_more more_drew more_drewN one_out plus_out plus_end lt_one le_p2 le_p3 le_p4 le_p5 le_p6 le_p7 le_p8 le_p9 le_p10 le_p11 le_p12 le_p13 le_p14 le_p15 le_p16 le_p17 le_p18 le_p19 le_p20 le_p21 le_p22 le_p23 le_p24 le_q0 le_q1 lt_q1 le_q2 lt_q2 le_q3 lt_q3 le_q4 lt_q4 le_q5 lt_q5 le_q6 lt_q6 le_q7 lt_q7 le_q8 lt_q8 le_q9 lt_q9 le_q10 lt_q10 le_q11 lt_q11 le_q12 lt_q12 le_q13 lt_q13 le_q14 lt_q14 le_q15 lt_q15 le_q16 lt_q16 le_q17 lt_q17 le_q18 lt_q18 le_q19 lt_q19 le_q20 lt_q20 le_q21 lt_q21 le_q22 lt_q22 le_q23 lt_q23 le_q24 lt_q24


theorem Adds.put {w X : World} (h : Adds w X) {b : Nat} (hb : w.heap.size ≤ b) (i : Nat) (x : Value) : Adds w (X.setCell ⟨b, i, none⟩ x) :=
  Mv.adds (Mv.trans h.mv (Mv.set _ _ hb))

set_option maxHeartbeats 1000000 in
theorem rMul_nums00 (a b : Int) (ha1 : -9007199254740992 ≤ a) (ha2 : a ≤ 9007199254740992) (hb1 : -9007199254740992 ≤ b) (hb2 : b ≤ 9007199254740992) (ha : ¬ a < 0) (hb : ¬ b < 0) (w : World) :
    Calls Tryz.prog 148 #[(V.mkNum a).val, (V.mkNum b).val] w fun e w' => e = .returned (optV (timesO a b)) ∧ Adds w w' := by
  have kN := rNum_any (a * b)
  simp only [V.val, V.mkNum]
  unfold timesO
  by_cases h : -9007199254740992 ≤ a * b ∧ a * b ≤ 9007199254740992
  · rw [if_pos h]
    simp only [optV, Option.getD_some, Option.isSome_some, V.val, V.mkNum]
    have hd : a ≠ 0 → ¬ 9007199254740992 / a < b := by
      intro h0
      have := (abs_mul_le (a := b) h0).2 (by rw [Int.mul_comm]; exact h)
      rw [show max b (-b) = b by omega, show max a (-a) = a by omega] at this
      omega
    obtain ⟨h1, h2⟩ := h
    by_cases h0 : a = 0
    · subst h0
      clear hd
      rw [Int.zero_mul] at *
      go_enter Tryz.func148, Tryz.ntmps148
      go_wp2
      go_quiet (fail)
      go_wp2_with (first
        | (go_at_call 147; refine (kN _).mono ?_; rintro e w2 ⟨rfl, os2, n2, rfl⟩))
      exact bodyPost_ret (v := .tuple #[.agg #[.int .i64 1, .int .i64 0, .string ⟨#[]⟩, .int .i64 0, .int .i64 0], .bool true]) (by simp [results, Tryz.results148, go_sem]) rfl ⟨rfl, by repeat (first | with_reducible refine Adds.put ?_ (by omega) _ _ | with_reducible exact Adds.refl _ | with_reducible refine Adds.alloc ?_ _ | with_reducible refine Adds.more ?_ _ _ | with_reducible refine Adds.drew ?_ | with_reducible refine Adds.drewN ?_ _)⟩
    · have hd' := hd h0
      have h0' : (a != 0) = true := by simp; omega
      clear hd
      go_enter Tryz.func148, Tryz.ntmps148
      go_wp2
      go_quiet (fail)
      go_wp2_with (first
        | (go_at_call 147; refine (kN _).mono ?_; rintro e w2 ⟨rfl, os2, n2, rfl⟩))
      exact bodyPost_ret (v := .tuple #[.agg #[.int .i64 1, .int .i64 (a * b), .string ⟨#[]⟩, .int .i64 0, .int .i64 0], .bool true]) (by simp [results, Tryz.results148, go_sem]) rfl ⟨rfl, by repeat (first | with_reducible refine Adds.put ?_ (by omega) _ _ | with_reducible exact Adds.refl _ | with_reducible refine Adds.alloc ?_ _ | with_reducible refine Adds.more ?_ _ _ | with_reducible refine Adds.drew ?_ | with_reducible refine Adds.drewN ?_ _)⟩
  · rw [if_neg h]
    simp only [optV, Option.getD_none, Option.isSome_none, vZ, V.val]
    have h0 : a ≠ 0 := by
      rintro rfl
      rw [Int.zero_mul] at h
      omega
    have hd' : 9007199254740992 / a < b := by
      have := mt (abs_mul_le (a := b) h0).1 (by rw [Int.mul_comm]; exact h)
      rw [show max b (-b) = b by omega, show max a (-a) = a by omega] at this
      omega
    have h0' : (a != 0) = true := by simp; omega
    clear h
    go_enter Tryz.func148, Tryz.ntmps148
    go_wp2
    go_quiet (fail)
    go_wp2_with (first
      | (go_at_call 147; refine (kN _).mono ?_; rintro e w2 ⟨rfl, os2, n2, rfl⟩))
    exact bodyPost_ret (v := .tuple #[.agg #[.int .i64 0, .int .i64 0, .string ⟨#[]⟩, .int .i64 0, .int .i64 0], .bool false]) (by simp [results, Tryz.results148, go_sem]) rfl ⟨rfl, by repeat (first | with_reducible refine Adds.put ?_ (by omega) _ _ | with_reducible exact Adds.refl _ | with_reducible refine Adds.alloc ?_ _ | with_reducible refine Adds.more ?_ _ _ | with_reducible refine Adds.drew ?_ | with_reducible refine Adds.drewN ?_ _)⟩

set_option maxHeartbeats 1000000 in
theorem rMul_nums01 (a b : Int) (ha1 : -9007199254740992 ≤ a) (ha2 : a ≤ 9007199254740992) (hb1 : -9007199254740992 ≤ b) (hb2 : b ≤ 9007199254740992) (ha : ¬ a < 0) (hb : b < 0) (w : World) :
    Calls Tryz.prog 148 #[(V.mkNum a).val, (V.mkNum b).val] w fun e w' => e = .returned (optV (timesO a b)) ∧ Adds w w' := by
  have kN := rNum_any (a * b)
  simp only [V.val, V.mkNum]
  unfold timesO
  by_cases h : -9007199254740992 ≤ a * b ∧ a * b ≤ 9007199254740992
  · rw [if_pos h]
    simp only [optV, Option.getD_some, Option.isSome_some, V.val, V.mkNum]
    have hd : a ≠ 0 → ¬ 9007199254740992 / a < (-b) := by
      intro h0
      have := (abs_mul_le (a := b) h0).2 (by rw [Int.mul_comm]; exact h)
      rw [show max b (-b) = (-b) by omega, show max a (-a) = a by omega] at this
      omega
    obtain ⟨h1, h2⟩ := h
    by_cases h0 : a = 0
    · subst h0
      clear hd
      rw [Int.zero_mul] at *
      go_enter Tryz.func148, Tryz.ntmps148
      go_wp2
      go_quiet (fail)
      go_wp2_with (first
        | (go_at_call 147; refine (kN _).mono ?_; rintro e w2 ⟨rfl, os2, n2, rfl⟩))
      exact bodyPost_ret (v := .tuple #[.agg #[.int .i64 1, .int .i64 0, .string ⟨#[]⟩, .int .i64 0, .int .i64 0], .bool true]) (by simp [results, Tryz.results148, go_sem]) rfl ⟨rfl, by repeat (first | with_reducible refine Adds.put ?_ (by omega) _ _ | with_reducible exact Adds.refl _ | with_reducible refine Adds.alloc ?_ _ | with_reducible refine Adds.more ?_ _ _ | with_reducible refine Adds.drew ?_ | with_reducible refine Adds.drewN ?_ _)⟩
    · have hd' := hd h0
      have h0' : (a != 0) = true := by simp; omega
      clear hd
      go_enter Tryz.func148, Tryz.ntmps148
      go_wp2
      go_quiet (fail)
      go_wp2_with (first
        | (go_at_call 147; refine (kN _).mono ?_; rintro e w2 ⟨rfl, os2, n2, rfl⟩))
      exact bodyPost_ret (v := .tuple #[.agg #[.int .i64 1, .int .i64 (a * b), .string ⟨#[]⟩, .int .i64 0, .int .i64 0], .bool true]) (by simp [results, Tryz.results148, go_sem]) rfl ⟨rfl, by repeat (first | with_reducible refine Adds.put ?_ (by omega) _ _ | with_reducible exact Adds.refl _ | with_reducible refine Adds.alloc ?_ _ | with_reducible refine Adds.more ?_ _ _ | with_reducible refine Adds.drew ?_ | with_reducible refine Adds.drewN ?_ _)⟩
  · rw [if_neg h]
    simp only [optV, Option.getD_none, Option.isSome_none, vZ, V.val]
    have h0 : a ≠ 0 := by
      rintro rfl
      rw [Int.zero_mul] at h
      omega
    have hd' : 9007199254740992 / a < (-b) := by
      have := mt (abs_mul_le (a := b) h0).1 (by rw [Int.mul_comm]; exact h)
      rw [show max b (-b) = (-b) by omega, show max a (-a) = a by omega] at this
      omega
    have h0' : (a != 0) = true := by simp; omega
    clear h
    go_enter Tryz.func148, Tryz.ntmps148
    go_wp2
    go_quiet (fail)
    go_wp2_with (first
      | (go_at_call 147; refine (kN _).mono ?_; rintro e w2 ⟨rfl, os2, n2, rfl⟩))
    exact bodyPost_ret (v := .tuple #[.agg #[.int .i64 0, .int .i64 0, .string ⟨#[]⟩, .int .i64 0, .int .i64 0], .bool false]) (by simp [results, Tryz.results148, go_sem]) rfl ⟨rfl, by repeat (first | with_reducible refine Adds.put ?_ (by omega) _ _ | with_reducible exact Adds.refl _ | with_reducible refine Adds.alloc ?_ _ | with_reducible refine Adds.more ?_ _ _ | with_reducible refine Adds.drew ?_ | with_reducible refine Adds.drewN ?_ _)⟩

set_option maxHeartbeats 1000000 in
theorem rMul_nums10 (a b : Int) (ha1 : -9007199254740992 ≤ a) (ha2 : a ≤ 9007199254740992) (hb1 : -9007199254740992 ≤ b) (hb2 : b ≤ 9007199254740992) (ha : a < 0) (hb : ¬ b < 0) (w : World) :
    Calls Tryz.prog 148 #[(V.mkNum a).val, (V.mkNum b).val] w fun e w' => e = .returned (optV (timesO a b)) ∧ Adds w w' := by
  have kN := rNum_any (a * b)
  simp only [V.val, V.mkNum]
  unfold timesO
  by_cases h : -9007199254740992 ≤ a * b ∧ a * b ≤ 9007199254740992
  · rw [if_pos h]
    simp only [optV, Option.getD_some, Option.isSome_some, V.val, V.mkNum]
    have hd : a ≠ 0 → ¬ 9007199254740992 / (-a) < b := by
      intro h0
      have := (abs_mul_le (a := b) h0).2 (by rw [Int.mul_comm]; exact h)
      rw [show max b (-b) = b by omega, show max a (-a) = (-a) by omega] at this
      omega
    obtain ⟨h1, h2⟩ := h
    have h0 : a ≠ 0 := by omega
    · have hd' := hd h0
      have h0' : ((-a) != 0) = true := by simp; omega
      clear hd
      obtain ⟨D, hD⟩ : ∃ D, 9007199254740992 / (-a) = D := ⟨_, rfl⟩
      have ht : wrap64 (-Int.tdiv 9007199254740992 a) = D := by
        have e : Int.tdiv 9007199254740992 (-a) = 9007199254740992 / (-a) := Int.tdiv_eq_ediv_of_nonneg (by decide)
        rw [Int.tdiv_neg] at e
        rw [e, hD]
        have h1 := Int.ediv_nonneg (a := 9007199254740992) (b := -a) (by decide) (by omega)
        have h2 := Int.ediv_le_self (a := 9007199254740992) (-a) (by decide)
        rw [hD] at h1 h2
        unfold wrap64
        omega
      rw [hD] at hd'
      clear hD
      go_enter Tryz.func148, Tryz.ntmps148
      go_wp2
      go_quiet (fail)
      go_wp2_with (first
        | (go_at_call 147; refine (kN _).mono ?_; rintro e w2 ⟨rfl, os2, n2, rfl⟩))
      exact bodyPost_ret (v := .tuple #[.agg #[.int .i64 1, .int .i64 (a * b), .string ⟨#[]⟩, .int .i64 0, .int .i64 0], .bool true]) (by simp [results, Tryz.results148, go_sem]) rfl ⟨rfl, by repeat (first | with_reducible refine Adds.put ?_ (by omega) _ _ | with_reducible exact Adds.refl _ | with_reducible refine Adds.alloc ?_ _ | with_reducible refine Adds.more ?_ _ _ | with_reducible refine Adds.drew ?_ | with_reducible refine Adds.drewN ?_ _)⟩
  · rw [if_neg h]
    simp only [optV, Option.getD_none, Option.isSome_none, vZ, V.val]
    have h0 : a ≠ 0 := by
      rintro rfl
      rw [Int.zero_mul] at h
      omega
    have hd' : 9007199254740992 / (-a) < b := by
      have := mt (abs_mul_le (a := b) h0).1 (by rw [Int.mul_comm]; exact h)
      rw [show max b (-b) = b by omega, show max a (-a) = (-a) by omega] at this
      omega
    have h0' : ((-a) != 0) = true := by simp; omega
    clear h
    obtain ⟨D, hD⟩ : ∃ D, 9007199254740992 / (-a) = D := ⟨_, rfl⟩
    have ht : wrap64 (-Int.tdiv 9007199254740992 a) = D := by
      have e : Int.tdiv 9007199254740992 (-a) = 9007199254740992 / (-a) := Int.tdiv_eq_ediv_of_nonneg (by decide)
      rw [Int.tdiv_neg] at e
      rw [e, hD]
      have h1 := Int.ediv_nonneg (a := 9007199254740992) (b := -a) (by decide) (by omega)
      have h2 := Int.ediv_le_self (a := 9007199254740992) (-a) (by decide)
      rw [hD] at h1 h2
      unfold wrap64
      omega
    rw [hD] at hd'
    clear hD
    go_enter Tryz.func148, Tryz.ntmps148
    go_wp2
    go_quiet (fail)
    go_wp2_with (first
      | (go_at_call 147; refine (kN _).mono ?_; rintro e w2 ⟨rfl, os2, n2, rfl⟩))
    exact bodyPost_ret (v := .tuple #[.agg #[.int .i64 0, .int .i64 0, .string ⟨#[]⟩, .int .i64 0, .int .i64 0], .bool false]) (by simp [results, Tryz.results148, go_sem]) rfl ⟨rfl, by repeat (first | with_reducible refine Adds.put ?_ (by omega) _ _ | with_reducible exact Adds.refl _ | with_reducible refine Adds.alloc ?_ _ | with_reducible refine Adds.more ?_ _ _ | with_reducible refine Adds.drew ?_ | with_reducible refine Adds.drewN ?_ _)⟩

set_option maxHeartbeats 1000000 in
theorem rMul_nums11 (a b : Int) (ha1 : -9007199254740992 ≤ a) (ha2 : a ≤ 9007199254740992) (hb1 : -9007199254740992 ≤ b) (hb2 : b ≤ 9007199254740992) (ha : a < 0) (hb : b < 0) (w : World) :
    Calls Tryz.prog 148 #[(V.mkNum a).val, (V.mkNum b).val] w fun e w' => e = .returned (optV (timesO a b)) ∧ Adds w w' := by
  have kN := rNum_any (a * b)
  simp only [V.val, V.mkNum]
  unfold timesO
  by_cases h : -9007199254740992 ≤ a * b ∧ a * b ≤ 9007199254740992
  · rw [if_pos h]
    simp only [optV, Option.getD_some, Option.isSome_some, V.val, V.mkNum]
    have hd : a ≠ 0 → ¬ 9007199254740992 / (-a) < (-b) := by
      intro h0
      have := (abs_mul_le (a := b) h0).2 (by rw [Int.mul_comm]; exact h)
      rw [show max b (-b) = (-b) by omega, show max a (-a) = (-a) by omega] at this
      omega
    obtain ⟨h1, h2⟩ := h
    have h0 : a ≠ 0 := by omega
    · have hd' := hd h0
      have h0' : ((-a) != 0) = true := by simp; omega
      clear hd
      obtain ⟨D, hD⟩ : ∃ D, 9007199254740992 / (-a) = D := ⟨_, rfl⟩
      have ht : wrap64 (-Int.tdiv 9007199254740992 a) = D := by
        have e : Int.tdiv 9007199254740992 (-a) = 9007199254740992 / (-a) := Int.tdiv_eq_ediv_of_nonneg (by decide)
        rw [Int.tdiv_neg] at e
        rw [e, hD]
        have h1 := Int.ediv_nonneg (a := 9007199254740992) (b := -a) (by decide) (by omega)
        have h2 := Int.ediv_le_self (a := 9007199254740992) (-a) (by decide)
        rw [hD] at h1 h2
        unfold wrap64
        omega
      rw [hD] at hd'
      clear hD
      go_enter Tryz.func148, Tryz.ntmps148
      go_wp2
      go_quiet (fail)
      go_wp2_with (first
        | (go_at_call 147; refine (kN _).mono ?_; rintro e w2 ⟨rfl, os2, n2, rfl⟩))
      exact bodyPost_ret (v := .tuple #[.agg #[.int .i64 1, .int .i64 (a * b), .string ⟨#[]⟩, .int .i64 0, .int .i64 0], .bool true]) (by simp [results, Tryz.results148, go_sem]) rfl ⟨rfl, by repeat (first | with_reducible refine Adds.put ?_ (by omega) _ _ | with_reducible exact Adds.refl _ | with_reducible refine Adds.alloc ?_ _ | with_reducible refine Adds.more ?_ _ _ | with_reducible refine Adds.drew ?_ | with_reducible refine Adds.drewN ?_ _)⟩
  · rw [if_neg h]
    simp only [optV, Option.getD_none, Option.isSome_none, vZ, V.val]
    have h0 : a ≠ 0 := by
      rintro rfl
      rw [Int.zero_mul] at h
      omega
    have hd' : 9007199254740992 / (-a) < (-b) := by
      have := mt (abs_mul_le (a := b) h0).1 (by rw [Int.mul_comm]; exact h)
      rw [show max b (-b) = (-b) by omega, show max a (-a) = (-a) by omega] at this
      omega
    have h0' : ((-a) != 0) = true := by simp; omega
    clear h
    obtain ⟨D, hD⟩ : ∃ D, 9007199254740992 / (-a) = D := ⟨_, rfl⟩
    have ht : wrap64 (-Int.tdiv 9007199254740992 a) = D := by
      have e : Int.tdiv 9007199254740992 (-a) = 9007199254740992 / (-a) := Int.tdiv_eq_ediv_of_nonneg (by decide)
      rw [Int.tdiv_neg] at e
      rw [e, hD]
      have h1 := Int.ediv_nonneg (a := 9007199254740992) (b := -a) (by decide) (by omega)
      have h2 := Int.ediv_le_self (a := 9007199254740992) (-a) (by decide)
      rw [hD] at h1 h2
      unfold wrap64
      omega
    rw [hD] at hd'
    clear hD
    go_enter Tryz.func148, Tryz.ntmps148
    go_wp2
    go_quiet (fail)
    go_wp2_with (first
      | (go_at_call 147; refine (kN _).mono ?_; rintro e w2 ⟨rfl, os2, n2, rfl⟩))
    exact bodyPost_ret (v := .tuple #[.agg #[.int .i64 0, .int .i64 0, .string ⟨#[]⟩, .int .i64 0, .int .i64 0], .bool false]) (by simp [results, Tryz.results148, go_sem]) rfl ⟨rfl, by repeat (first | with_reducible refine Adds.put ?_ (by omega) _ _ | with_reducible exact Adds.refl _ | with_reducible refine Adds.alloc ?_ _ | with_reducible refine Adds.more ?_ _ _ | with_reducible refine Adds.drew ?_ | with_reducible refine Adds.drewN ?_ _)⟩

theorem rMul_nums (a b : Int) (ha1 : -9007199254740992 ≤ a) (ha2 : a ≤ 9007199254740992) (hb1 : -9007199254740992 ≤ b) (hb2 : b ≤ 9007199254740992) (w : World) :
    Calls Tryz.prog 148 #[(V.mkNum a).val, (V.mkNum b).val] w fun e w' => e = .returned (optV (timesO a b)) ∧ Adds w w' := by
  by_cases ha : a < 0 <;> by_cases hb : b < 0
  · exact rMul_nums11 a b ha1 ha2 hb1 hb2 ha hb w
  · exact rMul_nums10 a b ha1 ha2 hb1 hb2 ha hb w
  · exact rMul_nums01 a b ha1 ha2 hb1 hb2 ha hb w
  · exact rMul_nums00 a b ha1 ha2 hb1 hb2 ha hb w

/-- The product, ahead of the question whether it fits. -/
def mulR (u v : V) : Option V :=
  if u.kind = 1 ∧ v.kind = 1 then timesO u.num v.num
  else if ¬ (u.kind = 2 ∨ v.kind = 2) ∧ Gs.May (asRe u) (asIm u) ∧ Gs.May (asRe v) (asIm v) then some (V.mkPoint (asRe u * asRe v - asIm u * asIm v) (asRe u * asIm v + asIm u * asRe v)) else none

theorem pt_fit (x y : Int) : fitO (V.mkPoint x y) = ptO x y := by
  unfold fitO ptO
  by_cases h : Gs.May x y
  · rw [if_pos h, if_pos (mkPoint_ok h)]
  · rw [if_neg h, if_neg]
    intro hc
    apply h
    rcases V.cases hc with ⟨n, e, _⟩ | ⟨s, e, _⟩ | ⟨a, b, e, hm⟩
    · simp [V.mkPoint, V.mkNum] at e
    · simp [V.mkPoint, V.mkText] at e
    · simp only [V.mkPoint, V.mk.injEq] at e
      obtain ⟨_, _, _, rfl, rfl⟩ := e
      exact hm

theorem mulR_fit (u v : V) : (mulR u v).bind fitO = mulO u v := by
  unfold mulR mulO
  by_cases h1 : u.kind = 1 ∧ v.kind = 1
  · rw [if_pos h1, if_neg (by omega), if_pos h1]
    unfold timesO
    split
    · rename_i h
      simp only [Option.bind_some, fitO, mkNum_ok h.1 h.2, if_true]
    · rfl
  · rw [if_neg h1]
    by_cases h2 : u.kind = 2 ∨ v.kind = 2
    · rw [if_pos h2, if_neg (fun h => h.1 h2)]
      rfl
    · rw [if_neg h2, if_neg h1]
      by_cases h3 : Gs.May (asRe u) (asIm u) ∧ Gs.May (asRe v) (asIm v)
      · rw [if_pos h3, if_pos ⟨h2, h3⟩]
        exact pt_fit _ _
      · rw [if_neg h3, if_neg (fun h => h3 h.2)]
        rfl

/-- A value as a point: is it one? -/
def asOk (v : V) : Bool := if v.kind = 1 then decide (Gs.May v.num 0) else (v.kind == 3)
theorem asOk_is {v : V} (h : v.check = 0) : asOk v = true ↔ v.kind ≠ 2 ∧ Gs.May (asRe v) (asIm v) := by
  rcases V.cases h with ⟨n, rfl, a1, a2⟩ | ⟨s, rfl, hs⟩ | ⟨x, y, rfl, hm⟩
  · simp [asOk, V.mkNum, asRe, asIm]
    exact decide_eq_true_iff
  · simp [asOk, V.mkText]
  · simp [asOk, V.mkPoint, asRe, asIm, hm]

set_option maxHeartbeats 4000000 in
theorem rMul_points (u v : V) (hu : u.check = 0) (hv : v.check = 0) (h1 : ¬ (u.kind = 1 ∧ v.kind = 1)) (w : World) :
    Calls Tryz.prog 148 #[u.val, v.val] w fun e w' => e = .returned (optV (mulR u v)) ∧ Adds w w' := by
  have kU := rAs_any u
  have kV := rAs_any v
  have eU := asOk_is hu
  have eV := asOk_is hv
  change ∀ w, Calls Tryz.prog 162 #[u.val] w fun e w' => e = .returned (.tuple #[Gs.pt (asRe u) (asIm u), .bool (asOk u)]) ∧ Adds w w' at kU
  change ∀ w, Calls Tryz.prog 162 #[v.val] w fun e w' => e = .returned (.tuple #[Gs.pt (asRe v) (asIm v), .bool (asOk v)]) ∧ Adds w w' at kV
  have eM : mulR u v = if asOk u = true ∧ asOk v = true then some (V.mkPoint (asRe u * asRe v - asIm u * asIm v) (asRe u * asIm v + asIm u * asRe v)) else none := by
    unfold mulR
    rw [if_neg h1]
    by_cases hq : asOk u = true ∧ asOk v = true
    · have a := eU.1 hq.1
      have b := eV.1 hq.2
      rw [if_pos hq, if_pos ⟨by rintro (h | h); exact a.1 h; exact b.1 h, a.2, b.2⟩]
    · rw [if_neg hq, if_neg]
      rintro ⟨a, b, c⟩
      exact hq ⟨eU.2 ⟨fun h => a (.inl h), b⟩, eV.2 ⟨fun h => a (.inr h), c⟩⟩
  rw [eM]
  have mU : asOk u = true → Gs.May (asRe u) (asIm u) := fun h => (eU.1 h).2
  have mV : asOk v = true → Gs.May (asRe v) (asIm v) := fun h => (eV.1 h).2
  clear eM eU eV hu hv
  have hk : ((u.kind == 1) && (v.kind == 1)) = false := by
    cases hq : ((u.kind == 1) && (v.kind == 1)) with
    | false => rfl
    | true => simp at hq; exact absurd hq h1
  clear h1
  generalize asOk u = qu at *
  generalize asOk v = qv at *
  generalize asRe u = ux at *
  generalize asIm u = uy at *
  generalize asRe v = vx at *
  generalize asIm v = vy at *
  obtain ⟨k, n, t, re, im⟩ := u
  obtain ⟨k', n', t', re', im'⟩ := v
  simp only [V.val] at *
  have hpost : ∀ q, (qu && qv) = q → (if qu = true ∧ qv = true then some (V.mkPoint (ux * vx - uy * vy) (ux * vy + uy * vx)) else none) = if q = true then some (V.mkPoint (ux * vx - uy * vy) (ux * vy + uy * vx)) else none := by
    rintro q rfl
    simp
  by_cases hqq : (qu && qv) = true
  · rw [hpost true hqq, if_pos rfl]
    have hu' : qu = true := by cases qu <;> simp_all
    have hv' : qv = true := by cases qv <;> simp_all
    have kM := Gs.rmul_any ux uy vx vy (mU hu') (mV hv')
    subst hu' hv'
    have kP := rPoint_any (ux * vx - uy * vy) (ux * vy + uy * vx)
    simp only [optV, Option.getD_some, Option.isSome_some, V.val, V.mkPoint]
    clear mU mV hpost hqq
    generalize ux * vx - uy * vy = px at *
    generalize ux * vy + uy * vx = py at *
    by_cases hk1 : k = 1
    · have hk1' : (k' == 1) = false := by subst hk1; simpa using hk
      subst hk1
      clear hk
      go_enter Tryz.func148, Tryz.ntmps148
      go_wp2_with (first
        | (go_at_call 162; (with_reducible refine (kU _).mono ?_); rintro e w1 ⟨rfl, os1, n1, rfl⟩)
        | (go_at_call 162; (with_reducible refine (kV _).mono ?_); rintro e w2 ⟨rfl, os2, n2, rfl⟩)
        | (go_at_call 163; refine (kM _).mono ?_; rintro e w3 ⟨rfl, os3, n3, rfl⟩)
        | (go_at_call 150; refine (kP _).mono ?_; rintro e w4 ⟨rfl, os4, n4, rfl⟩))
      exact bodyPost_ret (v := .tuple #[.agg #[.int .i64 3, .int .i64 0, .string ⟨#[]⟩, .int .i64 px, .int .i64 py], .bool true]) (by simp [results, Tryz.results148, go_sem]) rfl ⟨rfl, by repeat (first | with_reducible refine Adds.put ?_ (by omega) _ _ | with_reducible exact Adds.refl _ | with_reducible refine Adds.alloc ?_ _ | with_reducible refine Adds.more ?_ _ _ | with_reducible refine Adds.drew ?_ | with_reducible refine Adds.drewN ?_ _)⟩
    · have hk1' : (k == 1) = false := by simpa using hk1
      clear hk hk1
      go_enter Tryz.func148, Tryz.ntmps148
      go_wp2_with (first
        | (go_at_call 162; (with_reducible refine (kU _).mono ?_); rintro e w1 ⟨rfl, os1, n1, rfl⟩)
        | (go_at_call 162; (with_reducible refine (kV _).mono ?_); rintro e w2 ⟨rfl, os2, n2, rfl⟩)
        | (go_at_call 163; refine (kM _).mono ?_; rintro e w3 ⟨rfl, os3, n3, rfl⟩)
        | (go_at_call 150; refine (kP _).mono ?_; rintro e w4 ⟨rfl, os4, n4, rfl⟩))
      exact bodyPost_ret (v := .tuple #[.agg #[.int .i64 3, .int .i64 0, .string ⟨#[]⟩, .int .i64 px, .int .i64 py], .bool true]) (by simp [results, Tryz.results148, go_sem]) rfl ⟨rfl, by repeat (first | with_reducible refine Adds.put ?_ (by omega) _ _ | with_reducible exact Adds.refl _ | with_reducible refine Adds.alloc ?_ _ | with_reducible refine Adds.more ?_ _ _ | with_reducible refine Adds.drew ?_ | with_reducible refine Adds.drewN ?_ _)⟩
  · have hqf : (qu && qv) = false := by simpa using hqq
    rw [hpost false hqf, if_neg (by simp)]
    simp only [optV, Option.getD_none, Option.isSome_none, vZ, V.val]
    clear mU mV hpost hqq
    by_cases hk1 : k = 1
    · have hk1' : (k' == 1) = false := by subst hk1; simpa using hk
      subst hk1
      clear hk
      cases qu
      all_goals
        (try cases qv)
        all_goals first
          | (exfalso; exact absurd hqf (by decide))
          | (go_enter Tryz.func148, Tryz.ntmps148
             go_wp2_with (first
               | (go_at_call 162; (with_reducible refine (kU _).mono ?_); rintro e w1 ⟨rfl, os1, n1, rfl⟩)
               | (go_at_call 162; (with_reducible refine (kV _).mono ?_); rintro e w2 ⟨rfl, os2, n2, rfl⟩))
             exact bodyPost_ret (v := .tuple #[.agg #[.int .i64 0, .int .i64 0, .string ⟨#[]⟩, .int .i64 0, .int .i64 0], .bool false]) (by simp [results, Tryz.results148, go_sem]) rfl ⟨rfl, by repeat (first | with_reducible refine Adds.put ?_ (by omega) _ _ | with_reducible exact Adds.refl _ | with_reducible refine Adds.alloc ?_ _ | with_reducible refine Adds.more ?_ _ _ | with_reducible refine Adds.drew ?_ | with_reducible refine Adds.drewN ?_ _)⟩)
    · have hk1' : (k == 1) = false := by simpa using hk1
      clear hk hk1
      cases qu
      all_goals
        (try cases qv)
        all_goals first
          | (exfalso; exact absurd hqf (by decide))
          | (go_enter Tryz.func148, Tryz.ntmps148
             go_wp2_with (first
               | (go_at_call 162; (with_reducible refine (kU _).mono ?_); rintro e w1 ⟨rfl, os1, n1, rfl⟩)
               | (go_at_call 162; (with_reducible refine (kV _).mono ?_); rintro e w2 ⟨rfl, os2, n2, rfl⟩))
             exact bodyPost_ret (v := .tuple #[.agg #[.int .i64 0, .int .i64 0, .string ⟨#[]⟩, .int .i64 0, .int .i64 0], .bool false]) (by simp [results, Tryz.results148, go_sem]) rfl ⟨rfl, by repeat (first | with_reducible refine Adds.put ?_ (by omega) _ _ | with_reducible exact Adds.refl _ | with_reducible refine Adds.alloc ?_ _ | with_reducible refine Adds.more ?_ _ _ | with_reducible refine Adds.drew ?_ | with_reducible refine Adds.drewN ?_ _)⟩)

theorem rMul_any (u v : V) (hu : u.check = 0) (hv : v.check = 0) (w : World) :
    Calls Tryz.prog 148 #[u.val, v.val] w fun e w' => e = .returned (optV (mulR u v)) ∧ Adds w w' := by
  by_cases h1 : u.kind = 1 ∧ v.kind = 1
  · rcases V.cases hu with ⟨a, rfl, a1, a2⟩ | ⟨s, rfl, hs⟩ | ⟨x, y, rfl, hm⟩
    · rcases V.cases hv with ⟨b, rfl, b1, b2⟩ | ⟨s, rfl, hs⟩ | ⟨x, y, rfl, hm⟩
      · have e : mulR (V.mkNum a) (V.mkNum b) = timesO a b := by
          unfold mulR
          rw [if_pos h1]
          rfl
        rw [e]
        exact rMul_nums a b a1 a2 b1 b2 w
      · simp [V.mkText] at h1
      · simp [V.mkPoint] at h1
    · simp [V.mkText] at h1
    · simp [V.mkPoint] at h1
  · exact rMul_points u v hu hv h1 w

end Go.Proofs.YtiacnmcdfpmcfaaGreatDoor
