/-
  Products and calls, and the function valueOf, by contracts.
  Products, by a contract.
-/
import Derived.Test.YtiacnmcdfpmcfaaGreatDoorQ07
namespace Go.Proofs.YtiacnmcdfpmcfaaGreatDoor
open Go.RowKit
attribute [local go_sem] cell?_more frozen?_more setCell_more size_more tape_more drew_more drewN_more more_drew more_drewN one_out plus_out plus_end lt_one le_p2 le_p3 le_p4 le_p5 le_p6 le_p7 le_p8 le_p9 le_p10 le_p11 le_p12 le_p13 le_p14 le_p15 le_p16 le_p17 le_p18 le_p19 le_p20 le_p21 le_p22 le_p23 le_p24 le_q0 le_q1 lt_q1 le_q2 lt_q2 le_q3 lt_q3 le_q4 lt_q4 le_q5 lt_q5 le_q6 lt_q6 le_q7 lt_q7 le_q8 lt_q8 le_q9 lt_q9 le_q10 lt_q10 le_q11 lt_q11 le_q12 lt_q12 le_q13 lt_q13 le_q14 lt_q14 le_q15 lt_q15 le_q16 lt_q16 le_q17 lt_q17 le_q18 lt_q18 le_q19 lt_q19 le_q20 lt_q20 le_q21 lt_q21 le_q22 lt_q22 le_q23 lt_q23 le_q24 lt_q24


theorem abs_mul_le {a b : Int} (hb : b ≠ 0) : (max a (-a) ≤ 9007199254740992 / max b (-b)) ↔ (-9007199254740992 ≤ a * b ∧ a * b ≤ 9007199254740992) := by
  have hb0 : 0 < max b (-b) := by omega
  rw [Int.le_ediv_iff_mul_le hb0]
  have key : max a (-a) * max b (-b) = max (a * b) (-(a * b)) := by
    rcases Int.le_total 0 a with ha | ha <;> rcases Int.le_total 0 b with hb | hb
    · have := Int.mul_nonneg ha hb
      rw [show max a (-a) = a by omega, show max b (-b) = b by omega]
      omega
    · have := Int.mul_nonneg ha (show 0 ≤ -b by omega)
      rw [Int.mul_neg] at this
      rw [show max a (-a) = a by omega, show max b (-b) = -b by omega, Int.mul_neg]
      omega
    · have := Int.mul_nonneg (show 0 ≤ -a by omega) hb
      rw [Int.neg_mul] at this
      rw [show max a (-a) = -a by omega, show max b (-b) = b by omega, Int.neg_mul]
      omega
    · have := Int.mul_nonneg (show 0 ≤ -a by omega) (show 0 ≤ -b by omega)
      rw [Int.neg_mul_neg] at this
      rw [show max a (-a) = -a by omega, show max b (-b) = -b by omega, Int.neg_mul_neg]
      omega
  rw [key]
  omega

set_option maxHeartbeats 1000000 in
theorem times_yes (a b : Int) (ha1 : -9007199254740992 ≤ a) (ha2 : a ≤ 9007199254740992) (hb1 : -9007199254740992 ≤ b) (hb2 : b ≤ 9007199254740992) (h : -9007199254740992 ≤ a * b ∧ a * b ≤ 9007199254740992) (w : World) :
    Calls Tryz.prog 181 #[.int .i64 a, .int .i64 b] w fun e w' => e = .returned (optV (some (V.mkNum (a * b)))) ∧ Adds w w' := by
  have kN := num_any (a * b)
  simp only [optV, Option.getD_some, Option.isSome_some, V.val, V.mkNum]
  by_cases hb : b = 0
  · subst hb
    rw [Int.mul_zero] at *
    go_enter Tryz.func181, Tryz.ntmps181
    go_wp2_with (go_at_call 166; refine (kN _).mono ?_; rintro e w1 ⟨rfl, os1, n1, rfl⟩)
    exact bodyPost_ret (v := .tuple #[.agg #[.int .i64 1, .int .i64 0, .string ⟨#[]⟩, .int .i64 0, .int .i64 0], .bool true]) (by simp [results, Tryz.results181, go_sem]) rfl ⟨rfl, by repeat (first | with_reducible exact Adds.refl _ | with_reducible refine Adds.alloc ?_ _ | with_reducible refine Adds.more ?_ _ _ | with_reducible refine Adds.drew ?_ | with_reducible refine Adds.drewN ?_ _)⟩
  · have HQ : Hid (max a (-a) ≤ 9007199254740992 / max b (-b)) := (abs_mul_le (a := a) hb).2 h
    have hb' : (b != 0) = true := by simpa using hb
    obtain ⟨h1, h2⟩ := h
    go_enter Tryz.func181, Tryz.ntmps181
    go_wp2_with (go_at_call 166; refine (kN _).mono ?_; rintro e w1 ⟨rfl, os1, n1, rfl⟩)
    all_goals first
      | (exfalso
         have h9 := HQ.out
         simp only [show (if b < -b then -b else b) = max b (-b) by split <;> omega, show (if a < -a then -a else a) = max a (-a) by split <;> omega] at *
         first
           | exact absurd h9 (Int.not_le.2 (by assumption))
           | exact absurd h9 (Int.not_lt.2 (by assumption))
           | omega)
      | exact bodyPost_ret (v := .tuple #[.agg #[.int .i64 1, .int .i64 (a * b), .string ⟨#[]⟩, .int .i64 0, .int .i64 0], .bool true]) (by simp [results, Tryz.results181, go_sem]) rfl ⟨rfl, by repeat (first | with_reducible exact Adds.refl _ | with_reducible refine Adds.alloc ?_ _ | with_reducible refine Adds.more ?_ _ _ | with_reducible refine Adds.drew ?_ | with_reducible refine Adds.drewN ?_ _)⟩

set_option maxHeartbeats 1000000 in
theorem times_no (a b : Int) (ha1 : -9007199254740992 ≤ a) (ha2 : a ≤ 9007199254740992) (hb1 : -9007199254740992 ≤ b) (hb2 : b ≤ 9007199254740992) (h : ¬ (-9007199254740992 ≤ a * b ∧ a * b ≤ 9007199254740992)) (w : World) :
    Calls Tryz.prog 181 #[.int .i64 a, .int .i64 b] w fun e w' => e = .returned (optV none) ∧ Adds w w' := by
  have hb : b ≠ 0 := by
    rintro rfl
    rw [Int.mul_zero] at h
    omega
  have kN := fun x => num_any x
  have HQ : Hid (¬ max a (-a) ≤ 9007199254740992 / max b (-b)) := fun hq => h ((abs_mul_le (a := a) hb).1 hq)
  have hb' : (b != 0) = true := by simpa using hb
  clear h
  simp only [optV, Option.getD_none, Option.isSome_none, V.val, vZ]
  go_enter Tryz.func181, Tryz.ntmps181
  go_wp2_with (go_at_call 166; refine (kN _ _).mono ?_; rintro e w1 ⟨rfl, os1, n1, rfl⟩)
  all_goals first
    | (exfalso
       have h9 := HQ.out
       simp only [show (if b < -b then -b else b) = max b (-b) by split <;> omega, show (if a < -a then -a else a) = max a (-a) by split <;> omega] at *
       first
         | exact absurd h9 (Int.not_le.2 (by assumption))
         | exact absurd h9 (Int.not_lt.2 (by assumption))
         | omega)
    | exact bodyPost_ret (v := .tuple #[.agg #[.int .i64 0, .int .i64 0, .string ⟨#[]⟩, .int .i64 0, .int .i64 0], .bool false]) (by simp [results, Tryz.results181, go_sem]) rfl ⟨rfl, by repeat (first | with_reducible exact Adds.refl _ | with_reducible refine Adds.alloc ?_ _ | with_reducible refine Adds.more ?_ _ _ | with_reducible refine Adds.drew ?_ | with_reducible refine Adds.drewN ?_ _)⟩

theorem times_any2 (a b : Int) (ha1 : -9007199254740992 ≤ a) (ha2 : a ≤ 9007199254740992) (hb1 : -9007199254740992 ≤ b) (hb2 : b ≤ 9007199254740992) (w : World) :
    Calls Tryz.prog 181 #[.int .i64 a, .int .i64 b] w fun e w' => e = .returned (optV (timesO a b)) ∧ Adds w w' := by
  unfold timesO
  by_cases h : -9007199254740992 ≤ a * b ∧ a * b ≤ 9007199254740992
  · rw [if_pos h]
    exact times_yes a b ha1 ha2 hb1 hb2 h w
  · rw [if_neg h]
    exact times_no a b ha1 ha2 hb1 hb2 h w

theorem prod_text (u v : V) (h : u.kind = 2 ∨ v.kind = 2) (w : World) :
    Calls Tryz.prog 173 #[u.val, v.val] w fun e w' => e = .returned (optV none) ∧ Adds w w' := by
  obtain ⟨k, n, t, re, im⟩ := u
  obtain ⟨k', n', t', re', im'⟩ := v
  simp only [V.val] at *
  by_cases hk : k = 2
  · subst hk
    clear h
    go_enter Tryz.func173, Tryz.ntmps173
    go_wp2
    exact bodyPost_ret (v := .tuple #[.agg #[.int .i64 0, .int .i64 0, .string ⟨#[]⟩, .int .i64 0, .int .i64 0], .bool false]) (by simp [results, Tryz.results173, go_sem]) rfl ⟨rfl, by repeat (first | with_reducible exact Adds.refl _ | with_reducible refine Adds.alloc ?_ _ | with_reducible refine Adds.more ?_ _ _ | with_reducible refine Adds.drew ?_ | with_reducible refine Adds.drewN ?_ _)⟩
  · have hk' : (k == 2) = false := by simpa using hk
    have h2 : k' = 2 := h.resolve_left hk
    subst h2
    clear h hk
    go_enter Tryz.func173, Tryz.ntmps173
    go_wp2
    exact bodyPost_ret (v := .tuple #[.agg #[.int .i64 0, .int .i64 0, .string ⟨#[]⟩, .int .i64 0, .int .i64 0], .bool false]) (by simp [results, Tryz.results173, go_sem]) rfl ⟨rfl, by repeat (first | with_reducible exact Adds.refl _ | with_reducible refine Adds.alloc ?_ _ | with_reducible refine Adds.more ?_ _ _ | with_reducible refine Adds.drew ?_ | with_reducible refine Adds.drewN ?_ _)⟩

set_option maxHeartbeats 1000000 in
theorem prod_nums (a b : Int) (ha1 : -9007199254740992 ≤ a) (ha2 : a ≤ 9007199254740992) (hb1 : -9007199254740992 ≤ b) (hb2 : b ≤ 9007199254740992) (w : World) :
    Calls Tryz.prog 173 #[(V.mkNum a).val, (V.mkNum b).val] w fun e w' => e = .returned (optV (timesO a b)) ∧ Adds w w' := by
  have kT := times_any2 a b ha1 ha2 hb1 hb2
  generalize timesO a b = o at *
  obtain ⟨⟨k, n, t, re, im⟩, hq⟩ : ∃ q, o.getD vZ = q := ⟨_, rfl⟩
  simp only [optV, hq, V.val, V.mkNum] at *
  generalize o.isSome = q2 at *
  clear hq
  go_enter Tryz.func173, Tryz.ntmps173
  go_wp2_with (go_at_call 181; refine (kT _).mono ?_; rintro e w1 ⟨rfl, os1, n1, rfl⟩)
  exact bodyPost_ret (v := .tuple #[.agg #[.int .i64 k, .int .i64 n, .string t, .int .i64 re, .int .i64 im], .bool q2]) (by simp [results, Tryz.results173, go_sem]) rfl ⟨rfl, by repeat (first | with_reducible exact Adds.refl _ | with_reducible refine Adds.alloc ?_ _ | with_reducible refine Adds.more ?_ _ _ | with_reducible refine Adds.drew ?_ | with_reducible refine Adds.drewN ?_ _)⟩

/-- The product of points, each of them may be or not. -/
def prodP (a b c d : Int) : Option V := if Gs.May a b ∧ Gs.May c d then ptO (a * c - b * d) (a * d + b * c) else none

theorem mulP_any (a b c d : Int) (w : World) :
    Calls Tryz.prog 182 #[Gs.pt a b, Gs.pt c d] w fun e w' => (∃ x y q, e = .returned (.tuple #[Gs.pt x y, .int .i64 q]) ∧ prodP a b c d = if q = 0 then some (V.mkPoint x y) else none) ∧ Adds w w' := by
  unfold prodP ptO
  by_cases h : Gs.May a b ∧ Gs.May c d
  · rw [if_pos h]
    refine (Gs.mul_may a b c d h.1 h.2 w).mono ?_
    rintro e w' ⟨rfl, hA⟩
    by_cases hm : Gs.May (a * c - b * d) (a * d + b * c)
    · rw [if_pos hm, if_pos hm]
      exact ⟨⟨_, _, 0, rfl, by simp⟩, hA⟩
    · rw [if_neg hm, if_neg hm]
      exact ⟨⟨_, _, 3, rfl, by simp⟩, hA⟩
  · rw [if_neg h]
    refine (Gs.mul_arg a b c d h w).mono ?_
    rintro e w' ⟨rfl, hA⟩
    exact ⟨⟨_, _, 1, rfl, by simp⟩, hA⟩

theorem pointOr_any (x y q : Int) (w : World) :
    Calls Tryz.prog 179 #[Gs.pt x y, .int .i64 q] w fun e w' => e = .returned (optV (if q = 0 then some (V.mkPoint x y) else none)) ∧ Adds w w' := by
  by_cases h : q = 0
  · subst h
    rw [if_pos rfl]
    exact pointOr_yes x y w
  · rw [if_neg h]
    exact pointOr_no x y q h w

end Go.Proofs.YtiacnmcdfpmcfaaGreatDoor

namespace Go.Proofs.YtiacnmcdfpmcfaaGreatDoor
open Go.RowKit
attribute [local go_sem] cell?_more frozen?_more setCell_more size_more tape_more drew_more drewN_more more_drew more_drewN one_out plus_out plus_end lt_one le_p2 le_p3 le_p4 le_p5 le_p6 le_p7 le_p8 le_p9 le_p10 le_p11 le_p12 le_p13 le_p14 le_p15 le_p16 le_p17 le_p18 le_p19 le_p20 le_p21 le_p22 le_p23 le_p24 le_q0 le_q1 lt_q1 le_q2 lt_q2 le_q3 lt_q3 le_q4 lt_q4 le_q5 lt_q5 le_q6 lt_q6 le_q7 lt_q7 le_q8 lt_q8 le_q9 lt_q9 le_q10 lt_q10 le_q11 lt_q11 le_q12 lt_q12 le_q13 lt_q13 le_q14 lt_q14 le_q15 lt_q15 le_q16 lt_q16 le_q17 lt_q17 le_q18 lt_q18 le_q19 lt_q19 le_q20 lt_q20 le_q21 lt_q21 le_q22 lt_q22 le_q23 lt_q23 le_q24 lt_q24


set_option maxHeartbeats 4000000 in
theorem prod_points (u v : V) (h : ¬ (u.kind = 2 ∨ v.kind = 2)) (h1 : ¬ (u.kind = 1 ∧ v.kind = 1)) (w : World) :
    Calls Tryz.prog 173 #[u.val, v.val] w fun e w' => e = .returned (optV (prodP (asRe u) (asIm u) (asRe v) (asIm v))) ∧ Adds w w' := by
  have kU := asPoint_any u
  have kV := asPoint_any v
  have kM := mulP_any (asRe u) (asIm u) (asRe v) (asIm v)
  generalize asRe u = a at *
  generalize asIm u = b at *
  generalize asRe v = c at *
  generalize asIm v = d at *
  have hO : ∃ o, prodP a b c d = o := ⟨_, rfl⟩
  obtain ⟨o, hO⟩ := hO
  rw [hO] at kM ⊢
  clear hO
  have hp := fun x y q => pointOr_any x y q
  obtain ⟨k, n, t, re, im⟩ := u
  obtain ⟨k', n', t', re', im'⟩ := v
  have hk2 : (k == 2) = false := by simpa using fun e => h (.inl e)
  have hk2' : (k' == 2) = false := by simpa using fun e => h (.inr e)
  obtain ⟨⟨ok, on, ot, ore, oim⟩, hq⟩ : ∃ q, o.getD vZ = q := ⟨_, rfl⟩
  have HQ0 : Hid (o.getD vZ = ⟨ok, on, ot, ore, oim⟩) := hq
  simp only [optV, hq, V.val] at kU kV ⊢
  have kM' : ∀ w, Calls Tryz.prog 182 #[Gs.pt a b, Gs.pt c d] w fun e w' => (∃ x y q, e = .returned (.tuple #[Gs.pt x y, .int .i64 q]) ∧ ∀ w, Calls Tryz.prog 179 #[Gs.pt x y, .int .i64 q] w fun e w' => e = .returned (.tuple #[.agg #[.int .i64 ok, .int .i64 on, .string ot, .int .i64 ore, .int .i64 oim], .bool o.isSome]) ∧ Adds w w') ∧ Adds w w' := by
    intro w
    refine (kM w).mono ?_
    rintro e w' ⟨⟨x, y, q, rfl, ho⟩, hA⟩
    refine ⟨⟨x, y, q, rfl, fun w => ?_⟩, hA⟩
    have := hp x y q w
    rw [← ho] at this
    simp only [optV, HQ0.out, V.val] at this
    exact this
  generalize o.isSome = q2 at *
  clear kM hp hq h HQ0
  by_cases hk1 : k = 1
  · have hk1' : (k' == 1) = false := by simpa using fun e => h1 ⟨hk1, e⟩
    subst hk1
    clear h1
    go_enter Tryz.func173, Tryz.ntmps173
    go_wp2
    go_region_with (first
      | (go_at_call 183; (with_reducible refine (kU _).mono ?_); rintro e w1 ⟨rfl, os1, n1, rfl⟩)
      | (go_at_call 183; (with_reducible refine (kV _).mono ?_); rintro e w2 ⟨rfl, os2, n2, rfl⟩)
      | (go_at_call 182; refine (kM' _).mono ?_; rintro e w3 ⟨⟨x, y, q, rfl, hp⟩, os3, n3, rfl⟩)
      | (go_at_call 179; refine (hp _).mono ?_; rintro e w4 ⟨rfl, os4, n4, rfl⟩))
    all_goals
      go_wp2
      exact bodyPost_ret (v := .tuple #[.agg #[.int .i64 ok, .int .i64 on, .string ot, .int .i64 ore, .int .i64 oim], .bool q2]) (by simp [results, Tryz.results173, go_sem]) rfl ⟨rfl, by repeat (first | with_reducible exact Adds.refl _ | with_reducible refine Adds.alloc ?_ _ | with_reducible refine Adds.more ?_ _ _ | with_reducible refine Adds.drew ?_ | with_reducible refine Adds.drewN ?_ _)⟩
  · have hk1' : (k == 1) = false := by simpa using hk1
    clear h1 hk1
    go_enter Tryz.func173, Tryz.ntmps173
    go_wp2
    go_region_with (first
      | (go_at_call 183; (with_reducible refine (kU _).mono ?_); rintro e w1 ⟨rfl, os1, n1, rfl⟩)
      | (go_at_call 183; (with_reducible refine (kV _).mono ?_); rintro e w2 ⟨rfl, os2, n2, rfl⟩)
      | (go_at_call 182; refine (kM' _).mono ?_; rintro e w3 ⟨⟨x, y, q, rfl, hp⟩, os3, n3, rfl⟩)
      | (go_at_call 179; refine (hp _).mono ?_; rintro e w4 ⟨rfl, os4, n4, rfl⟩))
    all_goals
      go_wp2
      exact bodyPost_ret (v := .tuple #[.agg #[.int .i64 ok, .int .i64 on, .string ot, .int .i64 ore, .int .i64 oim], .bool q2]) (by simp [results, Tryz.results173, go_sem]) rfl ⟨rfl, by repeat (first | with_reducible exact Adds.refl _ | with_reducible refine Adds.alloc ?_ _ | with_reducible refine Adds.more ?_ _ _ | with_reducible refine Adds.drew ?_ | with_reducible refine Adds.drewN ?_ _)⟩

theorem prod_any (u v : V) (hu : u.check = 0) (hv : v.check = 0) (w : World) :
    Calls Tryz.prog 173 #[u.val, v.val] w fun e w' => e = .returned (optV (mulO u v)) ∧ Adds w w' := by
  unfold mulO
  by_cases h : u.kind = 2 ∨ v.kind = 2
  · rw [if_pos h]
    exact prod_text u v h w
  · rw [if_neg h]
    by_cases h1 : u.kind = 1 ∧ v.kind = 1
    · rw [if_pos h1]
      rcases V.cases hu with ⟨a, rfl, a1, a2⟩ | ⟨s, rfl, hs⟩ | ⟨x, y, rfl, hxy⟩
      · rcases V.cases hv with ⟨b, rfl, b1, b2⟩ | ⟨s, rfl, hs⟩ | ⟨x, y, rfl, hxy⟩
        · exact prod_nums a b a1 a2 b1 b2 w
        · exact absurd h1.2 (by simp [V.mkText])
        · exact absurd h1.2 (by simp [V.mkPoint])
      · exact absurd h1.1 (by simp [V.mkText])
      · exact absurd h1.1 (by simp [V.mkPoint])
    · rw [if_neg h1]
      exact prod_points u v h h1 w

end Go.Proofs.YtiacnmcdfpmcfaaGreatDoor
