/-
  Products, by a contract.
-/
import Derived.Test.YtiacnmcdfpmcfaaGreatDoorQ09
namespace Go.Proofs.YtiacnmcdfpmcfaaGreatDoor
open Go.RowKit
attribute [local go_sem] cell?_more frozen?_more setCell_more size_more tape_more drew_more drewN_more more_drew more_drewN one_out plus_out plus_end lt_one le_p2 le_p3 le_p4 le_p5 le_p6 le_p7 le_p8 le_p9 le_p10 le_p11 le_p12 le_p13 le_p14 le_p15 le_p16 le_p17 le_p18 le_p19 le_p20 le_p21 le_p22 le_p23 le_p24 le_q0 le_q1 lt_q1 le_q2 lt_q2 le_q3 lt_q3 le_q4 lt_q4 le_q5 lt_q5 le_q6 lt_q6 le_q7 lt_q7 le_q8 lt_q8 le_q9 lt_q9 le_q10 lt_q10 le_q11 lt_q11 le_q12 lt_q12 le_q13 lt_q13 le_q14 lt_q14 le_q15 lt_q15 le_q16 lt_q16 le_q17 lt_q17 le_q18 lt_q18 le_q19 lt_q19 le_q20 lt_q20 le_q21 lt_q21 le_q22 lt_q22 le_q23 lt_q23 le_q24 lt_q24


set_option maxHeartbeats 4000000 in
theorem prod_points (u v : V) (h : ¬ (u.kind = 2 ∨ v.kind = 2)) (h1 : ¬ (u.kind = 1 ∧ v.kind = 1)) (w : World) :
    Calls Tryz.prog 173 #[u.val, v.val] w fun e w' => e = .returned (optV (prodP (asRe u) (asIm u) (asRe v) (asIm v))) ∧ Adds w w' := by
  have kU := asPoint_any u
  have kV := asPoint_any v
  have kM := mulP_any (asRe u) (asIm u) (asRe v) (asIm v)
  generalize asRe u = a at *
  generalize asIm u = b at *
  generalize asRe v = c at *
  generalize asIm v = d at *
  have hO : ∃ o, prodP a b c d = o := ⟨_, rfl⟩
  obtain ⟨o, hO⟩ := hO
  rw [hO] at kM ⊢
  clear hO
  have hp := fun x y q => pointOr_any x y q
  obtain ⟨k, n, t, re, im⟩ := u
  obtain ⟨k', n', t', re', im'⟩ := v
  have hk2 : (k == 2) = false := by simpa using fun e => h (.inl e)
  have hk2' : (k' == 2) = false := by simpa using fun e => h (.inr e)
  obtain ⟨⟨ok, on, ot, ore, oim⟩, hq⟩ : ∃ q, o.getD vZ = q := ⟨_, rfl⟩
  have HQ0 : Hid (o.getD vZ = ⟨ok, on, ot, ore, oim⟩) := hq
  simp only [optV, hq, V.val] at kU kV ⊢
  have kM' : ∀ w, Calls Tryz.prog 182 #[Gs.pt a b, Gs.pt c d] w fun e w' => (∃ x y q, e = .returned (.tuple #[Gs.pt x y, .int .i64 q]) ∧ ∀ w, Calls Tryz.prog 179 #[Gs.pt x y, .int .i64 q] w fun e w' => e = .returned (.tuple #[.agg #[.int .i64 ok, .int .i64 on, .string ot, .int .i64 ore, .int .i64 oim], .bool o.isSome]) ∧ Adds w w') ∧ Adds w w' := by
    intro w
    refine (kM w).mono ?_
    rintro e w' ⟨⟨x, y, q, rfl, ho⟩, hA⟩
    refine ⟨⟨x, y, q, rfl, fun w => ?_⟩, hA⟩
    have := hp x y q w
    rw [← ho] at this
    simp only [optV, HQ0.out, V.val] at this
    exact this
  generalize o.isSome = q2 at *
  clear kM hp hq h HQ0
  by_cases hk1 : k = 1
  · have hk1' : (k' == 1) = false := by simpa using fun e => h1 ⟨hk1, e⟩
    subst hk1
    clear h1
    go_enter Tryz.func173, Tryz.ntmps173
    go_wp2
    go_region_with (first
      | (go_at_call 183; (with_reducible refine (kU _).mono ?_); rintro e w1 ⟨rfl, os1, n1, rfl⟩)
      | (go_at_call 183; (with_reducible refine (kV _).mono ?_); rintro e w2 ⟨rfl, os2, n2, rfl⟩)
      | (go_at_call 182; refine (kM' _).mono ?_; rintro e w3 ⟨⟨x, y, q, rfl, hp⟩, os3, n3, rfl⟩)
      | (go_at_call 179; refine (hp _).mono ?_; rintro e w4 ⟨rfl, os4, n4, rfl⟩))
    all_goals
      go_wp2
      exact bodyPost_ret (v := .tuple #[.agg #[.int .i64 ok, .int .i64 on, .string ot, .int .i64 ore, .int .i64 oim], .bool q2]) (by simp [results, Tryz.results173, go_sem]) rfl ⟨rfl, by repeat (first | with_reducible exact Adds.refl _ | with_reducible refine Adds.alloc ?_ _ | with_reducible refine Adds.more ?_ _ _ | with_reducible refine Adds.drew ?_ | with_reducible refine Adds.drewN ?_ _)⟩
  · have hk1' : (k == 1) = false := by simpa using hk1
    clear h1 hk1
    go_enter Tryz.func173, Tryz.ntmps173
    go_wp2
    go_region_with (first
      | (go_at_call 183; (with_reducible refine (kU _).mono ?_); rintro e w1 ⟨rfl, os1, n1, rfl⟩)
      | (go_at_call 183; (with_reducible refine (kV _).mono ?_); rintro e w2 ⟨rfl, os2, n2, rfl⟩)
      | (go_at_call 182; refine (kM' _).mono ?_; rintro e w3 ⟨⟨x, y, q, rfl, hp⟩, os3, n3, rfl⟩)
      | (go_at_call 179; refine (hp _).mono ?_; rintro e w4 ⟨rfl, os4, n4, rfl⟩))
    all_goals
      go_wp2
      exact bodyPost_ret (v := .tuple #[.agg #[.int .i64 ok, .int .i64 on, .string ot, .int .i64 ore, .int .i64 oim], .bool q2]) (by simp [results, Tryz.results173, go_sem]) rfl ⟨rfl, by repeat (first | with_reducible exact Adds.refl _ | with_reducible refine Adds.alloc ?_ _ | with_reducible refine Adds.more ?_ _ _ | with_reducible refine Adds.drew ?_ | with_reducible refine Adds.drewN ?_ _)⟩

theorem prod_any (u v : V) (hu : u.check = 0) (hv : v.check = 0) (w : World) :
    Calls Tryz.prog 173 #[u.val, v.val] w fun e w' => e = .returned (optV (mulO u v)) ∧ Adds w w' := by
  unfold mulO
  by_cases h : u.kind = 2 ∨ v.kind = 2
  · rw [if_pos h]
    exact prod_text u v h w
  · rw [if_neg h]
    by_cases h1 : u.kind = 1 ∧ v.kind = 1
    · rw [if_pos h1]
      rcases V.cases hu with ⟨a, rfl, a1, a2⟩ | ⟨s, rfl, hs⟩ | ⟨x, y, rfl, hxy⟩
      · rcases V.cases hv with ⟨b, rfl, b1, b2⟩ | ⟨s, rfl, hs⟩ | ⟨x, y, rfl, hxy⟩
        · exact prod_nums a b a1 a2 b1 b2 w
        · exact absurd h1.2 (by simp [V.mkText])
        · exact absurd h1.2 (by simp [V.mkPoint])
      · exact absurd h1.1 (by simp [V.mkText])
      · exact absurd h1.1 (by simp [V.mkPoint])
    · rw [if_neg h1]
      exact prod_points u v h h1 w

end Go.Proofs.YtiacnmcdfpmcfaaGreatDoor
