/-
  The walk of the statement GaussRings: it returns true, whatever points are handed in.
-/
import Derived.Test.YtlbeebhehgnppaaMuls
import Derived.Test.YtlbeebhehgnppaaSums
namespace Go.Proofs.Ytlbeebhehgnppaa
open Go.RowKit
attribute [local go_sem] cell?_addTo cell?_more frozen?_more setCell_more size_more tape_more drew_more drewN_more more_drew more_drewN more_more one_out plus_out lt_one le_p2 le_p3 le_p4 le_p5 le_p6 le_p7 le_p8 le_p9 le_p10 le_p11 le_p12
attribute [local go_sem] plus_end le_p13 le_p14 le_p15 le_p16 le_p17 le_p18 le_p19 le_p20 le_p21 le_p22 le_p23 le_p24 le_p25 le_p26 le_p27 le_p28 le_p29 le_p30

/-- What Add tells of any points. -/
theorem add_spec (a b c d : Int) : ∃ x y e : Int, (∀ w, Calls Try.prog 9 #[pt a b, pt c d] w fun e' w' => e' = .returned (.tuple #[pt x y, .int .i64 e]) ∧ Adds w w') ∧
    (e = 0 → x = a + c ∧ y = b + d) ∧ (May a b → May c d → May (a + c) (b + d) → e = 0) ∧ (e = 0 → May a b ∧ May c d ∧ May (a + c) (b + d)) := by
  by_cases h : May a b ∧ May c d
  · by_cases hs : May (a + c) (b + d)
    · refine ⟨a + c, b + d, 0, fun w => ?_, fun _ => ⟨rfl, rfl⟩, fun _ _ _ => rfl, fun _ => ⟨h.1, h.2, hs⟩⟩
      have := add_may a b c d h.1 h.2 w
      rwa [if_pos hs] at this
    · refine ⟨0, 0, 3, fun w => ?_, fun h => (by cases h), fun _ _ h => absurd h hs, fun h => (by cases h)⟩
      have := add_may a b c d h.1 h.2 w
      rwa [if_neg hs] at this
  · exact ⟨0, 0, 1, fun w => add_arg a b c d h w, fun h => (by cases h), fun h1 h2 _ => absurd ⟨h1, h2⟩ h, fun h => (by cases h)⟩

/-- What Mul tells of any points, in either order. -/
theorem mul_spec (a b c d : Int) : ∃ x y e : Int, (∀ w, Calls Try.prog 10 #[pt a b, pt c d] w fun e' w' => e' = .returned (.tuple #[pt x y, .int .i64 e]) ∧ Adds w w') ∧
    (∀ w, Calls Try.prog 10 #[pt c d, pt a b] w fun e' w' => e' = .returned (.tuple #[pt x y, .int .i64 e]) ∧ Adds w w') ∧
    (e = 0 → x = a * c - b * d ∧ y = a * d + b * c) ∧ (e = 0 → May x y) := by
  have e1 : c * a - d * b = a * c - b * d := by grind
  have e2 : c * b + d * a = a * d + b * c := by grind
  by_cases h : May a b ∧ May c d
  · by_cases hs : May (a * c - b * d) (a * d + b * c)
    · refine ⟨a * c - b * d, a * d + b * c, 0, fun w => ?_, fun w => ?_, fun _ => ⟨rfl, rfl⟩, fun _ => hs⟩
      · have := mul_may a b c d h.1 h.2 w
        rwa [if_pos hs] at this
      · have := mul_may c d a b h.2 h.1 w
        rw [e1, e2] at this
        rwa [if_pos hs] at this
    · refine ⟨0, 0, 3, fun w => ?_, fun w => ?_, fun h => (by cases h), fun h => (by cases h)⟩
      · have := mul_may a b c d h.1 h.2 w
        rwa [if_neg hs] at this
      · have := mul_may c d a b h.2 h.1 w
        rw [e1, e2] at this
        rwa [if_neg hs] at this
  · exact ⟨0, 0, 1, fun w => mul_arg a b c d h w, fun w => mul_arg c d a b (fun k => h ⟨k.2, k.1⟩) w, fun h => (by cases h), fun h => (by cases h)⟩

set_option maxRecDepth 20000 in
set_option maxHeartbeats 8000000 in
theorem rings_any (a b c d e f : Int) (w : World) :
    Calls Try.prog 8 #[pt a b, pt c d, pt e f] w fun e w' => e = .returned (.bool true) ∧ Adds w w' := by
  obtain ⟨s, s', r1, c1, x1, _, y1⟩ := add_spec a b c d
  obtain ⟨x, x', r2, c2, -, x2, y2⟩ := mul_spec s s' e f
  obtain ⟨p, p', r3, c3, -, x3, y3⟩ := mul_spec a b e f
  obtain ⟨q, q', r4, c4, -, x4, y4⟩ := mul_spec c d e f
  obtain ⟨y, y', r5, c5, x5, z5, _⟩ := add_spec p p' q q'
  obtain ⟨m, m', r6, c6, c7, _, _⟩ := mul_spec a b c d
  have c8 := awake_any
  by_cases h1 : r1 = 0
  · by_cases h2 : r2 = 0
    · by_cases h3 : r3 = 0
      · by_cases h4 : r4 = 0
        · subst h1 h2 h3 h4
          obtain ⟨rfl, rfl⟩ := x1 rfl
          obtain ⟨g1, g2⟩ := x2 rfl
          obtain ⟨g3, g4⟩ := x3 rfl
          obtain ⟨g5, g6⟩ := x4 rfl
          have k1 : p + q = x := by rw [g1, g3, g5]; grind
          have k2 : p' + q' = x' := by rw [g2, g4, g6]; grind
          rw [k1, k2] at x5 z5
          have h5 := z5 (y3 rfl) (y4 rfl) (y2 rfl)
          subst h5
          obtain ⟨rfl, rfl⟩ := x5 rfl
          clear x1 y1 x2 y2 x3 y3 x4 y4 x5 z5 g1 g2 g3 g4 g5 g6 k1 k2
          go_enter Try.func8, Try.ntmps8
          go_wp2_with (first
            | (go_at_call 9; (with_reducible refine (c1 _).mono ?_); rintro e w1 ⟨rfl, os, k, rfl⟩)
            | (go_at_call 10; (with_reducible refine (c2 _).mono ?_); rintro e w1 ⟨rfl, os, k, rfl⟩)
            | (go_at_call 10; (with_reducible refine (c3 _).mono ?_); rintro e w1 ⟨rfl, os, k, rfl⟩)
            | (go_at_call 10; (with_reducible refine (c4 _).mono ?_); rintro e w1 ⟨rfl, os, k, rfl⟩)
            | (go_at_call 9; (with_reducible refine (c5 _).mono ?_); rintro e w1 ⟨rfl, os, k, rfl⟩)
            | (go_at_call 10; (with_reducible refine (c6 _).mono ?_); rintro e w1 ⟨rfl, os, k, rfl⟩)
            | (go_at_call 10; (with_reducible refine (c7 _).mono ?_); rintro e w1 ⟨rfl, os, k, rfl⟩)
            | (go_at_call 13; refine (c8 _).mono ?_; rintro e w1 ⟨rfl, os, k, rfl⟩))
          go_ret
          refine ⟨rfl, ?_⟩
          repeat (first | exact Adds.refl _ | refine Adds.alloc ?_ _ | refine Adds.more ?_ _ _ | refine Adds.drew ?_)
        · subst h1 h2 h3
          clear x1 y1 x2 y2 x3 y3 x4 y4 x5 z5
          go_enter Try.func8, Try.ntmps8
          go_wp2_with (first
            | (go_at_call 9; (with_reducible refine (c1 _).mono ?_); rintro e w1 ⟨rfl, os, k, rfl⟩)
            | (go_at_call 10; (with_reducible refine (c2 _).mono ?_); rintro e w1 ⟨rfl, os, k, rfl⟩)
            | (go_at_call 10; (with_reducible refine (c3 _).mono ?_); rintro e w1 ⟨rfl, os, k, rfl⟩)
            | (go_at_call 10; (with_reducible refine (c4 _).mono ?_); rintro e w1 ⟨rfl, os, k, rfl⟩)
            | (go_at_call 9; (with_reducible refine (c5 _).mono ?_); rintro e w1 ⟨rfl, os, k, rfl⟩)
            | (go_at_call 10; (with_reducible refine (c6 _).mono ?_); rintro e w1 ⟨rfl, os, k, rfl⟩)
            | (go_at_call 10; (with_reducible refine (c7 _).mono ?_); rintro e w1 ⟨rfl, os, k, rfl⟩)
            | (go_at_call 13; refine (c8 _).mono ?_; rintro e w1 ⟨rfl, os, k, rfl⟩))
          go_ret
          refine ⟨rfl, ?_⟩
          repeat (first | exact Adds.refl _ | refine Adds.alloc ?_ _ | refine Adds.more ?_ _ _ | refine Adds.drew ?_)
      · subst h1 h2
        clear x1 y1 x2 y2 x3 y3 x4 y4 x5 z5
        go_enter Try.func8, Try.ntmps8
        go_wp2_with (first
          | (go_at_call 9; (with_reducible refine (c1 _).mono ?_); rintro e w1 ⟨rfl, os, k, rfl⟩)
          | (go_at_call 10; (with_reducible refine (c2 _).mono ?_); rintro e w1 ⟨rfl, os, k, rfl⟩)
          | (go_at_call 10; (with_reducible refine (c3 _).mono ?_); rintro e w1 ⟨rfl, os, k, rfl⟩)
          | (go_at_call 10; (with_reducible refine (c4 _).mono ?_); rintro e w1 ⟨rfl, os, k, rfl⟩)
          | (go_at_call 9; (with_reducible refine (c5 _).mono ?_); rintro e w1 ⟨rfl, os, k, rfl⟩)
          | (go_at_call 10; (with_reducible refine (c6 _).mono ?_); rintro e w1 ⟨rfl, os, k, rfl⟩)
          | (go_at_call 10; (with_reducible refine (c7 _).mono ?_); rintro e w1 ⟨rfl, os, k, rfl⟩)
          | (go_at_call 13; refine (c8 _).mono ?_; rintro e w1 ⟨rfl, os, k, rfl⟩))
        go_ret
        refine ⟨rfl, ?_⟩
        repeat (first | exact Adds.refl _ | refine Adds.alloc ?_ _ | refine Adds.more ?_ _ _ | refine Adds.drew ?_)
    · subst h1
      clear x1 y1 x2 y2 x3 y3 x4 y4 x5 z5
      go_enter Try.func8, Try.ntmps8
      go_wp2_with (first
        | (go_at_call 9; (with_reducible refine (c1 _).mono ?_); rintro e w1 ⟨rfl, os, k, rfl⟩)
        | (go_at_call 10; (with_reducible refine (c2 _).mono ?_); rintro e w1 ⟨rfl, os, k, rfl⟩)
        | (go_at_call 10; (with_reducible refine (c3 _).mono ?_); rintro e w1 ⟨rfl, os, k, rfl⟩)
        | (go_at_call 10; (with_reducible refine (c4 _).mono ?_); rintro e w1 ⟨rfl, os, k, rfl⟩)
        | (go_at_call 9; (with_reducible refine (c5 _).mono ?_); rintro e w1 ⟨rfl, os, k, rfl⟩)
        | (go_at_call 10; (with_reducible refine (c6 _).mono ?_); rintro e w1 ⟨rfl, os, k, rfl⟩)
        | (go_at_call 10; (with_reducible refine (c7 _).mono ?_); rintro e w1 ⟨rfl, os, k, rfl⟩)
        | (go_at_call 13; refine (c8 _).mono ?_; rintro e w1 ⟨rfl, os, k, rfl⟩))
      go_ret
      refine ⟨rfl, ?_⟩
      repeat (first | exact Adds.refl _ | refine Adds.alloc ?_ _ | refine Adds.more ?_ _ _ | refine Adds.drew ?_)
  · clear x1 y1 x2 y2 x3 y3 x4 y4 x5 z5
    go_enter Try.func8, Try.ntmps8
    go_wp2_with (first
      | (go_at_call 9; (with_reducible refine (c1 _).mono ?_); rintro e w1 ⟨rfl, os, k, rfl⟩)
      | (go_at_call 10; (with_reducible refine (c2 _).mono ?_); rintro e w1 ⟨rfl, os, k, rfl⟩)
      | (go_at_call 10; (with_reducible refine (c3 _).mono ?_); rintro e w1 ⟨rfl, os, k, rfl⟩)
      | (go_at_call 10; (with_reducible refine (c4 _).mono ?_); rintro e w1 ⟨rfl, os, k, rfl⟩)
      | (go_at_call 9; (with_reducible refine (c5 _).mono ?_); rintro e w1 ⟨rfl, os, k, rfl⟩)
      | (go_at_call 10; (with_reducible refine (c6 _).mono ?_); rintro e w1 ⟨rfl, os, k, rfl⟩)
      | (go_at_call 10; (with_reducible refine (c7 _).mono ?_); rintro e w1 ⟨rfl, os, k, rfl⟩)
      | (go_at_call 13; refine (c8 _).mono ?_; rintro e w1 ⟨rfl, os, k, rfl⟩))
    go_ret
    refine ⟨rfl, ?_⟩
    repeat (first | exact Adds.refl _ | refine Adds.alloc ?_ _ | refine Adds.more ?_ _ _ | refine Adds.drew ?_)

end Go.Proofs.Ytlbeebhehgnppaa
