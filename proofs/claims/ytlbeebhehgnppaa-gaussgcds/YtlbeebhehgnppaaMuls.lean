/-
  The walk of the statement GaussMuls: it returns true, whatever points are handed in.
-/
import Derived.Test.YtlbeebhehgnppaaRing
namespace Go.Proofs.Ytlbeebhehgnppaa
open Go.RowKit
attribute [local go_sem] cell?_more frozen?_more setCell_more size_more tape_more drew_more drewN_more more_drew more_drewN more_more one_out plus_out lt_one le_p2 le_p3 le_p4 le_p5 le_p6 le_p7 le_p8 le_p9 le_p10 le_p11 le_p12

theorem rmay_true {a b : Int} (h : May a b) (w : World) : Calls Try.prog 11 #[pt a b] w fun e w' => e = .returned (.bool true) ∧ Adds w w' := by
  have := rmay_any a b w
  rwa [decide_eq_true h] at this

theorem rmay_false {a b : Int} (h : ¬ May a b) (w : World) : Calls Try.prog 11 #[pt a b] w fun e w' => e = .returned (.bool false) ∧ Adds w w' := by
  have := rmay_any a b w
  rwa [decide_eq_false h] at this

theorem none_true (e : Int) (w : World) : Calls Try.prog 12 #[pt 0 0, .int .i64 e, .int .i64 e] w fun e' w' => e' = .returned (.bool true) ∧ Adds w w' := by
  have := none_any 0 0 e e w
  simpa using this

theorem norm_mul (a b c d : Int) : (a * a + b * b) * (c * c + d * d) = (a * c - b * d) * (a * c - b * d) + (a * d + b * c) * (a * d + b * c) := by grind

set_option maxHeartbeats 4000000 in
theorem muls_arg (a b c d : Int) (h : ¬ (May a b ∧ May c d)) (w : World) :
    Calls Try.prog 3 #[pt a b, pt c d] w fun e w' => e = .returned (.bool true) ∧ Adds w w' := by
  have h1 := add_arg a b c d h
  have h2 := mul_arg a b c d h
  have h3 := none_true 1
  have h4 := awake_any
  by_cases ha : May a b
  · have hb : ¬ May c d := fun hb => h ⟨ha, hb⟩
    have m1 := fun w => rmay_true ha w
    have m2 := fun w => rmay_false hb w
    clear h ha hb
    go_enter Try.func3, Try.ntmps3
    go_wp2_with (first
      | (go_at_call 9; refine (h1 _).mono ?_; rintro e w1 ⟨rfl, os, k, rfl⟩)
      | (go_at_call 10; refine (h2 _).mono ?_; rintro e w1 ⟨rfl, os, k, rfl⟩)
      | (go_at_call 12; refine (h3 _).mono ?_; rintro e w1 ⟨rfl, os, k, rfl⟩)
      | (go_at_call 13; refine (h4 _).mono ?_; rintro e w1 ⟨rfl, os, k, rfl⟩)
      | (go_at_call 11; (with_reducible refine (m1 _).mono ?_); rintro e w1 ⟨rfl, os, k, rfl⟩)
      | (go_at_call 11; (with_reducible refine (m2 _).mono ?_); rintro e w1 ⟨rfl, os, k, rfl⟩))
    go_ret
    refine ⟨rfl, ?_⟩
    repeat (first | exact Adds.refl _ | refine Adds.alloc ?_ _ | refine Adds.more ?_ _ _ | refine Adds.drew ?_)
  · have m1 := fun w => rmay_false ha w
    clear h ha
    go_enter Try.func3, Try.ntmps3
    go_wp2_with (first
      | (go_at_call 9; refine (h1 _).mono ?_; rintro e w1 ⟨rfl, os, k, rfl⟩)
      | (go_at_call 10; refine (h2 _).mono ?_; rintro e w1 ⟨rfl, os, k, rfl⟩)
      | (go_at_call 12; refine (h3 _).mono ?_; rintro e w1 ⟨rfl, os, k, rfl⟩)
      | (go_at_call 13; refine (h4 _).mono ?_; rintro e w1 ⟨rfl, os, k, rfl⟩)
      | (go_at_call 11; (with_reducible refine (m1 _).mono ?_); rintro e w1 ⟨rfl, os, k, rfl⟩))
    go_ret
    refine ⟨rfl, ?_⟩
    repeat (first | exact Adds.refl _ | refine Adds.alloc ?_ _ | refine Adds.more ?_ _ _ | refine Adds.drew ?_)

end Go.Proofs.Ytlbeebhehgnppaa
