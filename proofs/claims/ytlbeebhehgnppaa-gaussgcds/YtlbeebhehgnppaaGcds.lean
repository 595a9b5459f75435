/-
  The walk of the statement GaussGcds: it returns true, whatever points are handed in.
-/
import Derived.Test.YtlbeebhehgnppaaGcd
import Derived.Test.YtlbeebhehgnppaaRefGcd
import Derived.Test.YtlbeebhehgnppaaMuls
namespace Go.Proofs.Ytlbeebhehgnppaa
open Go.RowKit
attribute [local go_sem] cell?_addTo cell?_more frozen?_more setCell_more size_more tape_more drew_more drewN_more more_drew more_drewN more_more one_out plus_out lt_one le_p2 le_p3 le_p4 le_p5 le_p6 le_p7 le_p8 le_p9 le_p10 le_p11 le_p12
attribute [local go_sem] plus_end le_p13 le_p14 le_p15 le_p16 le_p17 le_p18 le_p19 le_p20 le_p21 le_p22 le_p23 le_p24 le_p25 le_p26 le_p27 le_p28 le_p29 le_p30

theorem gcd_arg (a b c d : Int) (h : ¬ (May a b ∧ May c d)) (w : World) :
    Calls Try.prog 23 #[pt a b, pt c d] w fun e w' => e = .returned (.tuple #[pt 0 0, .int .i64 1]) ∧ Adds w w' := by
  have h1 := checkBoth_not a b c d h
  clear h
  go_enter Try.func23, Try.ntmps23
  go_wp2
  go_step3
  go_wp2_with (go_at_call 27; refine (h1 _).mono ?_; rintro e w1 ⟨rfl, os, k, rfl⟩)
  all_goals try rw [Exit.noGoto_ret]
  refine bodyPost_ret (v := .tuple #[pt 0 0, .int .i64 1]) (by simp [results, Try.results23, go_sem]) rfl ⟨rfl, ?_⟩
  repeat (first | with_reducible exact Adds.refl _ | with_reducible refine Adds.alloc ?_ _ | with_reducible refine Adds.more ?_ _ _ | with_reducible refine Adds.drew ?_)

set_option maxRecDepth 20000 in
set_option maxHeartbeats 2000000 in
theorem gcds_arg (a b c d e f : Int) (h : ¬ (May a b ∧ May c d)) (w : World) :
    Calls Try.prog 6 #[pt a b, pt c d, pt e f] w fun e w' => e = .returned (.bool true) ∧ Adds w w' := by
  have h1 := gcd_arg a b c d h
  have h2 := none_true 1
  have h3 := awake_any
  by_cases ha : May a b
  · have m1 := fun w => rmay_true ha w
    have m2 := fun w => rmay_false (fun hb => h ⟨ha, hb⟩ : ¬ May c d) w
    clear h ha
    go_enter Try.func6, Try.ntmps6
    go_wp2_with (first
      | (go_at_call 23; refine (h1 _).mono ?_; rintro e w1 ⟨rfl, os, k, rfl⟩)
      | (go_at_call 11; (with_reducible refine (m1 _).mono ?_); rintro e w1 ⟨rfl, os, k, rfl⟩)
      | (go_at_call 11; (with_reducible refine (m2 _).mono ?_); rintro e w1 ⟨rfl, os, k, rfl⟩)
      | (go_at_call 12; refine (h2 _).mono ?_; rintro e w1 ⟨rfl, os, k, rfl⟩)
      | (go_at_call 13; refine (h3 _).mono ?_; rintro e w1 ⟨rfl, os, k, rfl⟩))
    go_ret
    refine ⟨rfl, ?_⟩
    repeat (first | with_reducible exact Adds.refl _ | with_reducible refine Adds.alloc ?_ _ | with_reducible refine Adds.more ?_ _ _ | with_reducible refine Adds.drew ?_)
  · have m1 := fun w => rmay_false ha w
    have m2 := m1
    clear h ha
    go_enter Try.func6, Try.ntmps6
    go_wp2_with (first
      | (go_at_call 23; refine (h1 _).mono ?_; rintro e w1 ⟨rfl, os, k, rfl⟩)
      | (go_at_call 11; (with_reducible refine (m1 _).mono ?_); rintro e w1 ⟨rfl, os, k, rfl⟩)
      | (go_at_call 11; (with_reducible refine (m2 _).mono ?_); rintro e w1 ⟨rfl, os, k, rfl⟩)
      | (go_at_call 12; refine (h2 _).mono ?_; rintro e w1 ⟨rfl, os, k, rfl⟩)
      | (go_at_call 13; refine (h3 _).mono ?_; rintro e w1 ⟨rfl, os, k, rfl⟩))
    go_ret
    refine ⟨rfl, ?_⟩
    repeat (first | with_reducible exact Adds.refl _ | with_reducible refine Adds.alloc ?_ _ | with_reducible refine Adds.more ?_ _ _ | with_reducible refine Adds.drew ?_)

set_option maxRecDepth 20000 in
set_option maxHeartbeats 2000000 in
theorem gcds_nought (e f : Int) (w : World) :
    Calls Try.prog 6 #[pt 0 0, pt 0 0, pt e f] w fun e w' => e = .returned (.bool true) ∧ Adds w w' := by
  have m : May 0 0 := by decide
  have h1 := gcd_may 0 0 0 0 m m _ (eu_zero 0 0)
  have h2 := rgcd_may 0 0 0 0 m m _ (eu_zero 0 0)
  change ∀ w, Calls Try.prog 23 #[pt 0 0, pt 0 0] w fun e w' => e = .returned (.tuple #[pt 0 0, .int .i64 0]) ∧ Adds w w' at h1
  change ∀ w, Calls Try.prog 24 #[pt 0 0, pt 0 0] w fun e w' => e = .returned (pt 0 0) ∧ Adds w w' at h2
  have h3 := awake_any
  have m1 := fun w => rmay_true m w
  have m2 := m1
  clear m
  go_enter Try.func6, Try.ntmps6
  go_wp2_with (first
      | (go_at_call 23; refine (h1 _).mono ?_; rintro e w1 ⟨rfl, os, k, rfl⟩)
      | (go_at_call 11; (with_reducible refine (m1 _).mono ?_); rintro e w1 ⟨rfl, os, k, rfl⟩)
      | (go_at_call 11; (with_reducible refine (m2 _).mono ?_); rintro e w1 ⟨rfl, os, k, rfl⟩))
  refine wp_region_adds (by kernel_rfl) (by kernel_rfl) ?_
  repeat (go_big_quiet_step ((go_at_call 24; exact Calls.adds_of (h2 _))))
  refine wpQuiet_nil ?_
  rintro _ ⟨p, rfl⟩
  unfold addTo
  go_wp2_with (first | (go_at_call 13; refine (h3 _).mono ?_; rintro e w1 ⟨rfl, os, k, rfl⟩))
  go_ret
  refine ⟨rfl, ?_⟩
  repeat (first | with_reducible exact Adds.refl _ | with_reducible refine Adds.alloc ?_ _ | with_reducible refine Adds.more ?_ _ _ | with_reducible refine Adds.drew ?_)

end Go.Proofs.Ytlbeebhehgnppaa
