/-
  The walk of the statement GaussGcds, of points that may be and are not both nought.
-/
import Derived.Test.YtlbeebhehgnppaaGcds
namespace Go.Proofs.Ytlbeebhehgnppaa
open Go.RowKit
attribute [local go_sem] cell?_addTo cell?_more frozen?_more setCell_more size_more tape_more drew_more drewN_more more_drew more_drewN more_more one_out plus_out lt_one le_p2 le_p3 le_p4 le_p5 le_p6 le_p7 le_p8 le_p9 le_p10 le_p11 le_p12
attribute [local go_sem] plus_end le_p13 le_p14 le_p15 le_p16 le_p17 le_p18 le_p19 le_p20 le_p21 le_p22 le_p23 le_p24 le_p25 le_p26 le_p27 le_p28 le_p29 le_p30

set_option maxRecDepth 20000 in
set_option maxHeartbeats 1500000 in
theorem gcds_1 (a b c d x y e f : Int) (h1 : ∀ w, Calls Try.prog 23 #[pt a b, pt c d] w fun e w' => e = .returned (.tuple #[pt x y, .int .i64 0]) ∧ Adds w w') (h2 : ∀ w, Calls Try.prog 24 #[pt a b, pt c d] w fun e w' => e = .returned (pt x y) ∧ Adds w w')
    (m1 : ∀ w, Calls Try.prog 11 #[pt a b] w fun e w' => e = .returned (.bool true) ∧ Adds w w') (m2 : ∀ w, Calls Try.prog 11 #[pt c d] w fun e w' => e = .returned (.bool true) ∧ Adds w w') (hx : 0 < x) (hy : 0 ≤ y)
    (dA : ∀ w, Calls Try.prog 25 #[pt x y, pt a b] w fun e w' => e = .returned (.bool true) ∧ Adds w w') (dB : ∀ w, Calls Try.prog 25 #[pt x y, pt c d] w fun e w' => e = .returned (.bool true) ∧ Adds w w')
    (m3 : ∀ w, Calls Try.prog 11 #[pt e f] w fun e w' => e = .returned (.bool false) ∧ Adds w w') (w : World) :
    Calls Try.prog 6 #[pt a b, pt c d, pt e f] w fun e w' => e = .returned (.bool true) ∧ Adds w w' := by
  have h3 := awake_any
  have hx0 : ¬ x = 0 := by omega
  go_enter Try.func6, Try.ntmps6
  go_wp2_with (first
      | (go_at_call 23; refine (h1 _).mono ?_; rintro e w1 ⟨rfl, os, k, rfl⟩)
      | (go_at_call 11; (with_reducible refine (m1 _).mono ?_); rintro e w1 ⟨rfl, os, k, rfl⟩)
      | (go_at_call 11; (with_reducible refine (m2 _).mono ?_); rintro e w1 ⟨rfl, os, k, rfl⟩))
  refine wp_region_adds (by kernel_rfl) (by kernel_rfl) ?_
  repeat (go_big_quiet_step ((go_at_call 24; exact Calls.adds_of (h2 _))))
  refine wpQuiet_nil ?_
  rintro _ ⟨p, rfl⟩
  unfold addTo
  go_wp2_with (first
      | (go_at_call 11; (with_reducible refine (m3 _).mono ?_); rintro e w1 ⟨rfl, os, k, rfl⟩)
      | (go_at_call 25; (with_reducible refine (dA _).mono ?_); rintro e w1 ⟨rfl, os, k, rfl⟩)
      | (go_at_call 25; (with_reducible refine (dB _).mono ?_); rintro e w1 ⟨rfl, os, k, rfl⟩)
      | (go_at_call 13; refine (h3 _).mono ?_; rintro e w1 ⟨rfl, os, k, rfl⟩))
  go_ret
  refine ⟨rfl, ?_⟩
  repeat (first | with_reducible exact Adds.refl _ | with_reducible refine Adds.alloc ?_ _ | with_reducible refine Adds.more ?_ _ _ | with_reducible refine Adds.drew ?_)

set_option maxRecDepth 20000 in
set_option maxHeartbeats 1500000 in
theorem gcds_2 (a b c d x y e f : Int) (h1 : ∀ w, Calls Try.prog 23 #[pt a b, pt c d] w fun e w' => e = .returned (.tuple #[pt x y, .int .i64 0]) ∧ Adds w w') (h2 : ∀ w, Calls Try.prog 24 #[pt a b, pt c d] w fun e w' => e = .returned (pt x y) ∧ Adds w w')
    (m1 : ∀ w, Calls Try.prog 11 #[pt a b] w fun e w' => e = .returned (.bool true) ∧ Adds w w') (m2 : ∀ w, Calls Try.prog 11 #[pt c d] w fun e w' => e = .returned (.bool true) ∧ Adds w w') (hx : 0 < x) (hy : 0 ≤ y)
    (dA : ∀ w, Calls Try.prog 25 #[pt x y, pt a b] w fun e w' => e = .returned (.bool true) ∧ Adds w w') (dB : ∀ w, Calls Try.prog 25 #[pt x y, pt c d] w fun e w' => e = .returned (.bool true) ∧ Adds w w')
    (he : e = 0) (hf : f = 0) (m3 : ∀ w, Calls Try.prog 11 #[pt e f] w fun e w' => e = .returned (.bool true) ∧ Adds w w') (w : World) :
    Calls Try.prog 6 #[pt a b, pt c d, pt e f] w fun e w' => e = .returned (.bool true) ∧ Adds w w' := by
  have h3 := awake_any
  have hx0 : ¬ x = 0 := by omega
  subst he hf
  go_enter Try.func6, Try.ntmps6
  go_wp2_with (first
      | (go_at_call 23; refine (h1 _).mono ?_; rintro e w1 ⟨rfl, os, k, rfl⟩)
      | (go_at_call 11; (with_reducible refine (m1 _).mono ?_); rintro e w1 ⟨rfl, os, k, rfl⟩)
      | (go_at_call 11; (with_reducible refine (m2 _).mono ?_); rintro e w1 ⟨rfl, os, k, rfl⟩))
  refine wp_region_adds (by kernel_rfl) (by kernel_rfl) ?_
  repeat (go_big_quiet_step ((go_at_call 24; exact Calls.adds_of (h2 _))))
  refine wpQuiet_nil ?_
  rintro _ ⟨p, rfl⟩
  unfold addTo
  go_wp2_with (first
      | (go_at_call 11; (with_reducible refine (m3 _).mono ?_); rintro e w1 ⟨rfl, os, k, rfl⟩)
      | (go_at_call 25; (with_reducible refine (dA _).mono ?_); rintro e w1 ⟨rfl, os, k, rfl⟩)
      | (go_at_call 25; (with_reducible refine (dB _).mono ?_); rintro e w1 ⟨rfl, os, k, rfl⟩)
      | (go_at_call 13; refine (h3 _).mono ?_; rintro e w1 ⟨rfl, os, k, rfl⟩))
  go_ret
  refine ⟨rfl, ?_⟩
  repeat (first | with_reducible exact Adds.refl _ | with_reducible refine Adds.alloc ?_ _ | with_reducible refine Adds.more ?_ _ _ | with_reducible refine Adds.drew ?_)

set_option maxRecDepth 20000 in
set_option maxHeartbeats 1500000 in
theorem gcds_3 (a b c d x y e f : Int) (h1 : ∀ w, Calls Try.prog 23 #[pt a b, pt c d] w fun e w' => e = .returned (.tuple #[pt x y, .int .i64 0]) ∧ Adds w w') (h2 : ∀ w, Calls Try.prog 24 #[pt a b, pt c d] w fun e w' => e = .returned (pt x y) ∧ Adds w w')
    (m1 : ∀ w, Calls Try.prog 11 #[pt a b] w fun e w' => e = .returned (.bool true) ∧ Adds w w') (m2 : ∀ w, Calls Try.prog 11 #[pt c d] w fun e w' => e = .returned (.bool true) ∧ Adds w w') (hx : 0 < x) (hy : 0 ≤ y)
    (dA : ∀ w, Calls Try.prog 25 #[pt x y, pt a b] w fun e w' => e = .returned (.bool true) ∧ Adds w w') (dB : ∀ w, Calls Try.prog 25 #[pt x y, pt c d] w fun e w' => e = .returned (.bool true) ∧ Adds w w')
    (h0 : ¬ (e = 0 ∧ f = 0)) (m3 : ∀ w, Calls Try.prog 11 #[pt e f] w fun e w' => e = .returned (.bool true) ∧ Adds w w') (dC : ∀ w, Calls Try.prog 25 #[pt e f, pt a b] w fun e w' => e = .returned (.bool false) ∧ Adds w w') (w : World) :
    Calls Try.prog 6 #[pt a b, pt c d, pt e f] w fun e w' => e = .returned (.bool true) ∧ Adds w w' := by
  have h3 := awake_any
  have hx0 : ¬ x = 0 := by omega
  by_cases he : e = 0
  · have hf : ¬ f = 0 := fun hf => h0 ⟨he, hf⟩
    clear h0
    subst he
    go_enter Try.func6, Try.ntmps6
    go_wp2_with (first
        | (go_at_call 23; refine (h1 _).mono ?_; rintro e w1 ⟨rfl, os, k, rfl⟩)
        | (go_at_call 11; (with_reducible refine (m1 _).mono ?_); rintro e w1 ⟨rfl, os, k, rfl⟩)
        | (go_at_call 11; (with_reducible refine (m2 _).mono ?_); rintro e w1 ⟨rfl, os, k, rfl⟩))
    refine wp_region_adds (by kernel_rfl) (by kernel_rfl) ?_
    repeat (go_big_quiet_step ((go_at_call 24; exact Calls.adds_of (h2 _))))
    refine wpQuiet_nil ?_
    rintro _ ⟨p, rfl⟩
    unfold addTo
    go_wp2_with (first
        | (go_at_call 11; (with_reducible refine (m3 _).mono ?_); rintro e w1 ⟨rfl, os, k, rfl⟩)
        | (go_at_call 25; (with_reducible refine (dA _).mono ?_); rintro e w1 ⟨rfl, os, k, rfl⟩)
        | (go_at_call 25; (with_reducible refine (dB _).mono ?_); rintro e w1 ⟨rfl, os, k, rfl⟩)
        | (go_at_call 25; (with_reducible refine (dC _).mono ?_); rintro e w1 ⟨rfl, os, k, rfl⟩)
        | (go_at_call 13; refine (h3 _).mono ?_; rintro e w1 ⟨rfl, os, k, rfl⟩))
    go_ret
    refine ⟨rfl, ?_⟩
    repeat (first | with_reducible exact Adds.refl _ | with_reducible refine Adds.alloc ?_ _ | with_reducible refine Adds.more ?_ _ _ | with_reducible refine Adds.drew ?_)
  · clear h0
    go_enter Try.func6, Try.ntmps6
    go_wp2_with (first
        | (go_at_call 23; refine (h1 _).mono ?_; rintro e w1 ⟨rfl, os, k, rfl⟩)
        | (go_at_call 11; (with_reducible refine (m1 _).mono ?_); rintro e w1 ⟨rfl, os, k, rfl⟩)
        | (go_at_call 11; (with_reducible refine (m2 _).mono ?_); rintro e w1 ⟨rfl, os, k, rfl⟩))
    refine wp_region_adds (by kernel_rfl) (by kernel_rfl) ?_
    repeat (go_big_quiet_step ((go_at_call 24; exact Calls.adds_of (h2 _))))
    refine wpQuiet_nil ?_
    rintro _ ⟨p, rfl⟩
    unfold addTo
    go_wp2_with (first
        | (go_at_call 11; (with_reducible refine (m3 _).mono ?_); rintro e w1 ⟨rfl, os, k, rfl⟩)
        | (go_at_call 25; (with_reducible refine (dA _).mono ?_); rintro e w1 ⟨rfl, os, k, rfl⟩)
        | (go_at_call 25; (with_reducible refine (dB _).mono ?_); rintro e w1 ⟨rfl, os, k, rfl⟩)
        | (go_at_call 25; (with_reducible refine (dC _).mono ?_); rintro e w1 ⟨rfl, os, k, rfl⟩)
        | (go_at_call 13; refine (h3 _).mono ?_; rintro e w1 ⟨rfl, os, k, rfl⟩))
    go_ret
    refine ⟨rfl, ?_⟩
    repeat (first | with_reducible exact Adds.refl _ | with_reducible refine Adds.alloc ?_ _ | with_reducible refine Adds.more ?_ _ _ | with_reducible refine Adds.drew ?_)

set_option maxRecDepth 20000 in
set_option maxHeartbeats 1500000 in
theorem gcds_4 (a b c d x y e f : Int) (h1 : ∀ w, Calls Try.prog 23 #[pt a b, pt c d] w fun e w' => e = .returned (.tuple #[pt x y, .int .i64 0]) ∧ Adds w w') (h2 : ∀ w, Calls Try.prog 24 #[pt a b, pt c d] w fun e w' => e = .returned (pt x y) ∧ Adds w w')
    (m1 : ∀ w, Calls Try.prog 11 #[pt a b] w fun e w' => e = .returned (.bool true) ∧ Adds w w') (m2 : ∀ w, Calls Try.prog 11 #[pt c d] w fun e w' => e = .returned (.bool true) ∧ Adds w w') (hx : 0 < x) (hy : 0 ≤ y)
    (dA : ∀ w, Calls Try.prog 25 #[pt x y, pt a b] w fun e w' => e = .returned (.bool true) ∧ Adds w w') (dB : ∀ w, Calls Try.prog 25 #[pt x y, pt c d] w fun e w' => e = .returned (.bool true) ∧ Adds w w')
    (h0 : ¬ (e = 0 ∧ f = 0)) (m3 : ∀ w, Calls Try.prog 11 #[pt e f] w fun e w' => e = .returned (.bool true) ∧ Adds w w') (dC : ∀ w, Calls Try.prog 25 #[pt e f, pt a b] w fun e w' => e = .returned (.bool true) ∧ Adds w w') (dD : ∀ w, Calls Try.prog 25 #[pt e f, pt c d] w fun e w' => e = .returned (.bool false) ∧ Adds w w') (w : World) :
    Calls Try.prog 6 #[pt a b, pt c d, pt e f] w fun e w' => e = .returned (.bool true) ∧ Adds w w' := by
  have h3 := awake_any
  have hx0 : ¬ x = 0 := by omega
  by_cases he : e = 0
  · have hf : ¬ f = 0 := fun hf => h0 ⟨he, hf⟩
    clear h0
    subst he
    go_enter Try.func6, Try.ntmps6
    go_wp2_with (first
        | (go_at_call 23; refine (h1 _).mono ?_; rintro e w1 ⟨rfl, os, k, rfl⟩)
        | (go_at_call 11; (with_reducible refine (m1 _).mono ?_); rintro e w1 ⟨rfl, os, k, rfl⟩)
        | (go_at_call 11; (with_reducible refine (m2 _).mono ?_); rintro e w1 ⟨rfl, os, k, rfl⟩))
    refine wp_region_adds (by kernel_rfl) (by kernel_rfl) ?_
    repeat (go_big_quiet_step ((go_at_call 24; exact Calls.adds_of (h2 _))))
    refine wpQuiet_nil ?_
    rintro _ ⟨p, rfl⟩
    unfold addTo
    go_wp2_with (first
        | (go_at_call 11; (with_reducible refine (m3 _).mono ?_); rintro e w1 ⟨rfl, os, k, rfl⟩)
        | (go_at_call 25; (with_reducible refine (dA _).mono ?_); rintro e w1 ⟨rfl, os, k, rfl⟩)
        | (go_at_call 25; (with_reducible refine (dB _).mono ?_); rintro e w1 ⟨rfl, os, k, rfl⟩)
        | (go_at_call 25; (with_reducible refine (dC _).mono ?_); rintro e w1 ⟨rfl, os, k, rfl⟩)
        | (go_at_call 25; (with_reducible refine (dD _).mono ?_); rintro e w1 ⟨rfl, os, k, rfl⟩)
        | (go_at_call 13; refine (h3 _).mono ?_; rintro e w1 ⟨rfl, os, k, rfl⟩))
    go_ret
    refine ⟨rfl, ?_⟩
    repeat (first | with_reducible exact Adds.refl _ | with_reducible refine Adds.alloc ?_ _ | with_reducible refine Adds.more ?_ _ _ | with_reducible refine Adds.drew ?_)
  · clear h0
    go_enter Try.func6, Try.ntmps6
    go_wp2_with (first
        | (go_at_call 23; refine (h1 _).mono ?_; rintro e w1 ⟨rfl, os, k, rfl⟩)
        | (go_at_call 11; (with_reducible refine (m1 _).mono ?_); rintro e w1 ⟨rfl, os, k, rfl⟩)
        | (go_at_call 11; (with_reducible refine (m2 _).mono ?_); rintro e w1 ⟨rfl, os, k, rfl⟩))
    refine wp_region_adds (by kernel_rfl) (by kernel_rfl) ?_
    repeat (go_big_quiet_step ((go_at_call 24; exact Calls.adds_of (h2 _))))
    refine wpQuiet_nil ?_
    rintro _ ⟨p, rfl⟩
    unfold addTo
    go_wp2_with (first
        | (go_at_call 11; (with_reducible refine (m3 _).mono ?_); rintro e w1 ⟨rfl, os, k, rfl⟩)
        | (go_at_call 25; (with_reducible refine (dA _).mono ?_); rintro e w1 ⟨rfl, os, k, rfl⟩)
        | (go_at_call 25; (with_reducible refine (dB _).mono ?_); rintro e w1 ⟨rfl, os, k, rfl⟩)
        | (go_at_call 25; (with_reducible refine (dC _).mono ?_); rintro e w1 ⟨rfl, os, k, rfl⟩)
        | (go_at_call 25; (with_reducible refine (dD _).mono ?_); rintro e w1 ⟨rfl, os, k, rfl⟩)
        | (go_at_call 13; refine (h3 _).mono ?_; rintro e w1 ⟨rfl, os, k, rfl⟩))
    go_ret
    refine ⟨rfl, ?_⟩
    repeat (first | with_reducible exact Adds.refl _ | with_reducible refine Adds.alloc ?_ _ | with_reducible refine Adds.more ?_ _ _ | with_reducible refine Adds.drew ?_)

set_option maxRecDepth 20000 in
set_option maxHeartbeats 1500000 in
theorem gcds_5 (a b c d x y e f : Int) (h1 : ∀ w, Calls Try.prog 23 #[pt a b, pt c d] w fun e w' => e = .returned (.tuple #[pt x y, .int .i64 0]) ∧ Adds w w') (h2 : ∀ w, Calls Try.prog 24 #[pt a b, pt c d] w fun e w' => e = .returned (pt x y) ∧ Adds w w')
    (m1 : ∀ w, Calls Try.prog 11 #[pt a b] w fun e w' => e = .returned (.bool true) ∧ Adds w w') (m2 : ∀ w, Calls Try.prog 11 #[pt c d] w fun e w' => e = .returned (.bool true) ∧ Adds w w') (hx : 0 < x) (hy : 0 ≤ y)
    (dA : ∀ w, Calls Try.prog 25 #[pt x y, pt a b] w fun e w' => e = .returned (.bool true) ∧ Adds w w') (dB : ∀ w, Calls Try.prog 25 #[pt x y, pt c d] w fun e w' => e = .returned (.bool true) ∧ Adds w w')
    (h0 : ¬ (e = 0 ∧ f = 0)) (m3 : ∀ w, Calls Try.prog 11 #[pt e f] w fun e w' => e = .returned (.bool true) ∧ Adds w w') (dC : ∀ w, Calls Try.prog 25 #[pt e f, pt a b] w fun e w' => e = .returned (.bool true) ∧ Adds w w') (dD : ∀ w, Calls Try.prog 25 #[pt e f, pt c d] w fun e w' => e = .returned (.bool true) ∧ Adds w w') (dG : ∀ w, Calls Try.prog 25 #[pt e f, pt x y] w fun e w' => e = .returned (.bool true) ∧ Adds w w') (w : World) :
    Calls Try.prog 6 #[pt a b, pt c d, pt e f] w fun e w' => e = .returned (.bool true) ∧ Adds w w' := by
  have h3 := awake_any
  have hx0 : ¬ x = 0 := by omega
  by_cases he : e = 0
  · have hf : ¬ f = 0 := fun hf => h0 ⟨he, hf⟩
    clear h0
    subst he
    go_enter Try.func6, Try.ntmps6
    go_wp2_with (first
        | (go_at_call 23; refine (h1 _).mono ?_; rintro e w1 ⟨rfl, os, k, rfl⟩)
        | (go_at_call 11; (with_reducible refine (m1 _).mono ?_); rintro e w1 ⟨rfl, os, k, rfl⟩)
        | (go_at_call 11; (with_reducible refine (m2 _).mono ?_); rintro e w1 ⟨rfl, os, k, rfl⟩))
    refine wp_region_adds (by kernel_rfl) (by kernel_rfl) ?_
    repeat (go_big_quiet_step ((go_at_call 24; exact Calls.adds_of (h2 _))))
    refine wpQuiet_nil ?_
    rintro _ ⟨p, rfl⟩
    unfold addTo
    go_wp2_with (first
        | (go_at_call 11; (with_reducible refine (m3 _).mono ?_); rintro e w1 ⟨rfl, os, k, rfl⟩)
        | (go_at_call 25; (with_reducible refine (dA _).mono ?_); rintro e w1 ⟨rfl, os, k, rfl⟩)
        | (go_at_call 25; (with_reducible refine (dB _).mono ?_); rintro e w1 ⟨rfl, os, k, rfl⟩)
        | (go_at_call 25; (with_reducible refine (dC _).mono ?_); rintro e w1 ⟨rfl, os, k, rfl⟩)
        | (go_at_call 25; (with_reducible refine (dD _).mono ?_); rintro e w1 ⟨rfl, os, k, rfl⟩)
        | (go_at_call 25; (with_reducible refine (dG _).mono ?_); rintro e w1 ⟨rfl, os, k, rfl⟩)
        | (go_at_call 13; refine (h3 _).mono ?_; rintro e w1 ⟨rfl, os, k, rfl⟩))
    go_ret
    refine ⟨rfl, ?_⟩
    repeat (first | with_reducible exact Adds.refl _ | with_reducible refine Adds.alloc ?_ _ | with_reducible refine Adds.more ?_ _ _ | with_reducible refine Adds.drew ?_)
  · clear h0
    go_enter Try.func6, Try.ntmps6
    go_wp2_with (first
        | (go_at_call 23; refine (h1 _).mono ?_; rintro e w1 ⟨rfl, os, k, rfl⟩)
        | (go_at_call 11; (with_reducible refine (m1 _).mono ?_); rintro e w1 ⟨rfl, os, k, rfl⟩)
        | (go_at_call 11; (with_reducible refine (m2 _).mono ?_); rintro e w1 ⟨rfl, os, k, rfl⟩))
    refine wp_region_adds (by kernel_rfl) (by kernel_rfl) ?_
    repeat (go_big_quiet_step ((go_at_call 24; exact Calls.adds_of (h2 _))))
    refine wpQuiet_nil ?_
    rintro _ ⟨p, rfl⟩
    unfold addTo
    go_wp2_with (first
        | (go_at_call 11; (with_reducible refine (m3 _).mono ?_); rintro e w1 ⟨rfl, os, k, rfl⟩)
        | (go_at_call 25; (with_reducible refine (dA _).mono ?_); rintro e w1 ⟨rfl, os, k, rfl⟩)
        | (go_at_call 25; (with_reducible refine (dB _).mono ?_); rintro e w1 ⟨rfl, os, k, rfl⟩)
        | (go_at_call 25; (with_reducible refine (dC _).mono ?_); rintro e w1 ⟨rfl, os, k, rfl⟩)
        | (go_at_call 25; (with_reducible refine (dD _).mono ?_); rintro e w1 ⟨rfl, os, k, rfl⟩)
        | (go_at_call 25; (with_reducible refine (dG _).mono ?_); rintro e w1 ⟨rfl, os, k, rfl⟩)
        | (go_at_call 13; refine (h3 _).mono ?_; rintro e w1 ⟨rfl, os, k, rfl⟩))
    go_ret
    refine ⟨rfl, ?_⟩
    repeat (first | with_reducible exact Adds.refl _ | with_reducible refine Adds.alloc ?_ _ | with_reducible refine Adds.more ?_ _ _ | with_reducible refine Adds.drew ?_)

theorem gcds_any (a b c d e f : Int) (w : World) :
    Calls Try.prog 6 #[pt a b, pt c d, pt e f] w fun e w' => e = .returned (.bool true) ∧ Adds w w' := by
  by_cases hM : May a b ∧ May c d
  · obtain ⟨ha, hb⟩ := hM
    obtain ⟨p1, p2, p3, p4⟩ := eu_props _ a b c d rfl
    have hm := p4 ha hb
    have h1 := gcd_may a b c d ha hb _ rfl
    have h2 := rgcd_may a b c d ha hb _ rfl
    by_cases hz : (eu a b c d).1 = 0 ∧ (eu a b c d).2 = 0
    · rw [hz.1, hz.2] at p1 p2
      obtain ⟨rfl, rfl⟩ := Dv.of_zero p1
      obtain ⟨rfl, rfl⟩ := Dv.of_zero p2
      exact gcds_nought e f w
    · have ht := off_there hz
      have q1 := dv_rot p1 (off (eu a b c d).1 (eu a b c d).2)
      have q2 := dv_rot p2 (off (eu a b c d).1 (eu a b c d).2)
      have q3 := fun x y h k => dv_rotted (p3 x y h k) (off (eu a b c d).1 (eu a b c d).2)
      have hmg := may_rot hm (off (eu a b c d).1 (eu a b c d).2)
      clear p1 p2 p3 p4 hm hz
      generalize rot (off (eu a b c d).1 (eu a b c d).2) (eu a b c d).1 (eu a b c d).2 = G at *
      obtain ⟨x, y⟩ := G
      simp only at h1 h2 ht q1 q2 q3 hmg
      have hg0 : ¬ (x = 0 ∧ y = 0) := fun h => by omega
      have yes : ∀ {a b c d : Int}, May a b → May c d → ¬ (c = 0 ∧ d = 0) → Dv c d a b → ∀ w, Calls Try.prog 25 #[pt c d, pt a b] w fun e w' => e = .returned (.bool true) ∧ Adds w w' := fun {a b c d} i j k l w => by
        have := divides_any a b c d i j k w
        rwa [decide_eq_true (res_of_dv k l)] at this
      have no : ∀ {a b c d : Int}, May a b → May c d → ¬ (c = 0 ∧ d = 0) → ¬ Dv c d a b → ∀ w, Calls Try.prog 25 #[pt c d, pt a b] w fun e w' => e = .returned (.bool false) ∧ Adds w w' := fun {a b c d} i j k l w => by
        have := divides_any a b c d i j k w
        rwa [decide_eq_false (fun h => l (dv_of_res h.1 h.2))] at this
      have dA := fun w => yes ha hmg hg0 q1 w
      have dB := fun w => yes hb hmg hg0 q2 w
      have m1 := fun w => rmay_true ha w
      have m2 := fun w => rmay_true hb w
      by_cases he : May e f
      · have m3 := fun w => rmay_true he w
        by_cases h0 : e = 0 ∧ f = 0
        · exact gcds_2 a b c d x y e f h1 h2 m1 m2 ht.1 ht.2 dA dB h0.1 h0.2 m3 w
        · by_cases d1 : Dv e f a b
          · by_cases d2 : Dv e f c d
            · exact gcds_5 a b c d x y e f h1 h2 m1 m2 ht.1 ht.2 dA dB h0 m3 (fun w => yes ha he h0 d1 w) (fun w => yes hb he h0 d2 w) (fun w => yes hmg he h0 (q3 e f d1 d2) w) w
            · exact gcds_4 a b c d x y e f h1 h2 m1 m2 ht.1 ht.2 dA dB h0 m3 (fun w => yes ha he h0 d1 w) (fun w => no hb he h0 d2 w) w
          · exact gcds_3 a b c d x y e f h1 h2 m1 m2 ht.1 ht.2 dA dB h0 m3 (fun w => no ha he h0 d1 w) w
      · exact gcds_1 a b c d x y e f h1 h2 m1 m2 ht.1 ht.2 dA dB (fun w => rmay_false he w) w
  · exact gcds_arg a b c d e f hM w

end Go.Proofs.Ytlbeebhehgnppaa
