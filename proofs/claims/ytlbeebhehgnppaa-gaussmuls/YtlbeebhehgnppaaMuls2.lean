/-
  The walk of the statement GaussMuls, of points that may be.
-/
import Derived.Test.YtlbeebhehgnppaaMuls
import Derived.Test.YtlbeebhehgnppaaSums
namespace Go.Proofs.Ytlbeebhehgnppaa
open Go.RowKit
attribute [local go_sem] cell?_addTo cell?_more frozen?_more setCell_more size_more tape_more drew_more drewN_more more_drew more_drewN more_more one_out plus_out lt_one le_p2 le_p3 le_p4 le_p5 le_p6 le_p7 le_p8 le_p9 le_p10 le_p11 le_p12
attribute [local go_sem] plus_end le_p13 le_p14 le_p15 le_p16 le_p17 le_p18 le_p19 le_p20 le_p21 le_p22 le_p23 le_p24 le_p25 le_p26 le_p27 le_p28 le_p29 le_p30

set_option maxRecDepth 20000 in
set_option maxHeartbeats 4000000 in
theorem muls_may1 (a b c d : Int) (ha : May a b) (hb : May c d) (hs : May (a + c) (b + d)) (hp : May (a * c - b * d) (a * d + b * c)) (w : World) :
    Calls Try.prog 3 #[pt a b, pt c d] w fun e w' => e = .returned (.bool true) ∧ Adds w w' := by
  have h1 := add_may a b c d ha hb
  have h2 := mul_may a b c d ha hb
  rw [if_pos hs] at h1
  rw [if_pos hp] at h2
  have h4 := awake_any
  have m1 := fun w => rmay_true ha w
  have m2 := fun w => rmay_true hb w
  have m3 := fun w => rmay_true hs w
  have m4 := fun w => rmay_true hp w
  have r := rmul_any a b c d ha hb
  have nA := norm_may a b ha
  have nB := norm_may c d hb
  have nP := norm_may _ _ hp
  have nm := norm_mul a b c d
  obtain ⟨⟨q1, q2⟩, ⟨q3, q4⟩, -⟩ := may_mul hp hp
  have s1 : -9223372036854775808 ≤ a + c ∧ a + c ≤ 9223372036854775807 := ⟨by have := hs.1.1; omega, by have := hs.1.2; omega⟩
  have s2 : -9223372036854775808 ≤ b + d ∧ b + d ≤ 9223372036854775807 := ⟨by have := hs.2.1; omega, by have := hs.2.2; omega⟩
  rw [← nm] at nP
  have s3 : -9223372036854775808 ≤ (a * a + b * b) * (c * c + d * d) ∧ (a * a + b * b) * (c * c + d * d) ≤ 9223372036854775807 := by rw [nm]; omega
  clear q1 q2 q3 q4 nm ha hb hs hp
  obtain ⟨s1, s1'⟩ := s1
  obtain ⟨s2, s2'⟩ := s2
  obtain ⟨s3, s3'⟩ := s3
  generalize a * c - b * d = u at *
  generalize a * d + b * c = v at *
  generalize a * a + b * b = A at *
  generalize c * c + d * d = B at *
  go_enter Try.func3, Try.ntmps3
  go_wp2_with (first
    | (go_at_call 9; refine (h1 _).mono ?_; rintro e w1 ⟨rfl, os, k, rfl⟩)
    | (go_at_call 10; refine (h2 _).mono ?_; rintro e w1 ⟨rfl, os, k, rfl⟩)
    | (go_at_call 13; refine (h4 _).mono ?_; rintro e w1 ⟨rfl, os, k, rfl⟩)
    | (go_at_call 14; refine (r _).mono ?_; rintro e w1 ⟨rfl, os, k, rfl⟩)
    | (go_at_call 11; (with_reducible refine (m1 _).mono ?_); rintro e w1 ⟨rfl, os, k, rfl⟩)
    | (go_at_call 11; (with_reducible refine (m2 _).mono ?_); rintro e w1 ⟨rfl, os, k, rfl⟩)
    | (go_at_call 11; (with_reducible refine (m3 _).mono ?_); rintro e w1 ⟨rfl, os, k, rfl⟩)
    | (go_at_call 11; (with_reducible refine (m4 _).mono ?_); rintro e w1 ⟨rfl, os, k, rfl⟩))
  refine wp_region_adds (by kernel_rfl) (by kernel_rfl) ?_
  repeat (go_big_quiet_step ((first
    | (go_at_call 15; (first | (with_reducible exact Calls.adds_of (nA _)) | (with_reducible exact Calls.adds_of (nB _)) | (with_reducible exact Calls.adds_of (nP _))))
    | (go_at_call 13; exact Calls.adds_of (h4 _)))))
  refine wpQuiet_nil ?_
  rintro _ ⟨p, rfl⟩
  unfold addTo
  go_wp2
  go_ret
  refine ⟨rfl, ?_⟩
  repeat (first | exact Adds.refl _ | refine Adds.alloc ?_ _ | refine Adds.more ?_ _ _ | refine Adds.drew ?_)

set_option maxRecDepth 20000 in
set_option maxHeartbeats 4000000 in
theorem muls_may2 (a b c d : Int) (ha : May a b) (hb : May c d) (hs : May (a + c) (b + d)) (hp : ¬ May (a * c - b * d) (a * d + b * c)) (w : World) :
    Calls Try.prog 3 #[pt a b, pt c d] w fun e w' => e = .returned (.bool true) ∧ Adds w w' := by
  have h1 := add_may a b c d ha hb
  have h2 := mul_may a b c d ha hb
  rw [if_pos hs] at h1
  rw [if_neg hp] at h2
  have h3 := none_true 3
  have h4 := awake_any
  have m1 := fun w => rmay_true ha w
  have m2 := fun w => rmay_true hb w
  have m3 := fun w => rmay_true hs w
  have m4 := fun w => rmay_false hp w
  have r := rmul_any a b c d ha hb
  obtain ⟨⟨t1, t2⟩, ⟨t3, t4⟩⟩ := ha
  obtain ⟨⟨t5, t6⟩, ⟨t7, t8⟩⟩ := hb
  have s1 : -9223372036854775808 ≤ a + c ∧ a + c ≤ 9223372036854775807 := ⟨by omega, by omega⟩
  have s2 : -9223372036854775808 ≤ b + d ∧ b + d ≤ 9223372036854775807 := ⟨by omega, by omega⟩
  clear t1 t2 t3 t4 t5 t6 t7 t8
  clear hs hp
  obtain ⟨s1, s1'⟩ := s1
  obtain ⟨s2, s2'⟩ := s2
  generalize a * c - b * d = u at *
  generalize a * d + b * c = v at *
  go_enter Try.func3, Try.ntmps3
  go_wp2_with (first
    | (go_at_call 9; refine (h1 _).mono ?_; rintro e w1 ⟨rfl, os, k, rfl⟩)
    | (go_at_call 10; refine (h2 _).mono ?_; rintro e w1 ⟨rfl, os, k, rfl⟩)
    | (go_at_call 12; refine (h3 _).mono ?_; rintro e w1 ⟨rfl, os, k, rfl⟩)
    | (go_at_call 13; refine (h4 _).mono ?_; rintro e w1 ⟨rfl, os, k, rfl⟩)
    | (go_at_call 14; refine (r _).mono ?_; rintro e w1 ⟨rfl, os, k, rfl⟩)
    | (go_at_call 11; (with_reducible refine (m1 _).mono ?_); rintro e w1 ⟨rfl, os, k, rfl⟩)
    | (go_at_call 11; (with_reducible refine (m2 _).mono ?_); rintro e w1 ⟨rfl, os, k, rfl⟩)
    | (go_at_call 11; (with_reducible refine (m3 _).mono ?_); rintro e w1 ⟨rfl, os, k, rfl⟩)
    | (go_at_call 11; (with_reducible refine (m4 _).mono ?_); rintro e w1 ⟨rfl, os, k, rfl⟩))
  go_ret
  refine ⟨rfl, ?_⟩
  repeat (first | exact Adds.refl _ | refine Adds.alloc ?_ _ | refine Adds.more ?_ _ _ | refine Adds.drew ?_)

set_option maxRecDepth 20000 in
set_option maxHeartbeats 4000000 in
theorem muls_may3 (a b c d : Int) (ha : May a b) (hb : May c d) (hs : ¬ May (a + c) (b + d)) (hp : May (a * c - b * d) (a * d + b * c)) (w : World) :
    Calls Try.prog 3 #[pt a b, pt c d] w fun e w' => e = .returned (.bool true) ∧ Adds w w' := by
  have h1 := add_may a b c d ha hb
  have h2 := mul_may a b c d ha hb
  rw [if_neg hs] at h1
  rw [if_pos hp] at h2
  have h3 := none_true 3
  have h4 := awake_any
  have m1 := fun w => rmay_true ha w
  have m2 := fun w => rmay_true hb w
  have m3 := fun w => rmay_false hs w
  have m4 := fun w => rmay_true hp w
  have r := rmul_any a b c d ha hb
  have nA := norm_may a b ha
  have nB := norm_may c d hb
  have nP := norm_may _ _ hp
  have nm := norm_mul a b c d
  obtain ⟨⟨q1, q2⟩, ⟨q3, q4⟩, -⟩ := may_mul hp hp
  obtain ⟨⟨t1, t2⟩, ⟨t3, t4⟩⟩ := ha
  obtain ⟨⟨t5, t6⟩, ⟨t7, t8⟩⟩ := hb
  have s1 : -9223372036854775808 ≤ a + c ∧ a + c ≤ 9223372036854775807 := ⟨by omega, by omega⟩
  have s2 : -9223372036854775808 ≤ b + d ∧ b + d ≤ 9223372036854775807 := ⟨by omega, by omega⟩
  clear t1 t2 t3 t4 t5 t6 t7 t8
  rw [← nm] at nP
  have s3 : -9223372036854775808 ≤ (a * a + b * b) * (c * c + d * d) ∧ (a * a + b * b) * (c * c + d * d) ≤ 9223372036854775807 := by rw [nm]; omega
  clear q1 q2 q3 q4 nm hs hp
  obtain ⟨s1, s1'⟩ := s1
  obtain ⟨s2, s2'⟩ := s2
  obtain ⟨s3, s3'⟩ := s3
  generalize a * c - b * d = u at *
  generalize a * d + b * c = v at *
  generalize a * a + b * b = A at *
  generalize c * c + d * d = B at *
  go_enter Try.func3, Try.ntmps3
  go_wp2_with (first
    | (go_at_call 9; refine (h1 _).mono ?_; rintro e w1 ⟨rfl, os, k, rfl⟩)
    | (go_at_call 10; refine (h2 _).mono ?_; rintro e w1 ⟨rfl, os, k, rfl⟩)
    | (go_at_call 12; refine (h3 _).mono ?_; rintro e w1 ⟨rfl, os, k, rfl⟩)
    | (go_at_call 13; refine (h4 _).mono ?_; rintro e w1 ⟨rfl, os, k, rfl⟩)
    | (go_at_call 14; refine (r _).mono ?_; rintro e w1 ⟨rfl, os, k, rfl⟩)
    | (go_at_call 11; (with_reducible refine (m1 _).mono ?_); rintro e w1 ⟨rfl, os, k, rfl⟩)
    | (go_at_call 11; (with_reducible refine (m2 _).mono ?_); rintro e w1 ⟨rfl, os, k, rfl⟩)
    | (go_at_call 11; (with_reducible refine (m3 _).mono ?_); rintro e w1 ⟨rfl, os, k, rfl⟩)
    | (go_at_call 11; (with_reducible refine (m4 _).mono ?_); rintro e w1 ⟨rfl, os, k, rfl⟩))
  refine wp_region_adds (by kernel_rfl) (by kernel_rfl) ?_
  repeat (go_big_quiet_step ((first
    | (go_at_call 15; (first | (with_reducible exact Calls.adds_of (nA _)) | (with_reducible exact Calls.adds_of (nB _)) | (with_reducible exact Calls.adds_of (nP _))))
    | (go_at_call 13; exact Calls.adds_of (h4 _)))))
  refine wpQuiet_nil ?_
  rintro _ ⟨p, rfl⟩
  unfold addTo
  go_wp2
  go_ret
  refine ⟨rfl, ?_⟩
  repeat (first | exact Adds.refl _ | refine Adds.alloc ?_ _ | refine Adds.more ?_ _ _ | refine Adds.drew ?_)

set_option maxRecDepth 20000 in
set_option maxHeartbeats 4000000 in
theorem muls_may4 (a b c d : Int) (ha : May a b) (hb : May c d) (hs : ¬ May (a + c) (b + d)) (hp : ¬ May (a * c - b * d) (a * d + b * c)) (w : World) :
    Calls Try.prog 3 #[pt a b, pt c d] w fun e w' => e = .returned (.bool true) ∧ Adds w w' := by
  have h1 := add_may a b c d ha hb
  have h2 := mul_may a b c d ha hb
  rw [if_neg hs] at h1
  rw [if_neg hp] at h2
  have h3 := none_true 3
  have h4 := awake_any
  have m1 := fun w => rmay_true ha w
  have m2 := fun w => rmay_true hb w
  have m3 := fun w => rmay_false hs w
  have m4 := fun w => rmay_false hp w
  have r := rmul_any a b c d ha hb
  obtain ⟨⟨t1, t2⟩, ⟨t3, t4⟩⟩ := ha
  obtain ⟨⟨t5, t6⟩, ⟨t7, t8⟩⟩ := hb
  have s1 : -9223372036854775808 ≤ a + c ∧ a + c ≤ 9223372036854775807 := ⟨by omega, by omega⟩
  have s2 : -9223372036854775808 ≤ b + d ∧ b + d ≤ 9223372036854775807 := ⟨by omega, by omega⟩
  clear t1 t2 t3 t4 t5 t6 t7 t8
  clear hs hp
  obtain ⟨s1, s1'⟩ := s1
  obtain ⟨s2, s2'⟩ := s2
  generalize a * c - b * d = u at *
  generalize a * d + b * c = v at *
  go_enter Try.func3, Try.ntmps3
  go_wp2_with (first
    | (go_at_call 9; refine (h1 _).mono ?_; rintro e w1 ⟨rfl, os, k, rfl⟩)
    | (go_at_call 10; refine (h2 _).mono ?_; rintro e w1 ⟨rfl, os, k, rfl⟩)
    | (go_at_call 12; refine (h3 _).mono ?_; rintro e w1 ⟨rfl, os, k, rfl⟩)
    | (go_at_call 13; refine (h4 _).mono ?_; rintro e w1 ⟨rfl, os, k, rfl⟩)
    | (go_at_call 14; refine (r _).mono ?_; rintro e w1 ⟨rfl, os, k, rfl⟩)
    | (go_at_call 11; (with_reducible refine (m1 _).mono ?_); rintro e w1 ⟨rfl, os, k, rfl⟩)
    | (go_at_call 11; (with_reducible refine (m2 _).mono ?_); rintro e w1 ⟨rfl, os, k, rfl⟩)
    | (go_at_call 11; (with_reducible refine (m3 _).mono ?_); rintro e w1 ⟨rfl, os, k, rfl⟩)
    | (go_at_call 11; (with_reducible refine (m4 _).mono ?_); rintro e w1 ⟨rfl, os, k, rfl⟩))
  go_ret
  refine ⟨rfl, ?_⟩
  repeat (first | exact Adds.refl _ | refine Adds.alloc ?_ _ | refine Adds.more ?_ _ _ | refine Adds.drew ?_)

theorem muls_any (a b c d : Int) (w : World) :
    Calls Try.prog 3 #[pt a b, pt c d] w fun e w' => e = .returned (.bool true) ∧ Adds w w' := by
  by_cases ha : May a b
  · by_cases hb : May c d
    · by_cases hs : May (a + c) (b + d)
      · by_cases hp : May (a * c - b * d) (a * d + b * c)
        · exact muls_may1 a b c d ha hb hs hp w
        · exact muls_may2 a b c d ha hb hs hp w
      · by_cases hp : May (a * c - b * d) (a * d + b * c)
        · exact muls_may3 a b c d ha hb hs hp w
        · exact muls_may4 a b c d ha hb hs hp w
    · exact muls_arg a b c d (fun h => hb h.2) w
  · exact muls_arg a b c d (fun h => ha h.1) w

end Go.Proofs.Ytlbeebhehgnppaa
