/-
  The walk of the statement GaussDivs: it returns true, whatever points are handed in.
-/
import Derived.Test.YtlbeebhehgnppaaDiv
import Derived.Test.YtlbeebhehgnppaaRefDiv
import Derived.Test.YtlbeebhehgnppaaMuls
namespace Go.Proofs.Ytlbeebhehgnppaa
open Go.RowKit
attribute [local go_sem] cell?_addTo cell?_more frozen?_more setCell_more size_more tape_more drew_more drewN_more more_drew more_drewN more_more one_out plus_out lt_one le_p2 le_p3 le_p4 le_p5 le_p6 le_p7 le_p8 le_p9 le_p10 le_p11 le_p12
attribute [local go_sem] plus_end le_p13 le_p14 le_p15 le_p16 le_p17 le_p18 le_p19 le_p20 le_p21 le_p22 le_p23 le_p24 le_p25 le_p26 le_p27 le_p28 le_p29 le_p30

set_option maxRecDepth 20000 in
set_option maxHeartbeats 2000000 in
theorem divs_arg (a b c d : Int) (h : ¬ (May a b ∧ May c d) ∨ (c = 0 ∧ d = 0)) (w : World) :
    Calls Try.prog 5 #[pt a b, pt c d] w fun e w' => e = .returned (.bool true) ∧ Adds w w' := by
  have h1 := div_arg a b c d h
  have h3 := awake_any
  by_cases ha : May a b
  · have m1 := fun w => rmay_true ha w
    by_cases hb : May c d
    · have m2 := fun w => rmay_true hb w
      obtain ⟨rfl, rfl⟩ := h.resolve_left (fun k => k ⟨ha, hb⟩)
      clear h ha hb
      go_enter Try.func5, Try.ntmps5
      go_wp2_with (first
        | (go_at_call 21; refine (h1 _).mono ?_; rintro e w1 ⟨rfl, os, k, rfl⟩)
        | (go_at_call 11; (with_reducible refine (m1 _).mono ?_); rintro e w1 ⟨rfl, os, k, rfl⟩)
        | (go_at_call 11; (with_reducible refine (m2 _).mono ?_); rintro e w1 ⟨rfl, os, k, rfl⟩)
        | (go_at_call 13; refine (h3 _).mono ?_; rintro e w1 ⟨rfl, os, k, rfl⟩))
      go_ret
      refine ⟨rfl, ?_⟩
      repeat (first | with_reducible exact Adds.refl _ | with_reducible refine Adds.alloc ?_ _ | with_reducible refine Adds.more ?_ _ _ | with_reducible refine Adds.drew ?_)
    · have m2 := fun w => rmay_false hb w
      clear h ha hb
      go_enter Try.func5, Try.ntmps5
      go_wp2_with (first
        | (go_at_call 21; refine (h1 _).mono ?_; rintro e w1 ⟨rfl, os, k, rfl⟩)
        | (go_at_call 11; (with_reducible refine (m1 _).mono ?_); rintro e w1 ⟨rfl, os, k, rfl⟩)
        | (go_at_call 11; (with_reducible refine (m2 _).mono ?_); rintro e w1 ⟨rfl, os, k, rfl⟩)
        | (go_at_call 13; refine (h3 _).mono ?_; rintro e w1 ⟨rfl, os, k, rfl⟩))
      go_ret
      refine ⟨rfl, ?_⟩
      repeat (first | with_reducible exact Adds.refl _ | with_reducible refine Adds.alloc ?_ _ | with_reducible refine Adds.more ?_ _ _ | with_reducible refine Adds.drew ?_)
  · have m1 := fun w => rmay_false ha w
    clear h ha
    go_enter Try.func5, Try.ntmps5
    go_wp2_with (first
      | (go_at_call 21; refine (h1 _).mono ?_; rintro e w1 ⟨rfl, os, k, rfl⟩)
      | (go_at_call 11; (with_reducible refine (m1 _).mono ?_); rintro e w1 ⟨rfl, os, k, rfl⟩)
      | (go_at_call 13; refine (h3 _).mono ?_; rintro e w1 ⟨rfl, os, k, rfl⟩))
    go_ret
    refine ⟨rfl, ?_⟩
    repeat (first | with_reducible exact Adds.refl _ | with_reducible refine Adds.alloc ?_ _ | with_reducible refine Adds.more ?_ _ _ | with_reducible refine Adds.drew ?_)

set_option maxRecDepth 20000 in
set_option maxHeartbeats 2000000 in
theorem divs_may (a b c d : Int) (ha : May a b) (hb : May c d) (h0 : ¬ (c = 0 ∧ d = 0)) (w : World) :
    Calls Try.prog 5 #[pt a b, pt c d] w fun e w' => e = .returned (.bool true) ∧ Adds w w' := by
  have h1 := div_any a b c d ha hb h0
  have h2 := rdiv_any a b c d ha hb h0
  have h3 := awake_any
  have m1 := fun w => rmay_true ha w
  have m2 := fun w => rmay_true hb w
  have nr := rnorm_any _ _ (res_may (a := a) (b := b) hb h0)
  have nb := rnorm_any c d hb
  have hl := res_norm (a := a) (b := b) h0
  have hN := norm_le hb
  have hM : 0 ≤ resRe a b c d * resRe a b c d + resIm a b c d * resIm a b c d := by
    have := sq_nonneg (resRe a b c d)
    have := sq_nonneg (resIm a b c d)
    omega
  clear ha hb
  generalize resRe a b c d * resRe a b c d + resIm a b c d * resIm a b c d = M at *
  generalize c * c + d * d = N at *
  generalize quoRe a b c d = A at *
  generalize quoIm a b c d = B at *
  generalize resRe a b c d = C at *
  generalize resIm a b c d = D at *
  by_cases hc : c = 0
  · have hd : ¬ d = 0 := fun hd => h0 ⟨hc, hd⟩
    subst hc
    clear h0
    go_enter Try.func5, Try.ntmps5
    go_wp2_with (first
      | (go_at_call 21; refine (h1 _).mono ?_; rintro e w1 ⟨rfl, os, k, rfl⟩)
      | (go_at_call 22; refine (h2 _).mono ?_; rintro e w1 ⟨rfl, os, k, rfl⟩)
      | (go_at_call 11; (with_reducible refine (m1 _).mono ?_); rintro e w1 ⟨rfl, os, k, rfl⟩)
      | (go_at_call 11; (with_reducible refine (m2 _).mono ?_); rintro e w1 ⟨rfl, os, k, rfl⟩))
    refine wp_region_adds (by kernel_rfl) (by kernel_rfl) ?_
    repeat (go_big_quiet_step ((first
      | (go_at_call 20; (first | (with_reducible exact Calls.adds_of (nr _)) | (with_reducible exact Calls.adds_of (nb _))))
      | (go_at_call 13; exact Calls.adds_of (h3 _)))))
    refine wpQuiet_nil ?_
    rintro _ ⟨p, rfl⟩
    unfold addTo
    go_wp2
    go_ret
    refine ⟨rfl, ?_⟩
    repeat (first | with_reducible exact Adds.refl _ | with_reducible refine Adds.alloc ?_ _ | with_reducible refine Adds.more ?_ _ _ | with_reducible refine Adds.drew ?_)
  · clear h0
    go_enter Try.func5, Try.ntmps5
    go_wp2_with (first
      | (go_at_call 21; refine (h1 _).mono ?_; rintro e w1 ⟨rfl, os, k, rfl⟩)
      | (go_at_call 22; refine (h2 _).mono ?_; rintro e w1 ⟨rfl, os, k, rfl⟩)
      | (go_at_call 11; (with_reducible refine (m1 _).mono ?_); rintro e w1 ⟨rfl, os, k, rfl⟩)
      | (go_at_call 11; (with_reducible refine (m2 _).mono ?_); rintro e w1 ⟨rfl, os, k, rfl⟩))
    refine wp_region_adds (by kernel_rfl) (by kernel_rfl) ?_
    repeat (go_big_quiet_step ((first
      | (go_at_call 20; (first | (with_reducible exact Calls.adds_of (nr _)) | (with_reducible exact Calls.adds_of (nb _))))
      | (go_at_call 13; exact Calls.adds_of (h3 _)))))
    refine wpQuiet_nil ?_
    rintro _ ⟨p, rfl⟩
    unfold addTo
    go_wp2
    go_ret
    refine ⟨rfl, ?_⟩
    repeat (first | with_reducible exact Adds.refl _ | with_reducible refine Adds.alloc ?_ _ | with_reducible refine Adds.more ?_ _ _ | with_reducible refine Adds.drew ?_)

theorem divs_any (a b c d : Int) (w : World) :
    Calls Try.prog 5 #[pt a b, pt c d] w fun e w' => e = .returned (.bool true) ∧ Adds w w' := by
  by_cases h : ¬ (May a b ∧ May c d) ∨ (c = 0 ∧ d = 0)
  · exact divs_arg a b c d h w
  · have h1 : May a b ∧ May c d := Decidable.byContradiction fun k => h (.inl k)
    exact divs_may a b c d h1.1 h1.2 (fun k => h (.inr k)) w

end Go.Proofs.Ytlbeebhehgnppaa
