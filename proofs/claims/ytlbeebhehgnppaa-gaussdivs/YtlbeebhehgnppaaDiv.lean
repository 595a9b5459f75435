/-
  gauss.Div by contracts.
-/
import Derived.Test.YtlbeebhehgnppaaDivide
namespace Go.Proofs.Ytlbeebhehgnppaa
open Go.RowKit
attribute [local go_sem] cell?_addTo cell?_more frozen?_more setCell_more size_more tape_more drew_more drewN_more more_drew more_drewN more_more one_out plus_out lt_one le_p2 le_p3 le_p4 le_p5 le_p6 le_p7 le_p8 le_p9 le_p10 le_p11 le_p12
attribute [local go_sem] plus_end le_p13 le_p14 le_p15 le_p16 le_p17 le_p18 le_p19 le_p20 le_p21 le_p22 le_p23 le_p24 le_p25 le_p26 le_p27 le_p28 le_p29 le_p30

set_option maxHeartbeats 1000000 in
theorem div_any (a b c d : Int) (ha : May a b) (hb : May c d) (h0 : ¬ (c = 0 ∧ d = 0)) (w : World) :
    Calls Try.prog 21 #[pt a b, pt c d] w fun e w' => e = .returned (.tuple #[pt (quoRe a b c d) (quoIm a b c d), pt (resRe a b c d) (resIm a b c d), .int .i64 0]) ∧ Adds w w' := by
  have h1 := checkBoth_may a b c d ha hb
  have h2 := divide_any a b c d ha hb h0
  generalize quoRe a b c d = A at *
  generalize quoIm a b c d = B at *
  generalize resRe a b c d = C at *
  generalize resIm a b c d = D at *
  by_cases hc : c = 0
  · have hd : ¬ d = 0 := fun hd => h0 ⟨hc, hd⟩
    subst hc
    clear h0 ha hb
    go_enter Try.func21, Try.ntmps21
    go_wp2_with (first | (go_at_call 27; refine (h1 _).mono ?_; rintro e w1 ⟨rfl, os, k, rfl⟩) | (go_at_call 32; refine (h2 _).mono ?_; rintro e w1 ⟨rfl, os, k, rfl⟩))
    go_region
    all_goals go_wp2
    all_goals
      refine bodyPost_ret (v := .tuple #[pt A B, pt C D, .int .i64 0]) (by simp [results, Try.results21, go_sem]) rfl ⟨rfl, ?_⟩
      repeat (first | with_reducible exact Adds.refl _ | with_reducible refine Adds.alloc ?_ _ | with_reducible refine Adds.more ?_ _ _ | with_reducible refine Adds.drew ?_)
  · clear h0 ha hb
    go_enter Try.func21, Try.ntmps21
    go_wp2_with (first | (go_at_call 27; refine (h1 _).mono ?_; rintro e w1 ⟨rfl, os, k, rfl⟩) | (go_at_call 32; refine (h2 _).mono ?_; rintro e w1 ⟨rfl, os, k, rfl⟩))
    go_region
    all_goals go_wp2
    all_goals
      refine bodyPost_ret (v := .tuple #[pt A B, pt C D, .int .i64 0]) (by simp [results, Try.results21, go_sem]) rfl ⟨rfl, ?_⟩
      repeat (first | with_reducible exact Adds.refl _ | with_reducible refine Adds.alloc ?_ _ | with_reducible refine Adds.more ?_ _ _ | with_reducible refine Adds.drew ?_)

theorem div_arg (a b c d : Int) (h : ¬ (May a b ∧ May c d) ∨ (c = 0 ∧ d = 0)) (w : World) :
    Calls Try.prog 21 #[pt a b, pt c d] w fun e w' => e = .returned (.tuple #[pt 0 0, pt 0 0, .int .i64 1]) ∧ Adds w w' := by
  by_cases h' : May a b ∧ May c d
  · have h1 := checkBoth_may a b c d h'.1 h'.2
    obtain ⟨rfl, rfl⟩ := h.resolve_left (fun k => k h')
    clear h h'
    go_enter Try.func21, Try.ntmps21
    go_wp2_with (go_at_call 27; refine (h1 _).mono ?_; rintro e w1 ⟨rfl, os, k, rfl⟩)
    refine bodyPost_ret (v := .tuple #[pt 0 0, pt 0 0, .int .i64 1]) (by simp [results, Try.results21, go_sem]) rfl ⟨rfl, ?_⟩
    repeat (first | with_reducible exact Adds.refl _ | with_reducible refine Adds.alloc ?_ _ | with_reducible refine Adds.more ?_ _ _ | with_reducible refine Adds.drew ?_)
  · have h1 := checkBoth_not a b c d h'
    clear h h'
    go_enter Try.func21, Try.ntmps21
    go_wp2_with (go_at_call 27; refine (h1 _).mono ?_; rintro e w1 ⟨rfl, os, k, rfl⟩)
    refine bodyPost_ret (v := .tuple #[pt 0 0, pt 0 0, .int .i64 1]) (by simp [results, Try.results21, go_sem]) rfl ⟨rfl, ?_⟩
    repeat (first | with_reducible exact Adds.refl _ | with_reducible refine Adds.alloc ?_ _ | with_reducible refine Adds.more ?_ _ _ | with_reducible refine Adds.drew ?_)

end Go.Proofs.Ytlbeebhehgnppaa
