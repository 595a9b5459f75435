/-
  The small functions of package gauss by contracts: within, Check, checkBoth, fit, number, point, times, quarter.
-/
import Derived.Test.YtdlkpkldlljhcaaDoorGrow
import Derived.Test.YtdlkpkldlljhcaaDoorFloat
namespace Go.Proofs.YtdlkpkldlljhcaaDoor.Gs
open Go.RowKit
attribute [local go_sem] cell?_more frozen?_more setCell_more size_more tape_more drew_more drewN_more more_drew more_drewN more_more one_out plus_out lt_one le_p2 le_p3 le_p4 le_p5 le_p6 le_p7 le_p8 le_p9 le_p10 le_p11 le_p12

/-- May a point be? -/
def May (x y : Int) : Prop := (-1048576 ≤ x ∧ x ≤ 1048576) ∧ (-1048576 ≤ y ∧ y ≤ 1048576)

instance (x y : Int) : Decidable (May x y) := by unfold May; infer_instance

/-- A point, as the model holds it: as a value, and as a block of memory. -/
abbrev pt (x y : Int) : Value := .agg #[.int .i64 x, .int .i64 y]
abbrev box (x y : Int) : Obj := .cells #[.int .i64 x, .int .i64 y] 38

theorem within_any (n : Int) (w : World) :
    Calls Tryd.prog 87 #[.int .i64 n] w fun e w' => e = .returned (.bool (decide (-1048576 ≤ n ∧ n ≤ 1048576))) ∧ w' = w := by
  go_enter Tryd.func87, Tryd.ntmps87
  go_wp2
  all_goals (go_ret; refine ⟨?_, rfl⟩)
  · have h : -1048576 ≤ n := by assumption
    simp [h]
  · have h : n < -1048576 := by assumption
    have h' : ¬ -1048576 ≤ n := by omega
    simp [h']

theorem check_may (x y : Int) (h : May x y) (w : World) :
    Calls Tryd.prog 78 #[pt x y] w fun e w' => e = .returned (.int .i64 0) ∧ Adds w w' := by
  obtain ⟨h1, h2⟩ := h
  go_enter Tryd.func78, Tryd.ntmps78
  go_wp2_with (go_at_call 87; refine (within_any _ _).mono ?_; rintro e w1 ⟨rfl, rfl⟩)
  go_ret
  exact ⟨rfl, (Adds.refl _).alloc _⟩

theorem check_not (x y : Int) (h : ¬ May x y) (w : World) :
    Calls Tryd.prog 78 #[pt x y] w fun e w' => e = .returned (.int .i64 1) ∧ Adds w w' := by
  go_enter Tryd.func78, Tryd.ntmps78
  go_wp2_with (go_at_call 87; refine (within_any _ _).mono ?_; rintro e w1 ⟨rfl, rfl⟩)
  · go_ret
    exact ⟨rfl, (Adds.refl _).alloc _⟩
  · rename_i h1 h2
    exact absurd ⟨h1, by simpa using h2⟩ h
  · go_ret
    exact ⟨rfl, (Adds.refl _).alloc _⟩

theorem checkBoth_may (a b c d : Int) (h : May a b) (h' : May c d) (w : World) :
    Calls Tryd.prog 71 #[pt a b, pt c d] w fun e w' => e = .returned (.int .i64 0) ∧ Adds w w' := by
  go_enter Tryd.func71, Tryd.ntmps71
  go_wp2_with (go_at_call 78; refine (check_may _ _ (by assumption) _).mono ?_; rintro e w1 ⟨rfl, os, k, rfl⟩)
  go_ret
  refine ⟨rfl, ?_⟩
  repeat (first | exact Adds.refl _ | refine Adds.alloc ?_ _ | refine Adds.more ?_ _ _ | refine Adds.drew ?_)

theorem checkBoth_not (a b c d : Int) (h : ¬ (May a b ∧ May c d)) (w : World) :
    Calls Tryd.prog 71 #[pt a b, pt c d] w fun e w' => e = .returned (.int .i64 1) ∧ Adds w w' := by
  by_cases h1 : May a b
  · have h2 : ¬ May c d := fun h2 => h ⟨h1, h2⟩
    go_enter Tryd.func71, Tryd.ntmps71
    go_wp2_with (go_at_call 78; first | (refine (check_may _ _ (by assumption) _).mono ?_; rintro e w1 ⟨rfl, os, k, rfl⟩) | (refine (check_not _ _ (by assumption) _).mono ?_; rintro e w1 ⟨rfl, os, k, rfl⟩))
    go_ret
    refine ⟨rfl, ?_⟩
    repeat (first | exact Adds.refl _ | refine Adds.alloc ?_ _ | refine Adds.more ?_ _ _ | refine Adds.drew ?_)
  · go_enter Tryd.func71, Tryd.ntmps71
    go_wp2_with (go_at_call 78; refine (check_not _ _ (by assumption) _).mono ?_; rintro e w1 ⟨rfl, os, k, rfl⟩)
    go_ret
    refine ⟨rfl, ?_⟩
    repeat (first | exact Adds.refl _ | refine Adds.alloc ?_ _ | refine Adds.more ?_ _ _ | refine Adds.drew ?_)

theorem fit_may (a b : Int) (h : May a b) (w : World) :
    Calls Tryd.prog 72 #[pt a b] w fun e w' => e = .returned (.tuple #[pt a b, .int .i64 0]) ∧ Adds w w' := by
  go_enter Tryd.func72, Tryd.ntmps72
  go_wp2_with (go_at_call 78; refine (check_may _ _ (by assumption) _).mono ?_; rintro e w1 ⟨rfl, os, k, rfl⟩)
  refine bodyPost_ret (v := .tuple #[pt a b, .int .i64 0]) (by simp [results, Tryd.results72, go_sem]) rfl ⟨rfl, ?_⟩
  repeat (first | exact Adds.refl _ | refine Adds.alloc ?_ _ | refine Adds.more ?_ _ _ | refine Adds.drew ?_)

theorem fit_not (a b : Int) (h : ¬ May a b) (w : World) :
    Calls Tryd.prog 72 #[pt a b] w fun e w' => e = .returned (.tuple #[pt 0 0, .int .i64 3]) ∧ Adds w w' := by
  go_enter Tryd.func72, Tryd.ntmps72
  go_wp2_with (go_at_call 78; refine (check_not _ _ (by assumption) _).mono ?_; rintro e w1 ⟨rfl, os, k, rfl⟩)
  refine bodyPost_ret (v := .tuple #[pt 0 0, .int .i64 3]) (by simp [results, Tryd.results72, go_sem]) rfl ⟨rfl, ?_⟩
  repeat (first | exact Adds.refl _ | refine Adds.alloc ?_ _ | refine Adds.more ?_ _ _ | refine Adds.drew ?_)

end Go.Proofs.YtdlkpkldlljhcaaDoor.Gs
