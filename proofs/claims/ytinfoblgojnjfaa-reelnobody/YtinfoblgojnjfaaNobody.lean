/-
  The methods of nobody's reel by contracts; the law ReelNobody.
-/
import Derived.Test.YtinfoblgojnjfaaAwake
namespace Go.Proofs.Ytinfoblgojnjfaa
open Go.RowKit Go.Maps

/-- A pointer to a reel that New did not give. -/
def Bad (z : Value) (w : World) : Prop := Calls Try.prog 30 #[z] w fun e w' => e = .returned (.bool false) ∧ w' = w

theorem bad_nil (w : World) : Bad (.pointer none) w := by
  unfold Bad
  go_enter Try.func30, Try.ntmps30
  go_wp2
  go_ret
  exact ⟨rfl, rfl⟩

theorem bad_empty {w : World} {p : Nat} (c2 : w.cell? ⟨p, 2, none⟩ = some (.map none)) : Bad (ptr p) w := by
  unfold Bad
  have hb := neq_map_none w
  go_enter Try.func30, Try.ntmps30
  go_wp2
  go_ret
  exact ⟨rfl, rfl⟩

section
variable {z : Value} {w : World} (h : Bad z w)
include h

theorem bad_append (k : Int) (x : Value) : Calls Try.prog 12 #[z, .int .i64 k, x] w fun e w' => e = .returned (.int .i64 1) ∧ w' = w := by
  go_enter Try.func12, Try.ntmps12
  go_wp2_with (go_at_call 30; refine Calls.mono h ?_; rintro e w1 ⟨rfl, rfl⟩)
  go_ret
  exact ⟨rfl, rfl⟩

theorem bad_drop (k : Int) : Calls Try.prog 13 #[z, .int .i64 k] w fun e w' => e = .returned (.int .i64 1) ∧ w' = w := by
  go_enter Try.func13, Try.ntmps13
  go_wp2_with (go_at_call 30; refine Calls.mono h ?_; rintro e w1 ⟨rfl, rfl⟩)
  go_ret
  exact ⟨rfl, rfl⟩

theorem bad_sync : Calls Try.prog 14 #[z] w fun e w' => e = .returned (.tuple #[]) ∧ w' = w := by
  go_enter Try.func14, Try.ntmps14
  go_wp2_with (go_at_call 30; refine Calls.mono h ?_; rintro e w1 ⟨rfl, rfl⟩)
  go_end0
  exact ⟨rfl, rfl⟩

theorem bad_files : Calls Try.prog 15 #[z] w fun e w' => e = .returned (.slice none 0 0) ∧ w' = w := by
  go_enter Try.func15, Try.ntmps15
  go_wp2_with (go_at_call 30; refine Calls.mono h ?_; rintro e w1 ⟨rfl, rfl⟩)
  go_ret
  exact ⟨rfl, rfl⟩

theorem bad_read (k : Int) : Calls Try.prog 16 #[z, .int .i64 k] w fun e w' => e = .returned (.tuple #[.slice none 0 0, .bool false]) ∧ w' = w := by
  go_enter Try.func16, Try.ntmps16
  go_wp2_with (go_at_call 30; refine Calls.mono h ?_; rintro e w1 ⟨rfl, rfl⟩)
  go_ret2
  exact ⟨rfl, rfl⟩

theorem bad_arm (k : Int) : Calls Try.prog 17 #[z, .int .i64 k] w fun e w' => e = .returned (.tuple #[]) ∧ w' = w := by
  go_enter Try.func17, Try.ntmps17
  go_wp2_with (go_at_call 30; refine Calls.mono h ?_; rintro e w1 ⟨rfl, rfl⟩)
  go_end0
  exact ⟨rfl, rfl⟩

theorem bad_crash (k : Int) : Calls Try.prog 18 #[z, .int .i64 k] w fun e w' => e = .returned (.tuple #[]) ∧ w' = w := by
  go_enter Try.func18, Try.ntmps18
  go_wp2_with (go_at_call 30; refine Calls.mono h ?_; rintro e w1 ⟨rfl, rfl⟩)
  exact bodyPost_ret (results_none rfl _ _ _) rfl ⟨rfl, rfl⟩

theorem bad_pending : Calls Try.prog 19 #[z] w fun e w' => e = .returned (.int .i64 0) ∧ w' = w := by
  go_enter Try.func19, Try.ntmps19
  go_wp2_with (go_at_call 30; refine Calls.mono h ?_; rintro e w1 ⟨rfl, rfl⟩)
  go_ret
  exact ⟨rfl, rfl⟩

theorem bad_left : Calls Try.prog 20 #[z] w fun e w' => e = .returned (.int .i64 0) ∧ w' = w := by
  go_enter Try.func20, Try.ntmps20
  go_wp2_with (go_at_call 30; refine Calls.mono h ?_; rintro e w1 ⟨rfl, rfl⟩)
  go_ret
  exact ⟨rfl, rfl⟩

theorem bad_gone : Calls Try.prog 21 #[z] w fun e w' => e = .returned (.bool false) ∧ w' = w := by
  go_enter Try.func21, Try.ntmps21
  go_wp2_with (go_at_call 30; refine Calls.mono h ?_; rintro e w1 ⟨rfl, rfl⟩)
  go_ret
  exact ⟨rfl, rfl⟩

end

theorem reelNobody_any (a0 k n : Int) (ao : Option Addr) (l c : Nat) (w : World) :
    Calls Try.prog 5 #[.agg #[.int .i64 a0, .int .i64 k, .slice ao l c, .int .i64 n]] w fun e w' => e = .returned (.bool true) ∧ Adds w w' := by
  go_enter Try.func5, Try.ntmps5
  go_wp2
  go_loopw [3] (fun i W => ∃ j : Nat, j ≤ 2 ∧ i = .int .i64 (j : Int) ∧ Adds (w.alloc (.cells #[.int .i64 a0, .int .i64 k, .slice ao l c, .int .i64 n] 38)) W) (fun i _ => (2 - intOf i).toNat)
  case atStart => exact ⟨0, by omega, rfl, Adds.refl _⟩
  case round =>
    obtain ⟨j, hj, rfl, hA⟩ := hrel
    have hbx := Adds.at hA (new_block w (.cells #[.int .i64 a0, .int .i64 k, .slice ao l c, .int .i64 n] 38))
    have b1 : wr.cell? ⟨w.heap.size, 1, none⟩ = some (.int .i64 k) := cell_of_row wr w.heap.size 1 _ _ _ hbx
    have b2 : wr.cell? ⟨w.heap.size, 2, none⟩ = some (.slice ao l c) := cell_of_row wr w.heap.size 2 _ _ _ hbx
    have b3 : wr.cell? ⟨w.heap.size, 3, none⟩ = some (.int .i64 n) := cell_of_row wr w.heap.size 3 _ _ _ hbx
    have hlt := (Array.getElem?_eq_some_iff.1 hbx).1
    have HA : Hid _ := hA
    clear hA hbx
    have h012 : j = 0 ∨ j = 1 ∨ j = 2 := by omega
    rcases h012 with rfl | rfl | rfl
    · have hb := bad_nil wr
      go_wp2_with (first
        | (go_at_call 12; refine (bad_append hb _ _).mono ?_; rintro e w1 ⟨rfl, rfl⟩)
        | (go_at_call 13; refine (bad_drop hb _).mono ?_; rintro e w1 ⟨rfl, rfl⟩)
        | (go_at_call 14; refine (bad_sync hb).mono ?_; rintro e w1 ⟨rfl, rfl⟩)
        | (go_at_call 15; refine (bad_files hb).mono ?_; rintro e w1 ⟨rfl, rfl⟩)
        | (go_at_call 16; refine (bad_read hb _).mono ?_; rintro e w1 ⟨rfl, rfl⟩)
        | (go_at_call 17; refine (bad_arm hb _).mono ?_; rintro e w1 ⟨rfl, rfl⟩)
        | (go_at_call 18; refine (bad_crash hb _).mono ?_; rintro e w1 ⟨rfl, rfl⟩)
        | (go_at_call 19; refine (bad_pending hb).mono ?_; rintro e w1 ⟨rfl, rfl⟩)
        | (go_at_call 20; refine (bad_left hb).mono ?_; rintro e w1 ⟨rfl, rfl⟩)
        | (go_at_call 21; refine (bad_gone hb).mono ?_; rintro e w1 ⟨rfl, rfl⟩))
      go_roundw
      case rel => exact ⟨1, by omega, by go_num, HA.out⟩
      case measure => simp [intOf]
    · have hb : Bad (ptr wr.heap.size) (wr.alloc (.cells #[.int .i64 0, .int .i64 0, .map none, .slice none 0 0, .int .i64 0, .bool false, .int .i64 0, .bool false] 55)) := bad_empty (by rw [cell_of_row _ _ _ _ _ _ (new_block wr _)]; rfl)
      have HB : Hid (Adds wr (wr.alloc (.cells #[.int .i64 0, .int .i64 0, .map none, .slice none 0 0, .int .i64 0, .bool false, .int .i64 0, .bool false] 55))) := (Adds.refl _).alloc _
      go_wp2_with (first
        | (go_at_call 12; refine (bad_append hb _ _).mono ?_; rintro e w1 ⟨rfl, hw1⟩; subst hw1)
        | (go_at_call 13; refine (bad_drop hb _).mono ?_; rintro e w1 ⟨rfl, hw1⟩; subst hw1)
        | (go_at_call 14; refine (bad_sync hb).mono ?_; rintro e w1 ⟨rfl, hw1⟩; subst hw1)
        | (go_at_call 15; refine (bad_files hb).mono ?_; rintro e w1 ⟨rfl, hw1⟩; subst hw1)
        | (go_at_call 16; refine (bad_read hb _).mono ?_; rintro e w1 ⟨rfl, hw1⟩; subst hw1)
        | (go_at_call 17; refine (bad_arm hb _).mono ?_; rintro e w1 ⟨rfl, hw1⟩; subst hw1)
        | (go_at_call 18; refine (bad_crash hb _).mono ?_; rintro e w1 ⟨rfl, hw1⟩; subst hw1)
        | (go_at_call 19; refine (bad_pending hb).mono ?_; rintro e w1 ⟨rfl, hw1⟩; subst hw1)
        | (go_at_call 20; refine (bad_left hb).mono ?_; rintro e w1 ⟨rfl, hw1⟩; subst hw1)
        | (go_at_call 21; refine (bad_gone hb).mono ?_; rintro e w1 ⟨rfl, hw1⟩; subst hw1))
      go_roundw
      case rel => exact ⟨2, by omega, by go_num, Adds.trans HA.out HB.out⟩
      case measure => simp [intOf]
    · go_wp2_with (go_at_call 7; refine (awake_any _).mono ?_; rintro e w1 ⟨rfl, a1⟩)
      go_ret
      exact ⟨rfl, (((Adds.refl _).alloc _).trans HA.out).trans a1⟩

end Go.Proofs.Ytinfoblgojnjfaa
