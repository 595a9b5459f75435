/-
  The methods of nobody's tape by contracts; the law TapeNobody.
-/
import Derived.Test.YtdcbepdghiafhaaTawake
namespace Go.Proofs.Ytdcbepdghiafhaa
open Go.RowKit Go.Maps

/-- A pointer to a reel that New did not give. -/
def Bad (z : Value) (w : World) : Prop := Calls Try.prog 47 #[z] w fun e w' => e = .returned (.bool false) ∧ w' = w

theorem bad_nil (w : World) : Bad (.pointer none) w := by
  unfold Bad
  go_enter Try.func47, Try.ntmps47
  go_wp2
  go_ret
  exact ⟨rfl, rfl⟩

theorem bad_empty {w : World} {p : Nat} (c2 : w.cell? ⟨p, 2, none⟩ = some (.map none)) : Bad (ptr p) w := by
  unfold Bad
  have hb := neq_map_none w
  go_enter Try.func47, Try.ntmps47
  go_wp2
  go_ret
  exact ⟨rfl, rfl⟩

theorem bad_drop {z : Value} {w : World} (h : Bad z w) (k : Int) : Calls Try.prog 55 #[z, .int .i64 k] w fun e w' => e = .returned (.int .i64 1) ∧ w' = w := by
  go_enter Try.func55, Try.ntmps55
  go_wp2_with (go_at_call 47; refine Calls.mono h ?_; rintro e w1 ⟨rfl, rfl⟩)
  go_ret
  exact ⟨rfl, rfl⟩

theorem bad_given {z : Value} {w : World} (h : Bad z w) : Calls Try.prog 32 #[z] w fun e w' => e = .returned (.bool false) ∧ w' = w := by
  have k := bad_drop h (-1)
  go_enter Try.func32, Try.ntmps32
  go_wp2_with (go_at_call 55; refine k.mono ?_; rintro e w1 ⟨rfl, rfl⟩)
  go_ret
  exact ⟨rfl, rfl⟩

theorem bad_open {z : Value} {w : World} (h : Bad z w) : Calls Try.prog 11 #[z] w fun e w' => e = .returned (.tuple #[.pointer none, .int .i64 1]) ∧ w' = w := by
  have k := bad_given h
  go_enter Try.func11, Try.ntmps11
  go_wp2_with (go_at_call 32; refine k.mono ?_; rintro e w1 ⟨rfl, rfl⟩)
  go_ret2
  exact ⟨rfl, rfl⟩

/-- A pointer to a tape that Open did not give. -/
def BadT (z : Value) (w : World) : Prop := Calls Try.prog 41 #[z] w fun e w' => e = .returned (.bool false) ∧ w' = w

theorem badT_nil (w : World) : BadT (.pointer none) w := by
  unfold BadT
  go_enter Try.func41, Try.ntmps41
  go_wp2
  go_ret
  exact ⟨rfl, rfl⟩

theorem badT_empty {w : World} {p : Nat} (c0 : w.cell? ⟨p, 0, none⟩ = some (.pointer none)) : BadT (ptr p) w := by
  unfold BadT
  go_enter Try.func41, Try.ntmps41
  go_wp2
  go_ret
  exact ⟨rfl, rfl⟩

section
variable {z : Value} {w : World} (h : BadT z w)
include h

theorem badT_append (x : Value) : Calls Try.prog 15 #[z, x] w fun e w' => e = .returned (.int .i64 1) ∧ w' = w := by
  go_enter Try.func15, Try.ntmps15
  go_wp2_with (go_at_call 41; refine Calls.mono h ?_; rintro e w1 ⟨rfl, rfl⟩)
  go_ret
  exact ⟨rfl, rfl⟩

theorem badT_restart (x : Value) : Calls Try.prog 17 #[z, x] w fun e w' => e = .returned (.int .i64 1) ∧ w' = w := by
  go_enter Try.func17, Try.ntmps17
  go_wp2_with (go_at_call 41; refine Calls.mono h ?_; rintro e w1 ⟨rfl, rfl⟩)
  go_ret
  exact ⟨rfl, rfl⟩

theorem badT_len : Calls Try.prog 30 #[z] w fun e w' => e = .returned (.int .i64 0) ∧ w' = w := by
  go_enter Try.func30, Try.ntmps30
  go_wp2_with (go_at_call 41; refine Calls.mono h ?_; rintro e w1 ⟨rfl, rfl⟩)
  go_ret
  exact ⟨rfl, rfl⟩

theorem badT_grown : Calls Try.prog 31 #[z] w fun e w' => e = .returned (.int .i64 0) ∧ w' = w := by
  go_enter Try.func31, Try.ntmps31
  go_wp2_with (go_at_call 41; refine Calls.mono h ?_; rintro e w1 ⟨rfl, rfl⟩)
  go_ret
  exact ⟨rfl, rfl⟩

theorem badT_get : Calls Try.prog 29 #[z, .int .i64 0] w fun e w' => e = .returned (.tuple #[.slice none 0 0, .bool false]) ∧ w' = w := by
  have k := badT_len h
  go_enter Try.func29, Try.ntmps29
  go_wp2_with (go_at_call 30; refine k.mono ?_; rintro e w1 ⟨rfl, rfl⟩)
  go_ret2
  exact ⟨rfl, rfl⟩

end

theorem tapeNobody_any (b : Value) (w : World) : Calls Try.prog 6 #[b] w fun e w' => e = .returned (.bool true) ∧ Adds w w' := by
  go_enter Try.func6, Try.ntmps6
  go_wp2
  go_loopw [3] (fun i W => ∃ j : Nat, j ≤ 2 ∧ i = .int .i64 (j : Int) ∧ Adds w W) (fun i _ => (2 - intOf i).toNat)
  case atStart => exact ⟨0, by omega, rfl, Adds.refl _⟩
  case round =>
    obtain ⟨j, hj, rfl, hA⟩ := hrel
    have HA : Hid _ := hA
    clear hA
    have h012 : j = 0 ∨ j = 1 ∨ j = 2 := by omega
    rcases h012 with rfl | rfl | rfl
    · have hb := badT_nil wr
      go_wp2_with (first
        | (go_at_call 15; refine (badT_append hb _).mono ?_; rintro e w1 ⟨rfl, rfl⟩)
        | (go_at_call 17; refine (badT_restart hb _).mono ?_; rintro e w1 ⟨rfl, rfl⟩)
        | (go_at_call 29; refine (badT_get hb).mono ?_; rintro e w1 ⟨rfl, rfl⟩)
        | (go_at_call 30; refine (badT_len hb).mono ?_; rintro e w1 ⟨rfl, rfl⟩)
        | (go_at_call 31; refine (badT_grown hb).mono ?_; rintro e w1 ⟨rfl, rfl⟩))
      go_roundw
      case rel => exact ⟨1, by omega, by go_num, HA.out⟩
      case measure => simp [intOf]
    · have hb : BadT (ptr wr.heap.size) (wr.alloc (.cells #[.pointer none, .int .i64 0, .int .i64 0, .slice none 0 0] 67)) := badT_empty (by rw [cell_of_row _ _ _ _ _ _ (new_block wr _)]; rfl)
      have HB : Hid (Adds wr (wr.alloc (.cells #[.pointer none, .int .i64 0, .int .i64 0, .slice none 0 0] 67))) := (Adds.refl _).alloc _
      go_wp2_with (first
        | (go_at_call 15; refine (badT_append hb _).mono ?_; rintro e w1 ⟨rfl, hw1⟩; subst hw1)
        | (go_at_call 17; refine (badT_restart hb _).mono ?_; rintro e w1 ⟨rfl, hw1⟩; subst hw1)
        | (go_at_call 29; refine (badT_get hb).mono ?_; rintro e w1 ⟨rfl, hw1⟩; subst hw1)
        | (go_at_call 30; refine (badT_len hb).mono ?_; rintro e w1 ⟨rfl, hw1⟩; subst hw1)
        | (go_at_call 31; refine (badT_grown hb).mono ?_; rintro e w1 ⟨rfl, hw1⟩; subst hw1))
      go_roundw
      case rel => exact ⟨2, by omega, by go_num, Adds.trans HA.out HB.out⟩
      case measure => simp [intOf]
    · have hb : Bad (ptr wr.heap.size) (wr.alloc (.cells #[.int .i64 0, .int .i64 0, .map none, .slice none 0 0, .int .i64 0, .bool false, .int .i64 0, .bool false] 74)) := bad_empty (by rw [cell_of_row _ _ _ _ _ _ (new_block wr _)]; rfl)
      have kO1 := bad_open (bad_nil wr)
      have kO2 := bad_open hb
      have HB : Hid (Adds wr (wr.alloc (.cells #[.int .i64 0, .int .i64 0, .map none, .slice none 0 0, .int .i64 0, .bool false, .int .i64 0, .bool false] 74))) := (Adds.refl _).alloc _
      go_wp2_with (first
        | (go_at_call 11; refine kO1.mono ?_; clear kO1; rintro e w1 ⟨rfl, rfl⟩)
        | (go_at_call 11; refine kO2.mono ?_; rintro e w1 ⟨rfl, hw1⟩; subst hw1)
        | (go_at_call 10; refine (awake_any _).mono ?_; rintro e w2 ⟨rfl, a2⟩))
      go_ret
      exact ⟨rfl, (Adds.trans HA.out HB.out).trans a2⟩

end Go.Proofs.Ytdcbepdghiafhaa
