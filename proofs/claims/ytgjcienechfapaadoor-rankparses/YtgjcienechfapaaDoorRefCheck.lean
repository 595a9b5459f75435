/-
  The document's own Check, by a contract: it tells what rank's Check tells.
-/
import Derived.Test.YtgjcienechfapaaDoorCmp
namespace Go.Proofs.YtgjcienechfapaaDoor
open Go.RowKit

theorem below_one (w : World) (o : Obj) : Below w.heap.size w (w.alloc o) := (Below.refl _ _).alloc (Nat.le_refl _) _
theorem below_two (w : World) (o o' : Obj) : Below w.heap.size w ((w.alloc o).alloc o') := (below_one w o).alloc (by simp) _
theorem below_three (w : World) (o o' o'' : Obj) : Below w.heap.size w (((w.alloc o).alloc o').alloc o'') := (below_two w o o').alloc (by simp; omega) _

theorem run_eql29 (a b c d : Int) (w : World) : (binOp .eql 29 (.agg #[.int .i64 a, .int .i64 b]) (.agg #[.int .i64 c, .int .i64 d])).run Tryd.prog w = .ok (.bool (decide (a = c ∧ b = d))) w := by
  go_simp
  by_cases h1 : a = c <;> by_cases h2 : b = d <;> simp [h1, h2]

theorem V.check_num (num : Int) (text : ByteArray) (re im : Int) : V.check ⟨1, num, text, re, im⟩ = if text.toList = [] ∧ (re = 0 ∧ im = 0) ∧ num ≤ 9007199254740992 ∧ -9007199254740992 ≤ num then 0 else 1 := by
  simp only [V.check, V.fits]
  by_cases h1 : text.toList = [] <;> by_cases h2 : re = 0 <;> by_cases h3 : im = 0 <;> by_cases h4 : num ≤ 9007199254740992 <;> by_cases h5 : -9007199254740992 ≤ num <;> simp [h1, h2, h3, h4, h5]

theorem V.check_point (num : Int) (text : ByteArray) (re im : Int) : V.check ⟨3, num, text, re, im⟩ = if num = 0 ∧ text.toList = [] ∧ (re ≤ 1048576 ∧ -1048576 ≤ re) ∧ im ≤ 1048576 ∧ -1048576 ≤ im then 0 else 1 := by
  have h : V.fits ⟨3, num, text, re, im⟩ = decide (num = 0 ∧ text.toList = [] ∧ (re ≤ 1048576 ∧ -1048576 ≤ re) ∧ im ≤ 1048576 ∧ -1048576 ≤ im) := by
    simp only [V.fits]
    simp only [show ((3 : Int) = 1) = False from by simp, show ((3 : Int) = 2) = False from by simp, if_false, if_true]
    apply decide_eq_decide.2
    constructor
    · rintro ⟨h1, h2, h3, h4, h5, h6⟩; exact ⟨h1, h2, ⟨h4, h3⟩, h6, h5⟩
    · rintro ⟨h1, h2, ⟨h4, h3⟩, h6, h5⟩; exact ⟨h1, h2, h3, h4, h5, h6⟩
  simp only [V.check, h, decide_eq_true_eq, show ((3 : Int) = 2) = False from by simp, false_and, if_false]

theorem V.check_text (num : Int) (text : ByteArray) (re im : Int) : V.check ⟨2, num, text, re, im⟩ = if 256 < text.size then 3 else if num = 0 ∧ re = 0 ∧ im = 0 then 0 else 1 := by
  simp only [V.check, V.fits]
  simp only [show ((2 : Int) = 1) = False from by simp, if_false, if_true, true_and, decide_eq_true_eq]

set_option maxHeartbeats 1000000 in
theorem refCheck_num (num : Int) (text : ByteArray) (re im : Int) (w : World) :
    Calls Tryd.prog 9 #[.agg #[.int .i64 1, .int .i64 num, .string text, .int .i64 re, .int .i64 im]] w fun e w' => e = .returned (.int .i64 (V.check ⟨1, num, text, re, im⟩)) ∧ Below w.heap.size w w' := by
  have he := run_eql29 re im 0 0
  go_enter Tryd.func9, Tryd.ntmps9
  go_wp2
  all_goals
    go_ret
    refine ⟨?_, below_two _ _ _⟩
    rw [V.check_num]
    first
      | (rw [if_pos ⟨by assumption, by assumption, by assumption, by assumption⟩]; rfl)
      | (rw [if_neg (by rintro ⟨a, b, c, d⟩; first | omega | exact absurd a (by assumption) | exact absurd b (by assumption))]; rfl)

set_option maxHeartbeats 1000000 in
theorem refCheck_point (num : Int) (text : ByteArray) (re im : Int) (w : World) :
    Calls Tryd.prog 9 #[.agg #[.int .i64 3, .int .i64 num, .string text, .int .i64 re, .int .i64 im]] w fun e w' => e = .returned (.int .i64 (V.check ⟨3, num, text, re, im⟩)) ∧ Below w.heap.size w w' := by
  go_enter Tryd.func9, Tryd.ntmps9
  go_wp2
  all_goals
    go_ret
    refine ⟨?_, below_three _ _ _ _⟩
    rw [V.check_point]
    first
      | (rw [if_pos ⟨by assumption, by assumption, ⟨by assumption, by assumption⟩, by assumption, by assumption⟩]; rfl)
      | (rw [if_neg (by rintro ⟨a, b, ⟨c, d⟩, e, f⟩; first | omega | exact absurd a (by assumption) | exact absurd b (by assumption))]; rfl)

set_option maxHeartbeats 1000000 in
theorem refCheck_text (num : Int) (text : ByteArray) (re im : Int) (w : World) :
    Calls Tryd.prog 9 #[.agg #[.int .i64 2, .int .i64 num, .string text, .int .i64 re, .int .i64 im]] w fun e w' => e = .returned (.int .i64 (V.check ⟨2, num, text, re, im⟩)) ∧ Below w.heap.size w w' := by
  have he := run_eql29 re im 0 0
  by_cases hs : 256 < text.size
  · have hi : (256 : Int) < (text.size : Int) := by omega
    go_enter Tryd.func9, Tryd.ntmps9
    go_wp2
    go_ret
    refine ⟨?_, below_one _ _⟩
    rw [V.check_text, if_pos hs]
    rfl
  · have hi : ¬ (256 : Int) < (text.size : Int) := by omega
    go_enter Tryd.func9, Tryd.ntmps9
    go_wp2
    all_goals
      go_ret
      refine ⟨?_, below_two _ _ _⟩
      rw [V.check_text, if_neg hs]
      first
        | (rw [if_pos (by refine ⟨?_, ?_, ?_⟩ <;> omega)]; rfl)
        | (rw [if_neg (by rintro ⟨a, b, c⟩; omega)]; rfl)

theorem refCheck_any (v : V) (w : World) :
    Calls Tryd.prog 9 #[v.val] w fun e w' => e = .returned (.int .i64 v.check) ∧ Below w.heap.size w w' := by
  obtain ⟨kind, num, text, re, im⟩ := v
  by_cases h1 : kind = 1
  · subst h1; exact refCheck_num num text re im w
  by_cases h2 : kind = 2
  · subst h2; exact refCheck_text num text re im w
  by_cases h3 : kind = 3
  · subst h3; exact refCheck_point num text re im w
  have hc : V.check ⟨kind, num, text, re, im⟩ = 1 := by simp [V.check, V.fits, h1, h2, h3]
  rw [hc]
  simp only [V.val]
  go_enter Tryd.func9, Tryd.ntmps9
  go_wp2
  go_ret
  exact ⟨rfl, below_two _ _ _⟩

end Go.Proofs.YtgjcienechfapaaDoor
