/-
  The statements' own functions awake (it returns true) and none, by contracts.
-/
import Derived.Test.YtflhdhmnhgmbpaaSets
namespace Go.Proofs.Ytflhdhmnhgmbpaa
open Go.RowKit
attribute [local go_sem] cell?_more frozen?_more setCell_more size_more tape_more drew_more drewN_more more_drew more_drewN more_more one_out plus_out plus_end lt_one le_p2 le_p3 le_p4 le_p5 le_p6 le_p7 le_p8 le_p9 le_p10 le_p11 le_p12 le_p13 le_p14 le_p15 le_p16 le_p17 le_p18 le_p19 le_p20 le_p21 le_p22 le_p23 le_p24 le_q0 le_q1 lt_q1 le_q2 lt_q2 le_q3 lt_q3 le_q4 lt_q4 le_q5 lt_q5 le_q6 lt_q6 le_q7 lt_q7 le_q8 lt_q8 le_q9 lt_q9 le_q10 lt_q10 le_q11 lt_q11 le_q12 lt_q12 le_q13 lt_q13 le_q14 lt_q14 le_q15 lt_q15 le_q16 lt_q16 le_q17 lt_q17 le_q18 lt_q18 le_q19 lt_q19 le_q20 lt_q20 le_q21 lt_q21 le_q22 lt_q22 le_q23 lt_q23 le_q24 lt_q24

/-- The pair that awake sets. -/
def fAwake : F := ⟨⟨#[107]⟩, ⟨#[118]⟩⟩

theorem may_nil : May [] := fun k h => absurd h (by simp)
theorem may_one (f : F) : May [f] := fun k h h0 => absurd h (by simp; omega)

theorem fAwake_set : setDoc [] fAwake = [fAwake] := by
  simp [setDoc, hasAt]

theorem fAwake_first : firstAt ⟨#[107]⟩ [fAwake] = 0 := by
  simp [firstAt, fAwake]

theorem fAwake_has : hasAt ⟨#[107]⟩ [fAwake] = true := by
  rw [hasAt_first _ (may_one _).rises, fAwake_first]
  rfl

theorem fAwake_got : got ⟨#[107]⟩ [fAwake] = ⟨#[118]⟩ := by
  unfold got
  simp only [fAwake_first]
  rfl

theorem awake_any (w : World) : Calls Try.prog 7 #[] w fun e w' => e = .returned (.bool true) ∧ Adds w w' := by
  have hs := fun w => set_ok (.slice none 0 0) [] fAwake w (Lst.none w) (by simp) may_nil
  have hg := fun s w (h : Lst w s [fAwake]) => get_ok s [fAwake] ⟨#[107]⟩ w h (by simp) (may_one _)
  simp only [fAwake_set] at hs
  simp only [fAwake_got, fAwake_has] at hg
  simp only [show fAwake.path = ⟨#[107]⟩ from rfl, show fAwake.val = ⟨#[118]⟩ from rfl] at hs
  go_enter Try.func7, Try.ntmps7
  go_wp2_with (first
    | (go_at_call 8; refine (hs _).mono ?_; rintro e w1 ⟨r, rfl, hl, os1, n1, rfl⟩)
    | (go_at_call 13; refine (hg _ _ hl).mono ?_; rintro e w1 ⟨rfl, os2, n2, rfl⟩))
  go_ret
  refine ⟨rfl, ?_⟩
  repeat (first | with_reducible exact Adds.refl _ | with_reducible refine Adds.alloc ?_ _ | with_reducible refine Adds.more ?_ _ _ | with_reducible refine Adds.drew ?_ | with_reducible refine Adds.drewN ?_ _)

theorem none_any (ao : Option Addr) (n cap : Nat) (e : Int) (w : World) :
    Calls Try.prog 12 #[.slice ao n cap, .int .i64 e] w fun x w' => x = .returned (.bool (decide (e = 1 ∧ n = 0))) ∧ w' = w := by
  by_cases h1 : e = 1 <;> by_cases h2 : n = 0
  all_goals
    have h1' : (e == 1) = decide (e = 1) := by simp [h1]
    have h2' : ((n : Int) == 0) = decide (n = 0) := by simp [h2]
    go_enter Try.func12, Try.ntmps12
    go_wp2
    all_goals
      go_ret
      refine ⟨?_, rfl⟩
      simp [h1, h2]

theorem none_yes (w : World) :
    Calls Try.prog 12 #[.slice none 0 0, .int .i64 1] w fun e w' => e = .returned (.bool true) ∧ w' = w := by
  have := none_any none 0 0 1 w
  rwa [decide_eq_true ⟨rfl, rfl⟩] at this

end Go.Proofs.Ytflhdhmnhgmbpaa
