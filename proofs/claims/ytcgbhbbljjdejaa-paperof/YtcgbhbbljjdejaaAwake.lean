/-
  The statements' own function awake, by a contract: it returns true.
-/
import Derived.Test.YtcgbhbbljjdejaaSet
namespace Go.Proofs.Ytcgbhbbljjdejaa
open Go.RowKit
attribute [local go_sem] cell?_more frozen?_more setCell_more size_more tape_more drew_more drewN_more more_drew more_drewN more_more one_out plus_out plus_end lt_one le_p2 le_p3 le_p4 le_p5 le_p6 le_p7 le_p8 le_p9 le_p10 le_p11 le_p12 le_p13 le_p14 le_p15 le_p16 le_p17 le_p18 le_p19 le_p20 le_p21 le_p22 le_p23 le_p24 le_q0 le_q1 lt_q1 le_q2 lt_q2 le_q3 lt_q3 le_q4 lt_q4 le_q5 lt_q5 le_q6 lt_q6 le_q7 lt_q7 le_q8 lt_q8 le_q9 lt_q9 le_q10 lt_q10 le_q11 lt_q11 le_q12 lt_q12 le_q13 lt_q13 le_q14 lt_q14 le_q15 lt_q15 le_q16 lt_q16 le_q17 lt_q17 le_q18 lt_q18 le_q19 lt_q19 le_q20 lt_q20 le_q21 lt_q21 le_q22 lt_q22 le_q23 lt_q23 le_q24 lt_q24

/-- The field that awake sets. -/
def fAwake : F := ⟨⟨#[97, 46, 98]⟩, ⟨1, 7, ⟨#[]⟩, 0, 0⟩, by decide⟩

theorem ab_list : (⟨#[97, 46, 98]⟩ : ByteArray).toList = [97, 46, 98] := by rw [ByteArray.toList_eq]
theorem abb_list : (⟨#[97, 46, 46, 98]⟩ : ByteArray).toList = [97, 46, 46, 98] := by rw [ByteArray.toList_eq]

theorem ab_path : isPath ⟨#[97, 46, 98]⟩ = true := by
  unfold isPath
  rw [ab_list]
  decide

theorem abb_path : isPath ⟨#[97, 46, 46, 98]⟩ = false := by
  unfold isPath
  rw [abb_list]
  decide

theorem fAwake_ok : SetOk [] fAwake := by
  refine ⟨⟨by simp, fun k h => absurd h (by simp)⟩, ab_path, ?_⟩
  simp [V.check, V.fits, fAwake]

theorem fAwake_set : setDoc [] fAwake = [fAwake] := by
  simp [setDoc, hasAt]

theorem fAwake_first : firstAt ⟨#[97, 46, 98]⟩ [fAwake] = 0 := by
  simp [firstAt, fAwake]

theorem fAwake_got : got ⟨#[97, 46, 98]⟩ [fAwake] = ⟨1, 7, ⟨#[]⟩, 0, 0⟩ := by
  unfold got
  simp only [fAwake_first]
  rfl

theorem awake_any (w : World) : Calls Try.prog 8 #[] w fun e w' => e = .returned (.bool true) ∧ Adds w w' := by
  have hs := fun w => set_ok (.slice none 0 0) [] fAwake w (Lst.none w) fAwake_ok (.inr (by simp))
  have hg := fun s w (h : Lst w s [fAwake]) => get_any s [fAwake] ⟨#[97, 46, 98]⟩ w h (by simp)
  have h1 := path_any ⟨#[97, 46, 98]⟩
  have h2 := path_any ⟨#[97, 46, 46, 98]⟩
  rw [ab_path] at h1
  rw [abb_path] at h2
  simp only [fAwake_set] at hs
  simp only [fAwake_got, fAwake_first, List.length_singleton, show decide (0 < 1) = true from rfl] at hg
  simp only [V.val] at hs hg
  go_enter Try.func8, Try.ntmps8
  go_wp2_with (first
    | (go_at_call 16; refine (hs _).mono ?_; rintro e w1 ⟨r, rfl, hl, os1, n1, rfl⟩)
    | (go_at_call 19; refine (hg _ _ hl).mono ?_; rintro e w1 ⟨rfl, os2, n2, rfl⟩)
    | (go_at_call_of 9 (Value.string ⟨#[97, 46, 98]⟩); refine (h1 _).mono ?_; rintro e w1 ⟨rfl, hw⟩; subst w1)
    | (go_at_call_of 9 (Value.string ⟨#[97, 46, 46, 98]⟩); refine (h2 _).mono ?_; rintro e w1 ⟨rfl, hw⟩; subst w1))
  go_ret
  refine ⟨rfl, ?_⟩
  repeat (first | with_reducible exact Adds.refl _ | with_reducible refine Adds.alloc ?_ _ | with_reducible refine Adds.more ?_ _ _ | with_reducible refine Adds.drew ?_ | with_reducible refine Adds.drewN ?_ _)

end Go.Proofs.Ytcgbhbbljjdejaa
