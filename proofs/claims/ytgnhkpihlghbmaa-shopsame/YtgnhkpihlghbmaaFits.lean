/-
  The functions fits and Check of package rank, and the document's own Check, by contracts.
-/
import Derived.Test.YtgnhkpihlghbmaaBase
namespace Go.Proofs.Ytgnhkpihlghbmaa
open Go.RowKit
attribute [local go_sem] cell?_more frozen?_more setCell_more size_more tape_more drew_more drewN_more more_drew more_drewN more_more one_out plus_out lt_one le_p2 le_p3 le_p4 le_p5 le_p6 le_p7 le_p8 le_p9 le_p10 le_p11 le_p12
attribute [local go_sem] cell?_addTo

/-- Two values alike, part by part. -/
def V.eqv (a b : V) : Bool := decide (a.kind = b.kind ∧ a.num = b.num ∧ a.text.toList = b.text.toList ∧ a.re = b.re ∧ a.im = b.im)

theorem toList_inj {a b : ByteArray} (h : a.toList = b.toList) : a = b := by
  rw [ByteArray.toList_eq, ByteArray.toList_eq] at h
  obtain ⟨⟨x⟩⟩ := a
  obtain ⟨⟨y⟩⟩ := b
  simp at h
  rw [h]

theorem V.eqv_iff (a b : V) : a.eqv b = true ↔ a = b := by
  obtain ⟨ak, an, ax, ar, ai⟩ := a
  obtain ⟨bk, bn, bx, br, bi⟩ := b
  simp only [V.eqv, decide_eq_true_eq, V.mk.injEq]
  constructor
  · rintro ⟨h1, h2, h3, h4, h5⟩
    exact ⟨h1, h2, toList_inj h3, h4, h5⟩
  · rintro ⟨h1, h2, h3, h4, h5⟩
    exact ⟨h1, h2, by rw [h3], h4, h5⟩

theorem run_eql34 (ak an : Int) (ax : ByteArray) (ar ai bk bn : Int) (bx : ByteArray) (br bi : Int) (w : World) :
    (binOp .eql 52 (.agg #[.int .i64 ak, .int .i64 an, .string ax, .int .i64 ar, .int .i64 ai]) (.agg #[.int .i64 bk, .int .i64 bn, .string bx, .int .i64 br, .int .i64 bi])).run Try.prog w
      = .ok (.bool (V.eqv ⟨ak, an, ax, ar, ai⟩ ⟨bk, bn, bx, br, bi⟩)) w := by
  go_simp
  simp only [V.eqv]
  by_cases h1 : ak = bk <;> by_cases h2 : an = bn <;> by_cases h3 : ax.toList = bx.toList <;> by_cases h4 : ar = br <;> by_cases h5 : ai = bi <;> simp [h1, h2, h3, h4, h5]

theorem run_neq34 (ak an : Int) (ax : ByteArray) (ar ai bk bn : Int) (bx : ByteArray) (br bi : Int) (w : World) :
    (binOp .neq 52 (.agg #[.int .i64 ak, .int .i64 an, .string ax, .int .i64 ar, .int .i64 ai]) (.agg #[.int .i64 bk, .int .i64 bn, .string bx, .int .i64 br, .int .i64 bi])).run Try.prog w
      = .ok (.bool (!V.eqv ⟨ak, an, ax, ar, ai⟩ ⟨bk, bn, bx, br, bi⟩)) w := by
  go_simp
  simp only [V.eqv]
  by_cases h1 : ak = bk <;> by_cases h2 : an = bn <;> by_cases h3 : ax.toList = bx.toList <;> by_cases h4 : ar = br <;> by_cases h5 : ai = bi <;> simp [h1, h2, h3, h4, h5]

def V.fits (v : V) : Bool :=
  if v.kind = 1 then decide (v.text.toList = [] ∧ v.re = 0 ∧ v.im = 0 ∧ -9007199254740992 ≤ v.num ∧ v.num ≤ 9007199254740992)
  else if v.kind = 2 then decide (v.num = 0 ∧ v.re = 0 ∧ v.im = 0)
  else if v.kind = 3 then decide (v.num = 0 ∧ v.text.toList = [] ∧ -1048576 ≤ v.re ∧ v.re ≤ 1048576 ∧ -1048576 ≤ v.im ∧ v.im ≤ 1048576)
  else false

set_option maxHeartbeats 1000000 in
theorem fits_num (num : Int) (text : ByteArray) (re im : Int) (w : World) (b : Bool) (hd : V.eqv ⟨1, num, text, re, im⟩ ⟨1, num, ⟨#[]⟩, 0, 0⟩ = b) :
    Calls Try.prog 77 #[.agg #[.int .i64 1, .int .i64 num, .string text, .int .i64 re, .int .i64 im]] w fun e w' => e = .returned (.bool (b && decide (-9007199254740992 ≤ num ∧ num ≤ 9007199254740992))) ∧ Adds w w' := by
  have he := run_eql34 1 num text re im 1 num ⟨#[]⟩ 0 0
  rw [hd] at he
  clear hd
  cases b
  all_goals
    go_enter Try.func77, Try.ntmps77
    go_wp2
    refine wp_region_adds (by kernel_rfl) (by kernel_rfl) ?_
    repeat (go_big_quiet_step ((first | (go_at_call 80; exact Calls.adds_of (num_any _ _)) | (go_at_call 81; exact Calls.adds_of (within_any _ _ (by decide) (by decide) _)))))
    refine wpQuiet_nil ?_
    rintro _ ⟨p, rfl⟩
    unfold addTo
    go_wp2
    go_ret
    refine ⟨by simp, ?_⟩
    repeat (first | with_reducible exact Adds.refl _ | with_reducible refine Adds.alloc ?_ _ | with_reducible refine Adds.more ?_ _ _ | with_reducible refine Adds.drew ?_)

set_option maxHeartbeats 1000000 in
theorem fits_text (num : Int) (text : ByteArray) (re im : Int) (w : World) (b : Bool) (hd : V.eqv ⟨2, num, text, re, im⟩ ⟨2, 0, text, 0, 0⟩ = b) :
    Calls Try.prog 77 #[.agg #[.int .i64 2, .int .i64 num, .string text, .int .i64 re, .int .i64 im]] w fun e w' => e = .returned (.bool (b)) ∧ Adds w w' := by
  have he := run_eql34 2 num text re im 2 0 text 0 0
  rw [hd] at he
  clear hd
  skip
  all_goals
    go_enter Try.func77, Try.ntmps77
    go_wp2
    refine wp_region_adds (by kernel_rfl) (by kernel_rfl) ?_
    repeat (go_big_quiet_step ((first | (go_at_call 82; exact Calls.adds_of (text_any _ _)))))
    refine wpQuiet_nil ?_
    rintro _ ⟨p, rfl⟩
    unfold addTo
    go_wp2
    go_ret
    refine ⟨by simp, ?_⟩
    repeat (first | with_reducible exact Adds.refl _ | with_reducible refine Adds.alloc ?_ _ | with_reducible refine Adds.more ?_ _ _ | with_reducible refine Adds.drew ?_)

set_option maxHeartbeats 1000000 in
theorem fits_point (num : Int) (text : ByteArray) (re im : Int) (w : World) (b : Bool) (hd : V.eqv ⟨3, num, text, re, im⟩ ⟨3, 0, ⟨#[]⟩, re, im⟩ = b) :
    Calls Try.prog 77 #[.agg #[.int .i64 3, .int .i64 num, .string text, .int .i64 re, .int .i64 im]] w fun e w' => e = .returned (.bool (b && (decide (-1048576 ≤ re ∧ re ≤ 1048576) && decide (-1048576 ≤ im ∧ im ≤ 1048576)))) ∧ Adds w w' := by
  have he := run_eql34 3 num text re im 3 0 ⟨#[]⟩ re im
  rw [hd] at he
  clear hd
  obtain ⟨c, hc⟩ : ∃ c, decide (-1048576 ≤ re ∧ re ≤ 1048576) = c := ⟨_, rfl⟩
  rw [hc]
  have hw : ∀ w, Calls Try.prog 81 #[.int .i64 re, .int .i64 1048576] w fun e w' => e = .returned (.bool c) ∧ Adds w w' := by
    rw [← hc]
    exact within_any re 1048576 (by decide) (by decide)
  clear hc
  cases b <;> cases c
  all_goals
    go_enter Try.func77, Try.ntmps77
    go_wp2
    refine wp_region_adds (by kernel_rfl) (by kernel_rfl) ?_
    repeat (go_big_quiet_step ((first | (go_at_call 83; exact Calls.adds_of (point_any _ _ _)) | (go_at_call_of 81 (Value.int .i64 re); exact Calls.adds_of (hw _)) | (go_at_call 81; exact Calls.adds_of (within_any _ _ (by decide) (by decide) _)))))
    refine wpQuiet_nil ?_
    rintro _ ⟨p, rfl⟩
    unfold addTo
    go_wp2
    go_ret
    refine ⟨by simp, ?_⟩
    repeat (first | with_reducible exact Adds.refl _ | with_reducible refine Adds.alloc ?_ _ | with_reducible refine Adds.more ?_ _ _ | with_reducible refine Adds.drew ?_)

theorem fits_any (v : V) (w : World) :
    Calls Try.prog 77 #[v.val] w fun e w' => e = .returned (.bool v.fits) ∧ Adds w w' := by
  obtain ⟨kind, num, text, re, im⟩ := v
  by_cases h1 : kind = 1
  · subst h1
    refine (fits_num num text re im w _ rfl).mono ?_
    rintro e w' ⟨rfl, hb⟩
    refine ⟨?_, hb⟩
    simp [V.fits, V.eqv, Bool.decide_and, Bool.and_assoc]
  · by_cases h2 : kind = 2
    · subst h2
      refine (fits_text num text re im w _ rfl).mono ?_
      rintro e w' ⟨rfl, hb⟩
      refine ⟨?_, hb⟩
      simp [V.fits, V.eqv, Bool.decide_and]
    · by_cases h3 : kind = 3
      · subst h3
        refine (fits_point num text re im w _ rfl).mono ?_
        rintro e w' ⟨rfl, hb⟩
        refine ⟨?_, hb⟩
        simp [V.fits, V.eqv, Bool.decide_and, Bool.and_assoc]
      · have hf : V.fits ⟨kind, num, text, re, im⟩ = false := by simp [V.fits, h1, h2, h3]
        rw [hf]
        simp only [V.val]
        go_enter Try.func77, Try.ntmps77
        go_wp2
        go_ret
        exact ⟨rfl, (Adds.refl _).alloc _⟩

def V.check (v : V) : Int := if v.kind = 2 ∧ 256 < v.text.size then 3 else if v.fits then 0 else 1

theorem check_any (v : V) (w : World) :
    Calls Try.prog 69 #[v.val] w fun e w' => e = .returned (.int .i64 v.check) ∧ Adds w w' := by
  have hf := fits_any v
  obtain ⟨kind, num, text, re, im⟩ := v
  simp only [V.val] at *
  generalize hF : V.fits ⟨kind, num, text, re, im⟩ = f at hf
  have HF : Hid (V.fits ⟨kind, num, text, re, im⟩ = f) := hF
  clear hF
  by_cases hk : kind = 2
  · subst hk
    cases f
    all_goals
      go_enter Try.func69, Try.ntmps69
      go_wp2_with (go_at_call 77; refine (hf _).mono ?_; rintro e w' ⟨rfl, os, k, rfl⟩)
    all_goals
      go_ret
      have hF := HF.out
      first
        | exact ⟨by simp [V.check, hF]; omega, ((Adds.refl _).alloc _).more _ _⟩
        | exact ⟨by simp [V.check, hF]; omega, (Adds.refl _).alloc _⟩
  · cases f
    all_goals
      go_enter Try.func69, Try.ntmps69
      go_wp2_with (go_at_call 77; refine (hf _).mono ?_; rintro e w' ⟨rfl, os, k, rfl⟩)
      go_ret
      have hF := HF.out
      exact ⟨by simp [V.check, hF, hk], ((Adds.refl _).alloc _).more _ _⟩

theorem run_eql32 (a b c d : Int) (w : World) : (binOp .eql 50 (.agg #[.int .i64 a, .int .i64 b]) (.agg #[.int .i64 c, .int .i64 d])).run Try.prog w = .ok (.bool (decide (a = c ∧ b = d))) w := by
  go_simp
  by_cases h1 : a = c <;> by_cases h2 : b = d <;> simp [h1, h2]

theorem V.check_num (num : Int) (text : ByteArray) (re im : Int) : V.check ⟨1, num, text, re, im⟩ = if text.toList = [] ∧ (re = 0 ∧ im = 0) ∧ num ≤ 9007199254740992 ∧ -9007199254740992 ≤ num then 0 else 1 := by
  simp only [V.check, V.fits]
  by_cases h1 : text.toList = [] <;> by_cases h2 : re = 0 <;> by_cases h3 : im = 0 <;> by_cases h4 : num ≤ 9007199254740992 <;> by_cases h5 : -9007199254740992 ≤ num <;> simp [h1, h2, h3, h4, h5]

theorem V.check_point (num : Int) (text : ByteArray) (re im : Int) : V.check ⟨3, num, text, re, im⟩ = if num = 0 ∧ text.toList = [] ∧ (re ≤ 1048576 ∧ -1048576 ≤ re) ∧ im ≤ 1048576 ∧ -1048576 ≤ im then 0 else 1 := by
  have h : V.fits ⟨3, num, text, re, im⟩ = decide (num = 0 ∧ text.toList = [] ∧ (re ≤ 1048576 ∧ -1048576 ≤ re) ∧ im ≤ 1048576 ∧ -1048576 ≤ im) := by
    simp only [V.fits]
    simp only [show ((3 : Int) = 1) = False from by simp, show ((3 : Int) = 2) = False from by simp, if_false, if_true]
    apply decide_eq_decide.2
    constructor
    · rintro ⟨h1, h2, h3, h4, h5, h6⟩; exact ⟨h1, h2, ⟨h4, h3⟩, h6, h5⟩
    · rintro ⟨h1, h2, ⟨h4, h3⟩, h6, h5⟩; exact ⟨h1, h2, h3, h4, h5, h6⟩
  simp only [V.check, h, decide_eq_true_eq, show ((3 : Int) = 2) = False from by simp, false_and, if_false]

theorem V.check_text (num : Int) (text : ByteArray) (re im : Int) : V.check ⟨2, num, text, re, im⟩ = if 256 < text.size then 3 else if num = 0 ∧ re = 0 ∧ im = 0 then 0 else 1 := by
  simp only [V.check, V.fits]
  simp only [show ((2 : Int) = 1) = False from by simp, if_false, if_true, true_and, decide_eq_true_eq]

set_option maxHeartbeats 1000000 in
theorem refCheck_num (num : Int) (text : ByteArray) (re im : Int) (w : World) :
    Calls Try.prog 57 #[.agg #[.int .i64 1, .int .i64 num, .string text, .int .i64 re, .int .i64 im]] w fun e w' => e = .returned (.int .i64 (V.check ⟨1, num, text, re, im⟩)) ∧ Adds w w' := by
  have he := run_eql32 re im 0 0
  go_enter Try.func57, Try.ntmps57
  go_wp2
  all_goals
    go_ret
    refine ⟨?_, ((Adds.refl _).alloc _).alloc _⟩
    rw [V.check_num]
    first
      | (rw [if_pos ⟨by assumption, by assumption, by assumption, by assumption⟩]; rfl)
      | (rw [if_neg (by rintro ⟨a, b, c, d⟩; first | omega | exact absurd a (by assumption) | exact absurd b (by assumption))]; rfl)

set_option maxHeartbeats 1000000 in
theorem refCheck_point (num : Int) (text : ByteArray) (re im : Int) (w : World) :
    Calls Try.prog 57 #[.agg #[.int .i64 3, .int .i64 num, .string text, .int .i64 re, .int .i64 im]] w fun e w' => e = .returned (.int .i64 (V.check ⟨3, num, text, re, im⟩)) ∧ Adds w w' := by
  go_enter Try.func57, Try.ntmps57
  go_wp2
  all_goals
    go_ret
    refine ⟨?_, (((Adds.refl _).alloc _).alloc _).alloc _⟩
    rw [V.check_point]
    first
      | (rw [if_pos ⟨by assumption, by assumption, ⟨by assumption, by assumption⟩, by assumption, by assumption⟩]; rfl)
      | (rw [if_neg (by rintro ⟨a, b, ⟨c, d⟩, e, f⟩; first | omega | exact absurd a (by assumption) | exact absurd b (by assumption))]; rfl)

set_option maxHeartbeats 1000000 in
theorem refCheck_text (num : Int) (text : ByteArray) (re im : Int) (w : World) :
    Calls Try.prog 57 #[.agg #[.int .i64 2, .int .i64 num, .string text, .int .i64 re, .int .i64 im]] w fun e w' => e = .returned (.int .i64 (V.check ⟨2, num, text, re, im⟩)) ∧ Adds w w' := by
  have he := run_eql32 re im 0 0
  by_cases hs : 256 < text.size
  · have hi : (256 : Int) < (text.size : Int) := by omega
    go_enter Try.func57, Try.ntmps57
    go_wp2
    go_ret
    refine ⟨?_, (Adds.refl _).alloc _⟩
    rw [V.check_text, if_pos hs]
    rfl
  · have hi : ¬ (256 : Int) < (text.size : Int) := by omega
    go_enter Try.func57, Try.ntmps57
    go_wp2
    all_goals
      go_ret
      refine ⟨?_, ((Adds.refl _).alloc _).alloc _⟩
      rw [V.check_text, if_neg hs]
      first
        | (rw [if_pos (by refine ⟨?_, ?_, ?_⟩ <;> omega)]; rfl)
        | (rw [if_neg (by rintro ⟨a, b, c⟩; omega)]; rfl)

theorem refCheck_any (v : V) (w : World) :
    Calls Try.prog 57 #[v.val] w fun e w' => e = .returned (.int .i64 v.check) ∧ Adds w w' := by
  obtain ⟨kind, num, text, re, im⟩ := v
  by_cases h1 : kind = 1
  · subst h1; exact refCheck_num num text re im w
  by_cases h2 : kind = 2
  · subst h2; exact refCheck_text num text re im w
  by_cases h3 : kind = 3
  · subst h3; exact refCheck_point num text re im w
  have hc : V.check ⟨kind, num, text, re, im⟩ = 1 := by simp [V.check, V.fits, h1, h2, h3]
  rw [hc]
  simp only [V.val]
  go_enter Try.func57, Try.ntmps57
  go_wp2
  go_ret
  exact ⟨rfl, ((Adds.refl _).alloc _).alloc _⟩

end Go.Proofs.Ytgnhkpihlghbmaa
