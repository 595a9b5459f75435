/-
  The functions fits, Check, Compare and Less, by contracts.
-/
import Derived.Test.YtgjcienechfapaaDoorBase
namespace Go.Proofs.YtgjcienechfapaaDoor
open Go.RowKit

theorem box5 {w : World} {a b c d e : Value} {t : TypeId} (p : Later (w.alloc (.cells #[a, b, c, d, e] t))) :
    p.world.cell? ⟨w.heap.size, 0, none⟩ = some a ∧ p.world.cell? ⟨w.heap.size, 1, none⟩ = some b ∧ p.world.cell? ⟨w.heap.size, 2, none⟩ = some c ∧ p.world.cell? ⟨w.heap.size, 3, none⟩ = some d ∧ p.world.cell? ⟨w.heap.size, 4, none⟩ = some e := by
  have hs : w.heap.size < (w.alloc (.cells #[a, b, c, d, e] t)).heap.size := by simp
  refine ⟨?_, ?_, ?_, ?_, ?_⟩ <;> (rw [p.below.cell (by exact hs)]; simp)

/-- Two values alike, part by part. -/
def V.eqv (a b : V) : Bool := decide (a.kind = b.kind ∧ a.num = b.num ∧ a.text.toList = b.text.toList ∧ a.re = b.re ∧ a.im = b.im)

theorem toList_inj {a b : ByteArray} (h : a.toList = b.toList) : a = b := by
  rw [ByteArray.toList_eq, ByteArray.toList_eq] at h
  obtain ⟨⟨x⟩⟩ := a
  obtain ⟨⟨y⟩⟩ := b
  simp at h
  rw [h]

theorem V.eqv_iff (a b : V) : a.eqv b = true ↔ a = b := by
  obtain ⟨ak, an, ax, ar, ai⟩ := a
  obtain ⟨bk, bn, bx, br, bi⟩ := b
  simp only [V.eqv, decide_eq_true_eq, V.mk.injEq]
  constructor
  · rintro ⟨h1, h2, h3, h4, h5⟩
    exact ⟨h1, h2, toList_inj h3, h4, h5⟩
  · rintro ⟨h1, h2, h3, h4, h5⟩
    exact ⟨h1, h2, by rw [h3], h4, h5⟩

theorem run_eql33 (ak an : Int) (ax : ByteArray) (ar ai bk bn : Int) (bx : ByteArray) (br bi : Int) (w : World) :
    (binOp .eql 31 (.agg #[.int .i64 ak, .int .i64 an, .string ax, .int .i64 ar, .int .i64 ai]) (.agg #[.int .i64 bk, .int .i64 bn, .string bx, .int .i64 br, .int .i64 bi])).run Tryd.prog w
      = .ok (.bool (V.eqv ⟨ak, an, ax, ar, ai⟩ ⟨bk, bn, bx, br, bi⟩)) w := by
  go_simp
  simp only [V.eqv]
  by_cases h1 : ak = bk <;> by_cases h2 : an = bn <;> by_cases h3 : ax.toList = bx.toList <;> by_cases h4 : ar = br <;> by_cases h5 : ai = bi <;> simp [h1, h2, h3, h4, h5]

theorem run_neq33 (ak an : Int) (ax : ByteArray) (ar ai bk bn : Int) (bx : ByteArray) (br bi : Int) (w : World) :
    (binOp .neq 31 (.agg #[.int .i64 ak, .int .i64 an, .string ax, .int .i64 ar, .int .i64 ai]) (.agg #[.int .i64 bk, .int .i64 bn, .string bx, .int .i64 br, .int .i64 bi])).run Tryd.prog w
      = .ok (.bool (!V.eqv ⟨ak, an, ax, ar, ai⟩ ⟨bk, bn, bx, br, bi⟩)) w := by
  go_simp
  simp only [V.eqv]
  by_cases h1 : ak = bk <;> by_cases h2 : an = bn <;> by_cases h3 : ax.toList = bx.toList <;> by_cases h4 : ar = br <;> by_cases h5 : ai = bi <;> simp [h1, h2, h3, h4, h5]

def V.fits (v : V) : Bool :=
  if v.kind = 1 then decide (v.text.toList = [] ∧ v.re = 0 ∧ v.im = 0 ∧ -9007199254740992 ≤ v.num ∧ v.num ≤ 9007199254740992)
  else if v.kind = 2 then decide (v.num = 0 ∧ v.re = 0 ∧ v.im = 0)
  else if v.kind = 3 then decide (v.num = 0 ∧ v.text.toList = [] ∧ -1048576 ≤ v.re ∧ v.re ≤ 1048576 ∧ -1048576 ≤ v.im ∧ v.im ≤ 1048576)
  else false

theorem within_later (n m : Int) (hm : 0 ≤ m) (hm' : m ≤ 9223372036854775807) (w : World) :
    Calls Tryd.prog 27 #[.int .i64 n, .int .i64 m] w fun e w' => e = .returned (.bool (decide (-m ≤ n ∧ n ≤ m))) ∧ Below w.heap.size w w' :=
  (within_any n m hm hm' w).mono fun _ _ h => ⟨h.1, h.2 ▸ Below.refl _ _⟩

theorem fits_num (num : Int) (text : ByteArray) (re im : Int) (w : World) (b : Bool) (hd : V.eqv ⟨1, num, text, re, im⟩ ⟨1, num, ⟨#[]⟩, 0, 0⟩ = b) :
    Calls Tryd.prog 18 #[.agg #[.int .i64 1, .int .i64 num, .string text, .int .i64 re, .int .i64 im]] w fun e w' => e = .returned (.bool (b && decide (-9007199254740992 ≤ num ∧ num ≤ 9007199254740992))) ∧ Below w.heap.size w w' := by
  have hb := fun p => box5 (w := w) (a := .int .i64 1) (b := .int .i64 num) (c := .string text) (d := .int .i64 re) (e := .int .i64 im) (t := 31) p
  have h0 := fun p => (hb p).1
  have h1 := fun p => (hb p).2.1
  have h2 := fun p => (hb p).2.2.1
  have h3 := fun p => (hb p).2.2.2.1
  have h4 := fun p => (hb p).2.2.2.2
  clear hb
  have he := run_eql33 1 num text re im 1 num ⟨#[]⟩ 0 0
  rw [hd] at he
  clear hd
  cases b
  all_goals
    go_enter Tryd.func18, Tryd.ntmps18
    go_wp2
    refine wp_region_quiet_later (by kernel_rfl) (by kernel_rfl) ?_
    repeat (go_big_quiet_step ((first | (go_at_call 15; exact Calls.later_of (num_any _ _)) | (go_at_call 27; exact Calls.later_of (within_later _ _ (by decide) (by decide) _)))))
    refine wpQuiet_nil ?_
    rintro _ ⟨p, rfl⟩
    go_wp2
    go_ret
    exact ⟨by simp, ((Below.refl _ _).alloc (Nat.le_refl _) _).trans (p.below.mono (by simp))⟩

theorem fits_text (num : Int) (text : ByteArray) (re im : Int) (w : World) (b : Bool) (hd : V.eqv ⟨2, num, text, re, im⟩ ⟨2, 0, text, 0, 0⟩ = b) :
    Calls Tryd.prog 18 #[.agg #[.int .i64 2, .int .i64 num, .string text, .int .i64 re, .int .i64 im]] w fun e w' => e = .returned (.bool b) ∧ Below w.heap.size w w' := by
  have hb := fun p => box5 (w := w) (a := .int .i64 2) (b := .int .i64 num) (c := .string text) (d := .int .i64 re) (e := .int .i64 im) (t := 31) p
  have h0 := fun p => (hb p).1
  have h1 := fun p => (hb p).2.1
  have h2 := fun p => (hb p).2.2.1
  have h3 := fun p => (hb p).2.2.2.1
  have h4 := fun p => (hb p).2.2.2.2
  clear hb
  have he := run_eql33 2 num text re im 2 0 text 0 0
  rw [hd] at he
  clear hd
  go_enter Tryd.func18, Tryd.ntmps18
  go_wp2
  refine wp_region_quiet_later (by kernel_rfl) (by kernel_rfl) ?_
  repeat (go_big_quiet_step ((first | (go_at_call 13; exact Calls.later_of (text_any _ _)))))
  refine wpQuiet_nil ?_
  rintro _ ⟨p, rfl⟩
  go_wp2
  go_ret
  exact ⟨by simp, ((Below.refl _ _).alloc (Nat.le_refl _) _).trans (p.below.mono (by simp))⟩

theorem box7 {w : World} {a b c d e f g : Value} {t u : TypeId} (p : Later ((w.alloc (.cells #[a, b, c, d, e] t)).alloc (.cells #[f, g] u))) :
    p.world.cell? ⟨w.heap.size, 0, none⟩ = some a ∧ p.world.cell? ⟨w.heap.size, 1, none⟩ = some b ∧ p.world.cell? ⟨w.heap.size, 2, none⟩ = some c ∧ p.world.cell? ⟨w.heap.size, 3, none⟩ = some d ∧ p.world.cell? ⟨w.heap.size, 4, none⟩ = some e ∧
    p.world.cell? ⟨w.heap.size + 1, 0, none⟩ = some f ∧ p.world.cell? ⟨w.heap.size + 1, 1, none⟩ = some g := by
  have hs : w.heap.size < ((w.alloc (.cells #[a, b, c, d, e] t)).alloc (.cells #[f, g] u)).heap.size := by simp; omega
  have hs2 : w.heap.size + 1 < ((w.alloc (.cells #[a, b, c, d, e] t)).alloc (.cells #[f, g] u)).heap.size := by simp
  refine ⟨?_, ?_, ?_, ?_, ?_, ?_, ?_⟩
  iterate 5 (rw [p.below.cell (by exact hs)]; simp)
  iterate 2 (rw [p.below.cell (by exact hs2)]; simp)

set_option maxHeartbeats 1000000 in
theorem fits_point (num : Int) (text : ByteArray) (re im : Int) (w : World) (b : Bool) (hd : V.eqv ⟨3, num, text, re, im⟩ ⟨3, 0, ⟨#[]⟩, re, im⟩ = b) :
    Calls Tryd.prog 18 #[.agg #[.int .i64 3, .int .i64 num, .string text, .int .i64 re, .int .i64 im]] w fun e w' => e = .returned (.bool (b && (decide (-1048576 ≤ re ∧ re ≤ 1048576) && decide (-1048576 ≤ im ∧ im ≤ 1048576)))) ∧ Below w.heap.size w w' := by
  have hb := fun p => box7 (w := w) (a := .int .i64 3) (b := .int .i64 num) (c := .string text) (d := .int .i64 re) (e := .int .i64 im) (f := .int .i64 re) (g := .int .i64 im) (t := 31) (u := 29) p
  have h0 := fun p => (hb p).1
  have h1 := fun p => (hb p).2.1
  have h2 := fun p => (hb p).2.2.1
  have h3 := fun p => (hb p).2.2.2.1
  have h4 := fun p => (hb p).2.2.2.2.1
  have h5 := fun p => (hb p).2.2.2.2.2.1
  have h6 := fun p => (hb p).2.2.2.2.2.2
  clear hb
  have he := run_eql33 3 num text re im 3 0 ⟨#[]⟩ re im
  rw [hd] at he
  clear hd
  obtain ⟨c, hc⟩ : ∃ c, decide (-1048576 ≤ re ∧ re ≤ 1048576) = c := ⟨_, rfl⟩
  rw [hc]
  have hw : ∀ w, Calls Tryd.prog 27 #[.int .i64 re, .int .i64 1048576] w fun e w' => e = .returned (.bool c) ∧ Below w.heap.size w w' := by
    rw [← hc]
    exact within_later re 1048576 (by decide) (by decide)
  clear hc
  cases b <;> cases c
  all_goals
    go_enter Tryd.func18, Tryd.ntmps18
    go_wp2
    refine wp_region_quiet_later (by kernel_rfl) (by kernel_rfl) ?_
    repeat (go_big_quiet_step ((first | (go_at_call 28; exact Calls.later_of (point_any _ _ _)) | (go_at_call_of 27 (Value.int .i64 re); exact Calls.later_of (hw _)) | (go_at_call 27; exact Calls.later_of (within_later _ _ (by decide) (by decide) _)))))
    refine wpQuiet_nil ?_
    rintro _ ⟨p, rfl⟩
    go_wp2
    go_ret
    exact ⟨by simp, (((Below.refl _ _).alloc (Nat.le_refl _) _).alloc (by simp) _).trans (p.below.mono (by simp; omega))⟩

theorem fits_any (v : V) (w : World) :
    Calls Tryd.prog 18 #[v.val] w fun e w' => e = .returned (.bool v.fits) ∧ Below w.heap.size w w' := by
  obtain ⟨kind, num, text, re, im⟩ := v
  by_cases h1 : kind = 1
  · subst h1
    refine (fits_num num text re im w _ rfl).mono ?_
    rintro e w' ⟨rfl, hb⟩
    refine ⟨?_, hb⟩
    simp [V.fits, V.eqv, Bool.decide_and, Bool.and_assoc]
  · by_cases h2 : kind = 2
    · subst h2
      refine (fits_text num text re im w _ rfl).mono ?_
      rintro e w' ⟨rfl, hb⟩
      refine ⟨?_, hb⟩
      simp [V.fits, V.eqv, Bool.decide_and]
    · by_cases h3 : kind = 3
      · subst h3
        refine (fits_point num text re im w _ rfl).mono ?_
        rintro e w' ⟨rfl, hb⟩
        refine ⟨?_, hb⟩
        simp [V.fits, V.eqv, Bool.decide_and, Bool.and_assoc]
      · have hf : V.fits ⟨kind, num, text, re, im⟩ = false := by simp [V.fits, h1, h2, h3]
        rw [hf]
        simp only [V.val]
        go_enter Tryd.func18, Tryd.ntmps18
        go_wp2
        go_ret
        exact ⟨rfl, (Below.refl _ _).alloc (Nat.le_refl _) _⟩

end Go.Proofs.YtgjcienechfapaaDoor
