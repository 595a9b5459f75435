/-
  The functions fits and Check of package rank, and the document's own Check, by contracts.
  Paths and keys: the functions inWord, Key and Path of package paper, and the document's own Path, by contracts.
-/
import Derived.Test.YtiacnmcdfpmcfaaGreatDoorQ00
namespace Go.Proofs.YtiacnmcdfpmcfaaGreatDoor
open Go.RowKit
attribute [local go_sem] cell?_more frozen?_more setCell_more size_more tape_more drew_more drewN_more more_drew more_drewN more_more one_out plus_out lt_one le_p2 le_p3 le_p4 le_p5 le_p6 le_p7 le_p8 le_p9 le_p10 le_p11 le_p12
attribute [local go_sem] cell?_addTo

/-- Two values alike, part by part. -/
def V.eqv (a b : V) : Bool := decide (a.kind = b.kind ∧ a.num = b.num ∧ a.text.toList = b.text.toList ∧ a.re = b.re ∧ a.im = b.im)

theorem toList_inj {a b : ByteArray} (h : a.toList = b.toList) : a = b := by
  rw [ByteArray.toList_eq, ByteArray.toList_eq] at h
  obtain ⟨⟨x⟩⟩ := a
  obtain ⟨⟨y⟩⟩ := b
  simp at h
  rw [h]

theorem V.eqv_iff (a b : V) : a.eqv b = true ↔ a = b := by
  obtain ⟨ak, an, ax, ar, ai⟩ := a
  obtain ⟨bk, bn, bx, br, bi⟩ := b
  simp only [V.eqv, decide_eq_true_eq, V.mk.injEq]
  constructor
  · rintro ⟨h1, h2, h3, h4, h5⟩
    exact ⟨h1, h2, toList_inj h3, h4, h5⟩
  · rintro ⟨h1, h2, h3, h4, h5⟩
    exact ⟨h1, h2, by rw [h3], h4, h5⟩

theorem run_eql34 (ak an : Int) (ax : ByteArray) (ar ai bk bn : Int) (bx : ByteArray) (br bi : Int) (w : World) :
    (binOp .eql 87 (.agg #[.int .i64 ak, .int .i64 an, .string ax, .int .i64 ar, .int .i64 ai]) (.agg #[.int .i64 bk, .int .i64 bn, .string bx, .int .i64 br, .int .i64 bi])).run Tryz.prog w
      = .ok (.bool (V.eqv ⟨ak, an, ax, ar, ai⟩ ⟨bk, bn, bx, br, bi⟩)) w := by
  go_simp
  simp only [V.eqv]
  by_cases h1 : ak = bk <;> by_cases h2 : an = bn <;> by_cases h3 : ax.toList = bx.toList <;> by_cases h4 : ar = br <;> by_cases h5 : ai = bi <;> simp [h1, h2, h3, h4, h5]

theorem run_neq34 (ak an : Int) (ax : ByteArray) (ar ai bk bn : Int) (bx : ByteArray) (br bi : Int) (w : World) :
    (binOp .neq 87 (.agg #[.int .i64 ak, .int .i64 an, .string ax, .int .i64 ar, .int .i64 ai]) (.agg #[.int .i64 bk, .int .i64 bn, .string bx, .int .i64 br, .int .i64 bi])).run Tryz.prog w
      = .ok (.bool (!V.eqv ⟨ak, an, ax, ar, ai⟩ ⟨bk, bn, bx, br, bi⟩)) w := by
  go_simp
  simp only [V.eqv]
  by_cases h1 : ak = bk <;> by_cases h2 : an = bn <;> by_cases h3 : ax.toList = bx.toList <;> by_cases h4 : ar = br <;> by_cases h5 : ai = bi <;> simp [h1, h2, h3, h4, h5]

def V.fits (v : V) : Bool :=
  if v.kind = 1 then decide (v.text.toList = [] ∧ v.re = 0 ∧ v.im = 0 ∧ -9007199254740992 ≤ v.num ∧ v.num ≤ 9007199254740992)
  else if v.kind = 2 then decide (v.num = 0 ∧ v.re = 0 ∧ v.im = 0)
  else if v.kind = 3 then decide (v.num = 0 ∧ v.text.toList = [] ∧ -1048576 ≤ v.re ∧ v.re ≤ 1048576 ∧ -1048576 ≤ v.im ∧ v.im ≤ 1048576)
  else false

set_option maxHeartbeats 1000000 in
theorem fits_num (num : Int) (text : ByteArray) (re im : Int) (w : World) (b : Bool) (hd : V.eqv ⟨1, num, text, re, im⟩ ⟨1, num, ⟨#[]⟩, 0, 0⟩ = b) :
    Calls Tryz.prog 152 #[.agg #[.int .i64 1, .int .i64 num, .string text, .int .i64 re, .int .i64 im]] w fun e w' => e = .returned (.bool (b && decide (-9007199254740992 ≤ num ∧ num ≤ 9007199254740992))) ∧ Adds w w' := by
  have he := run_eql34 1 num text re im 1 num ⟨#[]⟩ 0 0
  rw [hd] at he
  clear hd
  cases b
  all_goals
    go_enter Tryz.func152, Tryz.ntmps152
    go_wp2
    refine wp_region_adds (by kernel_rfl) (by kernel_rfl) ?_
    repeat (go_big_quiet_step ((first | (go_at_call 166; exact Calls.adds_of (num_any _ _)) | (go_at_call 167; exact Calls.adds_of (within_any _ _ (by decide) (by decide) _)))))
    refine wpQuiet_nil ?_
    rintro _ ⟨p, rfl⟩
    unfold addTo
    go_wp2
    go_ret
    refine ⟨by simp, ?_⟩
    repeat (first | with_reducible exact Adds.refl _ | with_reducible refine Adds.alloc ?_ _ | with_reducible refine Adds.more ?_ _ _ | with_reducible refine Adds.drew ?_)

set_option maxHeartbeats 1000000 in
theorem fits_text (num : Int) (text : ByteArray) (re im : Int) (w : World) (b : Bool) (hd : V.eqv ⟨2, num, text, re, im⟩ ⟨2, 0, text, 0, 0⟩ = b) :
    Calls Tryz.prog 152 #[.agg #[.int .i64 2, .int .i64 num, .string text, .int .i64 re, .int .i64 im]] w fun e w' => e = .returned (.bool (b)) ∧ Adds w w' := by
  have he := run_eql34 2 num text re im 2 0 text 0 0
  rw [hd] at he
  clear hd
  skip
  all_goals
    go_enter Tryz.func152, Tryz.ntmps152
    go_wp2
    refine wp_region_adds (by kernel_rfl) (by kernel_rfl) ?_
    repeat (go_big_quiet_step ((first | (go_at_call 168; exact Calls.adds_of (text_any _ _)))))
    refine wpQuiet_nil ?_
    rintro _ ⟨p, rfl⟩
    unfold addTo
    go_wp2
    go_ret
    refine ⟨by simp, ?_⟩
    repeat (first | with_reducible exact Adds.refl _ | with_reducible refine Adds.alloc ?_ _ | with_reducible refine Adds.more ?_ _ _ | with_reducible refine Adds.drew ?_)

set_option maxHeartbeats 1000000 in
theorem fits_point (num : Int) (text : ByteArray) (re im : Int) (w : World) (b : Bool) (hd : V.eqv ⟨3, num, text, re, im⟩ ⟨3, 0, ⟨#[]⟩, re, im⟩ = b) :
    Calls Tryz.prog 152 #[.agg #[.int .i64 3, .int .i64 num, .string text, .int .i64 re, .int .i64 im]] w fun e w' => e = .returned (.bool (b && (decide (-1048576 ≤ re ∧ re ≤ 1048576) && decide (-1048576 ≤ im ∧ im ≤ 1048576)))) ∧ Adds w w' := by
  have he := run_eql34 3 num text re im 3 0 ⟨#[]⟩ re im
  rw [hd] at he
  clear hd
  obtain ⟨c, hc⟩ : ∃ c, decide (-1048576 ≤ re ∧ re ≤ 1048576) = c := ⟨_, rfl⟩
  rw [hc]
  have hw : ∀ w, Calls Tryz.prog 167 #[.int .i64 re, .int .i64 1048576] w fun e w' => e = .returned (.bool c) ∧ Adds w w' := by
    rw [← hc]
    exact within_any re 1048576 (by decide) (by decide)
  clear hc
  cases b <;> cases c
  all_goals
    go_enter Tryz.func152, Tryz.ntmps152
    go_wp2
    refine wp_region_adds (by kernel_rfl) (by kernel_rfl) ?_
    repeat (go_big_quiet_step ((first | (go_at_call 169; exact Calls.adds_of (point_any _ _ _)) | (go_at_call_of 167 (Value.int .i64 re); exact Calls.adds_of (hw _)) | (go_at_call 167; exact Calls.adds_of (within_any _ _ (by decide) (by decide) _)))))
    refine wpQuiet_nil ?_
    rintro _ ⟨p, rfl⟩
    unfold addTo
    go_wp2
    go_ret
    refine ⟨by simp, ?_⟩
    repeat (first | with_reducible exact Adds.refl _ | with_reducible refine Adds.alloc ?_ _ | with_reducible refine Adds.more ?_ _ _ | with_reducible refine Adds.drew ?_)

theorem fits_any (v : V) (w : World) :
    Calls Tryz.prog 152 #[v.val] w fun e w' => e = .returned (.bool v.fits) ∧ Adds w w' := by
  obtain ⟨kind, num, text, re, im⟩ := v
  by_cases h1 : kind = 1
  · subst h1
    refine (fits_num num text re im w _ rfl).mono ?_
    rintro e w' ⟨rfl, hb⟩
    refine ⟨?_, hb⟩
    simp [V.fits, V.eqv, Bool.decide_and, Bool.and_assoc]
  · by_cases h2 : kind = 2
    · subst h2
      refine (fits_text num text re im w _ rfl).mono ?_
      rintro e w' ⟨rfl, hb⟩
      refine ⟨?_, hb⟩
      simp [V.fits, V.eqv, Bool.decide_and]
    · by_cases h3 : kind = 3
      · subst h3
        refine (fits_point num text re im w _ rfl).mono ?_
        rintro e w' ⟨rfl, hb⟩
        refine ⟨?_, hb⟩
        simp [V.fits, V.eqv, Bool.decide_and, Bool.and_assoc]
      · have hf : V.fits ⟨kind, num, text, re, im⟩ = false := by simp [V.fits, h1, h2, h3]
        rw [hf]
        simp only [V.val]
        go_enter Tryz.func152, Tryz.ntmps152
        go_wp2
        go_ret
        exact ⟨rfl, (Adds.refl _).alloc _⟩

def V.check (v : V) : Int := if v.kind = 2 ∧ 256 < v.text.size then 3 else if v.fits then 0 else 1

theorem check_any (v : V) (w : World) :
    Calls Tryz.prog 127 #[v.val] w fun e w' => e = .returned (.int .i64 v.check) ∧ Adds w w' := by
  have hf := fits_any v
  obtain ⟨kind, num, text, re, im⟩ := v
  simp only [V.val] at *
  generalize hF : V.fits ⟨kind, num, text, re, im⟩ = f at hf
  have HF : Hid (V.fits ⟨kind, num, text, re, im⟩ = f) := hF
  clear hF
  by_cases hk : kind = 2
  · subst hk
    cases f
    all_goals
      go_enter Tryz.func127, Tryz.ntmps127
      go_wp2_with (go_at_call 152; refine (hf _).mono ?_; rintro e w' ⟨rfl, os, k, rfl⟩)
    all_goals
      go_ret
      have hF := HF.out
      first
        | exact ⟨by simp [V.check, hF]; omega, ((Adds.refl _).alloc _).more _ _⟩
        | exact ⟨by simp [V.check, hF]; omega, (Adds.refl _).alloc _⟩
  · cases f
    all_goals
      go_enter Tryz.func127, Tryz.ntmps127
      go_wp2_with (go_at_call 152; refine (hf _).mono ?_; rintro e w' ⟨rfl, os, k, rfl⟩)
      go_ret
      have hF := HF.out
      exact ⟨by simp [V.check, hF, hk], ((Adds.refl _).alloc _).more _ _⟩

theorem run_eql32 (a b c d : Int) (w : World) : (binOp .eql 85 (.agg #[.int .i64 a, .int .i64 b]) (.agg #[.int .i64 c, .int .i64 d])).run Tryz.prog w = .ok (.bool (decide (a = c ∧ b = d))) w := by
  go_simp
  by_cases h1 : a = c <;> by_cases h2 : b = d <;> simp [h1, h2]

theorem V.check_num (num : Int) (text : ByteArray) (re im : Int) : V.check ⟨1, num, text, re, im⟩ = if text.toList = [] ∧ (re = 0 ∧ im = 0) ∧ num ≤ 9007199254740992 ∧ -9007199254740992 ≤ num then 0 else 1 := by
  simp only [V.check, V.fits]
  by_cases h1 : text.toList = [] <;> by_cases h2 : re = 0 <;> by_cases h3 : im = 0 <;> by_cases h4 : num ≤ 9007199254740992 <;> by_cases h5 : -9007199254740992 ≤ num <;> simp [h1, h2, h3, h4, h5]

theorem V.check_point (num : Int) (text : ByteArray) (re im : Int) : V.check ⟨3, num, text, re, im⟩ = if num = 0 ∧ text.toList = [] ∧ (re ≤ 1048576 ∧ -1048576 ≤ re) ∧ im ≤ 1048576 ∧ -1048576 ≤ im then 0 else 1 := by
  have h : V.fits ⟨3, num, text, re, im⟩ = decide (num = 0 ∧ text.toList = [] ∧ (re ≤ 1048576 ∧ -1048576 ≤ re) ∧ im ≤ 1048576 ∧ -1048576 ≤ im) := by
    simp only [V.fits]
    simp only [show ((3 : Int) = 1) = False from by simp, show ((3 : Int) = 2) = False from by simp, if_false, if_true]
    apply decide_eq_decide.2
    constructor
    · rintro ⟨h1, h2, h3, h4, h5, h6⟩; exact ⟨h1, h2, ⟨h4, h3⟩, h6, h5⟩
    · rintro ⟨h1, h2, ⟨h4, h3⟩, h6, h5⟩; exact ⟨h1, h2, h3, h4, h5, h6⟩
  simp only [V.check, h, decide_eq_true_eq, show ((3 : Int) = 2) = False from by simp, false_and, if_false]

theorem V.check_text (num : Int) (text : ByteArray) (re im : Int) : V.check ⟨2, num, text, re, im⟩ = if 256 < text.size then 3 else if num = 0 ∧ re = 0 ∧ im = 0 then 0 else 1 := by
  simp only [V.check, V.fits]
  simp only [show ((2 : Int) = 1) = False from by simp, if_false, if_true, true_and, decide_eq_true_eq]

set_option maxHeartbeats 1000000 in
theorem refCheck_num (num : Int) (text : ByteArray) (re im : Int) (w : World) :
    Calls Tryz.prog 40 #[.agg #[.int .i64 1, .int .i64 num, .string text, .int .i64 re, .int .i64 im]] w fun e w' => e = .returned (.int .i64 (V.check ⟨1, num, text, re, im⟩)) ∧ Adds w w' := by
  have he := run_eql32 re im 0 0
  go_enter Tryz.func40, Tryz.ntmps40
  go_wp2
  all_goals
    go_ret
    refine ⟨?_, ((Adds.refl _).alloc _).alloc _⟩
    rw [V.check_num]
    first
      | (rw [if_pos ⟨by assumption, by assumption, by assumption, by assumption⟩]; rfl)
      | (rw [if_neg (by rintro ⟨a, b, c, d⟩; first | omega | exact absurd a (by assumption) | exact absurd b (by assumption))]; rfl)

set_option maxHeartbeats 1000000 in
theorem refCheck_point (num : Int) (text : ByteArray) (re im : Int) (w : World) :
    Calls Tryz.prog 40 #[.agg #[.int .i64 3, .int .i64 num, .string text, .int .i64 re, .int .i64 im]] w fun e w' => e = .returned (.int .i64 (V.check ⟨3, num, text, re, im⟩)) ∧ Adds w w' := by
  go_enter Tryz.func40, Tryz.ntmps40
  go_wp2
  all_goals
    go_ret
    refine ⟨?_, (((Adds.refl _).alloc _).alloc _).alloc _⟩
    rw [V.check_point]
    first
      | (rw [if_pos ⟨by assumption, by assumption, ⟨by assumption, by assumption⟩, by assumption, by assumption⟩]; rfl)
      | (rw [if_neg (by rintro ⟨a, b, ⟨c, d⟩, e, f⟩; first | omega | exact absurd a (by assumption) | exact absurd b (by assumption))]; rfl)

set_option maxHeartbeats 1000000 in
theorem refCheck_text (num : Int) (text : ByteArray) (re im : Int) (w : World) :
    Calls Tryz.prog 40 #[.agg #[.int .i64 2, .int .i64 num, .string text, .int .i64 re, .int .i64 im]] w fun e w' => e = .returned (.int .i64 (V.check ⟨2, num, text, re, im⟩)) ∧ Adds w w' := by
  have he := run_eql32 re im 0 0
  by_cases hs : 256 < text.size
  · have hi : (256 : Int) < (text.size : Int) := by omega
    go_enter Tryz.func40, Tryz.ntmps40
    go_wp2
    go_ret
    refine ⟨?_, (Adds.refl _).alloc _⟩
    rw [V.check_text, if_pos hs]
    rfl
  · have hi : ¬ (256 : Int) < (text.size : Int) := by omega
    go_enter Tryz.func40, Tryz.ntmps40
    go_wp2
    all_goals
      go_ret
      refine ⟨?_, ((Adds.refl _).alloc _).alloc _⟩
      rw [V.check_text, if_neg hs]
      first
        | (rw [if_pos (by refine ⟨?_, ?_, ?_⟩ <;> omega)]; rfl)
        | (rw [if_neg (by rintro ⟨a, b, c⟩; omega)]; rfl)

theorem refCheck_any (v : V) (w : World) :
    Calls Tryz.prog 40 #[v.val] w fun e w' => e = .returned (.int .i64 v.check) ∧ Adds w w' := by
  obtain ⟨kind, num, text, re, im⟩ := v
  by_cases h1 : kind = 1
  · subst h1; exact refCheck_num num text re im w
  by_cases h2 : kind = 2
  · subst h2; exact refCheck_text num text re im w
  by_cases h3 : kind = 3
  · subst h3; exact refCheck_point num text re im w
  have hc : V.check ⟨kind, num, text, re, im⟩ = 1 := by simp [V.check, V.fits, h1, h2, h3]
  rw [hc]
  simp only [V.val]
  go_enter Tryz.func40, Tryz.ntmps40
  go_wp2
  go_ret
  exact ⟨rfl, ((Adds.refl _).alloc _).alloc _⟩

end Go.Proofs.YtiacnmcdfpmcfaaGreatDoor

namespace Go.Proofs.YtiacnmcdfpmcfaaGreatDoor
open Go.RowKit

def inW (c : UInt8) : Bool := decide ((97 ≤ (c.toNat : Int) ∧ (c.toNat : Int) ≤ 122) ∨ (48 ≤ (c.toNat : Int) ∧ (c.toNat : Int) ≤ 57))

/-- What is left of a path, a word begun or not. -/
def stp : Bool → List UInt8 → Bool
  | b, [] => b
  | b, c :: r => if (c.toNat : Int) = 46 then b && stp false r else inW c && stp true r

def isKey (s : ByteArray) : Bool := decide (1 ≤ s.size ∧ s.size ≤ 64)
def isPath (s : ByteArray) : Bool := decide (s.size ≤ 64) && stp false s.toList

theorem toList_length (s : ByteArray) : s.toList.length = s.size := by
  rw [ByteArray.toList_eq]; rfl

theorem toList_get (t : ByteArray) (k : Nat) (hk : k < t.toList.length) : t.toList[k] = t[k]'(by rwa [toList_length] at hk) := by
  have h : t.toList = t.data.toList := by rw [ByteArray.toList_eq]
  simp only [h]
  rfl

theorem stp_next (s : ByteArray) (b : Bool) {k : Nat} (hk : k < s.size) : stp b (s.toList.drop k) = if (s[k].toNat : Int) = 46 then b && stp false (s.toList.drop (k + 1)) else inW s[k] && stp true (s.toList.drop (k + 1)) := by
  have hk' : k < s.toList.length := by rw [toList_length]; exact hk
  rw [List.drop_eq_getElem_cons hk', toList_get]
  rfl

theorem stp_end (s : ByteArray) (b : Bool) : stp b (s.toList.drop s.size) = b := by
  rw [← toList_length, List.drop_length]
  rfl

theorem isPath_key {s : ByteArray} (h : isKey s = true) : isPath s = stp false s.toList := by
  have : s.size ≤ 64 := by simp [isKey] at h; exact h.2
  simp [isPath, this]

theorem isPath_not {s : ByteArray} (h : ¬ isKey s = true) : isPath s = false := by
  simp only [isKey, decide_eq_true_eq] at h
  by_cases h1 : s.size ≤ 64
  · have h0 : s.size = 0 := by omega
    have : s.toList = [] := List.eq_nil_of_length_eq_zero (by rw [toList_length]; exact h0)
    simp [isPath, this, stp]
  · simp [isPath, h1]

theorem inWord_any (c : UInt8) (w : World) :
    Calls Tryz.prog 144 #[.int .u8 c.toNat] w fun e w' => e = .returned (.bool (inW c)) ∧ w' = w := by
  unfold inW
  by_cases h1 : 97 ≤ (c.toNat : Int) <;> by_cases h2 : (c.toNat : Int) ≤ 122 <;> by_cases h3 : 48 ≤ (c.toNat : Int) <;> by_cases h4 : (c.toNat : Int) ≤ 57
  all_goals
    go_enter Tryz.func144, Tryz.ntmps144
    go_wp2
    all_goals
      go_ret
      refine ⟨?_, rfl⟩
      simp [h1, h2, h3, h4]

theorem key_any (s : ByteArray) (w : World) :
    Calls Tryz.prog 103 #[.string s] w fun e w' => e = .returned (.bool (isKey s)) ∧ w' = w := by
  unfold isKey
  by_cases h1 : 1 ≤ s.size <;> by_cases h2 : s.size ≤ 64
  all_goals
    have h1' : (1 ≤ (s.size : Int)) = (1 ≤ s.size) := by simp; omega
    have h2' : ((s.size : Int) ≤ 64) = (s.size ≤ 64) := by simp; omega
    go_enter Tryz.func103, Tryz.ntmps103
    go_wp2
    all_goals
      go_ret
      refine ⟨?_, rfl⟩
      simp [h1, h2]

theorem path_any (s : ByteArray) (w : World) :
    Calls Tryz.prog 121 #[.string s] w fun e w' => e = .returned (.bool (isPath s)) ∧ w' = w := by
  have hk := key_any s
  by_cases h : isKey s = true
  · rw [h] at hk
    rw [isPath_key h]
    have h64 : s.size ≤ 64 := by simp [isKey] at h; exact h.2
    clear h
    go_enter Tryz.func121, Tryz.ntmps121
    go_wp2_with (go_at_call 103; refine (hk _).mono ?_; rintro e w1 ⟨rfl, hw⟩; subst w1)
    go_loopw [3, 4] (fun bv i wr => ∃ (k : Nat) (b : Bool), k ≤ s.size ∧ i = .int .i64 k ∧ bv = .bool b ∧ stp b (s.toList.drop k) = stp false s.toList ∧ wr = w) (fun _ i _ => s.size - (intOf i).toNat)
    case atStart => exact ⟨0, false, Nat.zero_le _, rfl, rfl, by simp, rfl⟩
    case round =>
      obtain ⟨k, b, hk, rfl, rfl, hst, rfl⟩ := hrel
      by_cases hlt : k < s.size
      · have hn := stp_next s b hlt
        rw [hst] at hn
        clear hst
        by_cases h46 : (s[k].toNat : Int) = 46
        · rw [if_pos h46] at hn
          have HN : Hid _ := hn
          clear hn
          cases b
          · go_wp2
            go_ret
            exact ⟨by rw [HN.out]; rfl, rfl⟩
          · go_wp2
            go_roundw
            case rel => exact ⟨k + 1, false, by omega, by go_num, by simp, by rw [HN.out]; rfl, trivial⟩
            case measure => simp [intOf]; omega
        · rw [if_neg h46] at hn
          have HN : Hid _ := hn
          clear hn
          have hi := inWord_any s[k]
          have hb46 : ((s[k].toNat : Int) == 46) = false := by simp [h46]
          generalize inW s[k] = q at *
          cases q
          · go_wp2_with (go_at_call 144; refine (hi _).mono ?_; rintro e w1 ⟨rfl, hw⟩; subst w1)
            go_ret
            exact ⟨by rw [HN.out]; rfl, rfl⟩
          · go_wp2_with (go_at_call 144; refine (hi _).mono ?_; rintro e w1 ⟨rfl, hw⟩; subst w1)
            go_roundw
            case rel => exact ⟨k + 1, true, by omega, by go_num, by simp, by rw [HN.out]; rfl, trivial⟩
            case measure => simp [intOf]; omega
      · have hk' : k = s.size := by omega
        subst hk'
        rw [stp_end] at hst
        subst hst
        go_wp2
        go_ret
        exact ⟨rfl, rfl⟩
  · rw [Bool.not_eq_true] at h
    rw [h] at hk
    rw [isPath_not (by simp [h])]
    go_enter Tryz.func121, Tryz.ntmps121
    go_wp2_with (go_at_call 103; refine (hk _).mono ?_; rintro e w1 ⟨rfl, hw⟩; subst w1)
    go_ret
    exact ⟨rfl, rfl⟩

theorem refPath_any (s : ByteArray) (hs : s.size ≤ 9223372036854775807) (w : World) :
    Calls Tryz.prog 39 #[.string s] w fun e w' => e = .returned (.bool (isPath s)) ∧ w' = w := by
  go_enter Tryz.func39, Tryz.ntmps39
  go_wp2
  go_loopw [3, 4] (fun m i wr => ∃ (k n : Nat), k ≤ s.size ∧ n ≤ k ∧ i = .int .i64 k ∧ m = .int .i64 n ∧ stp (decide (0 < n)) (s.toList.drop k) = stp false s.toList ∧ wr = w) (fun _ i _ => s.size - (intOf i).toNat)
  case atStart => exact ⟨0, 0, Nat.zero_le _, Nat.zero_le _, rfl, rfl, by simp, rfl⟩
  case round =>
    obtain ⟨k, n, hk, hnk, rfl, rfl, hst, rfl⟩ := hrel
    by_cases hlt : k < s.size
    · have hn := stp_next s (decide (0 < n)) hlt
      rw [hst] at hn
      clear hst
      by_cases h46 : (s[k].toNat : Int) = 46
      · rw [if_pos h46] at hn
        have HN : Hid _ := hn
        clear hn
        by_cases h0 : n = 0
        · subst h0
          go_wp2
          go_ret
          exact ⟨by simp [isPath, HN.out], rfl⟩
        · have h0' : 0 < n := by omega
          go_wp2
          go_roundw
          case rel => exact ⟨k + 1, 0, by omega, by omega, by go_num, rfl, by rw [HN.out]; simp [h0'], trivial⟩
          case measure => simp [intOf]; omega
      · rw [if_neg h46] at hn
        have HN : Hid _ := hn
        clear hn
        by_cases h1 : 97 ≤ (s[k].toNat : Int) <;> by_cases h2 : (s[k].toNat : Int) ≤ 122 <;> by_cases h3 : 48 ≤ (s[k].toNat : Int) <;> by_cases h4 : (s[k].toNat : Int) ≤ 57
        all_goals
          go_wp2
          first
            | (go_ret
               have hq : inW s[k] = false := decide_eq_false (by omega)
               exact ⟨by simp [isPath, HN.out, hq], rfl⟩)
            | (go_roundw
               case rel => exact ⟨k + 1, n + 1, by omega, by omega, by go_num, by go_num, by rw [HN.out, show inW s[k] = true from decide_eq_true (by omega)]; simp, trivial⟩
               case measure => simp [intOf]; omega)
            | (exfalso; omega)
    · have hk' : k = s.size := by omega
      subst hk'
      rw [stp_end] at hst
      have HN : Hid _ := hst
      clear hst
      by_cases h0 : 0 < n <;> by_cases h64 : s.size ≤ 64
      all_goals
        have h64' : ((s.size : Int) ≤ 64) = (s.size ≤ 64) := by simp; omega
        go_wp2
        go_ret
        exact ⟨by simp [isPath, ← HN.out, h0, h64], rfl⟩

end Go.Proofs.YtiacnmcdfpmcfaaGreatDoor
