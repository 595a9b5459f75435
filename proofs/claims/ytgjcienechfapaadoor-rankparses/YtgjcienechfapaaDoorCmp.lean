/-
  The functions Check, Compare and Less, by contracts.
-/
import Derived.Test.YtgjcienechfapaaDoorFits
namespace Go.Proofs.YtgjcienechfapaaDoor
open Go.RowKit

def V.check (v : V) : Int := if v.kind = 2 ∧ 256 < v.text.size then 3 else if v.fits then 0 else 1

theorem check_any (v : V) (w : World) :
    Calls Tryd.prog 8 #[v.val] w fun e w' => e = .returned (.int .i64 v.check) ∧ Below w.heap.size w w' := by
  have hf := fits_any v
  obtain ⟨kind, num, text, re, im⟩ := v
  simp only [V.val] at *
  generalize hF : V.fits ⟨kind, num, text, re, im⟩ = f at hf
  have HF : Hid (V.fits ⟨kind, num, text, re, im⟩ = f) := hF
  clear hF
  by_cases hk : kind = 2
  · subst hk
    cases f
    all_goals
      go_enter Tryd.func8, Tryd.ntmps8
      go_wp2_with (go_at_call 18; refine (hf _).mono ?_; rintro e w' ⟨rfl, hb⟩)
    all_goals
      go_ret
      have hF := HF.out
      first
        | exact ⟨by simp [V.check, hF]; omega, ((Below.refl _ _).alloc (Nat.le_refl _) _).trans (hb.mono (by simp))⟩
        | exact ⟨by simp [V.check, hF]; omega, (Below.refl _ _).alloc (Nat.le_refl _) _⟩
  · cases f
    all_goals
      go_enter Tryd.func8, Tryd.ntmps8
      go_wp2_with (go_at_call 18; refine (hf _).mono ?_; rintro e w' ⟨rfl, hb⟩)
      go_ret
      have hF := HF.out
      exact ⟨by simp [V.check, hF, hk], ((Below.refl _ _).alloc (Nat.le_refl _) _).trans (hb.mono (by simp))⟩

def V.cmp (a b : V) : Int :=
  if a.eqv b then 0 else if a.kind ≠ b.kind then cmpInt a.kind b.kind else if a.num ≠ b.num then cmpInt a.num b.num
  else if a.text.toList ≠ b.text.toList then cmpStr a.text b.text else if a.re ≠ b.re then cmpInt a.re b.re else cmpInt a.im b.im

theorem compare_any (a b : V) (w : World) :
    Calls Tryd.prog 14 #[a.val, b.val] w fun e w' => e = .returned (.int .i64 (a.cmp b)) ∧ Below w.heap.size w w' := by
  obtain ⟨ak, an, ax, ar, ai⟩ := a
  obtain ⟨bk, bn, bx, br, bi⟩ := b
  have he := run_eql33 ak an ax ar ai bk bn bx br bi
  simp only [V.val]
  generalize hE : V.eqv ⟨ak, an, ax, ar, ai⟩ ⟨bk, bn, bx, br, bi⟩ = q at he
  have HE : Hid (V.eqv ⟨ak, an, ax, ar, ai⟩ ⟨bk, bn, bx, br, bi⟩ = q) := hE
  clear hE
  cases q
  all_goals
    go_enter Tryd.func14, Tryd.ntmps14
    go_wp2_with (first | (go_at_call 21; refine (cmpInt_any _ _ _).mono ?_; rintro e w' ⟨rfl, rfl⟩) | (go_at_call 22; refine (cmpStr_any _ _ _).mono ?_; rintro e w' ⟨rfl, rfl⟩))
    all_goals
      go_ret
      refine ⟨?_, ((Below.refl _ _).alloc (Nat.le_refl _) _).alloc (by simp) _⟩
      have hq := HE.out
      simp_all [V.cmp]

end Go.Proofs.YtgjcienechfapaaDoor
