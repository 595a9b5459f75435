/-
  How long a segment's records are.
-/
import Derived.Test.YtelkkpomehgcjaaGreatTape
namespace Go.Proofs.YtelkkpomehgcjaaGreat
open Go.RowKit Go.Maps

theorem first_len {b : List UInt8} (h : (first b).2.2 = 0) : (first b).2.1 = (first b).1.length + 9 := by
  unfold first at h ⊢
  by_cases h1 : (lengthOf b).2 ≠ 0
  · rw [if_pos h1] at h
    exact absurd h h1
  · rw [if_neg h1] at h ⊢
    by_cases h2 : b.length < (lengthOf b).1 + 9
    · rw [if_pos h2] at h
      cases h
    · rw [if_neg h2] at h ⊢
      by_cases h3 : sum ((b.drop 6).take (lengthOf b).1) ≠ num3 (b.drop (6 + (lengthOf b).1))
      · rw [if_pos h3] at h
        cases h
      · rw [if_neg h3]
        simp
        omega

theorem rows_weight (b : List UInt8) : tot (rows b).1 + 9 * (rows b).1.length ≤ b.length := by
  induction hn : b.length using Nat.strongRecOn generalizing b with
  | ind n ih =>
    subst hn
    by_cases h : (first b).2.2 = 0
    · have h9 := first_ok h
      have hl := first_len h
      rw [rows_some h]
      have i1 := ih (b.drop (first b).2.1).length (by simp; omega) (b.drop (first b).2.1) rfl
      have hd : (b.drop (first b).2.1).length = b.length - (first b).2.1 := by simp
      have ht : tot ((first b).1 :: (rows (b.drop (first b).2.1)).1) = (first b).1.length + tot (rows (b.drop (first b).2.1)).1 := rfl
      show tot ((first b).1 :: (rows (b.drop (first b).2.1)).1) + 9 * ((rows (b.drop (first b).2.1)).1.length + 1) ≤ b.length
      rw [ht]
      omega
    · rw [rows_stop h]
      simp [tot]

theorem segOf_weight {b : List UInt8} {s : Nat × List (List UInt8) × Bool} (h : segOf b = some s) : segLen s.2.1 ≤ b.length ∧ s.1 ≤ s.2.1.length := by
  have hw := rows_weight b
  unfold segOf at h
  split at h
  · rename_i hwb
    simp only [Option.some.injEq] at h
    subst h
    generalize (rows b).1 = L at *
    cases L with
    | nil => cases hwb
    | cons x t =>
      rw [wholeB_cons] at hwb
      simp only [Bool.and_eq_true, decide_eq_true_eq] at hwb
      have ht : tot (x :: t) = x.length + tot t := rfl
      rw [ht, List.length_cons] at hw
      constructor
      · show segLen t ≤ b.length
        unfold segLen
        omega
      · show num4 x ≤ t.length
        omega
  · cases h

theorem newK_file : ∀ {K : Kf} {s : Int × Nat × List (List UInt8) × Bool}, newK K = some s → ∃ p ∈ K, segOf p.2 = some s.2
  | p :: r, s, h => by
    have e : newK (p :: r) = match newK r with | some s => some s | none => (segOf p.2).map fun s => (p.1, s) := rfl
    rw [e] at h
    cases hr : newK r with
    | some s' =>
      rw [hr] at h
      simp only [Option.some.injEq] at h
      subst h
      obtain ⟨q, hq, hs⟩ := newK_file hr
      exact ⟨q, List.mem_cons_of_mem _ hq, hs⟩
    | none =>
      rw [hr] at h
      simp only at h
      cases hs : segOf p.2 with
      | none => rw [hs] at h; cases h
      | some q =>
        rw [hs] at h
        simp only [Option.map_some, Option.some.injEq] at h
        subst h
        exact ⟨p, List.mem_cons_self, hs⟩

theorem size_mem {K : Kf} {p : Int × List UInt8} (h : p ∈ K) : p.2.length ≤ sizeK K := le_sum_mem (List.mem_map.2 ⟨p, h, rfl⟩)

theorem newK_weight {K : Kf} {s : Int × Nat × List (List UInt8) × Bool} (h : newK K = some s) : segLen s.2.2.1 ≤ sizeK K ∧ s.2.1 ≤ s.2.2.1.length := by
  obtain ⟨p, hp, hs⟩ := newK_file h
  obtain ⟨h1, h2⟩ := segOf_weight hs
  exact ⟨Nat.le_trans h1 (size_mem hp), h2⟩

end Go.Proofs.YtelkkpomehgcjaaGreat
