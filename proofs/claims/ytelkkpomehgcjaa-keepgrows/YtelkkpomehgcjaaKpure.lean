/-
  A keep in plain data: what records do.
-/
import Derived.Test.YtelkkpomehgcjaaTopen
namespace Go.Proofs.Ytelkkpomehgcjaa
open Go.RowKit Go.Maps

/-- Entries' records and the note's, behind a record. -/
def turnK (s : List (List UInt8) × List UInt8) : List UInt8 → List (List UInt8) × List UInt8
  | [] => s
  | c :: b => if c = 0 then (s.1 ++ [c :: b], s.2) else if c = 1 then (s.1, c :: b) else if c = 2 then ([], s.2) else if c = 3 then (s.1.take (num4 b), s.2) else s

/-- Is a record one of a keep's? -/
def knownK : List UInt8 → Bool
  | [] => false
  | c :: b => if c = 0 then true else if c = 1 then true else if c = 2 then decide (b.length = 0) else if c = 3 then decide (b.length = 4) else false

def foldT (l : List (List UInt8)) : List (List UInt8) × List UInt8 := l.foldl turnK ([], [])

theorem foldT_snoc (l : List (List UInt8)) (r : List UInt8) : foldT (l ++ [r]) = turnK (foldT l) r := by simp [foldT]

theorem foldT_take {l : List (List UInt8)} {k : Nat} (hk : k < l.length) : foldT (l.take (k + 1)) = turnK (foldT (l.take k)) l[k] := by
  rw [List.take_succ_eq_append_getElem hk, foldT_snoc]

theorem turnK_cons (s : List (List UInt8) × List UInt8) (c : UInt8) (b : List UInt8) : turnK s (c :: b) = if c = 0 then (s.1 ++ [c :: b], s.2) else if c = 1 then (s.1, c :: b) else if c = 2 then ([], s.2) else if c = 3 then (s.1.take (num4 b), s.2) else s := rfl

theorem turnK_length (s : List (List UInt8) × List UInt8) (r : List UInt8) : (turnK s r).1.length ≤ s.1.length + 1 := by
  cases r with
  | nil => simp [turnK]
  | cons c b =>
    rw [turnK_cons]
    split
    · simp
    · split
      · simp
      · split
        · simp
        · split
          · simp; omega
          · simp

theorem foldl_length (l : List (List UInt8)) (s : List (List UInt8) × List UInt8) : (l.foldl turnK s).1.length ≤ s.1.length + l.length := by
  induction l generalizing s with
  | nil => simp
  | cons r l ih =>
    have h1 := ih (turnK s r)
    have h2 := turnK_length s r
    simp only [List.foldl_cons, List.length_cons]
    omega

theorem foldT_length (l : List (List UInt8)) : (foldT l).1.length ≤ l.length := by
  have := foldl_length l ([], [])
  simpa [foldT] using this

/-- All that a keep holds is of the records. -/
theorem turnK_mem {s : List (List UInt8) × List UInt8} {r : List UInt8} {P : List UInt8 → Prop} (h1 : ∀ x ∈ s.1, P x) (h2 : P s.2) (h3 : P r) : (∀ x ∈ (turnK s r).1, P x) ∧ P (turnK s r).2 := by
  cases r with
  | nil => exact ⟨h1, h2⟩
  | cons c b =>
    rw [turnK_cons]
    split
    · refine ⟨fun x hx => ?_, h2⟩
      simp only [List.mem_append, List.mem_singleton] at hx
      rcases hx with hx | rfl
      · exact h1 x hx
      · exact h3
    · split
      · exact ⟨h1, h3⟩
      · split
        · exact ⟨fun x hx => by simp at hx, h2⟩
        · split
          · exact ⟨fun x hx => h1 x (List.mem_of_mem_take hx), h2⟩
          · exact ⟨h1, h2⟩

theorem foldl_mem {l : List (List UInt8)} {P : List UInt8 → Prop} (h : ∀ x ∈ l, P x) (s : List (List UInt8) × List UInt8) (h1 : ∀ x ∈ s.1, P x) (h2 : P s.2) : (∀ x ∈ (l.foldl turnK s).1, P x) ∧ P (l.foldl turnK s).2 := by
  induction l generalizing s with
  | nil => exact ⟨h1, h2⟩
  | cons r l ih =>
    obtain ⟨i1, i2⟩ := turnK_mem h1 h2 (h r (by simp))
    exact ih (fun x hx => h x (by simp [hx])) _ i1 i2

theorem foldT_mem {l : List (List UInt8)} {P : List UInt8 → Prop} (h : ∀ x ∈ l, P x) (h0 : P []) : (∀ x ∈ (foldT l).1, P x) ∧ P (foldT l).2 :=
  foldl_mem h ([], []) (fun x hx => by simp at hx) h0

/-- The records of what is seen. -/
def recsK (K : Kf) : List (List UInt8) :=
  match newK K with
  | some (_, _, ls, _) => ls
  | none => []

theorem opened_recs (d : Dk) (K : Kf) : (d.opened K).ls = recsK K := by
  unfold Dk.opened recsK
  split <;> rename_i h <;> simp [h]

end Go.Proofs.Ytelkkpomehgcjaa
