/-
  The reference's units, and what they do to files: the pure part.
-/
import Derived.Test.YtelkkpomehgcjaaGreatSafe
namespace Go.Proofs.YtelkkpomehgcjaaGreat
open Go.RowKit Go.Maps

/-- A unit: a byte more, a drop, or an appending of no bytes. -/
structure Un where
  n : Int
  c : UInt8
  drop : Bool
  empty : Bool

abbrev Kf := List (Int × List UInt8)

def Un.new (u : Un) : Int × List UInt8 := (u.n, if u.empty then [] else [u.c])

/-- The reference's loop over the files; put: the file is there already, or is not to be. -/
def goU (u : Un) : Kf → Bool → Kf
  | [], put => if put then [] else [u.new]
  | f :: r, put =>
    (if !put && decide (u.n < f.1) then [u.new] else []) ++
    (if f.1 = u.n then
      (if u.drop then goU u r (put || decide (u.n < f.1)) else (f.1, if u.empty then f.2 else f.2 ++ [u.c]) :: goU u r true)
     else f :: goU u r (put || decide (u.n < f.1)))

def unitK (l : Kf) (u : Un) : Kf := goU u l u.drop

def getK (k : Int) (l : Kf) : Option (List UInt8) := (l.find? fun p => p.1 == k).map (·.2)
def filesK (l : Kf) : Fs := fun k => getK k l
def SrtK (l : Kf) : Prop := l.Pairwise fun p q => p.1 < q.1

def ustep (f : Fs) (u : Un) : Fs := if u.drop then f.set u.n none else f.set u.n (some ((f u.n).getD [] ++ (if u.empty then [] else [u.c])))

theorem getK_cons (k : Int) (p : Int × List UInt8) (l : Kf) : getK k (p :: l) = if p.1 = k then some p.2 else getK k l := by
  unfold getK
  rw [List.find?_cons]
  by_cases h : p.1 = k
  · simp [h]
  · have : (p.1 == k) = false := by simpa using h
    simp [this, h]

theorem getK_low {k : Int} : ∀ {l : Kf}, (∀ p ∈ l, k < p.1) → getK k l = none
  | [], _ => rfl
  | p :: r, h => by
    rw [getK_cons, if_neg (by have := h p (by simp); omega)]
    exact getK_low fun q hq => h q (by simp [hq])

/-- Behind the place of file n the rest is as it was. -/
theorem goU_high {u : Un} : ∀ {l : Kf}, (∀ p ∈ l, u.n < p.1) → goU u l true = l
  | [], _ => rfl
  | p :: r, h => by
    have hp := h p (by simp)
    unfold goU
    simp only [Bool.not_true, Bool.false_and, Bool.false_eq_true, if_false, List.nil_append, Bool.true_or]
    rw [if_neg (by omega), goU_high fun q hq => h q (by simp [hq])]

theorem goU_keys {u : Un} : ∀ {l : Kf} {put : Bool} {p : Int × List UInt8}, p ∈ goU u l put → p.1 = u.n ∨ ∃ q ∈ l, q.1 = p.1
  | [], put, p, h => by
    unfold goU at h
    cases put
    · simp [Un.new] at h
      exact .inl (by rw [h])
    · simp at h
  | f :: r, put, p, h => by
    unfold goU at h
    rcases List.mem_append.1 h with h | h
    · split at h
      · simp [Un.new] at h
        exact .inl (by rw [h])
      · cases h
    · split at h
      · rename_i hf
        split at h
        · rcases goU_keys h with h | ⟨q, hq, e⟩
          · exact .inl h
          · exact .inr ⟨q, by simp [hq], e⟩
        · rcases List.mem_cons.1 h with rfl | h
          · exact .inl hf
          · rcases goU_keys h with h | ⟨q, hq, e⟩
            · exact .inl h
            · exact .inr ⟨q, by simp [hq], e⟩
      · rcases List.mem_cons.1 h with rfl | h
        · exact .inr ⟨p, by simp, rfl⟩
        · rcases goU_keys h with h | ⟨q, hq, e⟩
          · exact .inl h
          · exact .inr ⟨q, by simp [hq], e⟩

/-- A drop. -/
theorem goU_drop {u : Un} (hu : u.drop = true) : ∀ {l : Kf}, SrtK l → SrtK (goU u l true) ∧ ∀ k, getK k (goU u l true) = if k = u.n then none else getK k l
  | [], _ => by
    unfold goU
    exact ⟨List.Pairwise.nil, fun k => by simp [getK]⟩
  | f :: r, h => by
    obtain ⟨h1, h2⟩ := List.pairwise_cons.1 h
    obtain ⟨i1, i2⟩ := goU_drop hu h2
    unfold goU
    simp only [Bool.not_true, Bool.false_and, Bool.false_eq_true, if_false, List.nil_append, Bool.true_or, hu, if_true]
    by_cases e : f.1 = u.n
    · rw [if_pos e]
      refine ⟨i1, fun k => ?_⟩
      rw [i2 k, getK_cons]
      by_cases hk : k = u.n
      · simp [hk]
      · rw [if_neg hk, if_neg hk, if_neg (by omega)]
    · rw [if_neg e]
      refine ⟨List.pairwise_cons.2 ⟨fun q hq => ?_, i1⟩, fun k => ?_⟩
      · -- what is left is of the rest
        have : ∀ {l : Kf} {p : Int × List UInt8}, p ∈ goU u l true → p ∈ l := by
          intro l
          induction l with
          | nil => intro p hp; simp [goU] at hp
          | cons g t ih =>
            intro p hp
            unfold goU at hp
            simp only [Bool.not_true, Bool.false_and, Bool.false_eq_true, if_false, List.nil_append, Bool.true_or, hu, if_true] at hp
            split at hp
            · exact List.mem_cons_of_mem _ (ih hp)
            · rcases List.mem_cons.1 hp with rfl | hp
              · simp
              · exact List.mem_cons_of_mem _ (ih hp)
        exact h1 q (this hq)
      · rw [getK_cons, getK_cons, i2 k]
        by_cases hk : k = u.n
        · have hfk : ¬ f.1 = k := by omega
          simp only [if_pos hk, if_neg hfk]
        · simp only [if_neg hk]

/-- A byte, or none. -/
theorem goU_put {u : Un} (hu : u.drop = false) : ∀ {l : Kf}, SrtK l → SrtK (goU u l false) ∧ ∀ k, getK k (goU u l false) = if k = u.n then some ((getK k l).getD [] ++ (if u.empty then [] else [u.c])) else getK k l
  | [], _ => by
    unfold goU
    simp only [Bool.false_eq_true, if_false]
    refine ⟨by simp [SrtK], fun k => ?_⟩
    rw [getK_cons]
    by_cases hk : k = u.n
    · subst hk
      simp [Un.new, getK]
    · rw [if_neg (fun e => hk e.symm), if_neg hk]
  | f :: r, h => by
    obtain ⟨h1, h2⟩ := List.pairwise_cons.1 h
    unfold goU
    simp only [Bool.not_false, Bool.true_and, decide_eq_true_eq, Bool.false_or, hu, Bool.false_eq_true, if_false]
    by_cases hlt : u.n < f.1
    · have hhi : ∀ p ∈ r, u.n < p.1 := fun p hp => by have := h1 p hp; omega
      rw [if_pos hlt, if_neg (by omega)]
      have : decide (u.n < f.1) = true := by simpa using hlt
      rw [this, goU_high hhi]
      refine ⟨List.pairwise_cons.2 ⟨fun q hq => ?_, h⟩, fun k => ?_⟩
      · rcases List.mem_cons.1 hq with rfl | hq
        · exact hlt
        · exact hhi q hq
      · show getK k (u.new :: f :: r) = _
        rw [getK_cons]
        by_cases hk : k = u.n
        · subst hk
          rw [if_pos (show u.new.1 = u.n from rfl), if_pos rfl, getK_low (l := f :: r) (fun p hp => by rcases List.mem_cons.1 hp with rfl | hp; exact hlt; exact hhi p hp)]
          simp [Un.new]
        · rw [if_neg (fun e => hk e.symm), if_neg hk]
    · rw [if_neg hlt, List.nil_append]
      have hd : decide (u.n < f.1) = false := by simpa using hlt
      by_cases e : f.1 = u.n
      · rw [if_pos e]
        have hhi : ∀ p ∈ r, u.n < p.1 := fun p hp => by have := h1 p hp; omega
        rw [goU_high hhi]
        refine ⟨List.pairwise_cons.2 ⟨h1, h2⟩, fun k => ?_⟩
        rw [getK_cons, getK_cons]
        by_cases hk : k = u.n
        · subst hk
          simp only [e, if_true]
          cases u.empty <;> simp
        · rw [if_neg (by omega), if_neg hk, if_neg (by omega)]
      · rw [if_neg e, hd]
        obtain ⟨i1, i2⟩ := goU_put hu h2
        refine ⟨List.pairwise_cons.2 ⟨fun q hq => ?_, i1⟩, fun k => ?_⟩
        · rcases goU_keys hq with e' | ⟨p, hp, e'⟩
          · omega
          · have := h1 p hp
            omega
        · rw [getK_cons, getK_cons, i2 k]
          by_cases hk : k = u.n
          · have hfk : ¬ f.1 = k := by omega
            simp only [if_pos hk, if_neg hfk]
          · simp only [if_neg hk]

theorem unit_ok {l : Kf} (h : SrtK l) (u : Un) : SrtK (unitK l u) ∧ filesK (unitK l u) = ustep (filesK l) u := by
  unfold unitK
  cases hu : u.drop
  · obtain ⟨h1, h2⟩ := goU_put hu h
    refine ⟨h1, funext fun k => ?_⟩
    show getK k _ = _
    rw [h2 k]
    simp only [ustep, hu, Bool.false_eq_true, if_false, Fs.set, filesK]
    by_cases e : k = u.n
    · subst e; simp
    · simp [e]
  · obtain ⟨h1, h2⟩ := goU_drop hu h
    refine ⟨h1, funext fun k => ?_⟩
    show getK k _ = _
    rw [h2 k]
    simp only [ustep, hu, if_true, Fs.set, filesK]

/-- Sorted lists of files are one if they have the same files. -/
theorem ext_srt : ∀ {l m : Kf}, SrtK l → SrtK m → filesK l = filesK m → l = m
  | [], [], _, _, _ => rfl
  | [], p :: r, _, _, h => by
    have := congrFun h p.1
    simp [filesK, getK] at this
  | p :: r, [], _, _, h => by
    have := congrFun h p.1
    simp [filesK, getK] at this
  | p :: r, q :: s, hl, hm, h => by
    obtain ⟨l1, l2⟩ := List.pairwise_cons.1 hl
    obtain ⟨m1, m2⟩ := List.pairwise_cons.1 hm
    have hp := congrFun h p.1
    have hq := congrFun h q.1
    simp only [filesK, getK_cons, if_true] at hp hq
    have hk : p.1 = q.1 := by
      rcases Int.lt_trichotomy p.1 q.1 with hlt | e | hlt
      · rw [if_neg (by omega), getK_low (fun x hx => by have := m1 x hx; omega)] at hp
        cases hp
      · exact e
      · rw [if_neg (by omega), getK_low (fun x hx => by have := l1 x hx; omega)] at hq
        cases hq
    rw [if_pos hk.symm] at hp
    have hpq : p = q := Prod.ext hk (by simpa using hp)
    subst hpq
    congr 1
    refine ext_srt l2 m2 (funext fun k => ?_)
    have := congrFun h k
    simp only [filesK, getK_cons] at this
    by_cases e : p.1 = k
    · show getK k r = getK k s
      rw [getK_low (fun x hx => by have := l1 x hx; omega), getK_low (fun x hx => by have := m1 x hx; omega)]
    · rw [if_neg e, if_neg e] at this
      exact this

end Go.Proofs.YtelkkpomehgcjaaGreat
