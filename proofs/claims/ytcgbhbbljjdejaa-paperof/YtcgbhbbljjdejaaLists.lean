/-
  Documents as lists: what Set and Drop make is what the document's own make; and it may be.
-/
import Derived.Test.YtcgbhbbljjdejaaDrops
import Derived.Test.YtcgbhbbljjdejaaUnder
namespace Go.Proofs.Ytcgbhbbljjdejaa
open Go.RowKit

theorem rises_cons {x : F} {r : List F} : Rises (x :: r) ↔ (∀ y ∈ r, lessP x.path y.path = true) ∧ Rises r := by
  constructor
  · intro h
    refine ⟨fun y hy => ?_, fun i j hi hj hij => ?_⟩
    · obtain ⟨k, hk, rfl⟩ := List.getElem_of_mem hy
      have := h 0 (k + 1) (by simp) (by simpa using hk) (by omega)
      simpa using this
    · have := h (i + 1) (j + 1) (by simpa using hi) (by simpa using hj) (by omega)
      simpa using this
  · rintro ⟨h1, h2⟩ i j hi hj hij
    cases j with
    | zero => omega
    | succ j =>
      have hj' : j < r.length := by simpa using hj
      cases i with
      | zero => simpa using h1 r[j] (List.getElem_mem hj')
      | succ i => simpa using h2 i j (by simpa using hi) hj' (by omega)

theorem may_iff (l : List F) : May l ↔ l.length ≤ 16 ∧ (∀ x ∈ l, isPath x.path = true ∧ x.val.check = 0) ∧ Rises l := by
  constructor
  · intro h
    refine ⟨h.1, fun x hx => ?_, h.rises⟩
    obtain ⟨k, hk, rfl⟩ := List.getElem_of_mem hx
    have := h.2 k hk
    exact ⟨this.1, this.2.1⟩
  · rintro ⟨h1, h2, h3⟩
    refine ⟨h1, fun k hk => ?_⟩
    have := h2 l[k] (List.getElem_mem hk)
    exact ⟨this.1, this.2, fun h0 => h3 (k - 1) k (by omega) hk (by omega)⟩

theorem cutAt_lt {x : F} {r : List F} {p : ByteArray} (h : lessP x.path p = true) : cutAt p (x :: r) = cutAt p r + 1 := by simp [cutAt, h]
theorem cutAt_ge {x : F} {r : List F} {p : ByteArray} (h : lessP x.path p = false) : cutAt p (x :: r) = 0 := by simp [cutAt, h]

theorem hasAt_lt {x : F} {r : List F} {p : ByteArray} (h : lessP x.path p = true) : hasAt p (x :: r) = hasAt p r := by
  unfold hasAt
  apply decide_eq_decide.2
  simp only [cutAt_lt h, List.length_cons, List.getElem_cons_succ, Nat.add_lt_add_iff_right]

theorem hasAt_ge {x : F} {r : List F} {p : ByteArray} (h : lessP x.path p = false) : hasAt p (x :: r) = decide (x.path.toList = p.toList) := by
  unfold hasAt
  apply decide_eq_decide.2
  simp [cutAt_ge h]

theorem ne_of_less {x y : ByteArray} (h : lessP x y = true) : ¬ x.toList = y.toList := fun e => by rw [lessP_irrefl x y e] at h; cases h
theorem ne_of_more {x y : ByteArray} (h : lessP y x = true) : ¬ x.toList = y.toList := fun e => ne_of_less h e.symm

theorem less_congr {x y z : ByteArray} (h : x.toList = y.toList) : lessP x z = lessP y z := by simp [lessP, h]

/-- Behind a field that does not lie ahead of a path none has that path. -/
theorem later_ne {x : F} {r : List F} {p : ByteArray} (h : ∀ y ∈ r, lessP x.path y.path = true) (hx : lessP x.path p = false) : ∀ y ∈ r, lessP p y.path = true := by
  intro y hy
  by_cases e : x.path.toList = p.toList
  · rw [← less_congr e]; exact h y hy
  · exact lessP_trans (lessP_total hx e) (h y hy)

theorem setDoc_lt {x : F} {r : List F} {f : F} (h : lessP x.path f.path = true) : setDoc (x :: r) f = x :: setDoc r f := by
  simp only [setDoc, cutAt_lt h, hasAt_lt h, List.take_succ_cons, List.drop_succ_cons, List.cons_append]

theorem setDoc_ge {x : F} {r : List F} {f : F} (h : lessP x.path f.path = false) : setDoc (x :: r) f = f :: (if x.path.toList = f.path.toList then r else x :: r) := by
  simp only [setDoc, cutAt_ge h, hasAt_ge h, List.take_zero, List.nil_append, List.drop_zero, decide_eq_true_eq]
  rfl

theorem setDoc_mem {l : List F} {f y : F} (h : y ∈ setDoc l f) : y = f ∨ y ∈ l := by
  induction l with
  | nil => simpa [setDoc, hasAt] using h
  | cons x r ih =>
    cases hx : lessP x.path f.path
    · rw [setDoc_ge hx] at h
      simp only [List.mem_cons] at h ⊢
      rcases h with h | h
      · exact .inl h
      · split at h
        · exact .inr (.inr h)
        · exact .inr (by simpa using h)
    · rw [setDoc_lt hx] at h
      simp only [List.mem_cons] at h ⊢
      rcases h with h | h
      · exact .inr (.inl h)
      · rcases ih h with h | h
        · exact .inl h
        · exact .inr (.inr h)

theorem setDoc_rises {l : List F} {f : F} (h : Rises l) : Rises (setDoc l f) := by
  induction l with
  | nil =>
    have : setDoc [] f = [f] := by simp [setDoc, hasAt]
    rw [this, rises_cons]
    exact ⟨by simp, h⟩
  | cons x r ih =>
    obtain ⟨h1, h2⟩ := rises_cons.1 h
    cases hx : lessP x.path f.path
    · rw [setDoc_ge hx, rises_cons]
      split
      · exact ⟨fun y hy => later_ne h1 hx y hy, h2⟩
      · rename_i hne
        refine ⟨fun y hy => ?_, h⟩
        rcases List.mem_cons.1 hy with rfl | hy
        · exact lessP_total hx hne
        · exact later_ne h1 hx y hy
    · rw [setDoc_lt hx, rises_cons]
      refine ⟨fun y hy => ?_, ih h2⟩
      rcases setDoc_mem hy with rfl | hy
      · exact hx
      · exact h1 y hy

theorem setDoc_length {l : List F} {f : F} : (setDoc l f).length = if hasAt f.path l then l.length else l.length + 1 := by
  induction l with
  | nil => simp [setDoc, hasAt]
  | cons x r ih =>
    cases hx : lessP x.path f.path
    · rw [setDoc_ge hx, hasAt_ge hx]
      by_cases e : x.path.toList = f.path.toList <;> simp [e]
    · rw [setDoc_lt hx, hasAt_lt hx, List.length_cons, ih]
      split <;> simp

theorem setDoc_may {l : List F} {f : F} (h : SetOk l f) (h16 : hasAt f.path l = true ∨ l.length < 16) : May (setDoc l f) := by
  obtain ⟨hm, hp, hv⟩ := h
  obtain ⟨m1, m2, m3⟩ := (may_iff l).1 hm
  refine (may_iff _).2 ⟨?_, fun x hx => ?_, setDoc_rises m3⟩
  · rw [setDoc_length]
    split
    · exact m1
    · rcases h16 with h | h
      · contradiction
      · omega
  · rcases setDoc_mem hx with rfl | hx
    · exact ⟨hp, hv⟩
    · exact m2 x hx

theorem firstAt_setDoc (l : List F) (f : F) : firstAt f.path (setDoc l f) < (setDoc l f).length ∧ got f.path (setDoc l f) = f.val := by
  induction l with
  | nil =>
    have : setDoc [] f = [f] := by simp [setDoc, hasAt]
    rw [this]
    have h0 : firstAt f.path [f] = 0 := by simp [firstAt]
    refine ⟨by rw [h0]; simp, ?_⟩
    unfold got
    simp only [h0]
    rfl
  | cons x r ih =>
    cases hx : lessP x.path f.path
    · rw [setDoc_ge hx]
      have h0 : ∀ t, firstAt f.path (f :: t) = 0 := fun t => by simp [firstAt]
      refine ⟨by rw [h0]; simp, ?_⟩
      unfold got
      simp only [h0]
      rfl
    · rw [setDoc_lt hx]
      have hne := ne_of_less hx
      have h0 : firstAt f.path (x :: setDoc r f) = firstAt f.path (setDoc r f) + 1 := by simp [firstAt, hne]
      refine ⟨by rw [h0]; simpa using ih.1, ?_⟩
      have h2 := ih.2
      unfold got at h2 ⊢
      rw [dif_pos ih.1] at h2
      simp only [h0]
      rw [dif_pos (by simpa using ih.1)]
      simpa using h2

theorem hasAt_first {l : List F} (p : ByteArray) (h : Rises l) : hasAt p l = decide (firstAt p l < l.length) := by
  induction l with
  | nil => simp [hasAt, firstAt]
  | cons x r ih =>
    obtain ⟨h1, h2⟩ := rises_cons.1 h
    cases hx : lessP x.path p
    · rw [hasAt_ge hx]
      by_cases e : x.path.toList = p.toList
      · simp [firstAt, e]
      · have hn : firstAt p r = r.length := firstAt_none (fun j hj e' => ne_of_more (later_ne h1 hx r[j] (List.getElem_mem hj)) e')
        simp [firstAt, e, hn]
    · rw [hasAt_lt hx, ih h2]
      have hne := ne_of_less hx
      simp [firstAt, hne]

theorem without_all {r : List F} {p : ByteArray} (h : ∀ y ∈ r, lessP p y.path = true) : without r p = r := by
  unfold without
  apply List.filter_eq_self.2
  intro y hy
  exact decide_eq_true (ne_of_more (h y hy))

theorem dropDoc_without {l : List F} (p : ByteArray) (h : Rises l) : dropDoc l p = without l p := by
  induction l with
  | nil => simp [dropDoc, without]
  | cons x r ih =>
    obtain ⟨h1, h2⟩ := rises_cons.1 h
    cases hx : lessP x.path p
    · have hw := without_all (later_ne h1 hx)
      unfold dropDoc
      rw [hasAt_ge hx, cutAt_ge hx]
      unfold without at hw ⊢
      by_cases e : x.path.toList = p.toList
      · rw [List.filter_cons_of_neg (by simp [e]), hw]
        simp [e]
      · rw [List.filter_cons_of_pos (by simp [e]), hw]
        simp [e]
    · have hne := ne_of_less hx
      have := ih h2
      unfold dropDoc at this ⊢
      rw [hasAt_lt hx, cutAt_lt hx]
      unfold without at this ⊢
      rw [List.filter_cons_of_pos (by simp [hne]), ← this]
      split <;> simp

/-- What the document's own Set makes, from a place on. -/
def putSet (f : F) : Bool → List F → List F
  | put, [] => if put then [] else [f]
  | put, x :: r => (if put = false ∧ lessP x.path f.path = false then [f] else []) ++ (if x.path.toList = f.path.toList then [] else [x]) ++ putSet f (put || !lessP x.path f.path) r

theorem putSet_true {f : F} {r : List F} (h : ∀ y ∈ r, lessP f.path y.path = true) : putSet f true r = r := by
  induction r with
  | nil => rfl
  | cons x r ih =>
    have hne := ne_of_more (h x (by simp))
    simp [putSet, hne, ih (fun y hy => h y (by simp [hy]))]

theorem putSet_setDoc {l : List F} (f : F) (h : Rises l) : putSet f false l = setDoc l f := by
  induction l with
  | nil => simp [putSet, setDoc, hasAt]
  | cons x r ih =>
    obtain ⟨h1, h2⟩ := rises_cons.1 h
    cases hx : lessP x.path f.path
    · rw [setDoc_ge hx]
      have := putSet_true (later_ne h1 hx)
      by_cases e : x.path.toList = f.path.toList <;> simp [putSet, hx, e, this]
    · rw [setDoc_lt hx, ← ih h2]
      have hne := ne_of_less hx
      simp [putSet, hx, hne]

end Go.Proofs.Ytcgbhbbljjdejaa
