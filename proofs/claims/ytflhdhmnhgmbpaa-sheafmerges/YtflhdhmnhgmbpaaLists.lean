/-
  Sheaves as lists: what is set, dropped, found in them, by the code and by the document; all in plain data.
-/
import Derived.Test.YtflhdhmnhgmbpaaJoin
namespace Go.Proofs.Ytflhdhmnhgmbpaa
open Go.RowKit

/-- What stands behind a key, or from it on. -/
def restOf (p : ByteArray) (fs : List F) : List F := if hasAt p fs then fs.drop (cutAt p fs + 1) else fs.drop (cutAt p fs)

/-- A sheaf with a pair. -/
def setDoc (fs : List F) (f : F) : List F := fs.take (cutAt f.path fs) ++ f :: (if hasAt f.path fs then fs.drop (cutAt f.path fs + 1) else fs.drop (cutAt f.path fs))

/-- A sheaf without a key. -/
def dropDoc (fs : List F) (p : ByteArray) : List F := if hasAt p fs then fs.take (cutAt p fs) ++ fs.drop (cutAt p fs + 1) else fs

def without (fs : List F) (p : ByteArray) : List F := fs.filter (fun f => decide (¬ f.path.toList = p.toList))

/-- What stands at a key. -/
def got (p : ByteArray) (l : List F) : ByteArray := if h : firstAt p l < l.length then l[firstAt p l].val else ⟨#[]⟩

theorem rises_cons {x : F} {r : List F} : Rises (x :: r) ↔ (∀ y ∈ r, lessP x.path y.path = true) ∧ Rises r := by
  constructor
  · intro h
    refine ⟨fun y hy => ?_, fun i j hi hj hij => ?_⟩
    · obtain ⟨k, hk, rfl⟩ := List.getElem_of_mem hy
      have := h 0 (k + 1) (by simp) (by simpa using hk) (by omega)
      simpa using this
    · have := h (i + 1) (j + 1) (by simpa using hi) (by simpa using hj) (by omega)
      simpa using this
  · rintro ⟨h1, h2⟩ i j hi hj hij
    cases j with
    | zero => omega
    | succ j =>
      have hj' : j < r.length := by simpa using hj
      cases i with
      | zero => simpa using h1 r[j] (List.getElem_mem hj')
      | succ i => simpa using h2 i j (by simpa using hi) hj' (by omega)

theorem may_iff (l : List F) : May l ↔ Rises l := by
  constructor
  · exact May.rises
  · intro h k hk h0
    exact h (k - 1) k (by omega) hk (by omega)

theorem cutAt_lt {x : F} {r : List F} {p : ByteArray} (h : lessP x.path p = true) : cutAt p (x :: r) = cutAt p r + 1 := by simp [cutAt, h]
theorem cutAt_ge {x : F} {r : List F} {p : ByteArray} (h : lessP x.path p = false) : cutAt p (x :: r) = 0 := by simp [cutAt, h]

theorem hasAt_lt {x : F} {r : List F} {p : ByteArray} (h : lessP x.path p = true) : hasAt p (x :: r) = hasAt p r := by
  unfold hasAt
  apply decide_eq_decide.2
  simp only [cutAt_lt h, List.length_cons, List.getElem_cons_succ, Nat.add_lt_add_iff_right]

theorem hasAt_ge {x : F} {r : List F} {p : ByteArray} (h : lessP x.path p = false) : hasAt p (x :: r) = decide (x.path.toList = p.toList) := by
  unfold hasAt
  apply decide_eq_decide.2
  simp [cutAt_ge h]

theorem ne_of_less {x y : ByteArray} (h : lessP x y = true) : ¬ x.toList = y.toList := fun e => by rw [lessP_irrefl x y e] at h; cases h
theorem ne_of_more {x y : ByteArray} (h : lessP y x = true) : ¬ x.toList = y.toList := fun e => ne_of_less h e.symm

theorem less_congr {x y z : ByteArray} (h : x.toList = y.toList) : lessP x z = lessP y z := by simp [lessP, h]

/-- Behind a field that does not lie ahead of a path none has that path. -/
theorem later_ne {x : F} {r : List F} {p : ByteArray} (h : ∀ y ∈ r, lessP x.path y.path = true) (hx : lessP x.path p = false) : ∀ y ∈ r, lessP p y.path = true := by
  intro y hy
  by_cases e : x.path.toList = p.toList
  · rw [← less_congr e]; exact h y hy
  · exact lessP_trans (lessP_total hx e) (h y hy)

theorem setDoc_lt {x : F} {r : List F} {f : F} (h : lessP x.path f.path = true) : setDoc (x :: r) f = x :: setDoc r f := by
  simp only [setDoc, cutAt_lt h, hasAt_lt h, List.take_succ_cons, List.drop_succ_cons, List.cons_append]

theorem setDoc_ge {x : F} {r : List F} {f : F} (h : lessP x.path f.path = false) : setDoc (x :: r) f = f :: (if x.path.toList = f.path.toList then r else x :: r) := by
  simp only [setDoc, cutAt_ge h, hasAt_ge h, List.take_zero, List.nil_append, List.drop_zero, decide_eq_true_eq]
  rfl

theorem setDoc_mem {l : List F} {f y : F} (h : y ∈ setDoc l f) : y = f ∨ y ∈ l := by
  induction l with
  | nil => simpa [setDoc, hasAt] using h
  | cons x r ih =>
    cases hx : lessP x.path f.path
    · rw [setDoc_ge hx] at h
      simp only [List.mem_cons] at h ⊢
      rcases h with h | h
      · exact .inl h
      · split at h
        · exact .inr (.inr h)
        · exact .inr (by simpa using h)
    · rw [setDoc_lt hx] at h
      simp only [List.mem_cons] at h ⊢
      rcases h with h | h
      · exact .inr (.inl h)
      · rcases ih h with h | h
        · exact .inl h
        · exact .inr (.inr h)

theorem setDoc_rises {l : List F} {f : F} (h : Rises l) : Rises (setDoc l f) := by
  induction l with
  | nil =>
    have : setDoc [] f = [f] := by simp [setDoc, hasAt]
    rw [this, rises_cons]
    exact ⟨by simp, h⟩
  | cons x r ih =>
    obtain ⟨h1, h2⟩ := rises_cons.1 h
    cases hx : lessP x.path f.path
    · rw [setDoc_ge hx, rises_cons]
      split
      · exact ⟨fun y hy => later_ne h1 hx y hy, h2⟩
      · rename_i hne
        refine ⟨fun y hy => ?_, h⟩
        rcases List.mem_cons.1 hy with rfl | hy
        · exact lessP_total hx hne
        · exact later_ne h1 hx y hy
    · rw [setDoc_lt hx, rises_cons]
      refine ⟨fun y hy => ?_, ih h2⟩
      rcases setDoc_mem hy with rfl | hy
      · exact hx
      · exact h1 y hy

theorem setDoc_length {l : List F} {f : F} : (setDoc l f).length = if hasAt f.path l then l.length else l.length + 1 := by
  induction l with
  | nil => simp [setDoc, hasAt]
  | cons x r ih =>
    cases hx : lessP x.path f.path
    · rw [setDoc_ge hx, hasAt_ge hx]
      by_cases e : x.path.toList = f.path.toList <;> simp [e]
    · rw [setDoc_lt hx, hasAt_lt hx, List.length_cons, ih]
      split <;> simp

theorem firstAt_setDoc (l : List F) (f : F) : firstAt f.path (setDoc l f) < (setDoc l f).length ∧ got f.path (setDoc l f) = f.val := by
  induction l with
  | nil =>
    have : setDoc [] f = [f] := by simp [setDoc, hasAt]
    rw [this]
    have h0 : firstAt f.path [f] = 0 := by simp [firstAt]
    refine ⟨by rw [h0]; simp, ?_⟩
    unfold got
    simp only [h0]
    rfl
  | cons x r ih =>
    cases hx : lessP x.path f.path
    · rw [setDoc_ge hx]
      have h0 : ∀ t, firstAt f.path (f :: t) = 0 := fun t => by simp [firstAt]
      refine ⟨by rw [h0]; simp, ?_⟩
      unfold got
      simp only [h0]
      rfl
    · rw [setDoc_lt hx]
      have hne := ne_of_less hx
      have h0 : firstAt f.path (x :: setDoc r f) = firstAt f.path (setDoc r f) + 1 := by simp [firstAt, hne]
      refine ⟨by rw [h0]; simpa using ih.1, ?_⟩
      have h2 := ih.2
      unfold got at h2 ⊢
      rw [dif_pos ih.1] at h2
      simp only [h0]
      rw [dif_pos (by simpa using ih.1)]
      simpa using h2

theorem hasAt_first {l : List F} (p : ByteArray) (h : Rises l) : hasAt p l = decide (firstAt p l < l.length) := by
  induction l with
  | nil => simp [hasAt, firstAt]
  | cons x r ih =>
    obtain ⟨h1, h2⟩ := rises_cons.1 h
    cases hx : lessP x.path p
    · rw [hasAt_ge hx]
      by_cases e : x.path.toList = p.toList
      · simp [firstAt, e]
      · have hn : firstAt p r = r.length := firstAt_none (fun j hj e' => ne_of_more (later_ne h1 hx r[j] (List.getElem_mem hj)) e')
        simp [firstAt, e, hn]
    · rw [hasAt_lt hx, ih h2]
      have hne := ne_of_less hx
      simp [firstAt, hne]

theorem without_all {r : List F} {p : ByteArray} (h : ∀ y ∈ r, lessP p y.path = true) : without r p = r := by
  unfold without
  apply List.filter_eq_self.2
  intro y hy
  exact decide_eq_true (ne_of_more (h y hy))

theorem dropDoc_without {l : List F} (p : ByteArray) (h : Rises l) : dropDoc l p = without l p := by
  induction l with
  | nil => simp [dropDoc, without]
  | cons x r ih =>
    obtain ⟨h1, h2⟩ := rises_cons.1 h
    cases hx : lessP x.path p
    · have hw := without_all (later_ne h1 hx)
      unfold dropDoc
      rw [hasAt_ge hx, cutAt_ge hx]
      unfold without at hw ⊢
      by_cases e : x.path.toList = p.toList
      · rw [List.filter_cons_of_neg (by simp [e]), hw]
        simp [e]
      · rw [List.filter_cons_of_pos (by simp [e]), hw]
        simp [e]
    · have hne := ne_of_less hx
      have := ih h2
      unfold dropDoc at this ⊢
      rw [hasAt_lt hx, cutAt_lt hx]
      unfold without at this ⊢
      rw [List.filter_cons_of_pos (by simp [hne]), ← this]
      split <;> simp


theorem setDoc_rest (l : List F) (f : F) : setDoc l f = l.take (cutAt f.path l) ++ f :: restOf f.path l := rfl

theorem dropDoc_rest (l : List F) (p : ByteArray) : dropDoc l p = l.take (cutAt p l) ++ restOf p l := by
  unfold dropDoc restOf
  split
  · rfl
  · rw [List.take_append_drop]

theorem first_cut {l : List F} (p : ByteArray) (h : Rises l) (hh : hasAt p l = true) : firstAt p l = cutAt p l := by
  induction l with
  | nil => rfl
  | cons x r ih =>
    obtain ⟨h1, h2⟩ := rises_cons.1 h
    cases hx : lessP x.path p
    · rw [hasAt_ge hx, decide_eq_true_eq] at hh
      rw [cutAt_ge hx]
      simp [firstAt, hh]
    · rw [hasAt_lt hx] at hh
      have hne := ne_of_less hx
      rw [cutAt_lt hx, ← ih h2 hh]
      simp [firstAt, hne]

theorem restOf_lt {x : F} {r : List F} {p : ByteArray} (h : lessP x.path p = true) : restOf p (x :: r) = restOf p r := by
  unfold restOf
  rw [hasAt_lt h, cutAt_lt h]
  simp

theorem restOf_ge {x : F} {r : List F} {p : ByteArray} (h : lessP x.path p = false) : restOf p (x :: r) = if x.path.toList = p.toList then r else x :: r := by
  unfold restOf
  rw [hasAt_ge h, cutAt_ge h]
  simp

theorem restOf_more {l : List F} (p : ByteArray) (h : Rises l) : ∀ y ∈ restOf p l, lessP p y.path = true := by
  induction l with
  | nil => simp [restOf]
  | cons x r ih =>
    obtain ⟨h1, h2⟩ := rises_cons.1 h
    cases hx : lessP x.path p
    · rw [restOf_ge hx]
      have hm := later_ne h1 hx
      split
      · exact hm
      · rename_i hne
        intro y hy
        rcases List.mem_cons.1 hy with rfl | hy
        · exact lessP_total hx hne
        · exact hm y hy
    · rw [restOf_lt hx]
      exact ih h2

theorem take_less {l : List F} (p : ByteArray) : ∀ y ∈ l.take (cutAt p l), lessP y.path p = true := by
  induction l with
  | nil => simp [cutAt]
  | cons x r ih =>
    cases hx : lessP x.path p
    · rw [cutAt_ge hx]; simp
    · rw [cutAt_lt hx]
      intro y hy
      rcases List.mem_cons.1 (by simpa using hy) with rfl | hy
      · exact hx
      · exact ih y hy

/-- What the document's own Set puts behind. -/
def after (p : ByteArray) (l : List F) : List F := l.filter (fun x => lessP p x.path)

theorem after_rest {l : List F} (p : ByteArray) (h : Rises l) : after p l = restOf p l := by
  induction l with
  | nil => simp [after, restOf]
  | cons x r ih =>
    obtain ⟨h1, h2⟩ := rises_cons.1 h
    cases hx : lessP x.path p
    · have hm := later_ne h1 hx
      have hr : after p r = r := List.filter_eq_self.2 hm
      rw [restOf_ge hx]
      unfold after at hr ⊢
      by_cases e : x.path.toList = p.toList
      · rw [List.filter_cons_of_neg (by rw [lessP_irrefl _ _ e.symm]; simp), hr, if_pos e]
      · rw [List.filter_cons_of_pos (by exact lessP_total hx e), hr, if_neg e]
    · rw [restOf_lt hx, ← ih h2]
      unfold after
      rw [List.filter_cons_of_neg (by rw [lessP_asymm hx]; simp)]

theorem Rises.drop {l : List F} (h : Rises l) (n : Nat) : Rises (l.drop n) := by
  intro i j hi hj hij
  have := h (n + i) (n + j) (by simp at hi; omega) (by simp at hj; omega) (by omega)
  simpa using this

theorem Rises.take {l : List F} (h : Rises l) (n : Nat) : Rises (l.take n) := by
  intro i j hi hj hij
  have := h i j (by simp at hi; omega) (by simp at hj; omega) hij
  simpa using this

theorem Rises.rest {l : List F} (h : Rises l) (p : ByteArray) : Rises (restOf p l) := by
  unfold restOf
  split <;> exact h.drop _

theorem dropDoc_rises {l : List F} (h : Rises l) (p : ByteArray) : Rises (dropDoc l p) := by
  induction l with
  | nil => simpa [dropDoc] using h
  | cons x r ih =>
    obtain ⟨h1, h2⟩ := rises_cons.1 h
    rw [dropDoc_rest]
    cases hx : lessP x.path p
    · rw [cutAt_ge hx, restOf_ge hx]
      split
      · simpa using h2
      · simpa using h
    · rw [cutAt_lt hx, restOf_lt hx]
      have := ih h2
      rw [dropDoc_rest] at this
      rw [List.take_succ_cons, List.cons_append, rises_cons]
      refine ⟨fun y hy => ?_, this⟩
      rcases List.mem_append.1 hy with hy | hy
      · exact h1 y (List.mem_of_mem_take hy)
      · unfold restOf at hy
        split at hy <;> exact h1 y (List.mem_of_mem_drop hy)

theorem dropDoc_not {l : List F} (p : ByteArray) (h : Rises l) : hasAt p (dropDoc l p) = false := by
  rw [hasAt_first p (dropDoc_rises h p), dropDoc_without p h, decide_eq_false_iff_not]
  have : firstAt p (without l p) = (without l p).length := firstAt_none (fun j hj e => by
    have := List.getElem_mem hj
    unfold without at this
    rw [List.mem_filter] at this
    exact (of_decide_eq_true this.2) e)
  omega

theorem restOf_length_le (p : ByteArray) (l : List F) : (restOf p l).length ≤ l.length := by
  unfold restOf
  split <;> simp

/-- What Merge makes. -/
def mergeDoc : List F → List F → List F
  | a, [] => a
  | a, p :: r => a.take (cutAt p.path a) ++ p :: mergeDoc (restOf p.path a) r

theorem fold_cons {x : F} {t r : List F} (h : ∀ y ∈ r, lessP x.path y.path = true) : r.foldl setDoc (x :: t) = x :: r.foldl setDoc t := by
  induction r generalizing t with
  | nil => rfl
  | cons y r ih =>
    simp only [List.foldl_cons]
    rw [setDoc_lt (h y (by simp))]
    exact ih (fun z hz => h z (by simp [hz]))

theorem fold_append {A t r : List F} (h : ∀ x ∈ A, ∀ y ∈ r, lessP x.path y.path = true) : r.foldl setDoc (A ++ t) = A ++ r.foldl setDoc t := by
  induction A with
  | nil => rfl
  | cons x A ih =>
    rw [List.cons_append, fold_cons (h x (by simp)), ih (fun z hz => h z (by simp [hz]))]
    rfl

theorem merge_fold {a b : List F} (hb : Rises b) : b.foldl setDoc a = mergeDoc a b := by
  induction b generalizing a with
  | nil => rfl
  | cons p r ih =>
    obtain ⟨h1, h2⟩ := rises_cons.1 hb
    rw [List.foldl_cons, setDoc_rest, fold_append (fun x hx y hy => lessP_trans (take_less p.path x hx) (h1 y hy)), fold_cons h1, ih h2]
    rfl

theorem mergeDoc_length (a b : List F) : (mergeDoc a b).length ≤ a.length + b.length := by
  induction b generalizing a with
  | nil => simp [mergeDoc]
  | cons p r ih =>
    have h1 := ih (restOf p.path a)
    have h2 : (a.take (cutAt p.path a)).length + (restOf p.path a).length ≤ a.length := by
      unfold restOf
      have := cutAt_le p.path a
      split <;> simp <;> omega
    simp only [mergeDoc, List.length_append, List.length_cons]
    omega

/-- The pairs between two keys. -/
def isIn (p t : ByteArray) (x : F) : Bool := !lessP x.path p && (decide (t.toList = []) || lessP x.path t)

/-- What Scan tells, ahead of the cut by number. -/
def scanCut (p t : ByteArray) (l : List F) : List F := (if t.toList = [] then l else l.take (cutAt t l)).drop (cutAt p (if t.toList = [] then l else l.take (cutAt t l)))

theorem drop_filter {l : List F} (p : ByteArray) (h : Rises l) : l.drop (cutAt p l) = l.filter (fun x => !lessP x.path p) := by
  induction l with
  | nil => simp
  | cons x r ih =>
    obtain ⟨h1, h2⟩ := rises_cons.1 h
    cases hx : lessP x.path p
    · rw [cutAt_ge hx, List.drop_zero]
      refine (List.filter_eq_self.2 fun y hy => ?_).symm
      rcases List.mem_cons.1 hy with rfl | hy
      · simp [hx]
      · rw [lessP_asymm (later_ne h1 hx y hy)]; rfl
    · rw [cutAt_lt hx, List.drop_succ_cons, ih h2, List.filter_cons_of_neg (by simp [hx])]

theorem take_filter {l : List F} (t : ByteArray) (h : Rises l) : l.take (cutAt t l) = l.filter (fun x => lessP x.path t) := by
  induction l with
  | nil => simp
  | cons x r ih =>
    obtain ⟨h1, h2⟩ := rises_cons.1 h
    cases hx : lessP x.path t
    · rw [cutAt_ge hx, List.take_zero]
      refine (List.filter_eq_nil_iff.2 fun y hy => ?_).symm
      rcases List.mem_cons.1 hy with rfl | hy
      · simp [hx]
      · rw [lessP_asymm (later_ne h1 hx y hy)]; simp
    · rw [cutAt_lt hx, List.take_succ_cons, ih h2, List.filter_cons_of_pos (by exact hx)]

theorem scan_filter {l : List F} (p t : ByteArray) (h : Rises l) : scanCut p t l = l.filter (isIn p t) := by
  unfold scanCut
  by_cases ht : t.toList = []
  · simp only [ht, if_true]
    rw [drop_filter p h]
    apply List.filter_congr
    intro x _
    simp [isIn, ht]
  · simp only [ht, if_false]
    rw [drop_filter p (h.take _), take_filter t h, List.filter_filter]
    apply List.filter_congr
    intro x _
    simp [isIn, ht]

theorem scan_length (p t : ByteArray) (l : List F) : (scanCut p t l).length ≤ l.length := by
  unfold scanCut
  split <;> simp <;> omega

/-- A scan that is cut, and gone on from the next key, is the scan. -/
theorem scan_goes {l : List F} (p t : ByteArray) (h : Rises l) {n : Nat} (hn : n < (l.filter (isIn p t)).length) :
    (l.filter (isIn p t)).take n ++ l.filter (isIn (l.filter (isIn p t))[n].path t) = l.filter (isIn p t) := by
  have hA : Rises (l.filter (isIn p t)) := by
    rw [← scan_filter p t h]
    unfold scanCut
    split
    · exact h.drop _
    · exact (h.take _).drop _
  have hq : ∀ x, isIn (l.filter (isIn p t))[n].path t x = true ↔ (isIn p t x = true ∧ lessP x.path (l.filter (isIn p t))[n].path = false) := by
    intro x
    have hm := List.mem_filter.1 (List.getElem_mem hn)
    have h0 : lessP (l.filter (isIn p t))[n].path p = false := by
      have := hm.2
      simp only [isIn, Bool.and_eq_true, Bool.not_eq_true'] at this
      exact this.1
    generalize (l.filter (isIn p t))[n].path = q at *
    simp only [isIn, Bool.and_eq_true, Bool.not_eq_true']
    constructor
    · rintro ⟨h1, h2⟩
      refine ⟨⟨?_, h2⟩, h1⟩
      by_cases hx : lessP x.path p = true
      · exfalso
        by_cases e : q.toList = p.toList
        · have : lessP x.path q = true := by simpa [lessP, e] using hx
          rw [this] at h1; cases h1
        · rw [lessP_trans hx (lessP_total h0 e)] at h1; cases h1
      · simpa using hx
    · rintro ⟨⟨h1, h2⟩, h3⟩
      exact ⟨h3, h2⟩
  have hf : l.filter (isIn (l.filter (isIn p t))[n].path t) = (l.filter (isIn p t)).filter (fun x => !lessP x.path (l.filter (isIn p t))[n].path) := by
    rw [List.filter_filter]
    apply List.filter_congr
    intro x _
    have := hq x
    rw [Bool.eq_iff_iff, this]
    simp [and_comm]
  rw [hf, ← drop_filter _ hA]
  have hc : cutAt (l.filter (isIn p t))[n].path (l.filter (isIn p t)) = n := cutAt_eq (by omega) (fun i hi hin => hA i n hi hn hin) (fun _ => lessP_irrefl _ _ rfl)
  rw [hc, List.take_append_drop]

end Go.Proofs.Ytflhdhmnhgmbpaa
