/-
  Which texts are expressions, by the last sign outside of parentheses; the digits of a number; all in plain lists.
-/
import Derived.Test.YtiacnmcdfpmcfaaGreatDoorGram
namespace Go.Proofs.YtiacnmcdfpmcfaaGreatDoor
open Go.RowKit

/-- What a sign does to the parentheses that are open. -/
def dl (x : UInt8) : Int := if x = 40 then 1 else if x = 41 then -1 else 0
def op (s : List UInt8) : Int := (s.map dl).sum

theorem op_nil : op [] = 0 := rfl
theorem op_cons (x : UInt8) (s : List UInt8) : op (x :: s) = dl x + op s := by simp [op]
theorem op_append (a b : List UInt8) : op (a ++ b) = op a + op b := by simp [op]

/-- The last one of a sign outside of parentheses. -/
def lastF (c : UInt8) : Int → Int → Nat → List UInt8 → Int
  | _, a, _, [] => a
  | k, a, i, x :: r => lastF c (k + dl x) (if k + dl x = 0 ∧ x = c then (i : Int) else a) (i + 1) r
def lastL (c : UInt8) (s : List UInt8) : Int := lastF c 0 (-1) 0 s

/-- No such sign stands outside of parentheses. -/
def noTop (c : UInt8) (k : Int) (s : List UInt8) : Prop := ∀ p q, s = p ++ c :: q → k + op p ≠ 0

theorem lastF_none {c : UInt8} (hc : dl c = 0) : ∀ (s : List UInt8) (k a : Int) (i : Nat), noTop c k s → lastF c k a i s = a := by
  intro s
  induction s with
  | nil => intro k a i _; rfl
  | cons x r ih =>
    intro k a i h
    simp only [lastF]
    have h1 : ¬ (k + dl x = 0 ∧ x = c) := by
      rintro ⟨h1, rfl⟩
      exact h [] r rfl (by rw [op_nil]; omega)
    rw [if_neg h1]
    exact ih _ _ _ (fun p q e => by have := h (x :: p) q (by rw [e]; rfl); rw [op_cons] at this; omega)

theorem lastF_some {c : UInt8} (hc : dl c = 0) : ∀ (p q : List UInt8) (k a : Int) (i : Nat), k + op p = 0 → noTop c 0 q → lastF c k a i (p ++ c :: q) = ((i + p.length : Nat) : Int) := by
  intro p
  induction p with
  | nil =>
    intro q k a i hk hq
    rw [op_nil] at hk
    have hk : k = 0 := by omega
    subst hk
    simp only [List.nil_append, lastF]
    rw [if_pos ⟨by rw [hc]; rfl, trivial⟩, lastF_none hc _ _ _ _ (by rw [hc]; exact hq)]
    simp
  | cons x p ih =>
    intro q k a i hk hq
    rw [op_cons] at hk
    simp only [List.cons_append, lastF]
    rw [ih q _ _ _ (by omega) hq]
    simp only [List.length_cons]
    omega

theorem ex_last {c : UInt8} (hc : dl c = 0) : ∀ (s : List UInt8) (k : Int), ¬ noTop c k s → ∃ p q, s = p ++ c :: q ∧ k + op p = 0 ∧ noTop c 0 q := by
  intro s
  induction s with
  | nil => intro k h; exact absurd (fun p q e => by simp at e) h
  | cons x r ih =>
    intro k h
    by_cases h1 : noTop c (k + dl x) r
    · have : ∃ p q, x :: r = p ++ c :: q ∧ k + op p = 0 := by
        apply Classical.byContradiction
        intro hn
        exact h (fun p q e hk => hn ⟨p, q, e, hk⟩)
      obtain ⟨p, q, e, hk⟩ := this
      cases p with
      | nil =>
        simp only [List.nil_append, List.cons.injEq] at e
        obtain ⟨rfl, rfl⟩ := e
        rw [op_nil] at hk
        refine ⟨[], r, rfl, by rw [op_nil]; exact hk, ?_⟩
        rw [hc] at h1
        have e0 : k + 0 = (0 : Int) := by omega
        rw [e0] at h1
        exact h1
      | cons y p =>
        simp only [List.cons_append, List.cons.injEq] at e
        obtain ⟨rfl, e⟩ := e
        rw [op_cons] at hk
        exact absurd (by omega) (h1 p q e)
    · obtain ⟨p, q, e, hk, hq⟩ := ih _ h1
      exact ⟨x :: p, q, by rw [e]; rfl, by rw [op_cons]; omega, hq⟩

theorem lastL_none {c : UInt8} (hc : dl c = 0) {s : List UInt8} (h : noTop c 0 s) : lastL c s = -1 := lastF_none hc s 0 (-1) 0 h
theorem lastL_some {c : UInt8} (hc : dl c = 0) {p q : List UInt8} (h : op p = 0) (hq : noTop c 0 q) : lastL c (p ++ c :: q) = (p.length : Int) := by
  have := lastF_some hc p q 0 (-1) 0 (by omega) hq
  rw [Nat.zero_add] at this
  exact this

/-- Two last ones are one. -/
theorem last_one {c : UInt8} (hc : dl c = 0) {p q p' q' : List UInt8} (e : p ++ c :: q = p' ++ c :: q') (h : op p = 0) (hq : noTop c 0 q) (h' : op p' = 0) (hq' : noTop c 0 q') : p = p' ∧ q = q' := by
  have h1 := lastL_some hc h hq
  rw [e, lastL_some hc h' hq'] at h1
  have hl : p.length = p'.length := by omega
  have := List.append_inj e hl
  exact ⟨this.1, by simpa using this.2⟩

/-- A text that begins with a parenthesis that its last sign closes. -/
def whl : Int → List UInt8 → Bool
  | k, [] => decide (k = 0)
  | k, x :: r => if k + dl x ≤ 0 ∧ r ≠ [] then false else whl (k + dl x) r
def wholeL (s : List UInt8) : Bool := whl 0 s && decide (2 ≤ s.length)

theorem dl_le (x : UInt8) : dl x ≤ 1 ∧ -1 ≤ dl x := by unfold dl; split <;> (try split) <;> omega
theorem dl_pos {x : UInt8} (h : 0 < dl x) : x = 40 := by
  unfold dl at h
  split at h
  · assumption
  · split at h <;> omega
theorem dl_neg {x : UInt8} (h : dl x < 0) : x = 41 := by
  unfold dl at h
  split at h
  · omega
  · split at h
    · assumption
    · omega

theorem whl_ends : ∀ (s : List UInt8) (k : Int), 0 < k → whl k s = true → ∃ a, s = a ++ [41] := by
  intro s
  induction s with
  | nil => intro k hk h; simp [whl] at h; omega
  | cons x r ih =>
    intro k hk h
    simp only [whl] at h
    split at h
    · cases h
    · rename_i hn
      cases r with
      | nil =>
        simp [whl] at h
        have : x = 41 := dl_neg (by omega)
        exact ⟨[], by rw [this]; rfl⟩
      | cons y t =>
        have h1 : 0 < k + dl x := by
          simp at hn
          omega
        obtain ⟨a, ha⟩ := ih _ h1 h
        exact ⟨x :: a, by rw [ha]; rfl⟩

theorem whole_sound {s : List UInt8} (h : wholeL s = true) : ∃ a, s = 40 :: (a ++ [41]) := by
  simp only [wholeL, Bool.and_eq_true, decide_eq_true_eq] at h
  obtain ⟨h, hl⟩ := h
  match s, hl, h with
  | x :: y :: t, _, h =>
    simp only [whl] at h
    split at h
    · cases h
    · rename_i hn
      simp at hn
      have h1 : x = 40 := dl_pos (by omega)
      obtain ⟨a, ha⟩ := whl_ends (y :: t) _ (by omega : 0 < 0 + dl x) h
      exact ⟨a, by rw [h1, ha]⟩

theorem whl_close : ∀ (a : List UInt8) (k : Int), (∀ p q, a = p ++ q → 0 < k + op p) → k + op a = 1 → whl k (a ++ [41]) = true := by
  intro a
  induction a with
  | nil =>
    intro k _ h
    rw [op_nil] at h
    have : k = 1 := by omega
    subst this
    decide
  | cons x r ih =>
    intro k h h1
    rw [op_cons] at h1
    have h2 := h [x] r rfl
    rw [op_cons, op_nil] at h2
    simp only [List.cons_append, whl]
    rw [if_neg (by omega)]
    exact ih _ (fun p q e => by have := h (x :: p) q (by rw [e]; rfl); rw [op_cons] at this; omega) (by omega)

/-- What parentheses a text of the grammar has. -/
structure Bal (lv : Lv) (s : List UInt8) : Prop where
  all : op s = 0
  pre : ∀ p q, s = p ++ q → 0 ≤ op p
  plus : lv ≠ .sum → noTop 43 0 s
  star : lv = .part → noTop 42 0 s

theorem whole_of {a : List UInt8} (h : op a = 0) (hp : ∀ p q, a = p ++ q → 0 ≤ op p) : wholeL (40 :: (a ++ [41])) = true := by
  simp only [wholeL, Bool.and_eq_true, decide_eq_true_eq]
  refine ⟨?_, by simp⟩
  simp only [whl]
  have h40 : dl 40 = 1 := by decide
  rw [h40, if_neg (by omega)]
  exact whl_close a _ (fun p q e => by have := hp p q e; omega) (by omega)

theorem wc_dl {c : UInt8} (h : wc c = true) : dl c = 0 ∧ c ≠ 40 ∧ c ≠ 41 ∧ c ≠ 42 ∧ c ≠ 43 := by
  have h1 : c ≠ 40 := by rintro rfl; exact absurd h (by decide)
  have h2 : c ≠ 41 := by rintro rfl; exact absurd h (by decide)
  have h3 : c ≠ 42 := by rintro rfl; exact absurd h (by decide)
  have h4 : c ≠ 43 := by rintro rfl; exact absurd h (by decide)
  exact ⟨by simp [dl, h1, h2], h1, h2, h3, h4⟩

theorem op_wc {s : List UInt8} (h : ∀ c ∈ s, wc c = true) : op s = 0 := by
  induction s with
  | nil => rfl
  | cons x r ih => rw [op_cons, ih (fun c hc => h c (by simp [hc])), (wc_dl (h x (by simp))).1]; rfl

theorem bal_word {lv : Lv} {s : List UInt8} (h : ∀ c ∈ s, wc c = true) : Bal lv s := by
  refine ⟨op_wc h, fun p q e => ?_, fun _ p q e => ?_, fun _ p q e => ?_⟩
  · rw [op_wc (fun c hc => h c (by rw [e]; simp [hc]))]; exact Int.le_refl _
  · exact absurd rfl (wc_dl (h 43 (by rw [e]; simp))).2.2.2.2
  · exact absurd rfl (wc_dl (h 42 (by rw [e]; simp))).2.2.2.1

theorem pre_app {a b p q : List UInt8} (e : a ++ b = p ++ q) : (∃ t, a = p ++ t) ∨ ∃ t, p = a ++ t ∧ b = t ++ q := by
  rcases List.append_eq_append_iff.1 e with ⟨t, h1, h2⟩ | ⟨t, h1, h2⟩
  · exact .inr ⟨t, h1, h2⟩
  · exact .inl ⟨t, h1⟩

/-- A sign within a text in parentheses. -/
theorem in_paren {a p q : List UInt8} {c : UInt8} (hc : c ≠ 40 ∧ c ≠ 41) (hp : ∀ p q, a = p ++ q → 0 ≤ op p) (e : 40 :: (a ++ [41]) = p ++ c :: q) : 0 < op p := by
  cases p with
  | nil => simp at e; exact absurd e.1.symm hc.1
  | cons x p =>
    simp only [List.cons_append, List.cons.injEq] at e
    obtain ⟨rfl, e⟩ := e
    have h40 : dl 40 = 1 := by decide
    rw [op_cons, h40]
    rcases pre_app e with ⟨t, h⟩ | ⟨t, h1, h2⟩
    · have := hp p t h; omega
    · cases t with
      | nil => simp at h2; exact absurd h2.1.symm hc.2
      | cons y t =>
        simp only [List.cons_append, List.cons.injEq] at h2
        have := h2.2
        simp at this

theorem paren_pre {a p q : List UInt8} (ha : op a = 0) (hp : ∀ p q, a = p ++ q → 0 ≤ op p) (e : 40 :: (a ++ [41]) = p ++ q) : 0 ≤ op p := by
  cases p with
  | nil => rw [op_nil]; exact Int.le_refl _
  | cons x p =>
    simp only [List.cons_append, List.cons.injEq] at e
    obtain ⟨rfl, e⟩ := e
    have h40 : dl 40 = 1 := by decide
    rw [op_cons, h40]
    rcases pre_app e with ⟨t, h⟩ | ⟨t, h1, h2⟩
    · have := hp p t h; omega
    · subst h1
      have h41 : dl 41 = -1 := by decide
      cases t with
      | nil => rw [op_append, ha, op_nil]; decide
      | cons y t =>
        simp only [List.cons_append, List.cons.injEq] at h2
        obtain ⟨rfl, h2⟩ := h2
        have : t = [] := by
          cases t with
          | nil => rfl
          | cons z t => simp at h2
        subst this
        rw [op_append, ha, op_cons, h41, op_nil]
        decide

theorem paren_all {a : List UInt8} (ha : op a = 0) : op (40 :: (a ++ [41])) = 0 := by
  have h40 : dl 40 = 1 := by decide
  have h41 : dl 41 = -1 := by decide
  rw [op_cons, op_append, op_cons, op_nil, h40, h41, ha]
  decide

theorem top_app {c x : UInt8} {k : Int} {a b : List UInt8} (hx : x ≠ c) (hdx : dl x = 0) (ha : noTop c k a) (hoa : op a = 0) (hb : noTop c k b) : noTop c k (a ++ x :: b) := by
  intro p q e
  rcases pre_app e with ⟨t, h⟩ | ⟨t, h1, h2⟩
  · subst h
    rw [List.append_assoc] at e
    have e := List.append_cancel_left e
    cases t with
    | nil => simp at e; exact absurd e.1 hx
    | cons y t =>
      simp only [List.cons_append, List.cons.injEq] at e
      obtain ⟨rfl, _⟩ := e
      exact ha p t rfl
  · subst h1
    rw [op_append, hoa]
    cases t with
    | nil => simp at h2; exact absurd h2.1 hx
    | cons y t =>
      simp only [List.cons_append, List.cons.injEq] at h2
      obtain ⟨rfl, h2⟩ := h2
      rw [op_cons, hdx]
      have := hb t q h2
      omega

theorem pre_mid {x : UInt8} {a b : List UInt8} (hdx : dl x = 0) (hoa : op a = 0) (ha : ∀ p q, a = p ++ q → 0 ≤ op p) (hb : ∀ p q, b = p ++ q → 0 ≤ op p) : ∀ p q, a ++ x :: b = p ++ q → 0 ≤ op p := by
  intro p q e
  rcases pre_app e with ⟨t, h⟩ | ⟨t, h1, h2⟩
  · exact ha p t h
  · subst h1
    rw [op_append, hoa]
    cases t with
    | nil => rw [op_nil]; decide
    | cons y t =>
      simp only [List.cons_append, List.cons.injEq] at h2
      obtain ⟨rfl, h2⟩ := h2
      rw [op_cons, hdx]
      have := hb t q h2
      omega

theorem G.bal {lv : Lv} {s : List UInt8} {e : E} (h : G lv s e) : Bal lv s := by
  have d42 : dl 42 = 0 := by decide
  have d43 : dl 43 = 0 := by decide
  induction h with
  | leaf h => exact bal_word (leaf_wc h).1
  | paren _ ih =>
    exact ⟨paren_all ih.all, fun p q e => paren_pre ih.all ih.pre e, fun _ p q e => by have := in_paren (by decide) ih.pre e; omega, fun _ p q e => by have := in_paren (by decide) ih.pre e; omega⟩
  | @call f a x hn _ ih =>
    have hf := (name_wc hn).1
    have ho := op_wc hf
    refine ⟨by rw [op_append, ho, paren_all ih.all]; decide, fun p q e => ?_, fun _ p q e => ?_, fun _ p q e => ?_⟩
    · rcases pre_app e with ⟨t, h⟩ | ⟨t, h1, h2⟩
      · rw [op_wc (fun c hc => hf c (by rw [h]; simp [hc]))]; exact Int.le_refl _
      · rw [h1, op_append, ho]
        have := paren_pre ih.all ih.pre h2
        omega
    · rcases pre_app e with ⟨t, h⟩ | ⟨t, h1, h2⟩
      · cases t with
        | nil =>
          rw [List.append_nil] at h
          subst h
          have := List.append_cancel_left e
          simp at this
        | cons y t =>
          subst h
          rw [List.append_assoc] at e
          have e := List.append_cancel_left e
          simp only [List.cons_append, List.cons.injEq] at e
          exact absurd e.1 (wc_dl (hf y (by simp))).2.2.2.2
      · rw [h1, op_append, ho]
        have := in_paren (by decide) ih.pre h2
        omega
    · rcases pre_app e with ⟨t, h⟩ | ⟨t, h1, h2⟩
      · cases t with
        | nil =>
          rw [List.append_nil] at h
          subst h
          have := List.append_cancel_left e
          simp at this
        | cons y t =>
          subst h
          rw [List.append_assoc] at e
          have e := List.append_cancel_left e
          simp only [List.cons_append, List.cons.injEq] at e
          exact absurd e.1 (wc_dl (hf y (by simp))).2.2.2.1
      · rw [h1, op_append, ho]
        have := in_paren (by decide) ih.pre h2
        omega
  | up1 _ ih => exact ⟨ih.all, ih.pre, fun _ => ih.plus (by simp), fun h => by cases h⟩
  | @mul a x b y _ _ iha ihb =>
    refine ⟨by rw [op_append, op_cons, iha.all, ihb.all, d42]; decide, pre_mid d42 iha.all iha.pre ihb.pre, fun _ => top_app (by decide) d42 (iha.plus (by simp)) iha.all (ihb.plus (by simp)), fun h => by cases h⟩
  | up2 _ ih => exact ⟨ih.all, ih.pre, fun h => absurd rfl h, fun h => by cases h⟩
  | @add a x b y _ _ iha ihb =>
    refine ⟨by rw [op_append, op_cons, iha.all, ihb.all, d43]; decide, pre_mid d43 iha.all iha.pre ihb.pre, fun h => absurd rfl h, fun h => by cases h⟩

theorem G.toMul {s : List UInt8} {e : E} (h : G .sum s e) (hn : noTop 43 0 s) : G .mul s e := by
  cases h with
  | up2 h => exact h
  | @add a x b y ha hb => exact absurd (by rw [ha.bal.all]; rfl) (hn a b rfl)

theorem G.toPart {s : List UInt8} {e : E} (h : G .mul s e) (hn : noTop 42 0 s) : G .part s e := by
  cases h with
  | up1 h => exact h
  | @mul a x b y ha hb => exact absurd (by rw [ha.bal.all]; rfl) (hn a b rfl)

theorem noTop_tail {c x : UInt8} (hdx : dl x = 0) {p q : List UInt8} (hp : op p = 0) (h : noTop c 0 (p ++ x :: q)) : noTop c 0 q := by
  intro p' q' e
  have := h (p ++ x :: p') q' (by rw [e]; simp)
  rw [op_append, op_cons, hp, hdx] at this
  omega

theorem noTop_head {c x : UInt8} {p q : List UInt8} (h : noTop c 0 (p ++ x :: q)) : noTop c 0 p := by
  intro p' q' e
  exact h p' (q' ++ x :: q) (by rw [e]; simp)

/-- A text with a '+' outside of parentheses. -/
theorem G_plus {p q : List UInt8} {e : E} (hp : op p = 0) (hq : noTop 43 0 q) : G .sum (p ++ 43 :: q) e ↔ ∃ x y, e = .sum x y ∧ G .sum p x ∧ G .sum q y := by
  have d43 : dl 43 = 0 := by decide
  constructor
  · intro h
    generalize hs : p ++ 43 :: q = s at h
    cases h with
    | up2 h => exact absurd (by rw [hp]; rfl) (h.bal.plus (by simp) p q hs.symm)
    | @add a x b y ha hb =>
      obtain ⟨rfl, rfl⟩ := last_one d43 hs hp hq ha.bal.all (hb.bal.plus (by simp))
      exact ⟨x, y, rfl, ha, .up2 hb⟩
  · rintro ⟨x, y, rfl, hx, hy⟩
    exact .add hx (hy.toMul hq)

/-- A text with a '*' outside of parentheses, and no '+'. -/
theorem G_star {p q : List UInt8} {e : E} (hn : noTop 43 0 (p ++ 42 :: q)) (hp : op p = 0) (hq : noTop 42 0 q) : G .sum (p ++ 42 :: q) e ↔ ∃ x y, e = .mul x y ∧ G .sum p x ∧ G .sum q y := by
  have d42 : dl 42 = 0 := by decide
  constructor
  · intro h
    have h := h.toMul hn
    generalize hs : p ++ 42 :: q = s at h
    cases h with
    | up1 h => exact absurd (by rw [hp]; rfl) (h.bal.star rfl p q hs.symm)
    | @mul a x b y ha hb =>
      obtain ⟨rfl, rfl⟩ := last_one d42 hs hp hq ha.bal.all (hb.bal.star rfl)
      exact ⟨x, y, rfl, .up2 ha, .up2 (.up1 hb)⟩
  · rintro ⟨x, y, rfl, hx, hy⟩
    exact .up2 (.mul (hx.toMul (noTop_head hn)) ((hy.toMul (noTop_tail d42 hp hn)).toPart hq))

theorem not_wc40 : wc 40 = false := by decide

theorem name_no40 {f : List UInt8} (h : isName f = true) : (40 : UInt8) ∉ f := fun hm => by have := (name_wc h).1 40 hm; rw [not_wc40] at this; cases this

theorem first_one {f t f' t' : List UInt8} (e : f ++ 40 :: t = f' ++ 40 :: t') (h : (40 : UInt8) ∉ f) (h' : (40 : UInt8) ∉ f') : f = f' ∧ t = t' := by
  rcases pre_app e with ⟨u, hu⟩ | ⟨u, hu, h2⟩
  · cases u with
    | nil => rw [List.append_nil] at hu; subst hu; have := List.append_cancel_left e; simp at this; exact ⟨rfl, this⟩
    | cons y u =>
      subst hu
      rw [List.append_assoc] at e
      have e := List.append_cancel_left e
      simp only [List.cons_append, List.cons.injEq] at e
      exact absurd (by rw [e.1]; simp) h
  · cases u with
    | nil => rw [List.append_nil] at hu; subst hu; have := List.append_cancel_left e; simp at this; exact ⟨rfl, this⟩
    | cons y u =>
      simp only [List.cons_append, List.cons.injEq] at h2
      exact absurd (by rw [hu, ← h2.1]; simp) h'

/-- A text in parentheses. -/
theorem G_paren {a : List UInt8} {e : E} (h1 : noTop 43 0 (40 :: (a ++ [41]))) (h2 : noTop 42 0 (40 :: (a ++ [41]))) : G .sum (40 :: (a ++ [41])) e ↔ G .sum a e := by
  constructor
  · intro h
    have h := (h.toMul h1).toPart h2
    generalize hs : 40 :: (a ++ [41]) = s at h
    cases h with
    | leaf h => have := (leaf_wc h).1 40 (by rw [← hs]; simp); rw [not_wc40] at this; cases this
    | paren h =>
      simp at hs
      subst hs
      exact h
    | call hn h =>
      have := first_one (f := []) hs (by simp) (name_no40 hn)
      exact absurd this.1.symm (name_wc hn).2
  · intro h
    exact .up2 (.up1 (.paren h))

/-- A text with a parenthesis behind a word. -/
theorem G_call {f t : List UInt8} {e : E} (h1 : noTop 43 0 (f ++ 40 :: t)) (h2 : noTop 42 0 (f ++ 40 :: t)) (hf : (40 : UInt8) ∉ f) (hw : wholeL (f ++ 40 :: t) = false) :
    G .sum (f ++ 40 :: t) e ↔ isName f = true ∧ wholeL (40 :: t) = true ∧ ∃ a x, t = a ++ [41] ∧ e = .call f x ∧ G .sum a x := by
  constructor
  · intro h
    have h := (h.toMul h1).toPart h2
    generalize hs : f ++ 40 :: t = s at h
    cases h with
    | leaf h => have := (leaf_wc h).1 40 (by rw [← hs]; simp); rw [not_wc40] at this; cases this
    | paren h =>
      rw [hs, whole_of h.bal.all h.bal.pre] at hw
      cases hw
    | @call g a x hn h5 =>
      obtain ⟨rfl, rfl⟩ := first_one hs hf (name_no40 hn)
      exact ⟨hn, whole_of h5.bal.all h5.bal.pre, a, x, rfl, rfl, h5⟩
  · rintro ⟨hn, _, a, x, rfl, rfl, h⟩
    exact .up2 (.up1 (.call hn h))

/-- A text without parentheses, '+' and '*' outside. -/
theorem G_leaf {s : List UInt8} {e : E} (h1 : noTop 43 0 s) (h2 : noTop 42 0 s) (hf : (40 : UInt8) ∉ s) : G .sum s e ↔ leafE s = some e := by
  constructor
  · intro h
    have h := (h.toMul h1).toPart h2
    cases h with
    | leaf h => exact h
    | paren h => simp at hf
    | call hn h => simp at hf
  · intro h
    exact .up2 (.up1 (.leaf h))

theorem G.ne {lv : Lv} {s : List UInt8} {e : E} (h : G lv s e) : s ≠ [] := by
  induction h with
  | leaf h => exact (leaf_wc h).2
  | paren _ _ => simp
  | call _ _ _ => simp
  | up1 _ ih => exact ih
  | mul _ _ _ _ => simp
  | up2 _ ih => exact ih
  | add _ _ _ _ => simp

/-- The digits of a number. -/
def digL (n : Nat) : List UInt8 := if h : n < 10 then [UInt8.ofNat (48 + n)] else digL (n / 10) ++ [UInt8.ofNat (48 + n % 10)]
termination_by n

theorem digL_one {n : Nat} (h : n < 10) : digL n = [UInt8.ofNat (48 + n)] := by rw [digL, dif_pos h]
theorem digL_more {n : Nat} (h : ¬ n < 10) : digL n = digL (n / 10) ++ [UInt8.ofNat (48 + n % 10)] := by rw [digL, dif_neg h]

theorem dig_back {c : UInt8} (h : isDig c = true) : UInt8.ofNat (48 + (c.toNat - 48)) = c := by
  simp [isDig] at h
  rw [show 48 + (c.toNat - 48) = c.toNat by omega]
  simp

theorem numOf_app (t : List UInt8) (c : UInt8) : numOf (t ++ [c]) = numOf t * 10 + (c.toNat - 48) := by simp [numOf]

theorem fold_ge (l : List UInt8) : ∀ n, n ≤ l.foldl (fun n c => n * 10 + (c.toNat - 48)) n := by
  induction l with
  | nil => intro n; exact Nat.le_refl _
  | cons c r ih => intro n; simp only [List.foldl_cons]; exact Nat.le_trans (by omega) (ih _)

theorem numOf_pos {c : UInt8} {r : List UInt8} (hd : isDig c = true) (h : c ≠ 48) : 1 ≤ numOf (c :: r) := by
  simp only [numOf, List.foldl_cons]
  have h1 := fold_ge r (0 * 10 + (c.toNat - 48))
  simp [isDig] at hd
  have h2 : c.toNat ≠ 48 := fun hc => h (UInt8.toNat_inj.1 (by rw [hc]; rfl))
  omega

theorem digL_back : ∀ (k : Nat) (s : List UInt8), s.length = k → (∀ c ∈ s, isDig c = true) → s ≠ [] → ¬ (s.length > 1 ∧ s.head? = some 48) → digL (numOf s) = s := by
  intro k
  induction k with
  | zero => intro s hl _ hne; exact absurd (List.length_eq_zero_iff.1 hl) hne
  | succ k ih =>
    intro s hl hd hne hz
    obtain ⟨t, c, rfl⟩ : ∃ t c, s = t ++ [c] := ⟨s.dropLast, s.getLast hne, (List.dropLast_concat_getLast hne).symm⟩
    have hc := hd c (by simp)
    have hc' := hc
    simp [isDig] at hc'
    rw [numOf_app]
    cases t with
    | nil =>
      have : numOf [] = 0 := rfl
      rw [this, digL_one (by omega)]
      have e : 48 + (0 * 10 + (c.toNat - 48)) = 48 + (c.toNat - 48) := by omega
      rw [e, dig_back hc]
      rfl
    | cons x r =>
      have hx : x ≠ 48 := by
        rintro rfl
        exact hz ⟨by simp, by simp⟩
      have h1 := numOf_pos (r := r) (hd x (by simp)) hx
      have hih := ih (x :: r) (by simp at hl ⊢; omega) (fun y hy => hd y (by simp at hy ⊢; rcases hy with h | h <;> simp [h])) (by simp) (fun h => hx (by simpa using h.2))
      rw [digL_more (by omega)]
      have e1 : (numOf (x :: r) * 10 + (c.toNat - 48)) / 10 = numOf (x :: r) := by omega
      have e2 : (numOf (x :: r) * 10 + (c.toNat - 48)) % 10 = c.toNat - 48 := by omega
      rw [e1, e2, hih, dig_back hc]

theorem digL_ne (n : Nat) : digL n ≠ [] := by
  rw [digL]
  split <;> simp

theorem digL_head : ∀ (n : Nat), 1 ≤ n → (digL n).head? ≠ some 48 := by
  intro n
  induction n using Nat.strongRecOn with
  | ind n ih =>
    intro hn
    by_cases h : n < 10
    · rw [digL_one h]
      simp only [List.head?_cons, ne_eq, Option.some.injEq]
      intro e
      have := congrArg UInt8.toNat e
      rw [UInt8.toNat_ofNat'] at this
      simp at this
      omega
    · rw [digL_more h]
      have h1 := ih (n / 10) (by omega) (by omega)
      cases hq : digL (n / 10) with
      | nil => exact absurd hq (digL_ne _)
      | cons y t => rw [hq] at h1; simpa using h1

theorem digL_iff {s : List UInt8} (hd : ∀ c ∈ s, isDig c = true) (hne : s ≠ []) : digL (numOf s) = s ↔ ¬ (s.length > 1 ∧ s.head? = some 48) := by
  constructor
  · rintro h ⟨h1, h2⟩
    have h3 : ¬ numOf s < 10 := by
      intro hlt
      rw [digL_one hlt] at h
      rw [← h] at h1
      simp at h1
    exact digL_head (numOf s) (by omega) (by rw [h]; exact h2)
  · exact digL_back s.length s rfl hd hne

theorem digL_len : ∀ (k n : Nat), n < 10 ^ k → (digL n).length ≤ max k 1 := by
  intro k
  induction k with
  | zero =>
    intro n h
    have h0 : n = 0 := by simpa using h
    subst h0
    rw [digL_one (by omega)]
    simp
  | succ k ih =>
    intro n h
    by_cases hn : n < 10
    · rw [digL_one hn]; simp
    · rw [digL_more hn, List.length_append]
      have h1 : n / 10 < 10 ^ k := by
        rw [Nat.pow_succ] at h
        omega
      have h2 := ih (n / 10) h1
      have h3 : 1 ≤ k := by
        rcases Nat.eq_zero_or_pos k with rfl | hk
        · simp at h1; omega
        · exact hk
      simp only [List.length_cons, List.length_nil]
      omega

/-- How deep an expression is. -/
def E.depth : E → Nat
  | .path _ => 1
  | .num _ => 1
  | .sum a b => max a.depth b.depth + 1
  | .mul a b => max a.depth b.depth + 1
  | .call _ a => a.depth + 1

end Go.Proofs.YtiacnmcdfpmcfaaGreatDoor
