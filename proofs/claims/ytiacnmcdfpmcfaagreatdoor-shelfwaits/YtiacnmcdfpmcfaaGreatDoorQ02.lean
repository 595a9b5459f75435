/-
  Expressions and their texts: the grammar, the reader that goes on by jumps, printing; all in plain lists.
  Expressions as they lie in memory; the small functions on words, by contracts.
-/
import Derived.Test.YtiacnmcdfpmcfaaGreatDoorQ01
namespace Go.Proofs.YtiacnmcdfpmcfaaGreatDoor
open Go.RowKit

/-- An expression that may be, but for how deep it is. -/
inductive E where
  | path (t : List UInt8)
  | num (n : Nat)
  | sum (a b : E)
  | mul (a b : E)
  | call (f : List UInt8) (a : E)

def pathL (l : List UInt8) : Bool := decide (l.length ≤ 64) && stp false l
def isDig (c : UInt8) : Bool := decide (48 ≤ c.toNat ∧ c.toNat ≤ 57)
def allDig (l : List UInt8) : Bool := l.all isDig
def digs (l : List UInt8) : Bool := allDig l && !l.isEmpty
/-- A sign of a word. -/
def wc (c : UInt8) : Bool := inW c || decide (c.toNat = 46)
def nNorm : List UInt8 := [110, 111, 114, 109]
def nConj : List UInt8 := [99, 111, 110, 106]
def nTurn : List UInt8 := [116, 117, 114, 110]
def nLow : List UInt8 := [108, 111, 119]
def nHead : List UInt8 := [104, 101, 97, 100]
def isName (l : List UInt8) : Bool := decide (l = nNorm ∨ l = nConj ∨ l = nTurn ∨ l = nLow ∨ l = nHead)
def numOf (l : List UInt8) : Nat := l.foldl (fun n c => n * 10 + (c.toNat - 48)) 0

/-- The number or the path that a word is. -/
def leafE (l : List UInt8) : Option E :=
  if digs l then (if l.length > 15 ∨ l.length > 1 ∧ l.head? = some 48 then none else some (.num (numOf l)))
  else if pathL l then some (.path l) else none

inductive Lv where
  | part | mul | sum

/-- Which texts are a part, a product, a sum. -/
inductive G : Lv → List UInt8 → E → Prop
  | leaf {s e} : leafE s = some e → G .part s e
  | paren {a x} : G .sum a x → G .part (40 :: (a ++ [41])) x
  | call {f a x} : isName f = true → G .sum a x → G .part (f ++ 40 :: (a ++ [41])) (.call f x)
  | up1 {s e} : G .part s e → G .mul s e
  | mul {a x b y} : G .mul a x → G .part b y → G .mul (a ++ 42 :: b) (.mul x y)
  | up2 {s e} : G .mul s e → G .sum s e
  | add {a x b y} : G .sum a x → G .mul b y → G .sum (a ++ 43 :: b) (.sum x y)

/-- What has been read of a sum. -/
structure Fr where
  name : List UInt8
  sum : Option E
  mul : Option E

def Fr.none : Fr := ⟨[], .none, .none⟩

def addE : Option E → E → E
  | none, n => n
  | some a, n => .sum a n
def mulE : Option E → E → E
  | none, n => n
  | some a, n => .mul a n
def closeE (f : List UInt8) (n : E) : E := if f = [] then n else .call f n

theorem drop_le (l : List UInt8) (p : UInt8 → Bool) : (l.dropWhile p).length ≤ l.length := by
  induction l with
  | nil => simp
  | cons a t ih => simp only [List.dropWhile_cons]; split <;> simp <;> omega

/-- The reader: none: a part begins; some n: n lies behind. -/
def M (l : List UInt8) (st : List Fr) (f : Fr) (o : Option E) : Option E :=
  match o with
  | none =>
    match _h : l.dropWhile wc with
    | [] => match leafE (l.takeWhile wc) with
      | none => none
      | some n => M [] st f (some n)
    | c :: r =>
      if (l.takeWhile wc = [] ∨ isName (l.takeWhile wc) = true) ∧ c = 40 then M r (f :: st) ⟨l.takeWhile wc, none, none⟩ none
      else match leafE (l.takeWhile wc) with
        | none => none
        | some n => M (c :: r) st f (some n)
  | some n =>
    match l with
    | [] => match st with
      | [] => some (addE f.sum (mulE f.mul n))
      | _ :: _ => none
    | c :: r =>
      if c = 42 then M r st { f with mul := some (mulE f.mul n) } none
      else if c = 43 then M r st { f with mul := none, sum := some (addE f.sum (mulE f.mul n)) } none
      else if c = 41 then match st with
        | [] => none
        | g :: st' => M r st' g (some (closeE f.name (addE f.sum (mulE f.mul n))))
      else none
termination_by (l.length, if o.isSome then 0 else 1)
decreasing_by
  all_goals simp_wf
  · simp only [Prod.lex_def]
    by_cases hl : l = []
    · right; simp [hl]
    · left; cases l <;> simp_all
  · have := drop_le l wc
    rw [_h] at this
    simp at this
    simp only [Prod.lex_def]
    left; omega
  · have := drop_le l wc
    rw [_h] at this
    simp at this
    simp only [Prod.lex_def]
    by_cases hl : r.length + 1 = l.length
    · right; simp [hl]
    · left; omega
  all_goals (simp only [Prod.lex_def]; left; omega)

theorem M_star (r : List UInt8) (st : List Fr) (f : Fr) (n : E) : M (42 :: r) st f (some n) = M r st { f with mul := some (mulE f.mul n) } none := by
  rw [M.eq_def]
  simp
theorem M_plus (r : List UInt8) (st : List Fr) (f : Fr) (n : E) : M (43 :: r) st f (some n) = M r st { f with mul := none, sum := some (addE f.sum (mulE f.mul n)) } none := by
  rw [M.eq_def]
  simp
theorem M_close (r : List UInt8) (g : Fr) (st : List Fr) (f : Fr) (n : E) : M (41 :: r) (g :: st) f (some n) = M r st g (some (closeE f.name (addE f.sum (mulE f.mul n)))) := by
  rw [M.eq_def]
  simp
theorem M_end (f : Fr) (n : E) : M [] [] f (some n) = some (addE f.sum (mulE f.mul n)) := by
  rw [M.eq_def]

theorem M_nil {l : List UInt8} (hd : l.dropWhile wc = []) (st : List Fr) (f : Fr) : M l st f none = (leafE (l.takeWhile wc)).bind fun n => M [] st f (some n) := by
  rw [M.eq_def]
  simp only
  split
  · cases leafE (l.takeWhile wc) <;> rfl
  · rename_i c r h
    rw [hd] at h
    cases h
theorem M_push {l r : List UInt8} (hd : l.dropWhile wc = 40 :: r) (hw : l.takeWhile wc = [] ∨ isName (l.takeWhile wc) = true) (st : List Fr) (f : Fr) : M l st f none = M r (f :: st) ⟨l.takeWhile wc, none, none⟩ none := by
  rw [M.eq_def]
  simp only
  split
  · rename_i h
    rw [hd] at h
    cases h
  · rename_i c t h
    rw [hd] at h
    simp only [List.cons.injEq] at h
    obtain ⟨rfl, rfl⟩ := h
    rw [if_pos ⟨hw, rfl⟩]
theorem M_word {l r : List UInt8} {c : UInt8} (hd : l.dropWhile wc = c :: r) (hw : ¬ ((l.takeWhile wc = [] ∨ isName (l.takeWhile wc) = true) ∧ c = 40)) (st : List Fr) (f : Fr) : M l st f none = (leafE (l.takeWhile wc)).bind fun n => M (c :: r) st f (some n) := by
  rw [M.eq_def]
  simp only
  split
  · rename_i h
    rw [hd] at h
    cases h
  · rename_i c' t h
    rw [hd] at h
    simp only [List.cons.injEq] at h
    obtain ⟨rfl, rfl⟩ := h
    rw [if_neg hw]
    cases leafE (l.takeWhile wc) <;> rfl
theorem M_open0 (g : Fr) (st : List Fr) (f : Fr) (n : E) : M [] (g :: st) f (some n) = none := by
  rw [M.eq_def]
theorem M_close0 (r : List UInt8) (f : Fr) (n : E) : M (41 :: r) [] f (some n) = none := by
  rw [M.eq_def]
  simp
theorem M_bad {c : UInt8} (h1 : c ≠ 42) (h2 : c ≠ 43) (h3 : c ≠ 41) (r : List UInt8) (st : List Fr) (f : Fr) (n : E) : M (c :: r) st f (some n) = none := by
  rw [M.eq_def]
  simp [h1, h2, h3]

/-- Where a word ends, and no parenthesis is opened. -/
def Stop (r : List UInt8) : Prop := ∀ c t, r = c :: t → wc c = false ∧ c ≠ 40

theorem take_stop {s r : List UInt8} (hs : ∀ c ∈ s, wc c = true) (hr : ∀ c t, r = c :: t → wc c = false) : (s ++ r).takeWhile wc = s ∧ (s ++ r).dropWhile wc = r := by
  induction s with
  | nil =>
    cases r with
    | nil => simp
    | cons c t => have := hr c t rfl; simp [this]
  | cons c t ih =>
    have h1 := hs c (by simp)
    have := ih (fun x hx => hs x (by simp [hx]))
    simp [h1, this]

theorem stp_wc {b : Bool} {l : List UInt8} (h : stp b l = true) : ∀ c ∈ l, wc c = true := by
  induction l generalizing b with
  | nil => simp
  | cons c r ih =>
    simp only [stp] at h
    intro x hx
    split at h
    · rename_i h46
      simp only [Bool.and_eq_true] at h
      rcases List.mem_cons.1 hx with rfl | hx
      · simp [wc]; right; omega
      · exact ih h.2 x hx
    · simp only [Bool.and_eq_true] at h
      rcases List.mem_cons.1 hx with rfl | hx
      · simp [wc, h.1]
      · exact ih h.2 x hx

theorem isDig_wc {c : UInt8} (h : isDig c = true) : wc c = true := by
  simp [isDig] at h
  simp [wc, inW]
  omega

theorem leaf_wc {s : List UInt8} {e : E} (h : leafE s = some e) : (∀ c ∈ s, wc c = true) ∧ s ≠ [] := by
  unfold leafE at h
  split at h
  · rename_i hd
    simp only [digs, allDig, Bool.and_eq_true, List.all_eq_true] at hd
    exact ⟨fun c hc => isDig_wc (hd.1 c hc), by rintro rfl; simp at hd⟩
  · split at h
    · rename_i hp
      simp only [pathL, Bool.and_eq_true] at hp
      exact ⟨stp_wc hp.2, by rintro rfl; simp [stp] at hp⟩
    · cases h

theorem name_wc {f : List UInt8} (h : isName f = true) : (∀ c ∈ f, wc c = true) ∧ f ≠ [] := by
  simp only [isName, decide_eq_true_eq] at h
  rcases h with rfl | rfl | rfl | rfl | rfl <;> decide

theorem M_leaf {s r : List UInt8} {e : E} (h : leafE s = some e) (hr : Stop r) (st : List Fr) (f : Fr) : M (s ++ r) st f none = M r st f (some e) := by
  obtain ⟨h1, h2⟩ := take_stop (leaf_wc h).1 (fun c t hc => (hr c t hc).1)
  rw [M]
  split
  · rename_i hd
    rw [h2] at hd
    subst hd
    rw [h1, h]
  · rename_i c t hd
    rw [h2] at hd
    subst hd
    rw [if_neg (fun hq => (hr c t rfl).2 hq.2), h1, h]

theorem M_open {f r : List UInt8} (h : f = [] ∨ isName f = true) (st : List Fr) (g : Fr) : M (f ++ 40 :: r) st g none = M r (g :: st) ⟨f, none, none⟩ none := by
  have hw : ∀ c ∈ f, wc c = true := by
    rcases h with rfl | h
    · simp
    · exact (name_wc h).1
  obtain ⟨h1, h2⟩ := take_stop (r := 40 :: r) hw (fun c t hc => by simp at hc; rw [← hc.1]; decide)
  rw [M]
  split
  · rename_i hd
    rw [h2] at hd
    cases hd
  · rename_i c t hd
    rw [h2] at hd
    simp only [List.cons.injEq] at hd
    obtain ⟨rfl, rfl⟩ := hd
    rw [h1, if_pos ⟨h, rfl⟩]

theorem M_mul (r : List UInt8) (st : List Fr) (f : Fr) (x y : E) (hf : f.mul = none) : M r st { f with mul := some x } (some y) = M r st f (some (.mul x y)) := by
  obtain ⟨name, sum, mul⟩ := f
  simp only at hf
  subst hf
  rw [M.eq_def, M.eq_def (o := some (.mul x y))]
  rfl

theorem M_sum (r : List UInt8) (st : List Fr) (f : Fr) (x y : E) (hf : f.mul = none) (hs : f.sum = none) (h : ∀ t, r ≠ 42 :: t) : M r st { f with sum := some x } (some y) = M r st f (some (.sum x y)) := by
  obtain ⟨name, sum, mul⟩ := f
  simp only at hf hs
  subst hf hs
  rw [M.eq_def, M.eq_def (o := some (.sum x y))]
  cases r with
  | nil => rfl
  | cons c t =>
    have : ¬ c = 42 := fun hc => h t (by rw [hc])
    simp only [this, if_false]
    rfl

theorem stop_of {c : UInt8} {t : List UInt8} (h1 : wc c = false) (h2 : c ≠ 40) : Stop (c :: t) := by
  intro c' t' h
  simp at h
  rw [← h.1]
  exact ⟨h1, h2⟩

/-- What a part, a product, a sum is read as. -/
theorem M_reads {lv : Lv} {s : List UInt8} {e : E} (h : G lv s e) :
    ∀ (r : List UInt8) (st : List Fr) (f : Fr), Stop r → (lv ≠ .part → f.mul = none) → (lv = .sum → f.sum = none ∧ ∀ t, r ≠ 42 :: t) → M (s ++ r) st f none = M r st f (some e) := by
  induction h with
  | leaf h => intro r st f hr _ _; exact M_leaf h hr st f
  | @paren a x _ ih =>
    intro r st f hr _ _
    have e1 : (40 :: (a ++ [41])) ++ r = [] ++ 40 :: (a ++ 41 :: r) := by simp
    rw [e1, M_open (.inl rfl), ih _ _ _ (stop_of (by decide) (by decide)) (fun _ => rfl) (fun _ => ⟨rfl, fun t h => by simp at h⟩), M_close]
    simp [addE, mulE, closeE]
  | @call g a x hn _ ih =>
    intro r st f hr _ _
    have e1 : (g ++ 40 :: (a ++ [41])) ++ r = g ++ 40 :: (a ++ 41 :: r) := by simp
    rw [e1, M_open (.inr hn), ih _ _ _ (stop_of (by decide) (by decide)) (fun _ => rfl) (fun _ => ⟨rfl, fun t h => by simp at h⟩), M_close]
    simp [addE, mulE, closeE, (name_wc hn).2]
  | up1 _ ih => intro r st f hr _ _; exact ih r st f hr (fun h => absurd rfl h) (fun h => by cases h)
  | @mul a x b y _ _ iha ihb =>
    intro r st f hr hm _
    have hm := hm (by simp)
    have e1 : (a ++ 42 :: b) ++ r = a ++ 42 :: (b ++ r) := by simp
    rw [e1, iha _ _ _ (stop_of (by decide) (by decide)) (fun _ => hm) (fun h => by cases h), M_star]
    simp only [hm, mulE]
    rw [ihb _ _ _ hr (fun h => absurd rfl h) (fun h => by cases h), M_mul _ _ _ _ _ hm]
  | up2 _ ih => intro r st f hr hm _; exact ih r st f hr (fun _ => hm (by simp)) (fun h => by cases h)
  | @add a x b y _ _ iha ihb =>
    intro r st f hr hm hs
    have hm := hm (by simp)
    obtain ⟨hs, h42⟩ := hs rfl
    have e1 : (a ++ 43 :: b) ++ r = a ++ 43 :: (b ++ r) := by simp
    rw [e1, iha _ _ _ (stop_of (by decide) (by decide)) (fun _ => hm) (fun _ => ⟨hs, fun t h => by simp at h⟩), M_plus]
    have e2 : ({ f with mul := none, sum := some x } : Fr) = { f with sum := some x } := by
      obtain ⟨name, sum, mul⟩ := f
      simp only at hm
      rw [hm]
    simp only [hm, hs, mulE, addE]
    rw [e2, ihb r st { f with sum := some x } hr (fun _ => hm) (fun h => by cases h), M_sum _ _ _ _ _ hm hs h42]

theorem M_whole {s : List UInt8} {e : E} (h : G .sum s e) : M s [] Fr.none none = some e := by
  have := M_reads h [] [] Fr.none (fun c t h => by cases h) (fun _ => rfl) (fun _ => ⟨rfl, fun t h => by cases h⟩)
  rw [List.append_nil] at this
  rw [this, M_end]
  rfl

/-- What a frame stands for: the text of what has been read of a sum. -/
def FrT (f : Fr) (t : List UInt8) : Prop :=
  ∃ a b, t = a ++ b ∧ (match f.sum with | none => a = [] | some x => ∃ u, a = u ++ [43] ∧ G .sum u x) ∧ (match f.mul with | none => b = [] | some y => ∃ u, b = u ++ [42] ∧ G .mul u y)

/-- What a stack stands for. -/
def StT : List Fr → Fr → List UInt8 → Prop
  | [], f, t => FrT f t
  | g :: st, f, t => ∃ a b, t = a ++ (f.name ++ 40 :: b) ∧ StT st g a ∧ FrT f b ∧ (f.name = [] ∨ isName f.name = true)

theorem FrT.mulE {f : Fr} {t p : List UInt8} {n : E} (h : FrT f t) (hn : G .part p n) : ∃ a b, t ++ p = a ++ b ∧ (match f.sum with | none => a = [] | some x => ∃ u, a = u ++ [43] ∧ G .sum u x) ∧ G .mul b (mulE f.mul n) := by
  obtain ⟨a, b, rfl, ha, hb⟩ := h
  refine ⟨a, b ++ p, by simp, ha, ?_⟩
  revert hb
  cases f.mul with
  | none => rintro rfl; exact .up1 hn
  | some y =>
    rintro ⟨u, rfl, hu⟩
    have : u ++ [42] ++ p = u ++ 42 :: p := by simp
    rw [this]
    exact .mul hu hn

theorem FrT.addE {f : Fr} {t p : List UInt8} {n : E} (h : FrT f t) (hn : G .part p n) : G .sum (t ++ p) (addE f.sum (YtiacnmcdfpmcfaaGreatDoor.mulE f.mul n)) := by
  obtain ⟨a, b, e, ha, hb⟩ := h.mulE hn
  rw [e]
  revert ha
  cases f.sum with
  | none => rintro rfl; exact .up2 hb
  | some x =>
    rintro ⟨u, rfl, hu⟩
    have : u ++ [43] ++ b = u ++ 43 :: b := by simp
    rw [this]
    exact .add hu hb

/-- The stack's text, with its top frame's taken apart. -/
theorem StT.top {st : List Fr} {f : Fr} {t : List UInt8} (h : StT st f t) : ∃ c b, t = c ++ b ∧ FrT f b ∧ (∀ (f' : Fr) b', f'.name = f.name → FrT f' b' → StT st f' (c ++ b')) := by
  cases st with
  | nil => exact ⟨[], t, rfl, h, fun f' b' _ h' => h'⟩
  | cons g st =>
    obtain ⟨a, b, rfl, h1, h2, h3⟩ := h
    refine ⟨a ++ (f.name ++ [40]), b, by simp, h2, fun f' b' hn h' => ⟨a, b', by simp [hn], h1, h', by rw [hn]; exact h3⟩⟩

theorem take_drop (l : List UInt8) : l.takeWhile wc ++ l.dropWhile wc = l := List.takeWhile_append_dropWhile

theorem M_sound (k : Nat) : ∀ (l : List UInt8) (st : List Fr) (f : Fr) (e : E),
    (2 * l.length + 1 ≤ k → M l st f none = some e → ∀ t, StT st f t → G .sum (t ++ l) e) ∧
    (∀ n, 2 * l.length ≤ k → M l st f (some n) = some e → ∀ t p, StT st f t → G .part p n → G .sum (t ++ (p ++ l)) e) := by
  induction k with
  | zero =>
    intro l st f e
    refine ⟨fun h => by omega, fun n hl h t p ht hp => ?_⟩
    have : l = [] := by cases l <;> simp at hl; rfl
    subst this
    cases st with
    | nil =>
      rw [M_end] at h
      simp only [Option.some.injEq] at h
      subst h
      simpa using FrT.addE ht hp
    | cons g st => rw [M_open0] at h; cases h
  | succ k ih =>
    intro l st f e
    refine ⟨fun hk h t ht => ?_, fun n hk h t p ht hp => ?_⟩
    · have htd := take_drop l
      have hlen := congrArg List.length htd
      rw [List.length_append] at hlen
      cases hd : l.dropWhile wc with
      | nil =>
        rw [M_nil hd] at h
        cases hl : leafE (l.takeWhile wc) with
        | none => rw [hl] at h; cases h
        | some n =>
          rw [hl] at h
          have := (ih [] st f e).2 n (by simp) h t _ ht (.leaf hl)
          rw [hd] at htd
          rw [htd] at this
          exact this
      | cons c r =>
        rw [hd] at hlen htd
        simp only [List.length_cons] at hlen
        by_cases hw : (l.takeWhile wc = [] ∨ isName (l.takeWhile wc) = true) ∧ c = 40
        · obtain ⟨hw, rfl⟩ := hw
          rw [M_push hd hw] at h
          have := (ih r (f :: st) ⟨l.takeWhile wc, none, none⟩ e).1 (by omega) h (t ++ (l.takeWhile wc ++ 40 :: [])) ⟨t, [], rfl, ht, ⟨[], [], rfl, rfl, rfl⟩, hw⟩
          rw [show t ++ (l.takeWhile wc ++ 40 :: []) ++ r = t ++ (l.takeWhile wc ++ 40 :: r) by simp, htd] at this
          exact this
        · rw [M_word hd hw] at h
          cases hl : leafE (l.takeWhile wc) with
          | none => rw [hl] at h; cases h
          | some n =>
            rw [hl] at h
            have := (ih (c :: r) st f e).2 n (by simp; omega) h t _ ht (.leaf hl)
            rw [htd] at this
            exact this
    · cases l with
      | nil =>
        cases st with
        | nil =>
          rw [M_end] at h
          simp only [Option.some.injEq] at h
          subst h
          simpa using FrT.addE ht hp
        | cons g st => rw [M_open0] at h; cases h
      | cons c r =>
        simp only [List.length_cons] at hk
        obtain ⟨d, b, rfl, hb, hset⟩ := ht.top
        by_cases h42 : c = 42
        · subst h42
          rw [M_star] at h
          obtain ⟨a', b', e1, ha, hm⟩ := hb.mulE hp
          have := (ih r st { f with mul := some (mulE f.mul n) } e).1 (by omega) h (d ++ (a' ++ (b' ++ [42]))) (hset _ _ rfl ⟨a', b' ++ [42], rfl, ha, b', rfl, hm⟩)
          rw [show d ++ b ++ (p ++ 42 :: r) = d ++ ((b ++ p) ++ 42 :: r) by simp, e1]
          simpa using this
        by_cases h43 : c = 43
        · subst h43
          rw [M_plus] at h
          have hm := hb.addE hp
          have := (ih r st { f with mul := none, sum := some (addE f.sum (mulE f.mul n)) } e).1 (by omega) h (d ++ ((b ++ p) ++ [43])) (hset _ _ rfl ⟨(b ++ p) ++ [43], [], by simp, ⟨_, rfl, hm⟩, rfl⟩)
          simpa using this
        by_cases h41 : c = 41
        · subst h41
          cases st with
          | nil => rw [M_close0] at h; cases h
          | cons g st =>
            rw [M_close] at h
            obtain ⟨a', b', e1, h1, h2, h3⟩ := ht
            have hm := h2.addE hp
            have hq : G .part (f.name ++ 40 :: ((b' ++ p) ++ [41])) (closeE f.name (addE f.sum (mulE f.mul n))) := by
              unfold closeE
              rcases h3 with h3 | h3
              · rw [if_pos h3, h3]
                exact .paren hm
              · rw [if_neg (name_wc h3).2]
                exact .call h3 hm
            have := (ih r st g e).2 _ (by omega) h a' _ h1 hq
            rw [e1]
            simpa using this
        · rw [M_bad h42 h43 h41] at h
          cases h

theorem M_is (s : List UInt8) (e : E) : M s [] Fr.none none = some e ↔ G .sum s e := by
  constructor
  · intro h
    have := (M_sound (2 * s.length + 1) s [] Fr.none e).1 (Nat.le_refl _) h [] ⟨[], [], rfl, rfl, rfl⟩
    simpa using this
  · exact M_whole

/-- An expression may be, but for how deep it is. -/
def E.ok : E → Prop
  | .path t => pathL t = true ∧ allDig t = false
  | .num n => n < 1000000000000000
  | .sum a b => a.ok ∧ b.ok
  | .mul a b => a.ok ∧ b.ok
  | .call f a => isName f = true ∧ a.ok

theorem numOf_lt (l : List UInt8) (hd : ∀ c ∈ l, isDig c = true) : ∀ n, l.foldl (fun n c => n * 10 + (c.toNat - 48)) n < (n + 1) * 10 ^ l.length := by
  induction l with
  | nil => intro n; simp
  | cons c r ih =>
    intro n
    simp only [List.foldl_cons, List.length_cons]
    have h1 := ih (fun x hx => hd x (by simp [hx])) (n * 10 + (c.toNat - 48))
    have h2 := hd c (by simp)
    simp [isDig] at h2
    have h3 : n * 10 + (c.toNat - 48) + 1 ≤ (n + 1) * 10 := by omega
    calc _ < (n * 10 + (c.toNat - 48) + 1) * 10 ^ r.length := h1
      _ ≤ (n + 1) * 10 * 10 ^ r.length := Nat.mul_le_mul_right _ h3
      _ = (n + 1) * 10 ^ (r.length + 1) := by rw [Nat.pow_succ]; simp [Nat.mul_assoc, Nat.mul_comm]

theorem leaf_ok {s : List UInt8} {e : E} (h : leafE s = some e) : e.ok := by
  unfold leafE at h
  split at h
  · rename_i hd
    split at h
    · cases h
    · rename_i hl
      simp only [Option.some.injEq] at h
      subst h
      simp only [digs, allDig, Bool.and_eq_true, List.all_eq_true] at hd
      have h1 := numOf_lt s hd.1 0
      have h2 : s.length ≤ 15 := by omega
      have h3 : 10 ^ s.length ≤ 10 ^ 15 := Nat.pow_le_pow_right (by decide) h2
      have h4 : (10 : Nat) ^ 15 = 1000000000000000 := by decide
      show numOf s < 1000000000000000
      unfold numOf
      omega
  · rename_i hd
    split at h
    · rename_i hp
      simp only [Option.some.injEq] at h
      subst h
      refine ⟨hp, ?_⟩
      simp only [digs, Bool.and_eq_true, Bool.not_eq_true', not_and, Bool.not_eq_false] at hd
      cases hq : allDig s with
      | false => rfl
      | true =>
        have := hd hq
        simp only [List.isEmpty_iff] at this
        subst this
        simp [pathL, stp] at hp
    · cases h

theorem G.ok {lv : Lv} {s : List UInt8} {e : E} (h : G lv s e) : e.ok := by
  induction h with
  | leaf h => exact leaf_ok h
  | paren _ ih => exact ih
  | call hn _ ih => exact ⟨hn, ih⟩
  | up1 _ ih => exact ih
  | mul _ _ iha ihb => exact ⟨iha, ihb⟩
  | up2 _ ih => exact ih
  | add _ _ iha ihb => exact ⟨iha, ihb⟩

end Go.Proofs.YtiacnmcdfpmcfaaGreatDoor

namespace Go.Proofs.YtiacnmcdfpmcfaaGreatDoor
open Go.RowKit
attribute [local go_sem] cell?_more frozen?_more setCell_more size_more tape_more drew_more drewN_more more_drew more_drewN one_out plus_out plus_end lt_one le_p2 le_p3 le_p4 le_p5 le_p6 le_p7 le_p8 le_p9 le_p10 le_p11 le_p12 le_p13 le_p14 le_p15 le_p16 le_p17 le_p18 le_p19 le_p20 le_p21 le_p22 le_p23 le_p24 le_q0 le_q1 lt_q1 le_q2 lt_q2 le_q3 lt_q3 le_q4 lt_q4 le_q5 lt_q5 le_q6 lt_q6 le_q7 lt_q7 le_q8 lt_q8 le_q9 lt_q9 le_q10 lt_q10 le_q11 lt_q11 le_q12 lt_q12 le_q13 lt_q13 le_q14 lt_q14 le_q15 lt_q15 le_q16 lt_q16 le_q17 lt_q17 le_q18 lt_q18 le_q19 lt_q19 le_q20 lt_q20 le_q21 lt_q21 le_q22 lt_q22 le_q23 lt_q23 le_q24 lt_q24


/-- A node, as it may be or not. -/
inductive N where
  | mk (kind : Int) (text : ByteArray) (num : Int) (args : List N)

def N.kind : N → Int | .mk k _ _ _ => k
def N.text : N → ByteArray | .mk _ s _ _ => s
def N.num : N → Int | .mk _ _ n _ => n
def N.args : N → List N | .mk _ _ _ l => l

def N.zero : N := .mk 0 ⟨#[]⟩ 0 []

/-- A node's value, its list beside. -/
abbrev nodeV (t : N) (s : Value) : Value := .agg #[.int .i64 t.kind, .string t.text, .int .i64 t.num, s]

/-- No mark of a string's bytes at a list's first cell; nowhere in its block, where ok bars block 0 (so of trees that are new). -/
def Unm (ok : Nat → Prop) (w : World) (b off : Nat) : Prop := w.frozen? ⟨b, off, none⟩ = false ∧ (¬ ok 0 → ∀ o, w.frozen? ⟨b, o, none⟩ = false)

/-- The slice value s reads as the nodes ts, which are no deeper than that; all its blocks are such as ok says. -/
def Tn (ok : Nat → Prop) : Nat → World → Value → List N → Prop
  | 0, _, s, ts => ts = [] ∧ ∃ ao cap, s = .slice ao 0 cap
  | d + 1, w, s, ts => ∃ ao cap, s = .slice ao ts.length cap ∧ ts.length ≤ cap ∧ (ts = [] ∨ ∃ b off, ao = some ⟨b, off, none⟩ ∧ b < w.heap.size ∧ ok b ∧ Unm ok w b off ∧ ∀ j (h : j < ts.length), ∃ x,
      (w.cell? ⟨b, off + j * 4, none⟩ = some (.int .i64 ts[j].kind) ∧ w.cell? ⟨b, off + j * 4 + 1, none⟩ = some (.string ts[j].text) ∧ w.cell? ⟨b, off + j * 4 + 2, none⟩ = some (.int .i64 ts[j].num) ∧ w.cell? ⟨b, off + j * 4 + 3, none⟩ = some x) ∧
      ts[j].text.size ≤ 9223372036854775807 ∧ Tn ok d w x ts[j].args)

theorem Tn.frame {ok ok' : Nat → Prop} {d : Nat} {w w' : World} {s : Value} {ts : List N} (h : Tn ok d w s ts) (hs : w.heap.size ≤ w'.heap.size) (hw : ∀ b, ok b → b < w.heap.size → w'.heap[b]? = w.heap[b]? ∧ ok' b) : Tn ok' d w' s ts := by
  induction d generalizing s ts with
  | zero => exact h
  | succ d ih =>
    obtain ⟨ao, cap, rfl, hc, h | ⟨b, off, rfl, hlt, hb, hz, hx⟩⟩ := h
    · exact ⟨ao, cap, rfl, hc, .inl h⟩
    · refine ⟨_, cap, rfl, hc, .inr ⟨b, off, rfl, Nat.lt_of_lt_of_le hlt hs, (hw b hb hlt).2, ⟨(World.frozen?_of_block (w := w) (a := ⟨b, off, none⟩) (hw b hb hlt).1).trans hz.1, fun h0 o => (World.frozen?_of_block (w := w) (a := ⟨b, o, none⟩) (hw b hb hlt).1).trans (hz.2 (fun h => h0 (hw 0 h (by omega)).2) o)⟩, fun j hj => ?_⟩⟩
      obtain ⟨x, ⟨h0, h1, h2, h3⟩, h4, h5⟩ := hx j hj
      have hk : ∀ i, w'.cell? ⟨b, i, none⟩ = w.cell? ⟨b, i, none⟩ := fun i => World.cell?_of_block (w := w) (a := ⟨b, i, none⟩) (hw b hb hlt).1
      exact ⟨x, ⟨by rw [hk]; exact h0, by rw [hk]; exact h1, by rw [hk]; exact h2, by rw [hk]; exact h3⟩, h4, ih h5⟩

theorem Tn.adds {ok : Nat → Prop} {d : Nat} {w w' : World} {s : Value} {ts : List N} (h : Tn ok d w s ts) (hA : Adds w w') : Tn ok d w' s ts :=
  h.frame hA.below.size (fun b hb hlt => ⟨hA.below.block b hlt, hb⟩)

theorem Tn.weak {ok ok' : Nat → Prop} {d : Nat} {w : World} {s : Value} {ts : List N} (h : Tn ok d w s ts) (hw : ∀ b, ok b → b < w.heap.size → ok' b) : Tn ok' d w s ts :=
  h.frame (Nat.le_refl _) (fun b hb hlt => ⟨rfl, hw b hb hlt⟩)

theorem Tn.deeper {ok : Nat → Prop} {d : Nat} {w : World} {s : Value} {ts : List N} (h : Tn ok d w s ts) : Tn ok (d + 1) w s ts := by
  induction d generalizing s ts with
  | zero =>
    obtain ⟨rfl, ao, cap, rfl⟩ := h
    exact ⟨ao, cap, rfl, Nat.zero_le _, .inl rfl⟩
  | succ d ih =>
    obtain ⟨ao, cap, rfl, hc, h | ⟨b, off, rfl, hlt, hb, hz, hx⟩⟩ := h
    · exact ⟨ao, cap, rfl, hc, .inl h⟩
    · refine ⟨_, cap, rfl, hc, .inr ⟨b, off, rfl, hlt, hb, hz, fun j hj => ?_⟩⟩
      obtain ⟨x, h0, h4, h5⟩ := hx j hj
      exact ⟨x, h0, h4, ih h5⟩

theorem Tn.up {ok : Nat → Prop} {d d' : Nat} {w : World} {s : Value} {ts : List N} (h : Tn ok d w s ts) (hd : d ≤ d') : Tn ok d' w s ts := by
  obtain ⟨k, rfl⟩ := Nat.le.dest hd
  induction k with
  | zero => exact h
  | succ k ih => exact (ih (by omega)).deeper

theorem Tn.shape {ok : Nat → Prop} {d : Nat} {w : World} {s : Value} {ts : List N} (h : Tn ok d w s ts) : ∃ ao cap, s = .slice ao ts.length cap := by
  cases d with
  | zero =>
    obtain ⟨rfl, ao, cap, rfl⟩ := h
    exact ⟨ao, cap, rfl⟩
  | succ d =>
    obtain ⟨ao, cap, rfl, _⟩ := h
    exact ⟨ao, cap, rfl⟩

theorem Tn.nil (ok : Nat → Prop) (d : Nat) (w : World) : Tn ok d w (.slice none 0 0) [] := by
  cases d with
  | zero => exact ⟨rfl, none, 0, rfl⟩
  | succ d => exact ⟨none, 0, rfl, Nat.le_refl _, .inl rfl⟩

theorem Tn.elem {ok : Nat → Prop} {d : Nat} {w : World} {ao : Option Addr} {n cap : Nat} {ts : List N} (h : Tn ok d w (.slice ao n cap) ts) {k : Nat} (hk : k < ts.length) :
    ∃ d' b off x, d = d' + 1 ∧ ao = some ⟨b, off, none⟩ ∧ b < w.heap.size ∧ (w.cell? ⟨b, off + k * 4, none⟩ = some (.int .i64 ts[k].kind) ∧ w.cell? ⟨b, off + k * 4 + 1, none⟩ = some (.string ts[k].text) ∧ w.cell? ⟨b, off + k * 4 + 2, none⟩ = some (.int .i64 ts[k].num) ∧ w.cell? ⟨b, off + k * 4 + 3, none⟩ = some x) ∧ ts[k].text.size ≤ 9223372036854775807 ∧ Tn ok d' w x ts[k].args := by
  cases d with
  | zero =>
    obtain ⟨rfl, _⟩ := h
    simp at hk
  | succ d =>
    obtain ⟨ao', cap', he, _, rfl | ⟨b, off, rfl, hlt, _, _, hx⟩⟩ := h
    · simp at hk
    · simp only [Value.slice.injEq] at he
      obtain ⟨x, hc, hs, ht⟩ := hx k hk
      exact ⟨d, b, off, x, rfl, he.1, hlt, hc, hs, ht⟩

/-- A list of two, in a block of its own. -/
theorem tn_two {ok : Nat → Prop} {d : Nat} {w' : World} {a b : N} {sa sb : Value} {k : Nat} (hk : k < w'.heap.size) (hok : ok k) (hz : ∀ o, w'.frozen? ⟨k, o, none⟩ = false) (ha : Tn ok d w' sa a.args) (hb : Tn ok d w' sb b.args) (h1 : a.text.size ≤ 9223372036854775807) (h2 : b.text.size ≤ 9223372036854775807)
    (ca : w'.cell? ⟨k, 0, none⟩ = some (.int .i64 a.kind) ∧ w'.cell? ⟨k, 1, none⟩ = some (.string a.text) ∧ w'.cell? ⟨k, 2, none⟩ = some (.int .i64 a.num) ∧ w'.cell? ⟨k, 3, none⟩ = some sa)
    (cb : w'.cell? ⟨k, 4, none⟩ = some (.int .i64 b.kind) ∧ w'.cell? ⟨k, 5, none⟩ = some (.string b.text) ∧ w'.cell? ⟨k, 6, none⟩ = some (.int .i64 b.num) ∧ w'.cell? ⟨k, 7, none⟩ = some sb) :
    Tn ok (d + 1) w' (.slice (some ⟨k, 0, none⟩) 2 2) [a, b] := by
  refine ⟨_, 2, rfl, Nat.le_refl _, .inr ⟨k, 0, rfl, hk, hok, ⟨hz 0, fun _ => hz⟩, fun j hj => ?_⟩⟩
  match j, hj with
  | 0, _ => exact ⟨sa, by simpa using ca, h1, ha⟩
  | 1, _ => exact ⟨sb, by simpa using cb, h2, hb⟩
  | (j + 2), hj => simp at hj; omega

theorem tn_one {ok : Nat → Prop} {d : Nat} {w' : World} {a : N} {sa : Value} {k : Nat} (hk : k < w'.heap.size) (hok : ok k) (hz : ∀ o, w'.frozen? ⟨k, o, none⟩ = false) (ha : Tn ok d w' sa a.args) (h1 : a.text.size ≤ 9223372036854775807)
    (ca : w'.cell? ⟨k, 0, none⟩ = some (.int .i64 a.kind) ∧ w'.cell? ⟨k, 1, none⟩ = some (.string a.text) ∧ w'.cell? ⟨k, 2, none⟩ = some (.int .i64 a.num) ∧ w'.cell? ⟨k, 3, none⟩ = some sa) :
    Tn ok (d + 1) w' (.slice (some ⟨k, 0, none⟩) 1 1) [a] := by
  refine ⟨_, 1, rfl, Nat.le_refl _, .inr ⟨k, 0, rfl, hk, hok, ⟨hz 0, fun _ => hz⟩, fun j hj => ?_⟩⟩
  have : j = 0 := by simpa using hj
  subst this
  exact ⟨sa, by simpa using ca, h1, ha⟩

/-- Bytes as a string. -/
def toB (l : List UInt8) : ByteArray := ⟨l.toArray⟩

theorem toB_toList (l : List UInt8) : (toB l).toList = l := by rw [ByteArray.toList_eq]; simp [toB]
theorem toB_of (s : ByteArray) : toB s.toList = s := toList_inj (toB_toList _)
theorem toB_size (l : List UInt8) : (toB l).size = l.length := by rw [← toList_length, toB_toList]
theorem toB_eq {s : ByteArray} {l : List UInt8} (h : s.toList = l) : s = toB l := by rw [← h, toB_of]

/-- An expression as a node. -/
def E.toN : E → N
  | .path t => .mk 1 (toB t) 0 []
  | .num n => .mk 2 ⟨#[]⟩ n []
  | .sum a b => .mk 3 ⟨#[]⟩ 0 [a.toN, b.toN]
  | .mul a b => .mk 4 ⟨#[]⟩ 0 [a.toN, b.toN]
  | .call f a => .mk 5 (toB f) 0 [a.toN]

theorem E.kind_ne (e : E) : e.toN.kind ≠ 0 := by cases e <;> simp [E.toN, N.kind]

theorem isPath_L (s : ByteArray) : isPath s = pathL s.toList := by
  simp only [isPath, pathL, toList_length]

theorem isName_any (s : ByteArray) (w : World) :
    Calls Tryz.prog 89 #[.string s] w fun e w' => e = .returned (.bool (isName s.toList)) ∧ w' = w := by
  go_enter Tryz.func89, Tryz.ntmps89
  have k1 : (⟨#[110, 111, 114, 109]⟩ : ByteArray).toList = nNorm := by rw [ByteArray.toList_eq]; rfl
  have k2 : (⟨#[99, 111, 110, 106]⟩ : ByteArray).toList = nConj := by rw [ByteArray.toList_eq]; rfl
  have k3 : (⟨#[116, 117, 114, 110]⟩ : ByteArray).toList = nTurn := by rw [ByteArray.toList_eq]; rfl
  have k4 : (⟨#[108, 111, 119]⟩ : ByteArray).toList = nLow := by rw [ByteArray.toList_eq]; rfl
  have k5 : (⟨#[104, 101, 97, 100]⟩ : ByteArray).toList = nHead := by rw [ByteArray.toList_eq]; rfl
  by_cases h1 : s.toList = nNorm
  · have h1' : (s.toList == nNorm) = true := by simpa using h1
    go_wp2
    go_ret
    exact ⟨by simp [isName, h1], rfl⟩
  have h1' : (s.toList == nNorm) = false := by simpa using h1
  by_cases h2 : s.toList = nConj
  · have h2' : (s.toList == nConj) = true := by simpa using h2
    go_wp2
    go_ret
    exact ⟨by simp [isName, h2], rfl⟩
  have h2' : (s.toList == nConj) = false := by simpa using h2
  by_cases h3 : s.toList = nTurn
  · have h3' : (s.toList == nTurn) = true := by simpa using h3
    go_wp2
    go_ret
    exact ⟨by simp [isName, h3], rfl⟩
  have h3' : (s.toList == nTurn) = false := by simpa using h3
  by_cases h4 : s.toList = nLow
  · have h4' : (s.toList == nLow) = true := by simpa using h4
    go_wp2
    go_ret
    exact ⟨by simp [isName, h4], rfl⟩
  have h4' : (s.toList == nLow) = false := by simpa using h4
  by_cases h5 : s.toList = nHead
  · have h5' : (s.toList == nHead) = true := by simpa using h5
    go_wp2
    go_ret
    exact ⟨by simp [isName, h5], rfl⟩
  have h5' : (s.toList == nHead) = false := by simpa using h5
  go_wp2
  go_ret
  exact ⟨by simp [isName, h1, h2, h3, h4, h5], rfl⟩

theorem wc_iff (c : UInt8) : wc c = true ↔ ((97 ≤ (c.toNat : Int) ∧ (c.toNat : Int) ≤ 122) ∨ (48 ≤ (c.toNat : Int) ∧ (c.toNat : Int) ≤ 57)) ∨ (c.toNat : Int) = 46 := by
  simp only [wc, inW, Bool.or_eq_true, decide_eq_true_eq]
  omega

theorem inWordE_any (c : UInt8) (w : World) :
    Calls Tryz.prog 119 #[.int .u8 (c.toNat : Int)] w fun e w' => e = .returned (.bool (wc c)) ∧ w' = w := by
  by_cases h5 : (c.toNat : Int) = 46
  · have hw : wc c = true := (wc_iff c).2 (.inr h5)
    rw [hw]
    clear hw
    go_enter Tryz.func119, Tryz.ntmps119
    go_wp2
    go_ret
    exact ⟨rfl, rfl⟩
  · have h6 : ((c.toNat : Int) == 46) = false := by simpa using h5
    by_cases h1 : 97 ≤ (c.toNat : Int) <;> by_cases h2 : (c.toNat : Int) ≤ 122 <;> by_cases h3 : 48 ≤ (c.toNat : Int) <;> by_cases h4 : (c.toNat : Int) ≤ 57
    all_goals
      first
        | (exfalso; omega)
        | (have hw : wc c = true := (wc_iff c).2 (by omega)
           rw [hw]
           clear hw
           go_enter Tryz.func119, Tryz.ntmps119
           go_wp2
           go_ret
           exact ⟨rfl, rfl⟩)
        | (have hw : wc c = false := by
             cases hq : wc c with
             | false => rfl
             | true => have := (wc_iff c).1 hq; omega
           rw [hw]
           clear hw
           go_enter Tryz.func119, Tryz.ntmps119
           go_wp2
           go_ret
           exact ⟨rfl, rfl⟩)

theorem allDig_any (s : ByteArray) (hs : s.size ≤ 9223372036854775807) (w : World) :
    Calls Tryz.prog 120 #[.string s] w fun e w' => e = .returned (.bool (digs s.toList)) ∧ w' = w := by
  go_enter Tryz.func120, Tryz.ntmps120
  go_wp2
  go_loopw [3] (fun i wr => ∃ k : Nat, k ≤ s.size ∧ i = .int .i64 k ∧ allDig (s.toList.drop k) = allDig s.toList ∧ wr = w) (fun i _ => s.size - (intOf i).toNat)
  case atStart => exact ⟨0, Nat.zero_le _, rfl, by simp, rfl⟩
  case round =>
    obtain ⟨k, hk, rfl, hst, rfl⟩ := hrel
    by_cases hlt : k < s.size
    · have hn : allDig (s.toList.drop k) = (isDig s[k] && allDig (s.toList.drop (k + 1))) := by
        have hk' : k < s.toList.length := by rw [toList_length]; exact hlt
        rw [List.drop_eq_getElem_cons hk', toList_get]
        rfl
      rw [hst] at hn
      have HN : Hid _ := hn
      clear hn hst
      by_cases h1 : (s[k].toNat : Int) < 48
      · go_wp2
        go_ret
        have hq : isDig s[k] = false := by simp [isDig]; omega
        exact ⟨by simp [digs, HN.out, hq], rfl⟩
      · by_cases h2 : 57 < (s[k].toNat : Int)
        · go_wp2
          go_ret
          have hq : isDig s[k] = false := by simp [isDig]; omega
          exact ⟨by simp [digs, HN.out, hq], rfl⟩
        · go_wp2
          go_roundw
          case rel =>
            have hq : isDig s[k] = true := by simp [isDig]; omega
            exact ⟨k + 1, by omega, by go_num, by rw [HN.out, hq]; simp, trivial⟩
          case measure => simp [intOf]; omega
    · have hk' : k = s.size := by omega
      subst hk'
      have hall : allDig s.toList = true := by
        rw [← hst, ← toList_length, List.drop_length]
        rfl
      have HA : Hid _ := hall
      clear hall hst
      by_cases he : s.toList = []
      · have he' : (s.toList != []) = false := by simp [he]
        go_wp2
        go_ret
        exact ⟨by simp [digs, he], rfl⟩
      · have he' : (s.toList != []) = true := by simp [he]
        go_wp2
        go_ret
        exact ⟨by simp [digs, HA.out], rfl⟩

end Go.Proofs.YtiacnmcdfpmcfaaGreatDoor
