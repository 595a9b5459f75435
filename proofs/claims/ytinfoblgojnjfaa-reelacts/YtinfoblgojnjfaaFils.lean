/-
  Files by number: sorted lists of them, as a map's reading; deeds, and what they do.
-/
import Derived.Test.YtinfoblgojnjfaaByts
import Derived.Maps.RangeWalk
import Derived.Maps.AppendAt
namespace Go.Proofs.Ytinfoblgojnjfaa
open Go.RowKit Go.Maps

/-- A file in memory: its number, its slice, its bytes. -/
abbrev Fl := Int × Value × List UInt8

def ins (x : Fl) : List Fl → List Fl
  | [] => [x]
  | y :: r => if x.1 < y.1 then x :: y :: r else y :: ins x r

def del (k : Int) (l : List Fl) : List Fl := l.filter fun p => !(p.1 == k)
def put (k : Int) (v : Value) (b : List UInt8) (l : List Fl) : List Fl := ins (k, v, b) (del k l)
def get (k : Int) (l : List Fl) : Option Fl := l.find? fun p => p.1 == k

/-- What an element of the map reads as: itself. -/
def raw : Value → Option (DataW Value × List MemPlace) := fun v => some (.held v, [])

def ent (p : Fl) : Lit × DataW Value := (.int .i64 p.1, .held p.2.1)
def dOf (l : List Fl) : DataW Value := .map (l.map ent)

theorem same_int (a b : Int) : (Lit.int .i64 a).sameKey (.int .i64 b) = (a == b) := by
  by_cases h : a = b <;> simp [Lit.sameKey, h]
theorem before_int (a b : Int) : (Lit.int .i64 a).before (.int .i64 b) = decide (a < b) := rfl

theorem map_del (k : Int) (l : List Fl) : (l.map ent).filter (fun p => !p.1.sameKey (.int .i64 k)) = (del k l).map ent := by
  unfold del
  rw [List.filter_map]
  congr 1
  apply List.filter_congr
  intro p _
  exact congrArg _ (same_int _ _)

theorem map_ins (x : Fl) : ∀ l : List Fl, DataW.insert (ent x) (l.map ent) = (ins x l).map ent
  | [] => rfl
  | y :: r => by
    unfold ins
    show DataW.insert (ent x) (ent y :: r.map ent) = _
    unfold DataW.insert
    have : (ent x).1.before (ent y).1 = decide (x.1 < y.1) := rfl
    rw [this]
    by_cases h : x.1 < y.1
    · simp [h]
    · simp [h, map_ins x r]

theorem dOf_del (k : Int) (l : List Fl) : (dOf l).del (.int .i64 k) = dOf (del k l) := by
  unfold dOf DataW.del
  simp only
  rw [map_del]

theorem dOf_put (k : Int) (v : Value) (b : List UInt8) (l : List Fl) : (dOf l).put (.int .i64 k) (.held v) = dOf (put k v b l) := by
  unfold dOf DataW.put put
  simp only
  rw [map_del, show ((Lit.int .i64 k, DataW.held v) : Lit × DataW Value) = ent (k, v, b) from rfl, map_ins]

theorem dOf_at (k : Int) (l : List Fl) (zd : DataW Value) : (dOf l).atKey (.int .i64 k) zd = match get k l with | some p => .held p.2.1 | none => zd := by
  unfold dOf DataW.atKey get
  simp only
  rw [List.find?_map]
  have : ((fun p : Lit × DataW Value => p.1.sameKey (.int .i64 k)) ∘ ent) = fun p : Fl => p.1 == k := by
    funext p
    exact same_int _ _
  rw [this]
  cases List.find? (fun p : Fl => p.1 == k) l <;> rfl

theorem dOf_has (k : Int) (l : List Fl) : Maps.has (dOf l) (.int .i64 k) = (get k l).isSome := by
  unfold dOf Maps.has get
  simp only [List.any_map]
  have : ((fun p : Lit × DataW Value => p.1.sameKey (.int .i64 k)) ∘ ent) = fun p : Fl => p.1 == k := by
    funext p
    exact same_int _ _
  rw [this]
  induction l with
  | nil => rfl
  | cons y r ih =>
    rw [List.any_cons, List.find?_cons]
    cases (y.1 == k)
    · simpa using ih
    · rfl

theorem dOf_size (l : List Fl) : Maps.size (dOf l) = l.length := by simp [dOf, Maps.size]

/-! ### lists of files, sorted -/
def Srt (l : List Fl) : Prop := l.Pairwise fun p q => p.1 < q.1

theorem mem_del_iff {k : Int} {l : List Fl} {p : Fl} : p ∈ del k l ↔ p ∈ l ∧ p.1 ≠ k := by simp [del]

theorem mem_ins {x p : Fl} : ∀ {l : List Fl}, p ∈ ins x l ↔ p = x ∨ p ∈ l
  | [] => by simp [ins]
  | y :: r => by
    unfold ins
    split
    · simp
    · simp [mem_ins (l := r)]
      constructor
      · rintro (h | h | h) <;> simp [h]
      · rintro (h | h | h) <;> simp [h]

theorem Srt.del {l : List Fl} (h : Srt l) (k : Int) : Srt (del k l) := h.filter _

theorem Srt.ins {x : Fl} : ∀ {l : List Fl}, Srt l → (∀ p ∈ l, p.1 ≠ x.1) → Srt (ins x l)
  | [], _, _ => by simp [Srt, Ytinfoblgojnjfaa.ins]
  | y :: r, h, hne => by
    obtain ⟨h1, h2⟩ := List.pairwise_cons.1 h
    unfold Ytinfoblgojnjfaa.ins
    split
    · rename_i hlt
      refine List.pairwise_cons.2 ⟨fun q hq => ?_, h⟩
      rcases List.mem_cons.1 hq with rfl | hq
      · exact hlt
      · exact Int.lt_trans hlt (h1 q hq)
    · rename_i hlt
      have hyx : y.1 < x.1 := by
        have := hne y (by simp)
        omega
      refine List.pairwise_cons.2 ⟨fun q hq => ?_, Srt.ins h2 (fun p hp => hne p (by simp [hp]))⟩
      rcases mem_ins.1 hq with rfl | hq
      · exact hyx
      · exact h1 q hq

theorem Srt.put {l : List Fl} (h : Srt l) (k : Int) (v : Value) (b : List UInt8) : Srt (put k v b l) :=
  Srt.ins (h.del k) (fun _ hp => (mem_del_iff.1 hp).2)

theorem mem_put_iff {k : Int} {v : Value} {b : List UInt8} {l : List Fl} {p : Fl} : p ∈ put k v b l ↔ p = (k, v, b) ∨ (p ∈ l ∧ p.1 ≠ k) := by
  unfold put
  rw [mem_ins, mem_del_iff]

theorem get_some {k : Int} {l : List Fl} {p : Fl} (h : get k l = some p) : p ∈ l ∧ p.1 = k :=
  ⟨List.mem_of_find?_eq_some h, by simpa using List.find?_some h⟩

theorem get_none {k : Int} {l : List Fl} (h : get k l = none) : ∀ p ∈ l, p.1 ≠ k := by
  intro p hp e
  have := List.find?_eq_none.1 h p hp
  simp [e] at this

theorem Srt.get_eq {l : List Fl} (h : Srt l) {p : Fl} (hp : p ∈ l) : get p.1 l = some p := by
  cases hg : get p.1 l with
  | none => exact absurd rfl (get_none hg p hp)
  | some q =>
    obtain ⟨hq, hk⟩ := get_some hg
    congr 1
    induction l with
    | nil => simp at hp
    | cons y r ih =>
      obtain ⟨h1, h2⟩ := List.pairwise_cons.1 h
      rcases List.mem_cons.1 hp with hpy | hp
      · rcases List.mem_cons.1 hq with hqy | hq
        · rw [hpy, hqy]
        · have := h1 q hq
          rw [hpy] at hk
          omega
      · rcases List.mem_cons.1 hq with hqy | hq
        · have := h1 p hp
          rw [hqy] at hk
          omega
        · refine ih h2 hp ?_ hq
          unfold get at hg ⊢
          rw [List.find?_cons] at hg
          have : (y.1 == p.1) = false := by
            have := h1 p hp
            simp
            omega
          rw [this] at hg
          exact hg

theorem get_iff {l : List Fl} (h : Srt l) {k : Int} {p : Fl} : get k l = some p ↔ p ∈ l ∧ p.1 = k :=
  ⟨get_some, fun ⟨h1, h2⟩ => by rw [← h2]; exact h.get_eq h1⟩

theorem get_put {l : List Fl} (h : Srt l) (k : Int) (v : Value) (b : List UInt8) (j : Int) : get j (put k v b l) = if j = k then some (k, v, b) else get j l := by
  split
  · rename_i e
    subst e
    exact (get_iff (h.put j v b)).2 ⟨mem_put_iff.2 (.inl rfl), rfl⟩
  · rename_i e
    apply Option.ext
    intro p
    rw [get_iff (h.put k v b), get_iff h, mem_put_iff]
    constructor
    · rintro ⟨rfl | ⟨h1, h2⟩, h3⟩
      · exact absurd h3.symm e
      · exact ⟨h1, h3⟩
    · rintro ⟨h1, h2⟩
      exact ⟨.inr ⟨h1, by rw [h2]; exact e⟩, h2⟩

theorem get_del {l : List Fl} (h : Srt l) (k j : Int) : get j (del k l) = if j = k then none else get j l := by
  split
  · rename_i e
    subst e
    apply Option.ext
    intro p
    rw [get_iff (h.del j), mem_del_iff]
    simp
  · rename_i e
    apply Option.ext
    intro p
    rw [get_iff (h.del k), get_iff h, mem_del_iff]
    constructor
    · rintro ⟨⟨h1, _⟩, h3⟩
      exact ⟨h1, h3⟩
    · rintro ⟨h1, h2⟩
      exact ⟨⟨h1, by rw [h2]; exact e⟩, h2⟩

/-- What lies beside file k. -/
theorem del_none {k : Int} {l : List Fl} (h : ∀ p ∈ l, p.1 ≠ k) : del k l = l := by
  unfold del
  rw [List.filter_eq_self]
  intro p hp
  simp [h p hp]

theorem perm_ins (x : Fl) : ∀ l : List Fl, (ins x l).Perm (x :: l)
  | [] => List.Perm.refl _
  | y :: r => by
    unfold ins
    split
    · exact List.Perm.refl _
    · exact ((perm_ins x r).cons y).trans (List.Perm.swap _ _ _)

theorem perm_get {l : List Fl} (h : Srt l) {k : Int} {p : Fl} (hg : get k l = some p) : l.Perm (p :: del k l) := by
  obtain ⟨hp, hk⟩ := get_some hg
  subst hk
  clear hg
  induction l with
  | nil => simp at hp
  | cons y r ih =>
    obtain ⟨h1, h2⟩ := List.pairwise_cons.1 h
    rcases List.mem_cons.1 hp with rfl | hp
    · have : del p.1 (p :: r) = r := by
        have e := del_none (k := p.1) (l := r) (fun q hq => by have := h1 q hq; omega)
        unfold del at e ⊢
        rw [List.filter_cons]
        simp [e]
      rw [this]
    · have : del p.1 (y :: r) = y :: del p.1 r := by
        have : (y.1 == p.1) = false := by
          have := h1 p hp
          simp
          omega
        unfold del
        rw [List.filter_cons]
        simp [this]
      rw [this]
      exact ((ih h2 hp).cons y).trans (List.Perm.swap _ _ _)

/-- How many bytes there are. -/
def total (l : List Fl) : Nat := (l.map fun p => p.2.2.length).sum

theorem total_perm {l l' : List Fl} (h : l.Perm l') : total l = total l' := (h.map _).sum_nat
theorem total_cons (p : Fl) (l : List Fl) : total (p :: l) = p.2.2.length + total l := by simp [total]

theorem total_put {l : List Fl} (k : Int) (v : Value) (b : List UInt8) : total (put k v b l) = b.length + total (del k l) := by
  unfold put
  rw [total_perm (perm_ins _ _), total_cons]

theorem total_get {l : List Fl} (h : Srt l) {k : Int} {p : Fl} (hg : get k l = some p) : total l = p.2.2.length + total (del k l) := by
  rw [total_perm (perm_get h hg), total_cons]

theorem total_none {l : List Fl} {k : Int} (hg : get k l = none) : total (del k l) = total l := by rw [del_none (get_none hg)]

theorem few_of {N : Int} : ∀ {l : List Fl} {a : Int}, Srt l → (∀ p ∈ l, a ≤ p.1 ∧ p.1 ≤ N) → a ≤ N + 1 → (l.length : Int) ≤ N + 1 - a
  | [], _, _, _, h => by simp; omega
  | y :: r, a, h, hk, ha => by
    obtain ⟨h1, h2⟩ := List.pairwise_cons.1 h
    have hy := hk y (by simp)
    have := few_of (N := N) (l := r) (a := y.1 + 1) h2 (fun p hp => ⟨by have := h1 p hp; omega, (hk p (by simp [hp])).2⟩) (by omega)
    simp only [List.length_cons]
    omega

end Go.Proofs.Ytinfoblgojnjfaa
