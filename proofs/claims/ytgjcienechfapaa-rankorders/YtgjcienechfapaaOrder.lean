/-
  The order of values is one: V.cmp is a comparison (range, swap, nought just at equals, transitive); of lists of bytes too.
-/
import Derived.Test.YtgjcienechfapaaKey
namespace Go.Proofs.Ytgjcienechfapaa
open Go.RowKit

structure IsCmp {α : Type} (c : α → α → Int) : Prop where
  range : ∀ a b, c a b = -1 ∨ c a b = 0 ∨ c a b = 1
  swap : ∀ a b, c b a = - c a b
  zero : ∀ a b, c a b = 0 ↔ a = b
  trans : ∀ a b d, c a b ≤ 0 → c b d ≤ 0 → c a d ≤ 0

theorem cmpInt_is : IsCmp cmpInt where
  range a b := by unfold cmpInt; split <;> (try split) <;> simp
  swap a b := by unfold cmpInt; split <;> split <;> omega
  zero a b := by unfold cmpInt; split <;> (try split) <;> omega
  trans a b d := by
    unfold cmpInt
    intro h1 h2
    split at h1 <;> split at h2 <;> split <;> (try split at h1) <;> (try split at h2) <;> (try split) <;> omega

def cmpL : List UInt8 → List UInt8 → Int
  | [], [] => 0
  | [], _ :: _ => -1
  | _ :: _, [] => 1
  | x :: r, y :: t => if x < y then -1 else if y < x then 1 else cmpL r t

theorem cmpL_is : IsCmp cmpL where
  range a b := by
    induction a generalizing b with
    | nil => cases b <;> simp [cmpL]
    | cons x r ih => cases b with
      | nil => simp [cmpL]
      | cons y t =>
        simp only [cmpL]
        split
        · exact .inl rfl
        · split
          · exact .inr (.inr rfl)
          · exact ih t
  swap a b := by
    induction a generalizing b with
    | nil => cases b <;> simp [cmpL]
    | cons x r ih => cases b with
      | nil => simp [cmpL]
      | cons y t =>
        simp only [cmpL]
        by_cases h1 : x < y
        · have h2 : ¬ y < x := by simp only [UInt8.lt_iff_toNat_lt] at *; omega
          simp [h1, h2]
        · by_cases h2 : y < x
          · simp [h1, h2]
          · simp [h1, h2, ih]
  zero a b := by
    induction a generalizing b with
    | nil => cases b <;> simp [cmpL]
    | cons x r ih => cases b with
      | nil => simp [cmpL]
      | cons y t =>
        simp only [cmpL]
        by_cases h1 : x < y
        · have : x ≠ y := by intro h; subst h; simp only [UInt8.lt_iff_toNat_lt] at h1; omega
          simp [h1, this]
        · by_cases h2 : y < x
          · have : x ≠ y := by intro h; subst h; simp only [UInt8.lt_iff_toNat_lt] at h2; omega
            simp [h1, h2, this]
          · have : x = y := by
              apply UInt8.toNat_inj.1
              simp only [UInt8.lt_iff_toNat_lt] at h1 h2
              omega
            subst this
            simp [h1, ih]
  trans a b d := by
    induction a generalizing b d with
    | nil => intro _ _; cases d <;> simp [cmpL]
    | cons x r ih =>
      cases b with
      | nil => intro h; simp [cmpL] at h
      | cons y t =>
        cases d with
        | nil => intro _ h; simp [cmpL] at h
        | cons z u =>
          simp only [cmpL, UInt8.lt_iff_toNat_lt]
          intro h1 h2
          have := ih t u
          split at h1 <;> split at h2 <;> split <;> (try split at h1) <;> (try split at h2) <;> (try split) <;> first | omega | exact this h1 h2

theorem bytesLess_cmpL (a b : List UInt8) : Op.bytesLess a b = decide (cmpL a b < 0) := by
  induction a generalizing b with
  | nil => cases b <;> simp [Op.bytesLess, cmpL]
  | cons x r ih => cases b with
    | nil => simp [Op.bytesLess, cmpL]
    | cons y t =>
      simp only [Op.bytesLess, cmpL]
      by_cases h1 : x < y
      · simp [h1]
      · by_cases h2 : y < x
        · have : x ≠ y := by intro h; subst h; simp only [UInt8.lt_iff_toNat_lt] at h2; omega
          simp [h1, h2, this]
        · have : x = y := by
            apply UInt8.toNat_inj.1
            simp only [UInt8.lt_iff_toNat_lt] at h1 h2
            omega
          subst this
          simp [h1, ih]

theorem cmpStr_cmpL (a b : ByteArray) : cmpStr a b = cmpL a.toList b.toList := by
  unfold cmpStr
  rw [bytesLess_cmpL]
  have hz := cmpL_is.zero a.toList b.toList
  rcases cmpL_is.range a.toList b.toList with h | h | h
  · simp [h]
  · have he : (a.toList == b.toList) = true := by rw [hz.1 h]; simp
    simp [h, he]
  · have hne : a.toList ≠ b.toList := fun e => by rw [hz.2 e] at h; cases h
    simp [h, hne]

def lx (x y : Int) : Int := if x ≠ 0 then x else y

theorem lx_is {α β : Type} {c : α → α → Int} {d : β → β → Int} (hc : IsCmp c) (hd : IsCmp d) : IsCmp (fun (p q : α × β) => lx (c p.1 q.1) (d p.2 q.2)) where
  range a b := by
    simp only [lx]
    split
    · exact hc.range _ _
    · exact hd.range _ _
  swap a b := by
    simp only [lx]
    have h1 := hc.swap a.1 b.1
    have h2 := hd.swap a.2 b.2
    split <;> split <;> omega
  zero a b := by
    simp only [lx]
    have h1 := hc.zero a.1 b.1
    have h2 := hd.zero a.2 b.2
    obtain ⟨a1, a2⟩ := a
    obtain ⟨b1, b2⟩ := b
    simp only [Prod.mk.injEq] at *
    split
    · constructor
      · intro h; omega
      · rintro ⟨h, _⟩; exact absurd (h1.2 h) ‹_›
    · rename_i h
      have h0 : c a1 b1 = 0 := by omega
      rw [h2]
      exact ⟨fun h => ⟨h1.1 h0, h⟩, fun h => h.2⟩
  trans a b e := by
    obtain ⟨a1, a2⟩ := a
    obtain ⟨b1, b2⟩ := b
    obtain ⟨e1, e2⟩ := e
    simp only [lx]
    intro h1 h2
    by_cases hab : a1 = b1
    · subst hab
      have h0 := (hc.zero a1 a1).2 rfl
      by_cases hae : a1 = e1
      · subst hae
        simp only [h0, ne_eq, not_true, if_false] at *
        exact hd.trans _ _ _ h1 h2
      · have : c a1 e1 ≠ 0 := fun h => hae ((hc.zero _ _).1 h)
        simp only [this, ne_eq, not_false_eq_true, if_true] at *
        exact h2
    · have hab0 : c a1 b1 ≠ 0 := fun h => hab ((hc.zero _ _).1 h)
      simp only [hab0, ne_eq, not_false_eq_true, if_true] at h1
      have hbe : c b1 e1 ≤ 0 := by
        split at h2
        · exact h2
        · omega
      have hae := hc.trans _ _ _ h1 hbe
      by_cases hae0 : c a1 e1 = 0
      · have : a1 = e1 := (hc.zero _ _).1 hae0
        subst this
        have := hc.swap a1 b1
        omega
      · simp only [hae0, ne_eq, not_false_eq_true, if_true]
        exact hae

def V.tup (v : V) : Int × Int × List UInt8 × Int × Int := (v.kind, v.num, v.text.toList, v.re, v.im)

def cmp5 (p q : Int × Int × List UInt8 × Int × Int) : Int :=
  lx (cmpInt p.1 q.1) (lx (cmpInt p.2.1 q.2.1) (lx (cmpL p.2.2.1 q.2.2.1) (lx (cmpInt p.2.2.2.1 q.2.2.2.1) (cmpInt p.2.2.2.2 q.2.2.2.2))))

theorem cmp5_is : IsCmp cmp5 := lx_is cmpInt_is (lx_is cmpInt_is (lx_is cmpL_is (lx_is cmpInt_is cmpInt_is)))

theorem V.tup_inj {a b : V} (h : a.tup = b.tup) : a = b := by
  obtain ⟨ak, an, ax, ar, ai⟩ := a
  obtain ⟨bk, bn, bx, br, bi⟩ := b
  simp only [V.tup, Prod.mk.injEq] at h
  obtain ⟨rfl, rfl, h3, rfl, rfl⟩ := h
  rw [toList_inj h3]

theorem V.cmp_eq (a b : V) : a.cmp b = cmp5 a.tup b.tup := by
  by_cases h : a = b
  · subst h
    rw [(cmp5_is.zero _ _).2 rfl, V.cmp, if_pos ((V.eqv_iff _ _).2 rfl)]
  · have hq : a.eqv b = false := by
      rw [← Bool.not_eq_true]
      exact fun e => h ((V.eqv_iff _ _).1 e)
    unfold V.cmp cmp5 V.tup
    rw [hq]
    have z1 := cmpInt_is.zero a.kind b.kind
    have z2 := cmpInt_is.zero a.num b.num
    have z3 := cmpL_is.zero a.text.toList b.text.toList
    have z4 := cmpInt_is.zero a.re b.re
    simp only [Bool.false_eq_true, if_false, lx, cmpStr_cmpL, ne_eq, z1, z2, z3, z4]

theorem V.cmp_range (a b : V) : a.cmp b = -1 ∨ a.cmp b = 0 ∨ a.cmp b = 1 := by rw [V.cmp_eq]; exact cmp5_is.range _ _
theorem V.cmp_swap (a b : V) : b.cmp a = - a.cmp b := by rw [V.cmp_eq, V.cmp_eq]; exact cmp5_is.swap _ _
theorem V.cmp_zero (a b : V) : a.cmp b = 0 ↔ a = b := by
  rw [V.cmp_eq, cmp5_is.zero]
  exact ⟨V.tup_inj, fun h => by rw [h]⟩
theorem V.cmp_trans (a b c : V) (h1 : a.cmp b ≤ 0) (h2 : b.cmp c ≤ 0) : a.cmp c ≤ 0 := by
  rw [V.cmp_eq] at *
  exact cmp5_is.trans _ _ _ h1 h2

end Go.Proofs.Ytgjcienechfapaa
