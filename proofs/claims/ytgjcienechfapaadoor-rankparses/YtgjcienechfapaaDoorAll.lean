/-
  The function Same on two lists of values, by a contract.
-/
import Derived.Test.YtgjcienechfapaaDoorRefKey
namespace Go.Proofs.YtgjcienechfapaaDoor
open Go.RowKit

theorem V.eqv_self (v : V) : v.eqv v = true := (V.eqv_iff _ _).2 rfl

instance : DecidableEq V := fun a b => decidable_of_iff (a.eqv b = true) (V.eqv_iff a b)

theorem V.eqv_decide (a b : V) : a.eqv b = decide (a = b) := by
  by_cases h : a = b
  · simp [h, V.eqv_self]
  · have : a.eqv b ≠ true := fun e => h ((V.eqv_iff a b).1 e)
    simp [h, this]

/-- Two lists, down to the first two values that differ, or to an end. -/
def walkL {β : Type} (f : V → V → β) (e : Nat → Nat → β) : List V → List V → β
  | x :: r, y :: t => if x = y then walkL f (fun m n => e (m + 1) (n + 1)) r t else f x y
  | r, t => e r.length t.length

theorem walkL_diff {β : Type} (f : V → V → β) (e : Nat → Nat → β) {l t : List V} {k : Nat} (hk : k < l.length) (ht : k < t.length) (hp : l.take k = t.take k) (hne : l[k] ≠ t[k]) : walkL f e l t = f l[k] t[k] := by
  induction k generalizing l t e with
  | zero =>
    cases l with
    | nil => simp at hk
    | cons x r => cases t with
      | nil => simp at ht
      | cons y t => simp at hne; simp [walkL, hne]
  | succ k ih =>
    cases l with
    | nil => simp at hk
    | cons x r => cases t with
      | nil => simp at ht
      | cons y t =>
        simp at hp hk ht
        obtain ⟨rfl, hp⟩ := hp
        simp only [walkL, if_true]
        exact ih _ (by omega) (by omega) hp (by simpa using hne)

theorem walkL_end {β : Type} (f : V → V → β) (e : Nat → Nat → β) {l t : List V} {k : Nat} (hk : k ≤ l.length) (ht : k ≤ t.length) (hp : l.take k = t.take k) (hend : k = l.length ∨ k = t.length) : walkL f e l t = e l.length t.length := by
  induction k generalizing l t e with
  | zero =>
    cases l with
    | nil => cases t <;> rfl
    | cons x r => cases t with
      | nil => rfl
      | cons y t => simp at hend
  | succ k ih =>
    cases l with
    | nil => simp at hk
    | cons x r => cases t with
      | nil => simp at ht
      | cons y t =>
        simp at hp hk ht hend
        obtain ⟨rfl, hp⟩ := hp
        simp only [walkL, if_true]
        exact ih _ (by omega) (by omega) hp hend

theorem take_next {l t : List V} {k : Nat} (hk : k < l.length) (ht : k < t.length) (hp : l.take k = t.take k) (he : l[k] = t[k]) : l.take (k + 1) = t.take (k + 1) := by
  rw [List.take_succ_eq_append_getElem hk, List.take_succ_eq_append_getElem ht, hp, he]

def sameAll (l t : List V) : Bool := walkL (fun _ _ => false) (fun m n => decide (m = n)) l t

theorem below_drewN {B : Nat} {a w : World} (h : Below B a w) (n : Nat) : Below B a (w.drewN n) := ⟨h.os, h.tape, h.output, h.size, h.block⟩

theorem same_any (s s' : Value) (l t : List V) (w : World) (hl : Lst w s l) (ht : Lst w s' t) (hl6 : l.length ≤ 1000) (ht6 : t.length ≤ 1000) :
    Calls Tryd.prog 11 #[s, s'] w fun e w' => e = .returned (.bool (sameAll l t)) ∧ Below w.heap.size w w' := by
  obtain ⟨ao, cap, rfl, hlo⟩ := hl
  obtain ⟨bo, cap', rfl, hto⟩ := ht
  go_enter Tryd.func11, Tryd.ntmps11
  go_wp2
  go_loopw [5] (fun i wr => ∃ k : Nat, k ≤ l.length ∧ k ≤ t.length ∧ i = .int .i64 k ∧ l.take k = t.take k ∧ Below w.heap.size w wr) (fun i _ => l.length - (intOf i).toNat)
  case atStart => exact ⟨0, Nat.zero_le _, Nat.zero_le _, rfl, by simp, Below.refl _ _⟩
  case round =>
    obtain ⟨k, hk, hk', rfl, hp, hbl⟩ := hrel
    by_cases hlt : k < l.length ∧ k < t.length
    · obtain ⟨hlt, hlt'⟩ := hlt
      rcases hlo with rfl | ⟨b, off, rfl, hb, hll⟩
      · simp at hlt
      rcases hto with rfl | ⟨b', off', rfl, hb', hlt2⟩
      · simp at hlt'
      have hc := hll.below hbl hb k hlt
      have hc' := hlt2.below hbl hb' k hlt'
      have hd := walkL_diff (fun _ _ => false) (fun m n => decide (m = n)) hlt hlt' hp
      have hn := take_next hlt hlt' hp
      generalize l[k] = x at *
      generalize t[k] = y at *
      obtain ⟨c0, c1, c2, c3, c4⟩ := hc
      obtain ⟨d0, d1, d2, d3, d4⟩ := hc'
      have he := run_neq33 x.kind x.num x.text x.re x.im y.kind y.num y.text y.re y.im
      rw [V.eqv_decide] at he
      have hi1 : (k : Int) < (l.length : Int) := by omega
      have hi2 : (k : Int) < (t.length : Int) := by omega
      by_cases hxy : x = y
      · subst hxy
        simp only [decide_true, Bool.not_true] at he
        clear hd
        have HN : Hid (l.take (k + 1) = t.take (k + 1)) := hn rfl
        clear hn
        go_wp2
        go_quiet (fail)
        go_wp2
        go_roundw
        case rel => exact ⟨k + 1, by omega, by omega, by go_num, HN.out, below_drewN hbl _⟩
        case measure => simp [intOf]; omega
      · have HD : Hid (walkL (fun _ _ => false) (fun m n => decide (m = n)) l t = false) := hd hxy
        clear hd hn
        simp only [hxy, decide_false, Bool.not_false] at he
        go_wp2
        go_quiet (fail)
        go_wp2
        go_ret
        exact ⟨by rw [sameAll, HD.out]; rfl, below_drewN hbl _⟩
    · have HE : Hid (sameAll l t = decide (l.length = t.length)) := walkL_end _ _ hk hk' hp (by omega)
      by_cases h1 : k < l.length
      · have h2 : k = t.length := by omega
        have h3 : (t.length : Int) < (l.length : Int) := by omega
        subst h2
        clear hlt
        go_wp2
        go_ret
        refine ⟨?_, hbl⟩
        have hne : l.length ≠ t.length := by omega
        have hne' : (l.length : Int) ≠ (t.length : Int) := by omega
        rw [HE.out]
        simp [hne, hne']
      · have h2 : k = l.length := by omega
        subst h2
        clear hlt h1
        go_wp2
        go_ret
        refine ⟨?_, hbl⟩
        rw [HE.out]
        by_cases h : l.length = t.length
        · simp [h]
        · have h' : (l.length : Int) ≠ (t.length : Int) := by omega
          simp [h, h']

theorem sameAll_cons (x y : V) (l t : List V) : sameAll (x :: l) (y :: t) = if x = y then sameAll l t else false := by
  simp [sameAll, walkL]

theorem sameAll_eq (l t : List V) : sameAll l t = decide (l = t) := by
  induction l generalizing t with
  | nil => cases t <;> simp [sameAll, walkL]
  | cons x l ih => cases t with
    | nil => simp [sameAll, walkL]
    | cons y t =>
      rw [sameAll_cons, ih]
      by_cases h : x = y <;> simp [h]

theorem V.fits_of {v : V} (h : v.check = 0) : v.fits = true ∧ (v.kind = 2 → v.text.size ≤ 256) := by
  unfold V.check at h
  split at h
  · cases h
  · split at h
    · rename_i h1 h2
      exact ⟨h2, fun hk => by omega⟩
    · cases h

theorem V.parts {v : V} (h : v.check = 0) :
    (v.kind = 1 ∧ v.text.toList = [] ∧ v.re = 0 ∧ v.im = 0 ∧ -9007199254740992 ≤ v.num ∧ v.num ≤ 9007199254740992) ∨
    (v.kind = 2 ∧ v.num = 0 ∧ v.re = 0 ∧ v.im = 0) ∨
    (v.kind = 3 ∧ v.num = 0 ∧ v.text.toList = [] ∧ -1048576 ≤ v.re ∧ v.re ≤ 1048576 ∧ -1048576 ≤ v.im ∧ v.im ≤ 1048576) := by
  have hf := (V.fits_of h).1
  unfold V.fits at hf
  split at hf
  · exact .inl ⟨‹_›, by simpa using hf⟩
  · split at hf
    · exact .inr (.inl ⟨‹_›, by simpa using hf⟩)
    · split at hf
      · exact .inr (.inr ⟨‹_›, by simpa using hf⟩)
      · cases hf

theorem firstBad_ok {l : List V} (h : firstBad l = 0) : ∀ v ∈ l, v.check = 0 := by
  induction l with
  | nil => simp
  | cons x l ih =>
    unfold firstBad at h
    split at h
    · intro v hv
      rcases List.mem_cons.1 hv with rfl | hv
      · assumption
      · exact ih h v hv
    · exact absurd h ‹_›

theorem keyStr_ok {l : List V} (h : firstBad l = 0) : (keyStr l).toList = keyBytes l := by
  rw [ByteArray.toList_eq]
  simp [keyStr, h]

end Go.Proofs.YtgjcienechfapaaDoor
