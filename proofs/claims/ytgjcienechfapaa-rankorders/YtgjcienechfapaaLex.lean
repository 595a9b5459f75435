/-
  Keys are ordered, byte by byte, as the values and the lists are; a list's key begins another one's just if the list begins it. Lists and numbers alone: no walk.
-/
import Derived.Test.YtgjcienechfapaaAll2
namespace Go.Proofs.Ytgjcienechfapaa
open Go.RowKit

/-- The two part at a place where the first has the smaller byte. -/
def Lt2 (x y : List UInt8) : Prop := ∃ p a b r s, x = p ++ a :: r ∧ y = p ++ b :: s ∧ a < b

theorem Lt2.app {x y : List UInt8} (h : Lt2 x y) (r s : List UInt8) : Lt2 (x ++ r) (y ++ s) := by
  obtain ⟨p, a, b, r', s', rfl, rfl, hab⟩ := h
  exact ⟨p, a, b, r' ++ r, s' ++ s, by simp, by simp, hab⟩
theorem Lt2.pre {x y : List UInt8} (h : Lt2 x y) (q : List UInt8) : Lt2 (q ++ x) (q ++ y) := by
  obtain ⟨p, a, b, r', s', rfl, rfl, hab⟩ := h
  exact ⟨q ++ p, a, b, r', s', by simp, by simp, hab⟩
theorem Lt2.cons {x y : List UInt8} (h : Lt2 x y) (q : UInt8) : Lt2 (q :: x) (q :: y) := h.pre [q]
theorem Lt2.head {a b : UInt8} (h : a < b) (r s : List UInt8) : Lt2 (a :: r) (b :: s) := ⟨[], a, b, r, s, rfl, rfl, h⟩

theorem lt_irrefl8 (a : UInt8) : ¬ a < a := by simp only [UInt8.lt_iff_toNat_lt]; omega
theorem lt_asymm8 {a b : UInt8} (h : a < b) : ¬ b < a := by simp only [UInt8.lt_iff_toNat_lt] at *; omega

theorem cmpL_pre (p x y : List UInt8) : cmpL (p ++ x) (p ++ y) = cmpL x y := by
  induction p with
  | nil => rfl
  | cons a p ih => simp [cmpL, ih]

theorem Lt2.cmp {x y : List UInt8} (h : Lt2 x y) : cmpL x y = -1 := by
  obtain ⟨p, a, b, r', s', rfl, rfl, hab⟩ := h
  rw [cmpL_pre]
  simp [cmpL, hab]

theorem Lt2.swap {x y : List UInt8} (h : Lt2 x y) : cmpL y x = 1 := by
  rw [cmpL_is.swap, h.cmp]; rfl

theorem Lt2.parts {x y : List UInt8} (h : Lt2 x y) : ¬ x <+: y ∧ ¬ y <+: x := by
  obtain ⟨p, a, b, r', s', rfl, rfl, hab⟩ := h
  constructor
  · rw [List.prefix_append_right_inj]
    rintro ⟨t, ht⟩
    simp at ht
    rw [ht.1] at hab
    exact lt_irrefl8 _ hab
  · rw [List.prefix_append_right_inj]
    rintro ⟨t, ht⟩
    simp at ht
    rw [ht.1] at hab
    exact lt_irrefl8 _ hab

/-! Numbers. -/
theorem byteAt_lt {u v i : Nat} (h1 : u / 2 ^ (8 * (i + 1)) = v / 2 ^ (8 * (i + 1))) (h2 : u / 2 ^ (8 * i) < v / 2 ^ (8 * i)) : byteAt u i < byteAt v i := by
  have e : ∀ n : Nat, n / 2 ^ (8 * (i + 1)) = n / 2 ^ (8 * i) / 256 := fun n => by
    rw [Nat.div_div_eq_div_mul, show 8 * (i + 1) = 8 * i + 8 from by omega, Nat.pow_add]
  rw [e, e] at h1
  rw [UInt8.lt_iff_toNat_lt]
  simp only [byteAt, UInt8.toNat_ofNat']
  omega

theorem byteAt_eq {u v i : Nat} (h : u / 2 ^ (8 * i) = v / 2 ^ (8 * i)) : byteAt u i = byteAt v i := by
  unfold byteAt
  rw [h]

theorem upper_eq {u v : Nat} : ∀ k, k ≤ 8 → u / 2 ^ (8 * (8 - k)) = v / 2 ^ (8 * (8 - k)) → upper u k = upper v k
  | 0, _, _ => rfl
  | k + 1, hk, h => by
    have e : ∀ n : Nat, n / 2 ^ (8 * (8 - k)) = n / 2 ^ (8 * (8 - (k + 1))) / 256 := fun n => by
      rw [Nat.div_div_eq_div_mul, show 8 * (8 - k) = 8 * (8 - (k + 1)) + 8 from by omega, Nat.pow_add]
    have h' : u / 2 ^ (8 * (8 - k)) = v / 2 ^ (8 * (8 - k)) := by rw [e, e, h]
    have hi : 8 - (k + 1) = 7 - k := by omega
    rw [hi] at h
    simp only [upper]
    rw [upper_eq k (by omega) h', byteAt_eq h]

theorem upper_lt {u v : Nat} (hu : u < 2 ^ 64) (hv : v < 2 ^ 64) : ∀ k, k ≤ 8 → u / 2 ^ (8 * (8 - k)) < v / 2 ^ (8 * (8 - k)) → Lt2 (upper u k) (upper v k)
  | 0, _, h => by
    simp only [Nat.sub_zero] at h
    rw [Nat.div_eq_of_lt hv] at h
    omega
  | k + 1, hk, h => by
    have e : ∀ n : Nat, n / 2 ^ (8 * (8 - k)) = n / 2 ^ (8 * (8 - (k + 1))) / 256 := fun n => by
      rw [Nat.div_div_eq_div_mul, show 8 * (8 - k) = 8 * (8 - (k + 1)) + 8 from by omega, Nat.pow_add]
    have hi : 8 - (k + 1) = 7 - k := by omega
    have hi' : 8 - k = 7 - k + 1 := by omega
    simp only [upper]
    by_cases h' : u / 2 ^ (8 * (8 - k)) < v / 2 ^ (8 * (8 - k))
    · exact (upper_lt hu hv k (by omega) h').app _ _
    · have h'' : u / 2 ^ (8 * (8 - k)) = v / 2 ^ (8 * (8 - k)) := by
        have e1 := e u
        have e2 := e v
        omega
      rw [upper_eq k (by omega) h'']
      rw [hi] at h
      rw [hi'] at h''
      exact (Lt2.head (byteAt_lt h'' h) [] []).pre _

theorem upper8_lt {u v : Nat} (hu : u < 2 ^ 64) (hv : v < 2 ^ 64) (h : u < v) : Lt2 (upper u 8) (upper v 8) :=
  upper_lt hu hv 8 (by omega) (by simpa using h)

/-! Texts. -/
/-- The first n bytes, noughts behind the end. -/
def chunk : Nat → List UInt8 → List UInt8
  | 0, _ => []
  | n + 1, [] => 0 :: chunk n []
  | n + 1, x :: s => x :: chunk n s

theorem chunk_nil (n : Nat) : chunk n [] = List.replicate n 0 := by
  induction n with
  | zero => rfl
  | succ n ih => simp [chunk, ih, List.replicate_succ]

theorem chunk_long {n : Nat} {s : List UInt8} (h : n ≤ s.length) : chunk n s = s.take n := by
  induction n generalizing s with
  | zero => simp [chunk]
  | succ n ih => cases s with
    | nil => simp at h
    | cons x s => simp [chunk, ih (s := s) (by simpa using h)]

theorem chunk_short {n : Nat} {s : List UInt8} (h : s.length ≤ n) : chunk n s = s ++ List.replicate (n - s.length) 0 := by
  induction n generalizing s with
  | zero =>
    have : s = [] := List.eq_nil_of_length_eq_zero (by omega)
    subst this
    rfl
  | succ n ih => cases s with
    | nil => simp [chunk_nil]
    | cons x s => simp [chunk, ih (s := s) (by simpa using h)]

theorem chunk_zero (n : Nat) (t : List UInt8) : chunk n [] = chunk n t ∨ Lt2 (chunk n []) (chunk n t) := by
  induction n generalizing t with
  | zero => exact .inl rfl
  | succ n ih => cases t with
    | nil => exact .inl rfl
    | cons y t =>
      simp only [chunk]
      by_cases h : 0 < y
      · exact .inr (Lt2.head h _ _)
      · have : y = 0 := by
          apply UInt8.toNat_inj.1
          simp only [UInt8.lt_iff_toNat_lt] at h
          simp at h ⊢
          omega
        subst this
        rcases ih t with h | h
        · exact .inl (by rw [h])
        · exact .inr (h.cons 0)

theorem chunk_lt (n : Nat) (s t : List UInt8) (h : cmpL s t = -1) :
    Lt2 (chunk n s) (chunk n t) ∨ (chunk n s = chunk n t ∧ ((s.length < n ∧ s.length < t.length) ∨ (n ≤ s.length ∧ n ≤ t.length ∧ cmpL (s.drop n) (t.drop n) = -1))) := by
  induction n generalizing s t with
  | zero => exact .inr ⟨rfl, .inr ⟨by simp, by simp, by simpa using h⟩⟩
  | succ n ih =>
    cases s with
    | nil => cases t with
      | nil => simp [cmpL] at h
      | cons y t =>
        rcases chunk_zero (n + 1) (y :: t) with h | h
        · exact .inr ⟨h, .inl ⟨by simp, by simp⟩⟩
        · exact .inl h
    | cons x s => cases t with
      | nil => simp [cmpL] at h
      | cons y t =>
        simp only [chunk]
        by_cases h1 : x < y
        · exact .inl (Lt2.head h1 _ _)
        · by_cases h2 : y < x
          · simp [cmpL, h1, h2] at h
          · have : x = y := by
              apply UInt8.toNat_inj.1
              simp only [UInt8.lt_iff_toNat_lt] at h1 h2
              omega
            subst this
            simp only [cmpL, h1, if_false] at h
            rcases ih s t h with h | ⟨h, h' | h'⟩
            · exact .inl (h.cons x)
            · exact .inr ⟨by rw [h], .inl ⟨by simp; omega, by simp; omega⟩⟩
            · exact .inr ⟨by rw [h], .inr ⟨by simp; omega, by simp; omega, by simpa using h'.2.2⟩⟩

theorem textKey_chunk_long {s : List UInt8} (h : 7 ≤ s.length) : textKey s = chunk 7 s ++ 8 :: textKey (s.drop 7) := by
  rw [textKey_long h, chunk_long h]
theorem textKey_chunk_short {s : List UInt8} (h : s.length < 7) : textKey s = chunk 7 s ++ [UInt8.ofNat s.length] := by
  rw [textKey_short h, chunk_short (by omega)]

theorem ofNat_lt {a b : Nat} (h : a < b) (hb : b < 256) : UInt8.ofNat a < UInt8.ofNat b := by
  rw [UInt8.lt_iff_toNat_lt]
  simp only [UInt8.toNat_ofNat']
  omega

theorem textKey_lt (s t : List UInt8) (h : cmpL s t = -1) : Lt2 (textKey s) (textKey t) := by
  induction hn : s.length using Nat.strongRecOn generalizing s t with
  | _ n ih =>
    have hc := chunk_lt 7 s t h
    by_cases hs : 7 ≤ s.length <;> by_cases ht : 7 ≤ t.length
    · rw [textKey_chunk_long hs, textKey_chunk_long ht]
      rcases hc with hc | ⟨hc, hc' | hc'⟩
      · exact hc.app _ _
      · omega
      · rw [hc]
        exact ((ih _ (by simp; omega) _ _ hc'.2.2 rfl).cons 8).pre _
    · rw [textKey_chunk_long hs, textKey_chunk_short (s := t) (by omega)]
      rcases hc with hc | ⟨hc, hc' | hc'⟩
      · exact hc.app _ _
      · omega
      · omega
    · rw [textKey_chunk_short (by omega), textKey_chunk_long ht]
      rcases hc with hc | ⟨hc, hc' | hc'⟩
      · exact hc.app _ _
      · rw [hc]
        exact (Lt2.head (ofNat_lt (b := 8) (by omega) (by omega)) _ _).pre _
      · omega
    · rw [textKey_chunk_short (s := s) (by omega), textKey_chunk_short (s := t) (by omega)]
      rcases hc with hc | ⟨hc, hc' | hc'⟩
      · exact hc.app _ _
      · rw [hc]
        exact (Lt2.head (ofNat_lt hc'.2 (by omega)) _ _).pre _
      · omega

/-! Values. -/
theorem V.fits_of {v : V} (h : v.check = 0) : v.fits = true ∧ (v.kind = 2 → v.text.size ≤ 256) := by
  unfold V.check at h
  split at h
  · cases h
  · split at h
    · rename_i h1 h2
      exact ⟨h2, fun hk => by omega⟩
    · cases h

theorem V.parts {v : V} (h : v.check = 0) :
    (v.kind = 1 ∧ v.text.toList = [] ∧ v.re = 0 ∧ v.im = 0 ∧ -9007199254740992 ≤ v.num ∧ v.num ≤ 9007199254740992) ∨
    (v.kind = 2 ∧ v.num = 0 ∧ v.re = 0 ∧ v.im = 0) ∨
    (v.kind = 3 ∧ v.num = 0 ∧ v.text.toList = [] ∧ -1048576 ≤ v.re ∧ v.re ≤ 1048576 ∧ -1048576 ≤ v.im ∧ v.im ≤ 1048576) := by
  have hf := (V.fits_of h).1
  unfold V.fits at hf
  split at hf
  · exact .inl ⟨‹_›, by simpa using hf⟩
  · split at hf
    · exact .inr (.inl ⟨‹_›, by simpa using hf⟩)
    · split at hf
      · exact .inr (.inr ⟨‹_›, by simpa using hf⟩)
      · cases hf

theorem cmpInt_lt {x y : Int} : cmpInt x y = -1 ↔ x < y := by unfold cmpInt; split <;> (try split) <;> omega
theorem cmpInt_self (x : Int) : cmpInt x x = 0 := (cmpInt_is.zero x x).2 rfl
theorem cmpL_self (x : List UInt8) : cmpL x x = 0 := (cmpL_is.zero x x).2 rfl

theorem num_lt {x y : Int} (hx : -4611686018427387904 ≤ x) (hy : y < 4611686018427387904) (h : x < y) : Lt2 (upper (x + 4611686018427387904).toNat 8) (upper (y + 4611686018427387904).toNat 8) :=
  upper8_lt (by omega) (by omega) (by omega)

theorem V.key_lt {u v : V} (hu : u.check = 0) (hv : v.check = 0) (h : u.cmp v = -1) : Lt2 u.key v.key := by
  rw [V.cmp_eq] at h
  unfold cmp5 V.tup at h
  simp only at h
  have pu := V.parts hu
  have pv := V.parts hv
  by_cases hk : u.kind = v.kind
  · rw [hk, cmpInt_self] at h
    simp only [lx, ne_eq, not_true, if_false] at h
    unfold V.key
    rw [hk]
    refine Lt2.cons ?_ _
    rcases pu with ⟨k1, t1, r1, i1, n1, n1'⟩ | ⟨k1, n1, r1, i1⟩ | ⟨k1, n1, t1, r1, r1', i1, i1'⟩
    · rcases pv with ⟨k2, t2, r2, i2, n2, n2'⟩ | ⟨k2, _⟩ | ⟨k2, _⟩
      · rw [k2]
        simp only [if_true]
        rw [t1, t2, r1, r2, i1, i2, cmpL_self, cmpInt_self] at h
        simp only [not_true, if_false] at h
        have : cmpInt u.num v.num = -1 := by
          split at h
          · exact h
          · cases h
        exact num_lt (by omega) (by omega) (cmpInt_lt.1 this)
      · omega
      · omega
    · rcases pv with ⟨k2, _⟩ | ⟨k2, n2, r2, i2⟩ | ⟨k2, _⟩
      · omega
      · rw [k2]
        simp only [show ((2 : Int) = 1) = False from by simp, if_false, if_true]
        rw [n1, n2, r1, r2, i1, i2, cmpInt_self] at h
        simp only [not_true, if_false] at h
        have : cmpL u.text.toList v.text.toList = -1 := by
          split at h
          · exact h
          · cases h
        exact textKey_lt _ _ this
      · omega
    · rcases pv with ⟨k2, _⟩ | ⟨k2, _⟩ | ⟨k2, n2, t2, r2, r2', i2, i2'⟩
      · omega
      · omega
      · rw [k2]
        simp only [show ((3 : Int) = 1) = False from by simp, show ((3 : Int) = 2) = False from by simp, if_false]
        rw [n1, n2, t1, t2, cmpInt_self, cmpL_self] at h
        simp only [not_true, if_false] at h
        by_cases hr : u.re = v.re
        · rw [hr, cmpInt_self] at h
          simp only [not_true, if_false] at h
          rw [hr]
          exact (num_lt (by omega) (by omega) (cmpInt_lt.1 h)).pre _
        · have h0 : cmpInt u.re v.re ≠ 0 := fun e => hr ((cmpInt_is.zero _ _).1 e)
          simp only [h0, not_false_eq_true, if_true] at h
          exact (num_lt (by omega) (by omega) (cmpInt_lt.1 h)).app _ _
  · have h0 : cmpInt u.kind v.kind ≠ 0 := fun e => hk ((cmpInt_is.zero _ _).1 e)
    simp only [lx, ne_eq, h0, not_false_eq_true, if_true] at h
    have := cmpInt_lt.1 h
    unfold V.key
    refine Lt2.head (ofNat_lt ?_ ?_) _ _
    · omega
    · omega

theorem cmpInt_neg {x y : Int} : cmpInt x y < 0 ↔ x < y := by unfold cmpInt; split <;> (try split) <;> omega

theorem lx_zero (x : Int) : lx x 0 = x := by unfold lx; split <;> omega
theorem zero_lx (x : Int) : lx 0 x = x := by simp [lx]
theorem cmpInt_lx (x y z : Int) : decide (lx (cmpInt x y) z < 0) = decide (x < y ∨ (x = y ∧ z < 0)) := by
  have h1 := cmpInt_neg (x := x) (y := y)
  have h2 := cmpInt_is.zero x y
  unfold lx
  by_cases h : cmpInt x y = 0
  · have := h2.1 h
    subst this
    simp [h]
  · have hne : x ≠ y := fun e => h (h2.2 e)
    simp [h, h1, hne]

theorem V.less_cmp {u v : V} (hu : u.check = 0) (hv : v.check = 0) : u.less v = decide (u.cmp v < 0) := by
  rw [V.cmp_eq]
  unfold V.less cmp5 V.tup
  simp only
  have pu := V.parts hu
  have pv := V.parts hv
  by_cases hk : u.kind = v.kind
  · rw [hk, cmpInt_self, zero_lx]
    simp only [ne_eq, not_true, if_false]
    rcases pu with ⟨k1, t1, r1, i1, n1, n1'⟩ | ⟨k1, n1, r1, i1⟩ | ⟨k1, n1, t1, r1, r1', i1, i1'⟩
    · have k2 : v.kind = 1 := by omega
      rcases pv with ⟨_, t2, r2, i2, n2, n2'⟩ | ⟨k2', _⟩ | ⟨k2', _⟩
      · rw [k2, t1, t2, r1, r2, i1, i2, cmpL_self, cmpInt_self, zero_lx, zero_lx, lx_zero]
        simp [cmpInt_neg]
      · omega
      · omega
    · have k2 : v.kind = 2 := by omega
      rcases pv with ⟨k2', _⟩ | ⟨_, n2, r2, i2⟩ | ⟨k2', _⟩
      · omega
      · rw [k2, n1, n2, r1, r2, i1, i2, cmpInt_self, zero_lx, zero_lx, lx_zero, bytesLess_cmpL]
        simp
      · omega
    · have k2 : v.kind = 3 := by omega
      rcases pv with ⟨k2', _⟩ | ⟨k2', _⟩ | ⟨_, n2, t2, r2, r2', i2, i2'⟩
      · omega
      · omega
      · rw [k2, n1, n2, t1, t2, cmpInt_self, cmpL_self, zero_lx, zero_lx, cmpInt_lx]
        simp [cmpInt_neg]
  · rw [cmpInt_lx]
    simp [hk]

/-! Lists. -/
theorem cmpInt_succ (m n : Nat) : cmpInt (m + 1 : Nat) (n + 1 : Nat) = cmpInt m n := by
  unfold cmpInt
  simp only [Int.natCast_add, Int.natCast_one]
  split <;> split <;> (try split) <;> (try split) <;> omega

theorem cmpAll_cons (x y : V) (l t : List V) : cmpAll (x :: l) (y :: t) = if x = y then cmpAll l t else x.cmp y := by
  simp only [cmpAll, walkL]
  have : (fun m n : Nat => cmpInt ((m + 1 : Nat) : Int) ((n + 1 : Nat) : Int)) = fun m n : Nat => cmpInt (m : Int) (n : Int) := by
    funext m n
    exact cmpInt_succ m n
  rw [this]
theorem lessAll_cons (x y : V) (l t : List V) : lessAll (x :: l) (y :: t) = if x = y then lessAll l t else x.less y := by
  simp [lessAll, walkL]
theorem sameAll_cons (x y : V) (l t : List V) : sameAll (x :: l) (y :: t) = if x = y then sameAll l t else false := by
  simp [sameAll, walkL]

theorem sameAll_eq (l t : List V) : sameAll l t = decide (l = t) := by
  induction l generalizing t with
  | nil => cases t <;> simp [sameAll, walkL]
  | cons x l ih => cases t with
    | nil => simp [sameAll, walkL]
    | cons y t =>
      rw [sameAll_cons, ih]
      by_cases h : x = y <;> simp [h]

theorem V.key_ne (v : V) : v.key ≠ [] := by simp [V.key]

theorem keyBytes_cons (x : V) (l : List V) : keyBytes (x :: l) = x.key ++ keyBytes l := by simp [keyBytes]

theorem cmpAll_nil_nil : cmpAll [] [] = 0 := by simp [cmpAll, walkL, cmpInt]
theorem cmpAll_nil_cons (y : V) (t : List V) : cmpAll [] (y :: t) = -1 := by
  show cmpInt ((0 : Nat) : Int) (((y :: t).length : Nat) : Int) = -1
  rw [cmpInt_lt]
  simp only [List.length_cons]
  omega
theorem cmpAll_cons_nil (x : V) (l : List V) : cmpAll (x :: l) [] = 1 := by
  show cmpInt (((x :: l).length : Nat) : Int) ((0 : Nat) : Int) = 1
  rw [cmpInt_is.swap, cmpInt_lt.2]
  · rfl
  · simp only [List.length_cons]
    omega

theorem keys_cmp {l t : List V} (hl : ∀ v ∈ l, v.check = 0) (ht : ∀ v ∈ t, v.check = 0) : cmpL (keyBytes l) (keyBytes t) = cmpAll l t := by
  induction l generalizing t with
  | nil =>
    cases t with
    | nil => rfl
    | cons y t =>
      rw [keyBytes_cons]
      rw [cmpAll_nil_cons]
      cases hk : y.key with
      | nil => exact absurd hk y.key_ne
      | cons b r => simp [keyBytes, cmpL]
  | cons x l ih =>
    cases t with
    | nil =>
      rw [keyBytes_cons]
      rw [cmpAll_cons_nil]
      cases hk : x.key with
      | nil => exact absurd hk x.key_ne
      | cons b r => simp [keyBytes, cmpL]
    | cons y t =>
      rw [keyBytes_cons, keyBytes_cons, cmpAll_cons]
      have hx := hl x (by simp)
      have hy := ht y (by simp)
      by_cases h : x = y
      · subst h
        rw [cmpL_pre, if_pos rfl]
        exact ih (fun v hv => hl v (by simp [hv])) (fun v hv => ht v (by simp [hv]))
      · rw [if_neg h]
        rcases V.cmp_range x y with hc | hc | hc
        · rw [hc]
          exact ((V.key_lt hx hy hc).app _ _).cmp
        · exact absurd ((V.cmp_zero _ _).1 hc) h
        · rw [hc]
          have hs : y.cmp x = -1 := by rw [V.cmp_swap, hc]
          exact ((V.key_lt hy hx hs).app _ _).swap

theorem lessAll_cmp {l t : List V} (hl : ∀ v ∈ l, v.check = 0) (ht : ∀ v ∈ t, v.check = 0) : lessAll l t = decide (cmpAll l t < 0) := by
  induction l generalizing t with
  | nil =>
    cases t with
    | nil => rw [cmpAll_nil_nil]; simp [lessAll, walkL]
    | cons y t => rw [cmpAll_nil_cons]; simp [lessAll, walkL]
  | cons x l ih =>
    cases t with
    | nil => rw [cmpAll_cons_nil]; simp [lessAll, walkL]
    | cons y t =>
      rw [lessAll_cons, cmpAll_cons]
      by_cases h : x = y
      · rw [if_pos h, if_pos h]
        exact ih (fun v hv => hl v (by simp [hv])) (fun v hv => ht v (by simp [hv]))
      · rw [if_neg h, if_neg h]
        exact V.less_cmp (hl x (by simp)) (ht y (by simp))

theorem cmpAll_zero (l t : List V) : cmpAll l t = 0 ↔ l = t := by
  induction l generalizing t with
  | nil =>
    cases t with
    | nil => simp [cmpAll_nil_nil]
    | cons y t => simp [cmpAll_nil_cons]
  | cons x l ih =>
    cases t with
    | nil => simp [cmpAll_cons_nil]
    | cons y t =>
      rw [cmpAll_cons]
      by_cases h : x = y
      · simp [h, ih]
      · simp [h, V.cmp_zero]

theorem cmpAll_range (l t : List V) : cmpAll l t = -1 ∨ cmpAll l t = 0 ∨ cmpAll l t = 1 := by
  induction l generalizing t with
  | nil =>
    cases t with
    | nil => simp [cmpAll_nil_nil]
    | cons y t => simp [cmpAll_nil_cons]
  | cons x l ih =>
    cases t with
    | nil => simp [cmpAll_cons_nil]
    | cons y t =>
      rw [cmpAll_cons]
      split
      · exact ih t
      · exact V.cmp_range x y

theorem keys_prefix {l t : List V} (hl : ∀ v ∈ l, v.check = 0) (ht : ∀ v ∈ t, v.check = 0) : keyBytes l <+: keyBytes t ↔ l <+: t := by
  induction l generalizing t with
  | nil => simp [keyBytes]
  | cons x l ih =>
    cases t with
    | nil =>
      rw [keyBytes_cons]
      have := x.key_ne
      simp [keyBytes, this]
    | cons y t =>
      rw [keyBytes_cons, keyBytes_cons]
      have hx := hl x (by simp)
      have hy := ht y (by simp)
      by_cases h : x = y
      · subst h
        rw [List.prefix_append_right_inj, ih (fun v hv => hl v (by simp [hv])) (fun v hv => ht v (by simp [hv]))]
        simp
      · have hno : ¬ (x :: l) <+: (y :: t) := by
          rintro ⟨r, hr⟩
          simp at hr
          exact h hr.1
        have hno' : ¬ (x.key ++ keyBytes l) <+: (y.key ++ keyBytes t) := by
          rcases V.cmp_range x y with hc | hc | hc
          · exact ((V.key_lt hx hy hc).app _ _).parts.1
          · exact absurd ((V.cmp_zero _ _).1 hc) h
          · have hs : y.cmp x = -1 := by rw [V.cmp_swap, hc]
            exact ((V.key_lt hy hx hs).app _ _).parts.2
        simp [hno, hno']

end Go.Proofs.Ytgjcienechfapaa
