/-
  Turns by contracts: gauss.Turn and the document's Turn.
  The values of sums, products and calls, by contracts.
-/
import Derived.Test.YtiacnmcdfpmcfaaGreatDoorQ07
import Derived.Test.YtiacnmcdfpmcfaaGreatDoorNode
namespace Go.Proofs.YtiacnmcdfpmcfaaGreatDoor.Gs
open Go.RowKit
attribute [local go_sem] cell?_more frozen?_more setCell_more size_more tape_more drew_more drewN_more more_drew more_drewN more_more one_out plus_out lt_one le_p2 le_p3 le_p4 le_p5 le_p6 le_p7 le_p8 le_p9 le_p10 le_p11 le_p12

/-- A point, turned by so many quarters. -/
def rot : Nat → Int → Int → Int × Int
  | 0, a, b => (a, b)
  | k + 1, a, b => (-(rot k a b).2, (rot k a b).1)

theorem may_quarter {a b : Int} (h : May a b) : May (-b) a := by unfold May at *; omega
theorem may_rot {a b : Int} (h : May a b) : ∀ k, May (rot k a b).1 (rot k a b).2
  | 0 => h
  | k + 1 => may_quarter (may_rot h k)
theorem norm_rot (a b : Int) : ∀ k, (rot k a b).1 * (rot k a b).1 + (rot k a b).2 * (rot k a b).2 = a * a + b * b
  | 0 => rfl
  | k + 1 => by
    have := norm_rot a b k
    simp only [rot]
    grind

/-- How many quarters a number is. -/
def quarters (n : Int) : Nat := (n % 4).toNat

theorem quarters_lt (n : Int) : quarters n < 4 := by unfold quarters; omega

theorem tmod4 (n : Int) : n.tmod 4 = if n.tmod 4 < 0 then (quarters n : Int) - 4 else (quarters n : Int) := by
  unfold quarters
  rw [Int.tmod_eq_emod]
  split <;> split <;> simp_all <;> omega

theorem tmod4_bounds (n : Int) : -4 < n.tmod 4 ∧ n.tmod 4 < 4 := by
  have h1 := Int.tmod_lt_of_pos n (b := 4) (by decide)
  have h2 := Int.tmod_lt_of_pos (-n) (b := 4) (by decide)
  rw [Int.neg_tmod] at h2
  generalize n.tmod 4 = t at *
  omega

set_option maxHeartbeats 4000000 in
theorem turn_may (a b n : Int) (ha : May a b) (w : World) :
    Calls Tryz.prog 186 #[pt a b, .int .i64 n] w fun e w' => e = .returned (pt (rot (quarters n) a b).1 (rot (quarters n) a b).2) ∧ Adds w w' := by
  have h1 := check_may a b ha
  have hq := quarters_lt n
  have ht := tmod4 n
  obtain ⟨b1, b2⟩ := tmod4_bounds n
  have h5 : (n.tmod 4 + 4).tmod 4 = (quarters n : Int) := by
    rw [Int.tmod_eq_emod_of_nonneg (by omega)]
    split at ht <;> omega
  have hr : ∀ k, ∀ w, Calls Tryz.prog 192 #[pt (rot k a b).1 (rot k a b).2] w fun e w' => e = .returned (pt (rot (k + 1) a b).1 (rot (k + 1) a b).2) ∧ Adds w w' := fun k w => quarter_any _ _ (may_rot ha k) w
  clear ht
  generalize quarters n = K at *
  obtain ⟨R, hR⟩ : ∃ R, rot K a b = R := ⟨_, rfl⟩
  rw [hR]
  have HR : Hid (rot K a b = R) := hR
  clear hR
  obtain ⟨m, hm⟩ : ∃ m, n.tmod 4 = m := ⟨_, rfl⟩
  rw [hm] at h5 b1 b2
  go_enter Tryz.func186, Tryz.ntmps186
  go_wp2_with (first
    | (go_at_call 191; refine (h1 _).mono ?_; rintro e w1 ⟨rfl, os, k, rfl⟩))
  go_loopw [13] (fun i wr => ∃ (k : Nat) (os : Array Obj) (q : Nat), k ≤ K ∧ i = .int .i64 (k : Int) ∧ wr = more ((w.alloc (box (rot k a b).1 (rot k a b).2)).alloc (box 0 0)) os q) (fun i _ => K - (intOf i).toNat)
  case atStart => exact ⟨0, os, k, by omega, rfl, rfl⟩
  case round =>
    obtain ⟨k', os', q, hk, rfl, rfl⟩ := hrel
    have hr1 := hr k'
    obtain ⟨S, hS⟩ : ∃ S, rot (k' + 1) a b = S := ⟨_, rfl⟩
    rw [hS] at hr1
    have HS : Hid (rot (k' + 1) a b = S) := hS
    clear hS hr
    go_wp2_with (go_at_call 192; refine (hr1 _).mono ?_; rintro e w1 ⟨rfl, os1, q1, rfl⟩)
    · go_roundw
      case rel =>
        exact ⟨k' + 1, _, _, by omega, by go_num, by rw [HS.out]⟩
      case measure => simp [intOf]; omega
    · have hkk : k' = K := by omega
      subst hkk
      rw [HR.out]
      refine bodyPost_ret (v := pt R.1 R.2) (by simp [results, Tryz.results186, go_sem]) rfl ⟨rfl, ?_⟩
      repeat (first | exact Adds.refl _ | refine Adds.alloc ?_ _ | refine Adds.more ?_ _ _ | refine Adds.drew ?_)

theorem turn_not (a b n : Int) (ha : ¬ May a b) (w : World) :
    Calls Tryz.prog 186 #[pt a b, .int .i64 n] w fun e w' => e = .returned (pt 0 0) ∧ Adds w w' := by
  have h1 := check_not a b ha
  go_enter Tryz.func186, Tryz.ntmps186
  go_wp2_with (first
    | (go_at_call 191; refine (h1 _).mono ?_; rintro e w1 ⟨rfl, os, k, rfl⟩))
  refine bodyPost_ret (v := pt 0 0) (by simp [results, Tryz.results186, go_sem]) rfl ⟨rfl, ?_⟩
  repeat (first | exact Adds.refl _ | refine Adds.alloc ?_ _ | refine Adds.more ?_ _ _ | refine Adds.drew ?_)

set_option maxHeartbeats 4000000 in
theorem rturn_may (a b n : Int) (ha : May a b) (w : World) :
    Calls Tryz.prog 165 #[pt a b, .int .i64 n] w fun e w' => e = .returned (pt (rot (quarters n) a b).1 (rot (quarters n) a b).2) ∧ Adds w w' := by
  have hq := quarters_lt n
  have ht := tmod4 n
  have hr : ∀ k, (-1048576 ≤ (rot k a b).1 ∧ (rot k a b).1 ≤ 1048576) ∧ (-1048576 ≤ (rot k a b).2 ∧ (rot k a b).2 ≤ 1048576) := fun k => may_rot ha k
  have hs : ∀ k, rot (k + 1) a b = (-(rot k a b).2, (rot k a b).1) := fun k => rfl
  generalize quarters n = K at *
  obtain ⟨R, hR⟩ : ∃ R, rot K a b = R := ⟨_, rfl⟩
  rw [hR]
  have HR : Hid (rot K a b = R) := hR
  have HS : Hid (∀ k, rot (k + 1) a b = (-(rot k a b).2, (rot k a b).1)) := hs
  clear hR hs
  obtain ⟨m, hm⟩ : ∃ m, n.tmod 4 = m := ⟨_, rfl⟩
  rw [hm] at ht
  by_cases hm0 : m < 0
  · rw [if_pos hm0] at ht
    have h5 : m + 4 = (K : Int) := by omega
    clear ht
    go_enter Tryz.func165, Tryz.ntmps165
    go_wp2
    go_loopw [5] (fun i wr => ∃ (k : Nat) (os : Array Obj) (q : Nat), k ≤ K ∧ i = .int .i64 (k : Int) ∧ wr = more ((w.alloc (box (rot k a b).1 (rot k a b).2)).alloc (box 0 0)) os q) (fun i _ => K - (intOf i).toNat)
    case atStart => exact ⟨0, #[], _, by omega, rfl, (more_nil _).symm⟩
    case round =>
      obtain ⟨k', os', q, hk, rfl, rfl⟩ := hrel
      obtain ⟨⟨r1, r2⟩, ⟨r3, r4⟩⟩ := hr k'
      go_wp2
      · go_roundw
        case rel =>
          exact ⟨k' + 1, os', q, by omega, by go_num, by rw [HS.out]⟩
        case measure => simp [intOf]; omega
      · have hkk : k' = K := by omega
        subst hkk
        rw [HR.out]
        refine bodyPost_ret (v := pt R.1 R.2) (by simp [results, Tryz.results165, go_sem]) rfl ⟨rfl, ?_⟩
        repeat (first | exact Adds.refl _ | refine Adds.alloc ?_ _ | refine Adds.more ?_ _ _ | refine Adds.drew ?_)
  · rw [if_neg hm0] at ht
    subst ht
    go_enter Tryz.func165, Tryz.ntmps165
    go_wp2
    go_loopw [5] (fun i wr => ∃ (k : Nat) (os : Array Obj) (q : Nat), k ≤ K ∧ i = .int .i64 (k : Int) ∧ wr = more ((w.alloc (box (rot k a b).1 (rot k a b).2)).alloc (box 0 0)) os q) (fun i _ => K - (intOf i).toNat)
    case atStart => exact ⟨0, #[], _, by omega, rfl, (more_nil _).symm⟩
    case round =>
      obtain ⟨k', os', q, hk, rfl, rfl⟩ := hrel
      obtain ⟨⟨r1, r2⟩, ⟨r3, r4⟩⟩ := hr k'
      go_wp2
      · go_roundw
        case rel =>
          exact ⟨k' + 1, os', q, by omega, by go_num, by rw [HS.out]⟩
        case measure => simp [intOf]; omega
      · have hkk : k' = K := by omega
        subst hkk
        rw [HR.out]
        refine bodyPost_ret (v := pt R.1 R.2) (by simp [results, Tryz.results165, go_sem]) rfl ⟨rfl, ?_⟩
        repeat (first | exact Adds.refl _ | refine Adds.alloc ?_ _ | refine Adds.more ?_ _ _ | refine Adds.drew ?_)

end Go.Proofs.YtiacnmcdfpmcfaaGreatDoor.Gs

namespace Go.Proofs.YtiacnmcdfpmcfaaGreatDoor
open Go.RowKit
attribute [local go_sem] cell?_more frozen?_more setCell_more size_more tape_more drew_more drewN_more more_drew more_drewN one_out plus_out plus_end lt_one le_p2 le_p3 le_p4 le_p5 le_p6 le_p7 le_p8 le_p9 le_p10 le_p11 le_p12 le_p13 le_p14 le_p15 le_p16 le_p17 le_p18 le_p19 le_p20 le_p21 le_p22 le_p23 le_p24 le_q0 le_q1 lt_q1 le_q2 lt_q2 le_q3 lt_q3 le_q4 lt_q4 le_q5 lt_q5 le_q6 lt_q6 le_q7 lt_q7 le_q8 lt_q8 le_q9 lt_q9 le_q10 lt_q10 le_q11 lt_q11 le_q12 lt_q12 le_q13 lt_q13 le_q14 lt_q14 le_q15 lt_q15 le_q16 lt_q16 le_q17 lt_q17 le_q18 lt_q18 le_q19 lt_q19 le_q20 lt_q20 le_q21 lt_q21 le_q22 lt_q22 le_q23 lt_q23 le_q24 lt_q24


def vZ : V := ⟨0, 0, ⟨#[]⟩, 0, 0⟩
def fitO (v : V) : Option V := if v.check = 0 then some v else none
def ptO (x y : Int) : Option V := if Gs.May x y then some (V.mkPoint x y) else none
def timesO (a b : Int) : Option V := if -9007199254740992 ≤ a * b ∧ a * b ≤ 9007199254740992 then some (V.mkNum (a * b)) else none
def asRe (v : V) : Int := if v.kind = 1 then v.num else v.re
def asIm (v : V) : Int := if v.kind = 1 then 0 else v.im
def sumO (a b : V) : Option V :=
  if a.kind ≠ b.kind then none
  else if a.kind = 1 then fitO (V.mkNum (a.num + b.num))
  else if a.kind = 2 then fitO (V.mkText (a.text ++ b.text))
  else ptO (a.re + b.re) (a.im + b.im)
def mulO (a b : V) : Option V :=
  if a.kind = 2 ∨ b.kind = 2 then none
  else if a.kind = 1 ∧ b.kind = 1 then timesO a.num b.num
  else if Gs.May (asRe a) (asIm a) ∧ Gs.May (asRe b) (asIm b) then ptO (asRe a * asRe b - asIm a * asIm b) (asRe a * asIm b + asIm a * asRe b)
  else none
def lowC (c : UInt8) : UInt8 := if 65 ≤ c.toNat ∧ c.toNat ≤ 90 then c + 32 else c
def lowB (s : ByteArray) : ByteArray := toB (s.toList.map lowC)
def callO (f : List UInt8) (v : V) : Option V :=
  if v.kind = 3 then (if f = nNorm then some (V.mkNum (v.re * v.re + v.im * v.im)) else if f = nConj then some (V.mkPoint v.re (-v.im)) else if f = nTurn then some (V.mkPoint (-v.im) v.re) else none)
  else if v.kind = 2 then (if f = nLow then some (V.mkText (lowB v.text)) else if f = nHead then some (V.mkText (v.text.extract 0 1)) else none)
  else none

/-- What may be a value is one of these. -/
theorem V.cases {v : V} (h : v.check = 0) : (∃ n, v = V.mkNum n ∧ -9007199254740992 ≤ n ∧ n ≤ 9007199254740992) ∨ (∃ s, v = V.mkText s ∧ s.size ≤ 256) ∨ (∃ x y, v = V.mkPoint x y ∧ Gs.May x y) := by
  obtain ⟨k, n, t, re, im⟩ := v
  have hempty : ∀ t : ByteArray, t.toList = [] → t = ⟨#[]⟩ := fun t h => toList_inj (by rw [h, ByteArray.toList_eq])
  by_cases h1 : k = 1
  · subst h1
    rw [V.check_num] at h
    split at h
    · rename_i hc
      obtain ⟨a, ⟨rfl, rfl⟩, b, c⟩ := hc
      left
      exact ⟨n, by rw [hempty t a]; rfl, c, b⟩
    · cases h
  by_cases h2 : k = 2
  · subst h2
    rw [V.check_text] at h
    split at h
    · cases h
    · rename_i hs
      split at h
      · rename_i hc
        obtain ⟨rfl, rfl, rfl⟩ := hc
        exact .inr (.inl ⟨t, rfl, by omega⟩)
      · cases h
  by_cases h3 : k = 3
  · subst h3
    rw [V.check_point] at h
    split at h
    · rename_i hc
      obtain ⟨rfl, a, ⟨b, c⟩, d, e⟩ := hc
      exact .inr (.inr ⟨re, im, by rw [hempty t a]; rfl, ⟨c, b⟩, e, d⟩)
    · cases h
  · simp [V.check, V.fits, h1, h2, h3] at h

theorem mkNum_ok {n : Int} (h1 : -9007199254740992 ≤ n) (h2 : n ≤ 9007199254740992) : (V.mkNum n).check = 0 := by
  unfold V.mkNum
  rw [V.check_num, if_pos ⟨by rw [ByteArray.toList_eq], ⟨rfl, rfl⟩, h2, h1⟩]
theorem mkText_ok {s : ByteArray} (h : s.size ≤ 256) : (V.mkText s).check = 0 := by
  unfold V.mkText
  rw [V.check_text, if_neg (by omega), if_pos ⟨rfl, rfl, rfl⟩]
theorem mkPoint_ok {x y : Int} (h : Gs.May x y) : (V.mkPoint x y).check = 0 := by
  unfold V.mkPoint
  rw [V.check_point, if_pos ⟨rfl, by rw [ByteArray.toList_eq], ⟨h.1.2, h.1.1⟩, h.2.2, h.2.1⟩]

/-- A value, and whether there is one. -/
abbrev optV (o : Option V) : Value := .tuple #[(o.getD vZ).val, .bool o.isSome]

theorem fitO_any (v : V) (w : World) :
    Calls Tryz.prog 178 #[v.val] w fun e w' => e = .returned (optV (fitO v)) ∧ Adds w w' := by
  have kC := check_any v
  unfold fitO
  obtain ⟨k, n, t, re, im⟩ := v
  simp only [V.val] at *
  generalize V.check ⟨k, n, t, re, im⟩ = c at *
  by_cases hc : c = 0
  · subst hc
    go_enter Tryz.func178, Tryz.ntmps178
    go_wp2_with (go_at_call 127; refine (kC _).mono ?_; rintro e w1 ⟨rfl, os1, n1, rfl⟩)
    exact bodyPost_ret (v := .tuple #[.agg #[.int .i64 k, .int .i64 n, .string t, .int .i64 re, .int .i64 im], .bool true]) (by simp [results, Tryz.results178, go_sem]) rfl ⟨rfl, by repeat (first | with_reducible exact Adds.refl _ | with_reducible refine Adds.alloc ?_ _ | with_reducible refine Adds.more ?_ _ _ | with_reducible refine Adds.drew ?_ | with_reducible refine Adds.drewN ?_ _)⟩
  · have hc' : (c != 0) = true := by simpa using hc
    rw [if_neg hc]
    clear hc
    go_enter Tryz.func178, Tryz.ntmps178
    go_wp2_with (go_at_call 127; refine (kC _).mono ?_; rintro e w1 ⟨rfl, os1, n1, rfl⟩)
    exact bodyPost_ret (v := .tuple #[.agg #[.int .i64 0, .int .i64 0, .string ⟨#[]⟩, .int .i64 0, .int .i64 0], .bool false]) (by simp [results, Tryz.results178, go_sem]) rfl ⟨rfl, by repeat (first | with_reducible exact Adds.refl _ | with_reducible refine Adds.alloc ?_ _ | with_reducible refine Adds.more ?_ _ _ | with_reducible refine Adds.drew ?_ | with_reducible refine Adds.drewN ?_ _)⟩

theorem pointOr_yes (x y : Int) (w : World) :
    Calls Tryz.prog 179 #[Gs.pt x y, .int .i64 0] w fun e w' => e = .returned (optV (some (V.mkPoint x y))) ∧ Adds w w' := by
  have kP := point_any x y
  go_enter Tryz.func179, Tryz.ntmps179
  go_wp2_with (go_at_call 169; refine (kP _).mono ?_; rintro e w1 ⟨rfl, os1, n1, rfl⟩)
  exact bodyPost_ret (v := .tuple #[.agg #[.int .i64 3, .int .i64 0, .string ⟨#[]⟩, .int .i64 x, .int .i64 y], .bool true]) (by simp [results, Tryz.results179, go_sem]) rfl ⟨rfl, by repeat (first | with_reducible exact Adds.refl _ | with_reducible refine Adds.alloc ?_ _ | with_reducible refine Adds.more ?_ _ _ | with_reducible refine Adds.drew ?_ | with_reducible refine Adds.drewN ?_ _)⟩

theorem pointOr_no (x y e0 : Int) (he : e0 ≠ 0) (w : World) :
    Calls Tryz.prog 179 #[Gs.pt x y, .int .i64 e0] w fun e w' => e = .returned (optV none) ∧ Adds w w' := by
  have he' : (e0 != 0) = true := by simpa using he
  go_enter Tryz.func179, Tryz.ntmps179
  go_wp2
  exact bodyPost_ret (v := .tuple #[.agg #[.int .i64 0, .int .i64 0, .string ⟨#[]⟩, .int .i64 0, .int .i64 0], .bool false]) (by simp [results, Tryz.results179, go_sem]) rfl ⟨rfl, by repeat (first | with_reducible exact Adds.refl _ | with_reducible refine Adds.alloc ?_ _ | with_reducible refine Adds.more ?_ _ _ | with_reducible refine Adds.drew ?_ | with_reducible refine Adds.drewN ?_ _)⟩

theorem asPoint_any (v : V) (w : World) :
    Calls Tryz.prog 183 #[v.val] w fun e w' => e = .returned (Gs.pt (asRe v) (asIm v)) ∧ Adds w w' := by
  obtain ⟨k, n, t, re, im⟩ := v
  simp only [V.val, asRe, asIm]
  by_cases hk : k = 1
  · subst hk
    go_enter Tryz.func183, Tryz.ntmps183
    go_wp2
    exact bodyPost_ret (v := Gs.pt n 0) (by simp [results, Tryz.results183, go_sem]) rfl ⟨rfl, by repeat (first | with_reducible exact Adds.refl _ | with_reducible refine Adds.alloc ?_ _ | with_reducible refine Adds.more ?_ _ _ | with_reducible refine Adds.drew ?_ | with_reducible refine Adds.drewN ?_ _)⟩
  · have hk' : (k == 1) = false := by simpa using hk
    rw [if_neg hk, if_neg hk]
    clear hk
    go_enter Tryz.func183, Tryz.ntmps183
    go_wp2
    exact bodyPost_ret (v := Gs.pt re im) (by simp [results, Tryz.results183, go_sem]) rfl ⟨rfl, by repeat (first | with_reducible exact Adds.refl _ | with_reducible refine Adds.alloc ?_ _ | with_reducible refine Adds.more ?_ _ _ | with_reducible refine Adds.drew ?_ | with_reducible refine Adds.drewN ?_ _)⟩

set_option maxHeartbeats 1000000 in
theorem sum_nums (a b : Int) (ha1 : -9007199254740992 ≤ a) (ha2 : a ≤ 9007199254740992) (hb1 : -9007199254740992 ≤ b) (hb2 : b ≤ 9007199254740992) (w : World) :
    Calls Tryz.prog 172 #[(V.mkNum a).val, (V.mkNum b).val] w fun e w' => e = .returned (optV (fitO (V.mkNum (a + b)))) ∧ Adds w w' := by
  have kN := num_any (a + b)
  have kF := fitO_any (V.mkNum (a + b))
  obtain ⟨o, ho⟩ : ∃ o, fitO (V.mkNum (a + b)) = o := ⟨_, rfl⟩
  rw [ho] at kF ⊢
  clear ho
  obtain ⟨⟨k, n, t, re, im⟩, hq⟩ : ∃ q, o.getD vZ = q := ⟨_, rfl⟩
  simp only [optV, hq, V.val, V.mkNum] at *
  generalize o.isSome = q2 at *
  clear hq
  go_enter Tryz.func172, Tryz.ntmps172
  go_wp2_with (first
    | (go_at_call 166; refine (kN _).mono ?_; rintro e w1 ⟨rfl, os1, n1, rfl⟩)
    | (go_at_call 178; refine (kF _).mono ?_; rintro e w2 ⟨rfl, os2, n2, rfl⟩))
  exact bodyPost_ret (v := .tuple #[.agg #[.int .i64 k, .int .i64 n, .string t, .int .i64 re, .int .i64 im], .bool q2]) (by simp [results, Tryz.results172, go_sem]) rfl ⟨rfl, by repeat (first | with_reducible exact Adds.refl _ | with_reducible refine Adds.alloc ?_ _ | with_reducible refine Adds.more ?_ _ _ | with_reducible refine Adds.drew ?_ | with_reducible refine Adds.drewN ?_ _)⟩

set_option maxHeartbeats 1000000 in
theorem sum_texts (a b : ByteArray) (ha : a.size ≤ 256) (hb : b.size ≤ 256) (w : World) :
    Calls Tryz.prog 172 #[(V.mkText a).val, (V.mkText b).val] w fun e w' => e = .returned (optV (fitO (V.mkText (a ++ b)))) ∧ Adds w w' := by
  have kN := text_any (a ++ b)
  have kF := fitO_any (V.mkText (a ++ b))
  obtain ⟨o, ho⟩ : ∃ o, fitO (V.mkText (a ++ b)) = o := ⟨_, rfl⟩
  rw [ho] at kF ⊢
  clear ho
  obtain ⟨⟨k, n, t, re, im⟩, hq⟩ : ∃ q, o.getD vZ = q := ⟨_, rfl⟩
  simp only [optV, hq, V.val, V.mkText] at *
  generalize o.isSome = q2 at *
  clear hq
  go_enter Tryz.func172, Tryz.ntmps172
  go_wp2_with (first
    | (go_at_call 168; refine (kN _).mono ?_; rintro e w1 ⟨rfl, os1, n1, rfl⟩)
    | (go_at_call 178; refine (kF _).mono ?_; rintro e w2 ⟨rfl, os2, n2, rfl⟩))
  exact bodyPost_ret (v := .tuple #[.agg #[.int .i64 k, .int .i64 n, .string t, .int .i64 re, .int .i64 im], .bool q2]) (by simp [results, Tryz.results172, go_sem]) rfl ⟨rfl, by repeat (first | with_reducible exact Adds.refl _ | with_reducible refine Adds.alloc ?_ _ | with_reducible refine Adds.more ?_ _ _ | with_reducible refine Adds.drew ?_ | with_reducible refine Adds.drewN ?_ _)⟩

set_option maxHeartbeats 1000000 in
theorem sum_points (a b c d : Int) (ha : Gs.May a b) (hb : Gs.May c d) (w : World) :
    Calls Tryz.prog 172 #[(V.mkPoint a b).val, (V.mkPoint c d).val] w fun e w' => e = .returned (optV (ptO (a + c) (b + d))) ∧ Adds w w' := by
  have kA := Gs.add_may a b c d ha hb
  unfold ptO
  by_cases hm : Gs.May (a + c) (b + d)
  · have kP := pointOr_yes (a + c) (b + d)
    rw [if_pos hm] at kA ⊢
    clear hm
    generalize a + c = u at *
    generalize b + d = v at *
    simp only [optV, Option.getD_some, Option.isSome_some, V.val, V.mkPoint] at *
    go_enter Tryz.func172, Tryz.ntmps172
    go_wp2_with (first
      | (go_at_call 180; refine (kA _).mono ?_; rintro e w1 ⟨rfl, os1, n1, rfl⟩)
      | (go_at_call 179; refine (kP _).mono ?_; rintro e w2 ⟨rfl, os2, n2, rfl⟩))
    exact bodyPost_ret (v := .tuple #[.agg #[.int .i64 3, .int .i64 0, .string ⟨#[]⟩, .int .i64 u, .int .i64 v], .bool true]) (by simp [results, Tryz.results172, go_sem]) rfl ⟨rfl, by repeat (first | with_reducible exact Adds.refl _ | with_reducible refine Adds.alloc ?_ _ | with_reducible refine Adds.more ?_ _ _ | with_reducible refine Adds.drew ?_ | with_reducible refine Adds.drewN ?_ _)⟩
  · have kP := pointOr_no 0 0 3 (by decide)
    rw [if_neg hm] at kA ⊢
    clear hm
    simp only [optV, Option.getD_none, Option.isSome_none, V.val, V.mkPoint, vZ] at *
    go_enter Tryz.func172, Tryz.ntmps172
    go_wp2_with (first
      | (go_at_call 180; refine (kA _).mono ?_; rintro e w1 ⟨rfl, os1, n1, rfl⟩)
      | (go_at_call 179; refine (kP _).mono ?_; rintro e w2 ⟨rfl, os2, n2, rfl⟩))
    exact bodyPost_ret (v := .tuple #[.agg #[.int .i64 0, .int .i64 0, .string ⟨#[]⟩, .int .i64 0, .int .i64 0], .bool false]) (by simp [results, Tryz.results172, go_sem]) rfl ⟨rfl, by repeat (first | with_reducible exact Adds.refl _ | with_reducible refine Adds.alloc ?_ _ | with_reducible refine Adds.more ?_ _ _ | with_reducible refine Adds.drew ?_ | with_reducible refine Adds.drewN ?_ _)⟩

theorem sum_unlike (u v : V) (h : u.kind ≠ v.kind) (w : World) :
    Calls Tryz.prog 172 #[u.val, v.val] w fun e w' => e = .returned (optV none) ∧ Adds w w' := by
  obtain ⟨k, n, t, re, im⟩ := u
  obtain ⟨k', n', t', re', im'⟩ := v
  simp only [V.val] at *
  have h' : (k != k') = true := by simpa using h
  clear h
  go_enter Tryz.func172, Tryz.ntmps172
  go_wp2
  exact bodyPost_ret (v := .tuple #[.agg #[.int .i64 0, .int .i64 0, .string ⟨#[]⟩, .int .i64 0, .int .i64 0], .bool false]) (by simp [results, Tryz.results172, go_sem]) rfl ⟨rfl, by repeat (first | with_reducible exact Adds.refl _ | with_reducible refine Adds.alloc ?_ _ | with_reducible refine Adds.more ?_ _ _ | with_reducible refine Adds.drew ?_ | with_reducible refine Adds.drewN ?_ _)⟩

theorem sum_any (u v : V) (hu : u.check = 0) (hv : v.check = 0) (w : World) :
    Calls Tryz.prog 172 #[u.val, v.val] w fun e w' => e = .returned (optV (sumO u v)) ∧ Adds w w' := by
  by_cases h : u.kind ≠ v.kind
  · have e : sumO u v = none := by unfold sumO; rw [if_pos h]
    rw [e]
    exact sum_unlike u v h w
  · rcases V.cases hu with ⟨a, rfl, a1, a2⟩ | ⟨s, rfl, hs⟩ | ⟨x, y, rfl, hxy⟩ <;> rcases V.cases hv with ⟨a', rfl, b1, b2⟩ | ⟨s', rfl, hs'⟩ | ⟨x', y', rfl, hxy'⟩
    all_goals first
      | exact sum_nums _ _ a1 a2 b1 b2 w
      | exact sum_texts _ _ hs hs' w
      | exact sum_points _ _ _ _ hxy hxy' w
      | exact absurd (by simp [V.mkNum, V.mkText, V.mkPoint]) h

end Go.Proofs.YtiacnmcdfpmcfaaGreatDoor
