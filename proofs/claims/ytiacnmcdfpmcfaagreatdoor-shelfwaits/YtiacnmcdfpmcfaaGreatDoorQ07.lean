/-
  The values of sums, products and calls, by contracts.
  Get of package paper, and the document's own, by contracts.
-/
import Derived.Test.YtiacnmcdfpmcfaaGreatDoorNode
import Derived.Test.YtiacnmcdfpmcfaaGreatDoorQ06
import Derived.Test.YtiacnmcdfpmcfaaGreatDoorQ03
namespace Go.Proofs.YtiacnmcdfpmcfaaGreatDoor
open Go.RowKit
attribute [local go_sem] cell?_more frozen?_more setCell_more size_more tape_more drew_more drewN_more more_drew more_drewN one_out plus_out plus_end lt_one le_p2 le_p3 le_p4 le_p5 le_p6 le_p7 le_p8 le_p9 le_p10 le_p11 le_p12 le_p13 le_p14 le_p15 le_p16 le_p17 le_p18 le_p19 le_p20 le_p21 le_p22 le_p23 le_p24 le_q0 le_q1 lt_q1 le_q2 lt_q2 le_q3 lt_q3 le_q4 lt_q4 le_q5 lt_q5 le_q6 lt_q6 le_q7 lt_q7 le_q8 lt_q8 le_q9 lt_q9 le_q10 lt_q10 le_q11 lt_q11 le_q12 lt_q12 le_q13 lt_q13 le_q14 lt_q14 le_q15 lt_q15 le_q16 lt_q16 le_q17 lt_q17 le_q18 lt_q18 le_q19 lt_q19 le_q20 lt_q20 le_q21 lt_q21 le_q22 lt_q22 le_q23 lt_q23 le_q24 lt_q24


def vZ : V := ⟨0, 0, ⟨#[]⟩, 0, 0⟩
def fitO (v : V) : Option V := if v.check = 0 then some v else none
def ptO (x y : Int) : Option V := if Gs.May x y then some (V.mkPoint x y) else none
def timesO (a b : Int) : Option V := if -9007199254740992 ≤ a * b ∧ a * b ≤ 9007199254740992 then some (V.mkNum (a * b)) else none
def asRe (v : V) : Int := if v.kind = 1 then v.num else v.re
def asIm (v : V) : Int := if v.kind = 1 then 0 else v.im
def sumO (a b : V) : Option V :=
  if a.kind ≠ b.kind then none
  else if a.kind = 1 then fitO (V.mkNum (a.num + b.num))
  else if a.kind = 2 then fitO (V.mkText (a.text ++ b.text))
  else ptO (a.re + b.re) (a.im + b.im)
def mulO (a b : V) : Option V :=
  if a.kind = 2 ∨ b.kind = 2 then none
  else if a.kind = 1 ∧ b.kind = 1 then timesO a.num b.num
  else if Gs.May (asRe a) (asIm a) ∧ Gs.May (asRe b) (asIm b) then ptO (asRe a * asRe b - asIm a * asIm b) (asRe a * asIm b + asIm a * asRe b)
  else none
def lowC (c : UInt8) : UInt8 := if 65 ≤ c.toNat ∧ c.toNat ≤ 90 then c + 32 else c
def lowB (s : ByteArray) : ByteArray := toB (s.toList.map lowC)
def callO (f : List UInt8) (v : V) : Option V :=
  if v.kind = 3 then (if f = nNorm then some (V.mkNum (v.re * v.re + v.im * v.im)) else if f = nConj then some (V.mkPoint v.re (-v.im)) else if f = nTurn then some (V.mkPoint (-v.im) v.re) else none)
  else if v.kind = 2 then (if f = nLow then some (V.mkText (lowB v.text)) else if f = nHead then some (V.mkText (v.text.extract 0 1)) else none)
  else none

/-- What may be a value is one of these. -/
theorem V.cases {v : V} (h : v.check = 0) : (∃ n, v = V.mkNum n ∧ -9007199254740992 ≤ n ∧ n ≤ 9007199254740992) ∨ (∃ s, v = V.mkText s ∧ s.size ≤ 256) ∨ (∃ x y, v = V.mkPoint x y ∧ Gs.May x y) := by
  obtain ⟨k, n, t, re, im⟩ := v
  have hempty : ∀ t : ByteArray, t.toList = [] → t = ⟨#[]⟩ := fun t h => toList_inj (by rw [h, ByteArray.toList_eq])
  by_cases h1 : k = 1
  · subst h1
    rw [V.check_num] at h
    split at h
    · rename_i hc
      obtain ⟨a, ⟨rfl, rfl⟩, b, c⟩ := hc
      left
      exact ⟨n, by rw [hempty t a]; rfl, c, b⟩
    · cases h
  by_cases h2 : k = 2
  · subst h2
    rw [V.check_text] at h
    split at h
    · cases h
    · rename_i hs
      split at h
      · rename_i hc
        obtain ⟨rfl, rfl, rfl⟩ := hc
        exact .inr (.inl ⟨t, rfl, by omega⟩)
      · cases h
  by_cases h3 : k = 3
  · subst h3
    rw [V.check_point] at h
    split at h
    · rename_i hc
      obtain ⟨rfl, a, ⟨b, c⟩, d, e⟩ := hc
      exact .inr (.inr ⟨re, im, by rw [hempty t a]; rfl, ⟨c, b⟩, e, d⟩)
    · cases h
  · simp [V.check, V.fits, h1, h2, h3] at h

theorem mkNum_ok {n : Int} (h1 : -9007199254740992 ≤ n) (h2 : n ≤ 9007199254740992) : (V.mkNum n).check = 0 := by
  unfold V.mkNum
  rw [V.check_num, if_pos ⟨by rw [ByteArray.toList_eq], ⟨rfl, rfl⟩, h2, h1⟩]
theorem mkText_ok {s : ByteArray} (h : s.size ≤ 256) : (V.mkText s).check = 0 := by
  unfold V.mkText
  rw [V.check_text, if_neg (by omega), if_pos ⟨rfl, rfl, rfl⟩]
theorem mkPoint_ok {x y : Int} (h : Gs.May x y) : (V.mkPoint x y).check = 0 := by
  unfold V.mkPoint
  rw [V.check_point, if_pos ⟨rfl, by rw [ByteArray.toList_eq], ⟨h.1.2, h.1.1⟩, h.2.2, h.2.1⟩]

/-- A value, and whether there is one. -/
abbrev optV (o : Option V) : Value := .tuple #[(o.getD vZ).val, .bool o.isSome]

theorem fitO_any (v : V) (w : World) :
    Calls Tryz.prog 178 #[v.val] w fun e w' => e = .returned (optV (fitO v)) ∧ Adds w w' := by
  have kC := check_any v
  unfold fitO
  obtain ⟨k, n, t, re, im⟩ := v
  simp only [V.val] at *
  generalize V.check ⟨k, n, t, re, im⟩ = c at *
  by_cases hc : c = 0
  · subst hc
    go_enter Tryz.func178, Tryz.ntmps178
    go_wp2_with (go_at_call 127; refine (kC _).mono ?_; rintro e w1 ⟨rfl, os1, n1, rfl⟩)
    exact bodyPost_ret (v := .tuple #[.agg #[.int .i64 k, .int .i64 n, .string t, .int .i64 re, .int .i64 im], .bool true]) (by simp [results, Tryz.results178, go_sem]) rfl ⟨rfl, by repeat (first | with_reducible exact Adds.refl _ | with_reducible refine Adds.alloc ?_ _ | with_reducible refine Adds.more ?_ _ _ | with_reducible refine Adds.drew ?_ | with_reducible refine Adds.drewN ?_ _)⟩
  · have hc' : (c != 0) = true := by simpa using hc
    rw [if_neg hc]
    clear hc
    go_enter Tryz.func178, Tryz.ntmps178
    go_wp2_with (go_at_call 127; refine (kC _).mono ?_; rintro e w1 ⟨rfl, os1, n1, rfl⟩)
    exact bodyPost_ret (v := .tuple #[.agg #[.int .i64 0, .int .i64 0, .string ⟨#[]⟩, .int .i64 0, .int .i64 0], .bool false]) (by simp [results, Tryz.results178, go_sem]) rfl ⟨rfl, by repeat (first | with_reducible exact Adds.refl _ | with_reducible refine Adds.alloc ?_ _ | with_reducible refine Adds.more ?_ _ _ | with_reducible refine Adds.drew ?_ | with_reducible refine Adds.drewN ?_ _)⟩

theorem pointOr_yes (x y : Int) (w : World) :
    Calls Tryz.prog 179 #[Gs.pt x y, .int .i64 0] w fun e w' => e = .returned (optV (some (V.mkPoint x y))) ∧ Adds w w' := by
  have kP := point_any x y
  go_enter Tryz.func179, Tryz.ntmps179
  go_wp2_with (go_at_call 169; refine (kP _).mono ?_; rintro e w1 ⟨rfl, os1, n1, rfl⟩)
  exact bodyPost_ret (v := .tuple #[.agg #[.int .i64 3, .int .i64 0, .string ⟨#[]⟩, .int .i64 x, .int .i64 y], .bool true]) (by simp [results, Tryz.results179, go_sem]) rfl ⟨rfl, by repeat (first | with_reducible exact Adds.refl _ | with_reducible refine Adds.alloc ?_ _ | with_reducible refine Adds.more ?_ _ _ | with_reducible refine Adds.drew ?_ | with_reducible refine Adds.drewN ?_ _)⟩

theorem pointOr_no (x y e0 : Int) (he : e0 ≠ 0) (w : World) :
    Calls Tryz.prog 179 #[Gs.pt x y, .int .i64 e0] w fun e w' => e = .returned (optV none) ∧ Adds w w' := by
  have he' : (e0 != 0) = true := by simpa using he
  go_enter Tryz.func179, Tryz.ntmps179
  go_wp2
  exact bodyPost_ret (v := .tuple #[.agg #[.int .i64 0, .int .i64 0, .string ⟨#[]⟩, .int .i64 0, .int .i64 0], .bool false]) (by simp [results, Tryz.results179, go_sem]) rfl ⟨rfl, by repeat (first | with_reducible exact Adds.refl _ | with_reducible refine Adds.alloc ?_ _ | with_reducible refine Adds.more ?_ _ _ | with_reducible refine Adds.drew ?_ | with_reducible refine Adds.drewN ?_ _)⟩

theorem asPoint_any (v : V) (w : World) :
    Calls Tryz.prog 183 #[v.val] w fun e w' => e = .returned (Gs.pt (asRe v) (asIm v)) ∧ Adds w w' := by
  obtain ⟨k, n, t, re, im⟩ := v
  simp only [V.val, asRe, asIm]
  by_cases hk : k = 1
  · subst hk
    go_enter Tryz.func183, Tryz.ntmps183
    go_wp2
    exact bodyPost_ret (v := Gs.pt n 0) (by simp [results, Tryz.results183, go_sem]) rfl ⟨rfl, by repeat (first | with_reducible exact Adds.refl _ | with_reducible refine Adds.alloc ?_ _ | with_reducible refine Adds.more ?_ _ _ | with_reducible refine Adds.drew ?_ | with_reducible refine Adds.drewN ?_ _)⟩
  · have hk' : (k == 1) = false := by simpa using hk
    rw [if_neg hk, if_neg hk]
    clear hk
    go_enter Tryz.func183, Tryz.ntmps183
    go_wp2
    exact bodyPost_ret (v := Gs.pt re im) (by simp [results, Tryz.results183, go_sem]) rfl ⟨rfl, by repeat (first | with_reducible exact Adds.refl _ | with_reducible refine Adds.alloc ?_ _ | with_reducible refine Adds.more ?_ _ _ | with_reducible refine Adds.drew ?_ | with_reducible refine Adds.drewN ?_ _)⟩

set_option maxHeartbeats 1000000 in
theorem sum_nums (a b : Int) (ha1 : -9007199254740992 ≤ a) (ha2 : a ≤ 9007199254740992) (hb1 : -9007199254740992 ≤ b) (hb2 : b ≤ 9007199254740992) (w : World) :
    Calls Tryz.prog 172 #[(V.mkNum a).val, (V.mkNum b).val] w fun e w' => e = .returned (optV (fitO (V.mkNum (a + b)))) ∧ Adds w w' := by
  have kN := num_any (a + b)
  have kF := fitO_any (V.mkNum (a + b))
  obtain ⟨o, ho⟩ : ∃ o, fitO (V.mkNum (a + b)) = o := ⟨_, rfl⟩
  rw [ho] at kF ⊢
  clear ho
  obtain ⟨⟨k, n, t, re, im⟩, hq⟩ : ∃ q, o.getD vZ = q := ⟨_, rfl⟩
  simp only [optV, hq, V.val, V.mkNum] at *
  generalize o.isSome = q2 at *
  clear hq
  go_enter Tryz.func172, Tryz.ntmps172
  go_wp2_with (first
    | (go_at_call 166; refine (kN _).mono ?_; rintro e w1 ⟨rfl, os1, n1, rfl⟩)
    | (go_at_call 178; refine (kF _).mono ?_; rintro e w2 ⟨rfl, os2, n2, rfl⟩))
  exact bodyPost_ret (v := .tuple #[.agg #[.int .i64 k, .int .i64 n, .string t, .int .i64 re, .int .i64 im], .bool q2]) (by simp [results, Tryz.results172, go_sem]) rfl ⟨rfl, by repeat (first | with_reducible exact Adds.refl _ | with_reducible refine Adds.alloc ?_ _ | with_reducible refine Adds.more ?_ _ _ | with_reducible refine Adds.drew ?_ | with_reducible refine Adds.drewN ?_ _)⟩

set_option maxHeartbeats 1000000 in
theorem sum_texts (a b : ByteArray) (ha : a.size ≤ 256) (hb : b.size ≤ 256) (w : World) :
    Calls Tryz.prog 172 #[(V.mkText a).val, (V.mkText b).val] w fun e w' => e = .returned (optV (fitO (V.mkText (a ++ b)))) ∧ Adds w w' := by
  have kN := text_any (a ++ b)
  have kF := fitO_any (V.mkText (a ++ b))
  obtain ⟨o, ho⟩ : ∃ o, fitO (V.mkText (a ++ b)) = o := ⟨_, rfl⟩
  rw [ho] at kF ⊢
  clear ho
  obtain ⟨⟨k, n, t, re, im⟩, hq⟩ : ∃ q, o.getD vZ = q := ⟨_, rfl⟩
  simp only [optV, hq, V.val, V.mkText] at *
  generalize o.isSome = q2 at *
  clear hq
  go_enter Tryz.func172, Tryz.ntmps172
  go_wp2_with (first
    | (go_at_call 168; refine (kN _).mono ?_; rintro e w1 ⟨rfl, os1, n1, rfl⟩)
    | (go_at_call 178; refine (kF _).mono ?_; rintro e w2 ⟨rfl, os2, n2, rfl⟩))
  exact bodyPost_ret (v := .tuple #[.agg #[.int .i64 k, .int .i64 n, .string t, .int .i64 re, .int .i64 im], .bool q2]) (by simp [results, Tryz.results172, go_sem]) rfl ⟨rfl, by repeat (first | with_reducible exact Adds.refl _ | with_reducible refine Adds.alloc ?_ _ | with_reducible refine Adds.more ?_ _ _ | with_reducible refine Adds.drew ?_ | with_reducible refine Adds.drewN ?_ _)⟩

set_option maxHeartbeats 1000000 in
theorem sum_points (a b c d : Int) (ha : Gs.May a b) (hb : Gs.May c d) (w : World) :
    Calls Tryz.prog 172 #[(V.mkPoint a b).val, (V.mkPoint c d).val] w fun e w' => e = .returned (optV (ptO (a + c) (b + d))) ∧ Adds w w' := by
  have kA := Gs.add_may a b c d ha hb
  unfold ptO
  by_cases hm : Gs.May (a + c) (b + d)
  · have kP := pointOr_yes (a + c) (b + d)
    rw [if_pos hm] at kA ⊢
    clear hm
    generalize a + c = u at *
    generalize b + d = v at *
    simp only [optV, Option.getD_some, Option.isSome_some, V.val, V.mkPoint] at *
    go_enter Tryz.func172, Tryz.ntmps172
    go_wp2_with (first
      | (go_at_call 180; refine (kA _).mono ?_; rintro e w1 ⟨rfl, os1, n1, rfl⟩)
      | (go_at_call 179; refine (kP _).mono ?_; rintro e w2 ⟨rfl, os2, n2, rfl⟩))
    exact bodyPost_ret (v := .tuple #[.agg #[.int .i64 3, .int .i64 0, .string ⟨#[]⟩, .int .i64 u, .int .i64 v], .bool true]) (by simp [results, Tryz.results172, go_sem]) rfl ⟨rfl, by repeat (first | with_reducible exact Adds.refl _ | with_reducible refine Adds.alloc ?_ _ | with_reducible refine Adds.more ?_ _ _ | with_reducible refine Adds.drew ?_ | with_reducible refine Adds.drewN ?_ _)⟩
  · have kP := pointOr_no 0 0 3 (by decide)
    rw [if_neg hm] at kA ⊢
    clear hm
    simp only [optV, Option.getD_none, Option.isSome_none, V.val, V.mkPoint, vZ] at *
    go_enter Tryz.func172, Tryz.ntmps172
    go_wp2_with (first
      | (go_at_call 180; refine (kA _).mono ?_; rintro e w1 ⟨rfl, os1, n1, rfl⟩)
      | (go_at_call 179; refine (kP _).mono ?_; rintro e w2 ⟨rfl, os2, n2, rfl⟩))
    exact bodyPost_ret (v := .tuple #[.agg #[.int .i64 0, .int .i64 0, .string ⟨#[]⟩, .int .i64 0, .int .i64 0], .bool false]) (by simp [results, Tryz.results172, go_sem]) rfl ⟨rfl, by repeat (first | with_reducible exact Adds.refl _ | with_reducible refine Adds.alloc ?_ _ | with_reducible refine Adds.more ?_ _ _ | with_reducible refine Adds.drew ?_ | with_reducible refine Adds.drewN ?_ _)⟩

theorem sum_unlike (u v : V) (h : u.kind ≠ v.kind) (w : World) :
    Calls Tryz.prog 172 #[u.val, v.val] w fun e w' => e = .returned (optV none) ∧ Adds w w' := by
  obtain ⟨k, n, t, re, im⟩ := u
  obtain ⟨k', n', t', re', im'⟩ := v
  simp only [V.val] at *
  have h' : (k != k') = true := by simpa using h
  clear h
  go_enter Tryz.func172, Tryz.ntmps172
  go_wp2
  exact bodyPost_ret (v := .tuple #[.agg #[.int .i64 0, .int .i64 0, .string ⟨#[]⟩, .int .i64 0, .int .i64 0], .bool false]) (by simp [results, Tryz.results172, go_sem]) rfl ⟨rfl, by repeat (first | with_reducible exact Adds.refl _ | with_reducible refine Adds.alloc ?_ _ | with_reducible refine Adds.more ?_ _ _ | with_reducible refine Adds.drew ?_ | with_reducible refine Adds.drewN ?_ _)⟩

theorem sum_any (u v : V) (hu : u.check = 0) (hv : v.check = 0) (w : World) :
    Calls Tryz.prog 172 #[u.val, v.val] w fun e w' => e = .returned (optV (sumO u v)) ∧ Adds w w' := by
  by_cases h : u.kind ≠ v.kind
  · have e : sumO u v = none := by unfold sumO; rw [if_pos h]
    rw [e]
    exact sum_unlike u v h w
  · rcases V.cases hu with ⟨a, rfl, a1, a2⟩ | ⟨s, rfl, hs⟩ | ⟨x, y, rfl, hxy⟩ <;> rcases V.cases hv with ⟨a', rfl, b1, b2⟩ | ⟨s', rfl, hs'⟩ | ⟨x', y', rfl, hxy'⟩
    all_goals first
      | exact sum_nums _ _ a1 a2 b1 b2 w
      | exact sum_texts _ _ hs hs' w
      | exact sum_points _ _ _ _ hxy hxy' w
      | exact absurd (by simp [V.mkNum, V.mkText, V.mkPoint]) h

end Go.Proofs.YtiacnmcdfpmcfaaGreatDoor

namespace Go.Proofs.YtiacnmcdfpmcfaaGreatDoor
open Go.RowKit
attribute [local go_sem] cell?_more frozen?_more setCell_more size_more tape_more drew_more drewN_more more_drew more_drewN more_more one_out plus_out plus_end lt_one le_p2 le_p3 le_p4 le_p5 le_p6 le_p7 le_p8 le_p9 le_p10 le_p11 le_p12 le_p13 le_p14 le_p15 le_p16 le_p17 le_p18 le_p19 le_p20 le_p21 le_p22 le_p23 le_p24 le_q0 le_q1 lt_q1 le_q2 lt_q2 le_q3 lt_q3 le_q4 lt_q4 le_q5 lt_q5 le_q6 lt_q6 le_q7 lt_q7 le_q8 lt_q8 le_q9 lt_q9 le_q10 lt_q10 le_q11 lt_q11 le_q12 lt_q12 le_q13 lt_q13 le_q14 lt_q14 le_q15 lt_q15 le_q16 lt_q16 le_q17 lt_q17 le_q18 lt_q18 le_q19 lt_q19 le_q20 lt_q20 le_q21 lt_q21 le_q22 lt_q22 le_q23 lt_q23 le_q24 lt_q24

/-- Where a path is first: its place, or the length. -/
def firstAt (p : ByteArray) : List F → Nat
  | [] => 0
  | f :: r => if f.path.toList = p.toList then 0 else firstAt p r + 1

theorem firstAt_le (p : ByteArray) (l : List F) : firstAt p l ≤ l.length := by
  induction l with
  | nil => simp [firstAt]
  | cons f r ih => simp only [firstAt]; split <;> simp <;> omega

theorem firstAt_eq {p : ByteArray} {l : List F} {k : Nat} (hk : k < l.length) (hb : ∀ j (hj : j < l.length), j < k → ¬ l[j].path.toList = p.toList) (he : l[k].path.toList = p.toList) : firstAt p l = k := by
  induction l generalizing k with
  | nil => simp at hk
  | cons f r ih =>
    cases k with
    | zero => simp [firstAt]; simpa using he
    | succ k =>
      have h0 := hb 0 (by simp) (by omega)
      simp at h0
      simp only [firstAt, h0, if_false]
      rw [ih (k := k) (by simpa using hk) (fun j hj hjk => by have := hb (j + 1) (by simpa using hj) (by omega); simpa using this) (by simpa using he)]

theorem firstAt_none {p : ByteArray} {l : List F} (hb : ∀ j (hj : j < l.length), ¬ l[j].path.toList = p.toList) : firstAt p l = l.length := by
  induction l with
  | nil => rfl
  | cons f r ih =>
    have h0 := hb 0 (by simp)
    simp at h0
    simp only [firstAt, h0, if_false, List.length_cons]
    rw [ih (fun j hj => by have := hb (j + 1) (by simpa using hj); simpa using this)]

theorem firstAt_at {p : ByteArray} {l : List F} (h : firstAt p l < l.length) : l[firstAt p l].path.toList = p.toList := by
  induction l with
  | nil => simp at h
  | cons f r ih =>
    by_cases h0 : f.path.toList = p.toList
    · simp [firstAt, h0]
    · simp only [firstAt, h0, if_false, List.length_cons] at h
      have := ih (by omega)
      simpa [firstAt, h0] using this

/-- The place that the document's own Get tells. -/
def placeOf (p : ByteArray) (l : List F) : Int := if firstAt p l < l.length then firstAt p l else -1

theorem refGet_any (s : Value) (l : List F) (p : ByteArray) (w : World) (hl : Lst w s l) (hl6 : l.length ≤ 1000) :
    Calls Tryz.prog 146 #[s, .string p] w fun e w' => e = .returned (.int .i64 (placeOf p l)) ∧ w' = w := by
  obtain ⟨ao, cap, rfl, hcap, hlo⟩ := hl
  go_enter Tryz.func146, Tryz.ntmps146
  go_wp2
  go_loopw [5] (fun i wr => ∃ k : Nat, k ≤ l.length ∧ i = .int .i64 k ∧ (∀ j (hj : j < l.length), j < k → ¬ l[j].path.toList = p.toList) ∧ wr = w) (fun i _ => l.length - (intOf i).toNat)
  case atStart => exact ⟨0, Nat.zero_le _, rfl, fun j _ hj => absurd hj (by omega), rfl⟩
  case round =>
    obtain ⟨k, hk, rfl, hb, rfl⟩ := hrel
    by_cases hlt : k < l.length
    · rcases hlo with rfl | ⟨b, off, rfl, hbb, hll⟩
      · simp at hlt
      have c0 := (hll k hlt).1
      have hf := firstAt_eq (p := p) hlt hb
      have hn : ¬ l[k].path.toList = p.toList → (∀ j (hj : j < l.length), j < k + 1 → ¬ l[j].path.toList = p.toList) := by
        intro h j hj hjk
        by_cases e : j = k
        · subst e; exact h
        · exact hb j hj (by omega)
      generalize l[k].path = x at *
      by_cases hE : x.toList = p.toList
      · have HP : Hid (placeOf p l = (k : Int)) := by
          show placeOf p l = (k : Int)
          rw [placeOf, hf hE, if_pos hlt]
        clear hf hn hb
        go_wp2
        go_ret
        exact ⟨by rw [HP.out]; rfl, rfl⟩
      · have HN : Hid _ := hn hE
        have hE' : (x.toList == p.toList) = false := by simpa using hE
        clear hf hn hb
        go_wp2
        go_roundw
        case rel => exact ⟨k + 1, by omega, by go_num, HN.out, trivial⟩
        case measure => simp [intOf]; omega
    · have hk' : k = l.length := by omega
      subst hk'
      have HP : Hid (placeOf p l = -1) := by
        show placeOf p l = -1
        rw [placeOf, firstAt_none (fun j hj => hb j hj hj), if_neg (by omega)]
      clear hb
      go_wp2
      go_ret
      exact ⟨by rw [HP.out]; rfl, rfl⟩

/-- What Get tells: the first value of a path, or the empty value. -/
def got (p : ByteArray) (l : List F) : V := if h : firstAt p l < l.length then l[firstAt p l].val else ⟨0, 0, ⟨#[]⟩, 0, 0⟩

set_option maxHeartbeats 1000000 in
theorem get_any (s : Value) (l : List F) (p : ByteArray) (w : World) (hl : Lst w s l) (hl6 : l.length ≤ 1000) :
    Calls Tryz.prog 170 #[s, .string p] w fun e w' => e = .returned (.tuple #[(got p l).val, .bool (decide (firstAt p l < l.length))]) ∧ Adds w w' := by
  obtain ⟨ao, cap, rfl, hcap, hlo⟩ := hl
  go_enter Tryz.func170, Tryz.ntmps170
  go_wp2
  go_loopw [10] (fun i wr => ∃ k : Nat, k ≤ l.length ∧ i = .int .i64 k ∧ (∀ j (hj : j < l.length), j < k → ¬ l[j].path.toList = p.toList) ∧ Adds (w.alloc (.cells #[.int .i64 0, .int .i64 0, .string ⟨#[]⟩, .int .i64 0, .int .i64 0] 87)) wr) (fun i _ => l.length - (intOf i).toNat)
  case atStart => exact ⟨0, Nat.zero_le _, rfl, fun j _ hj => absurd hj (by omega), Adds.refl _⟩
  case round =>
    obtain ⟨k, hk, rfl, hb, os, n, rfl⟩ := hrel
    by_cases hlt : k < l.length
    · rcases hlo with rfl | ⟨b, off, rfl, hbb, hll⟩
      · simp at hlt
      obtain ⟨c0, c1, c2, c3, c4, c5⟩ := hll k hlt
      have hf := firstAt_eq (p := p) hlt hb
      have hn : ¬ l[k].path.toList = p.toList → (∀ j (hj : j < l.length), j < k + 1 → ¬ l[j].path.toList = p.toList) := by
        intro h j hj hjk
        by_cases e : j = k
        · subst e; exact h
        · exact hb j hj (by omega)
      have hg : l[k].path.toList = p.toList → got p l = l[k].val := by
        intro h
        have := hf h
        simp only [got, this, hlt, dif_pos]
      have hdl : decide (firstAt p l < l.length) = decide (firstAt p l < l.length) := rfl
      generalize l[k] = x at *
      by_cases hE : x.path.toList = p.toList
      · have HP : Hid (got p l = x.val) := hg hE
        have HD : Hid (decide (firstAt p l < l.length) = true) := by
          show decide (firstAt p l < l.length) = true
          rw [hf hE]; simp [hlt]
        clear hf hn hb hg hdl
        go_wp2
        refine bodyPost_ret (v := .tuple #[x.val.val, .bool true]) (by simp [results, Tryz.results170, go_sem, V.val]) rfl ⟨by rw [HP.out, HD.out], ?_⟩
        repeat (first | with_reducible exact Adds.refl _ | with_reducible refine Adds.alloc ?_ _ | with_reducible refine Adds.more ?_ _ _ | with_reducible refine Adds.drew ?_ | with_reducible refine Adds.drewN ?_ _)
      · have HN : Hid _ := hn hE
        have hE' : (x.path.toList == p.toList) = false := by simpa using hE
        clear hf hn hb hg hdl
        go_wp2
        go_roundw
        case rel =>
          refine ⟨k + 1, by omega, by go_num, HN.out, ?_⟩
          repeat (first | with_reducible exact Adds.refl _ | with_reducible refine Adds.alloc ?_ _ | with_reducible refine Adds.more ?_ _ _ | with_reducible refine Adds.drew ?_ | with_reducible refine Adds.drewN ?_ _)
        case measure => simp [intOf]; omega
    · have hk' : k = l.length := by omega
      subst hk'
      have hn := firstAt_none (fun j hj => hb j hj hj)
      have HD : Hid (decide (firstAt p l < l.length) = false) := by
        show decide (firstAt p l < l.length) = false
        rw [hn]; simp
      have HP : Hid (got p l = ⟨0, 0, ⟨#[]⟩, 0, 0⟩) := by
        show got p l = _
        rw [got, dif_neg (by omega)]
      clear hb hn
      go_wp2
      refine bodyPost_ret (v := .tuple #[V.val ⟨0, 0, ⟨#[]⟩, 0, 0⟩, .bool false]) (by simp [results, Tryz.results170, go_sem, V.val]) rfl ⟨by rw [HP.out, HD.out], ?_⟩
      repeat (first | with_reducible exact Adds.refl _ | with_reducible refine Adds.alloc ?_ _ | with_reducible refine Adds.more ?_ _ _ | with_reducible refine Adds.drew ?_ | with_reducible refine Adds.drewN ?_ _)

end Go.Proofs.YtiacnmcdfpmcfaaGreatDoor
