/-
  The values of sums, products and calls, by contracts.
  Products and calls, and the function valueOf, by contracts.
-/
import Derived.Test.YtiacnmcdfpmcfaaGreatDoorQ02
import Derived.Test.YtiacnmcdfpmcfaaGreatDoorQ15
import Derived.Test.YtiacnmcdfpmcfaaGreatDoorV12
namespace Go.Proofs.YtiacnmcdfpmcfaaGreatDoor
open Go.RowKit
attribute [local go_sem] cell?_more frozen?_more setCell_more size_more tape_more drew_more drewN_more more_drew more_drewN one_out plus_out plus_end lt_one le_p2 le_p3 le_p4 le_p5 le_p6 le_p7 le_p8 le_p9 le_p10 le_p11 le_p12 le_p13 le_p14 le_p15 le_p16 le_p17 le_p18 le_p19 le_p20 le_p21 le_p22 le_p23 le_p24 le_q0 le_q1 lt_q1 le_q2 lt_q2 le_q3 lt_q3 le_q4 lt_q4 le_q5 lt_q5 le_q6 lt_q6 le_q7 lt_q7 le_q8 lt_q8 le_q9 lt_q9 le_q10 lt_q10 le_q11 lt_q11 le_q12 lt_q12 le_q13 lt_q13 le_q14 lt_q14 le_q15 lt_q15 le_q16 lt_q16 le_q17 lt_q17 le_q18 lt_q18 le_q19 lt_q19 le_q20 lt_q20 le_q21 lt_q21 le_q22 lt_q22 le_q23 lt_q23 le_q24 lt_q24


def vZ : V := ⟨0, 0, ⟨#[]⟩, 0, 0⟩
def fitO (v : V) : Option V := if v.check = 0 then some v else none
def ptO (x y : Int) : Option V := if Gs.May x y then some (V.mkPoint x y) else none
def timesO (a b : Int) : Option V := if -9007199254740992 ≤ a * b ∧ a * b ≤ 9007199254740992 then some (V.mkNum (a * b)) else none
def asRe (v : V) : Int := if v.kind = 1 then v.num else v.re
def asIm (v : V) : Int := if v.kind = 1 then 0 else v.im
def sumO (a b : V) : Option V :=
  if a.kind ≠ b.kind then none
  else if a.kind = 1 then fitO (V.mkNum (a.num + b.num))
  else if a.kind = 2 then fitO (V.mkText (a.text ++ b.text))
  else ptO (a.re + b.re) (a.im + b.im)
def mulO (a b : V) : Option V :=
  if a.kind = 2 ∨ b.kind = 2 then none
  else if a.kind = 1 ∧ b.kind = 1 then timesO a.num b.num
  else if Gs.May (asRe a) (asIm a) ∧ Gs.May (asRe b) (asIm b) then ptO (asRe a * asRe b - asIm a * asIm b) (asRe a * asIm b + asIm a * asRe b)
  else none
def lowC (c : UInt8) : UInt8 := if 65 ≤ c.toNat ∧ c.toNat ≤ 90 then c + 32 else c
def lowB (s : ByteArray) : ByteArray := toB (s.toList.map lowC)
def callO (f : List UInt8) (v : V) : Option V :=
  if v.kind = 3 then (if f = nNorm then some (V.mkNum (v.re * v.re + v.im * v.im)) else if f = nConj then some (V.mkPoint v.re (-v.im)) else if f = nTurn then some (V.mkPoint (-v.im) v.re) else none)
  else if v.kind = 2 then (if f = nLow then some (V.mkText (lowB v.text)) else if f = nHead then some (V.mkText (v.text.extract 0 1)) else none)
  else none

/-- What may be a value is one of these. -/
theorem V.cases {v : V} (h : v.check = 0) : (∃ n, v = V.mkNum n ∧ -9007199254740992 ≤ n ∧ n ≤ 9007199254740992) ∨ (∃ s, v = V.mkText s ∧ s.size ≤ 256) ∨ (∃ x y, v = V.mkPoint x y ∧ Gs.May x y) := by
  obtain ⟨k, n, t, re, im⟩ := v
  have hempty : ∀ t : ByteArray, t.toList = [] → t = ⟨#[]⟩ := fun t h => toList_inj (by rw [h, ByteArray.toList_eq])
  by_cases h1 : k = 1
  · subst h1
    rw [V.check_num] at h
    split at h
    · rename_i hc
      obtain ⟨a, ⟨rfl, rfl⟩, b, c⟩ := hc
      left
      exact ⟨n, by rw [hempty t a]; rfl, c, b⟩
    · cases h
  by_cases h2 : k = 2
  · subst h2
    rw [V.check_text] at h
    split at h
    · cases h
    · rename_i hs
      split at h
      · rename_i hc
        obtain ⟨rfl, rfl, rfl⟩ := hc
        exact .inr (.inl ⟨t, rfl, by omega⟩)
      · cases h
  by_cases h3 : k = 3
  · subst h3
    rw [V.check_point] at h
    split at h
    · rename_i hc
      obtain ⟨rfl, a, ⟨b, c⟩, d, e⟩ := hc
      exact .inr (.inr ⟨re, im, by rw [hempty t a]; rfl, ⟨c, b⟩, e, d⟩)
    · cases h
  · simp [V.check, V.fits, h1, h2, h3] at h

theorem mkNum_ok {n : Int} (h1 : -9007199254740992 ≤ n) (h2 : n ≤ 9007199254740992) : (V.mkNum n).check = 0 := by
  unfold V.mkNum
  rw [V.check_num, if_pos ⟨by rw [ByteArray.toList_eq], ⟨rfl, rfl⟩, h2, h1⟩]
theorem mkText_ok {s : ByteArray} (h : s.size ≤ 256) : (V.mkText s).check = 0 := by
  unfold V.mkText
  rw [V.check_text, if_neg (by omega), if_pos ⟨rfl, rfl, rfl⟩]
theorem mkPoint_ok {x y : Int} (h : Gs.May x y) : (V.mkPoint x y).check = 0 := by
  unfold V.mkPoint
  rw [V.check_point, if_pos ⟨rfl, by rw [ByteArray.toList_eq], ⟨h.1.2, h.1.1⟩, h.2.2, h.2.1⟩]

/-- A value, and whether there is one. -/
abbrev optV (o : Option V) : Value := .tuple #[(o.getD vZ).val, .bool o.isSome]

theorem fitO_any (v : V) (w : World) :
    Calls Tryz.prog 178 #[v.val] w fun e w' => e = .returned (optV (fitO v)) ∧ Adds w w' := by
  have kC := check_any v
  unfold fitO
  obtain ⟨k, n, t, re, im⟩ := v
  simp only [V.val] at *
  generalize V.check ⟨k, n, t, re, im⟩ = c at *
  by_cases hc : c = 0
  · subst hc
    go_enter Tryz.func178, Tryz.ntmps178
    go_wp2_with (go_at_call 127; refine (kC _).mono ?_; rintro e w1 ⟨rfl, os1, n1, rfl⟩)
    exact bodyPost_ret (v := .tuple #[.agg #[.int .i64 k, .int .i64 n, .string t, .int .i64 re, .int .i64 im], .bool true]) (by simp [results, Tryz.results178, go_sem]) rfl ⟨rfl, by repeat (first | with_reducible exact Adds.refl _ | with_reducible refine Adds.alloc ?_ _ | with_reducible refine Adds.more ?_ _ _ | with_reducible refine Adds.drew ?_ | with_reducible refine Adds.drewN ?_ _)⟩
  · have hc' : (c != 0) = true := by simpa using hc
    rw [if_neg hc]
    clear hc
    go_enter Tryz.func178, Tryz.ntmps178
    go_wp2_with (go_at_call 127; refine (kC _).mono ?_; rintro e w1 ⟨rfl, os1, n1, rfl⟩)
    exact bodyPost_ret (v := .tuple #[.agg #[.int .i64 0, .int .i64 0, .string ⟨#[]⟩, .int .i64 0, .int .i64 0], .bool false]) (by simp [results, Tryz.results178, go_sem]) rfl ⟨rfl, by repeat (first | with_reducible exact Adds.refl _ | with_reducible refine Adds.alloc ?_ _ | with_reducible refine Adds.more ?_ _ _ | with_reducible refine Adds.drew ?_ | with_reducible refine Adds.drewN ?_ _)⟩

theorem pointOr_yes (x y : Int) (w : World) :
    Calls Tryz.prog 179 #[Gs.pt x y, .int .i64 0] w fun e w' => e = .returned (optV (some (V.mkPoint x y))) ∧ Adds w w' := by
  have kP := point_any x y
  go_enter Tryz.func179, Tryz.ntmps179
  go_wp2_with (go_at_call 169; refine (kP _).mono ?_; rintro e w1 ⟨rfl, os1, n1, rfl⟩)
  exact bodyPost_ret (v := .tuple #[.agg #[.int .i64 3, .int .i64 0, .string ⟨#[]⟩, .int .i64 x, .int .i64 y], .bool true]) (by simp [results, Tryz.results179, go_sem]) rfl ⟨rfl, by repeat (first | with_reducible exact Adds.refl _ | with_reducible refine Adds.alloc ?_ _ | with_reducible refine Adds.more ?_ _ _ | with_reducible refine Adds.drew ?_ | with_reducible refine Adds.drewN ?_ _)⟩

theorem pointOr_no (x y e0 : Int) (he : e0 ≠ 0) (w : World) :
    Calls Tryz.prog 179 #[Gs.pt x y, .int .i64 e0] w fun e w' => e = .returned (optV none) ∧ Adds w w' := by
  have he' : (e0 != 0) = true := by simpa using he
  go_enter Tryz.func179, Tryz.ntmps179
  go_wp2
  exact bodyPost_ret (v := .tuple #[.agg #[.int .i64 0, .int .i64 0, .string ⟨#[]⟩, .int .i64 0, .int .i64 0], .bool false]) (by simp [results, Tryz.results179, go_sem]) rfl ⟨rfl, by repeat (first | with_reducible exact Adds.refl _ | with_reducible refine Adds.alloc ?_ _ | with_reducible refine Adds.more ?_ _ _ | with_reducible refine Adds.drew ?_ | with_reducible refine Adds.drewN ?_ _)⟩

theorem asPoint_any (v : V) (w : World) :
    Calls Tryz.prog 183 #[v.val] w fun e w' => e = .returned (Gs.pt (asRe v) (asIm v)) ∧ Adds w w' := by
  obtain ⟨k, n, t, re, im⟩ := v
  simp only [V.val, asRe, asIm]
  by_cases hk : k = 1
  · subst hk
    go_enter Tryz.func183, Tryz.ntmps183
    go_wp2
    exact bodyPost_ret (v := Gs.pt n 0) (by simp [results, Tryz.results183, go_sem]) rfl ⟨rfl, by repeat (first | with_reducible exact Adds.refl _ | with_reducible refine Adds.alloc ?_ _ | with_reducible refine Adds.more ?_ _ _ | with_reducible refine Adds.drew ?_ | with_reducible refine Adds.drewN ?_ _)⟩
  · have hk' : (k == 1) = false := by simpa using hk
    rw [if_neg hk, if_neg hk]
    clear hk
    go_enter Tryz.func183, Tryz.ntmps183
    go_wp2
    exact bodyPost_ret (v := Gs.pt re im) (by simp [results, Tryz.results183, go_sem]) rfl ⟨rfl, by repeat (first | with_reducible exact Adds.refl _ | with_reducible refine Adds.alloc ?_ _ | with_reducible refine Adds.more ?_ _ _ | with_reducible refine Adds.drew ?_ | with_reducible refine Adds.drewN ?_ _)⟩

set_option maxHeartbeats 1000000 in
theorem sum_nums (a b : Int) (ha1 : -9007199254740992 ≤ a) (ha2 : a ≤ 9007199254740992) (hb1 : -9007199254740992 ≤ b) (hb2 : b ≤ 9007199254740992) (w : World) :
    Calls Tryz.prog 172 #[(V.mkNum a).val, (V.mkNum b).val] w fun e w' => e = .returned (optV (fitO (V.mkNum (a + b)))) ∧ Adds w w' := by
  have kN := num_any (a + b)
  have kF := fitO_any (V.mkNum (a + b))
  obtain ⟨o, ho⟩ : ∃ o, fitO (V.mkNum (a + b)) = o := ⟨_, rfl⟩
  rw [ho] at kF ⊢
  clear ho
  obtain ⟨⟨k, n, t, re, im⟩, hq⟩ : ∃ q, o.getD vZ = q := ⟨_, rfl⟩
  simp only [optV, hq, V.val, V.mkNum] at *
  generalize o.isSome = q2 at *
  clear hq
  go_enter Tryz.func172, Tryz.ntmps172
  go_wp2_with (first
    | (go_at_call 166; refine (kN _).mono ?_; rintro e w1 ⟨rfl, os1, n1, rfl⟩)
    | (go_at_call 178; refine (kF _).mono ?_; rintro e w2 ⟨rfl, os2, n2, rfl⟩))
  exact bodyPost_ret (v := .tuple #[.agg #[.int .i64 k, .int .i64 n, .string t, .int .i64 re, .int .i64 im], .bool q2]) (by simp [results, Tryz.results172, go_sem]) rfl ⟨rfl, by repeat (first | with_reducible exact Adds.refl _ | with_reducible refine Adds.alloc ?_ _ | with_reducible refine Adds.more ?_ _ _ | with_reducible refine Adds.drew ?_ | with_reducible refine Adds.drewN ?_ _)⟩

set_option maxHeartbeats 1000000 in
theorem sum_texts (a b : ByteArray) (ha : a.size ≤ 256) (hb : b.size ≤ 256) (w : World) :
    Calls Tryz.prog 172 #[(V.mkText a).val, (V.mkText b).val] w fun e w' => e = .returned (optV (fitO (V.mkText (a ++ b)))) ∧ Adds w w' := by
  have kN := text_any (a ++ b)
  have kF := fitO_any (V.mkText (a ++ b))
  obtain ⟨o, ho⟩ : ∃ o, fitO (V.mkText (a ++ b)) = o := ⟨_, rfl⟩
  rw [ho] at kF ⊢
  clear ho
  obtain ⟨⟨k, n, t, re, im⟩, hq⟩ : ∃ q, o.getD vZ = q := ⟨_, rfl⟩
  simp only [optV, hq, V.val, V.mkText] at *
  generalize o.isSome = q2 at *
  clear hq
  go_enter Tryz.func172, Tryz.ntmps172
  go_wp2_with (first
    | (go_at_call 168; refine (kN _).mono ?_; rintro e w1 ⟨rfl, os1, n1, rfl⟩)
    | (go_at_call 178; refine (kF _).mono ?_; rintro e w2 ⟨rfl, os2, n2, rfl⟩))
  exact bodyPost_ret (v := .tuple #[.agg #[.int .i64 k, .int .i64 n, .string t, .int .i64 re, .int .i64 im], .bool q2]) (by simp [results, Tryz.results172, go_sem]) rfl ⟨rfl, by repeat (first | with_reducible exact Adds.refl _ | with_reducible refine Adds.alloc ?_ _ | with_reducible refine Adds.more ?_ _ _ | with_reducible refine Adds.drew ?_ | with_reducible refine Adds.drewN ?_ _)⟩

set_option maxHeartbeats 1000000 in
theorem sum_points (a b c d : Int) (ha : Gs.May a b) (hb : Gs.May c d) (w : World) :
    Calls Tryz.prog 172 #[(V.mkPoint a b).val, (V.mkPoint c d).val] w fun e w' => e = .returned (optV (ptO (a + c) (b + d))) ∧ Adds w w' := by
  have kA := Gs.add_may a b c d ha hb
  unfold ptO
  by_cases hm : Gs.May (a + c) (b + d)
  · have kP := pointOr_yes (a + c) (b + d)
    rw [if_pos hm] at kA ⊢
    clear hm
    generalize a + c = u at *
    generalize b + d = v at *
    simp only [optV, Option.getD_some, Option.isSome_some, V.val, V.mkPoint] at *
    go_enter Tryz.func172, Tryz.ntmps172
    go_wp2_with (first
      | (go_at_call 180; refine (kA _).mono ?_; rintro e w1 ⟨rfl, os1, n1, rfl⟩)
      | (go_at_call 179; refine (kP _).mono ?_; rintro e w2 ⟨rfl, os2, n2, rfl⟩))
    exact bodyPost_ret (v := .tuple #[.agg #[.int .i64 3, .int .i64 0, .string ⟨#[]⟩, .int .i64 u, .int .i64 v], .bool true]) (by simp [results, Tryz.results172, go_sem]) rfl ⟨rfl, by repeat (first | with_reducible exact Adds.refl _ | with_reducible refine Adds.alloc ?_ _ | with_reducible refine Adds.more ?_ _ _ | with_reducible refine Adds.drew ?_ | with_reducible refine Adds.drewN ?_ _)⟩
  · have kP := pointOr_no 0 0 3 (by decide)
    rw [if_neg hm] at kA ⊢
    clear hm
    simp only [optV, Option.getD_none, Option.isSome_none, V.val, V.mkPoint, vZ] at *
    go_enter Tryz.func172, Tryz.ntmps172
    go_wp2_with (first
      | (go_at_call 180; refine (kA _).mono ?_; rintro e w1 ⟨rfl, os1, n1, rfl⟩)
      | (go_at_call 179; refine (kP _).mono ?_; rintro e w2 ⟨rfl, os2, n2, rfl⟩))
    exact bodyPost_ret (v := .tuple #[.agg #[.int .i64 0, .int .i64 0, .string ⟨#[]⟩, .int .i64 0, .int .i64 0], .bool false]) (by simp [results, Tryz.results172, go_sem]) rfl ⟨rfl, by repeat (first | with_reducible exact Adds.refl _ | with_reducible refine Adds.alloc ?_ _ | with_reducible refine Adds.more ?_ _ _ | with_reducible refine Adds.drew ?_ | with_reducible refine Adds.drewN ?_ _)⟩

theorem sum_unlike (u v : V) (h : u.kind ≠ v.kind) (w : World) :
    Calls Tryz.prog 172 #[u.val, v.val] w fun e w' => e = .returned (optV none) ∧ Adds w w' := by
  obtain ⟨k, n, t, re, im⟩ := u
  obtain ⟨k', n', t', re', im'⟩ := v
  simp only [V.val] at *
  have h' : (k != k') = true := by simpa using h
  clear h
  go_enter Tryz.func172, Tryz.ntmps172
  go_wp2
  exact bodyPost_ret (v := .tuple #[.agg #[.int .i64 0, .int .i64 0, .string ⟨#[]⟩, .int .i64 0, .int .i64 0], .bool false]) (by simp [results, Tryz.results172, go_sem]) rfl ⟨rfl, by repeat (first | with_reducible exact Adds.refl _ | with_reducible refine Adds.alloc ?_ _ | with_reducible refine Adds.more ?_ _ _ | with_reducible refine Adds.drew ?_ | with_reducible refine Adds.drewN ?_ _)⟩

theorem sum_any (u v : V) (hu : u.check = 0) (hv : v.check = 0) (w : World) :
    Calls Tryz.prog 172 #[u.val, v.val] w fun e w' => e = .returned (optV (sumO u v)) ∧ Adds w w' := by
  by_cases h : u.kind ≠ v.kind
  · have e : sumO u v = none := by unfold sumO; rw [if_pos h]
    rw [e]
    exact sum_unlike u v h w
  · rcases V.cases hu with ⟨a, rfl, a1, a2⟩ | ⟨s, rfl, hs⟩ | ⟨x, y, rfl, hxy⟩ <;> rcases V.cases hv with ⟨a', rfl, b1, b2⟩ | ⟨s', rfl, hs'⟩ | ⟨x', y', rfl, hxy'⟩
    all_goals first
      | exact sum_nums _ _ a1 a2 b1 b2 w
      | exact sum_texts _ _ hs hs' w
      | exact sum_points _ _ _ _ hxy hxy' w
      | exact absurd (by simp [V.mkNum, V.mkText, V.mkPoint]) h

end Go.Proofs.YtiacnmcdfpmcfaaGreatDoor

namespace Go.Proofs.YtiacnmcdfpmcfaaGreatDoor
open Go.RowKit
attribute [local go_sem] cell?_more frozen?_more setCell_more size_more tape_more drew_more drewN_more more_drew more_drewN one_out plus_out plus_end lt_one le_p2 le_p3 le_p4 le_p5 le_p6 le_p7 le_p8 le_p9 le_p10 le_p11 le_p12 le_p13 le_p14 le_p15 le_p16 le_p17 le_p18 le_p19 le_p20 le_p21 le_p22 le_p23 le_p24 le_q0 le_q1 lt_q1 le_q2 lt_q2 le_q3 lt_q3 le_q4 lt_q4 le_q5 lt_q5 le_q6 lt_q6 le_q7 lt_q7 le_q8 lt_q8 le_q9 lt_q9 le_q10 lt_q10 le_q11 lt_q11 le_q12 lt_q12 le_q13 lt_q13 le_q14 lt_q14 le_q15 lt_q15 le_q16 lt_q16 le_q17 lt_q17 le_q18 lt_q18 le_q19 lt_q19 le_q20 lt_q20 le_q21 lt_q21 le_q22 lt_q22 le_q23 lt_q23 le_q24 lt_q24


theorem abs_mul_le {a b : Int} (hb : b ≠ 0) : (max a (-a) ≤ 9007199254740992 / max b (-b)) ↔ (-9007199254740992 ≤ a * b ∧ a * b ≤ 9007199254740992) := by
  have hb0 : 0 < max b (-b) := by omega
  rw [Int.le_ediv_iff_mul_le hb0]
  have key : max a (-a) * max b (-b) = max (a * b) (-(a * b)) := by
    rcases Int.le_total 0 a with ha | ha <;> rcases Int.le_total 0 b with hb | hb
    · have := Int.mul_nonneg ha hb
      rw [show max a (-a) = a by omega, show max b (-b) = b by omega]
      omega
    · have := Int.mul_nonneg ha (show 0 ≤ -b by omega)
      rw [Int.mul_neg] at this
      rw [show max a (-a) = a by omega, show max b (-b) = -b by omega, Int.mul_neg]
      omega
    · have := Int.mul_nonneg (show 0 ≤ -a by omega) hb
      rw [Int.neg_mul] at this
      rw [show max a (-a) = -a by omega, show max b (-b) = b by omega, Int.neg_mul]
      omega
    · have := Int.mul_nonneg (show 0 ≤ -a by omega) (show 0 ≤ -b by omega)
      rw [Int.neg_mul_neg] at this
      rw [show max a (-a) = -a by omega, show max b (-b) = -b by omega, Int.neg_mul_neg]
      omega
  rw [key]
  omega

set_option maxHeartbeats 1000000 in
theorem times_yes (a b : Int) (ha1 : -9007199254740992 ≤ a) (ha2 : a ≤ 9007199254740992) (hb1 : -9007199254740992 ≤ b) (hb2 : b ≤ 9007199254740992) (h : -9007199254740992 ≤ a * b ∧ a * b ≤ 9007199254740992) (w : World) :
    Calls Tryz.prog 181 #[.int .i64 a, .int .i64 b] w fun e w' => e = .returned (optV (some (V.mkNum (a * b)))) ∧ Adds w w' := by
  have kN := num_any (a * b)
  simp only [optV, Option.getD_some, Option.isSome_some, V.val, V.mkNum]
  by_cases hb : b = 0
  · subst hb
    rw [Int.mul_zero] at *
    go_enter Tryz.func181, Tryz.ntmps181
    go_wp2_with (go_at_call 166; refine (kN _).mono ?_; rintro e w1 ⟨rfl, os1, n1, rfl⟩)
    exact bodyPost_ret (v := .tuple #[.agg #[.int .i64 1, .int .i64 0, .string ⟨#[]⟩, .int .i64 0, .int .i64 0], .bool true]) (by simp [results, Tryz.results181, go_sem]) rfl ⟨rfl, by repeat (first | with_reducible exact Adds.refl _ | with_reducible refine Adds.alloc ?_ _ | with_reducible refine Adds.more ?_ _ _ | with_reducible refine Adds.drew ?_ | with_reducible refine Adds.drewN ?_ _)⟩
  · have HQ : Hid (max a (-a) ≤ 9007199254740992 / max b (-b)) := (abs_mul_le (a := a) hb).2 h
    have hb' : (b != 0) = true := by simpa using hb
    obtain ⟨h1, h2⟩ := h
    go_enter Tryz.func181, Tryz.ntmps181
    go_wp2_with (go_at_call 166; refine (kN _).mono ?_; rintro e w1 ⟨rfl, os1, n1, rfl⟩)
    all_goals first
      | (exfalso
         have h9 := HQ.out
         simp only [show (if b < -b then -b else b) = max b (-b) by split <;> omega, show (if a < -a then -a else a) = max a (-a) by split <;> omega] at *
         first
           | exact absurd h9 (Int.not_le.2 (by assumption))
           | exact absurd h9 (Int.not_lt.2 (by assumption))
           | omega)
      | exact bodyPost_ret (v := .tuple #[.agg #[.int .i64 1, .int .i64 (a * b), .string ⟨#[]⟩, .int .i64 0, .int .i64 0], .bool true]) (by simp [results, Tryz.results181, go_sem]) rfl ⟨rfl, by repeat (first | with_reducible exact Adds.refl _ | with_reducible refine Adds.alloc ?_ _ | with_reducible refine Adds.more ?_ _ _ | with_reducible refine Adds.drew ?_ | with_reducible refine Adds.drewN ?_ _)⟩

set_option maxHeartbeats 1000000 in
theorem times_no (a b : Int) (ha1 : -9007199254740992 ≤ a) (ha2 : a ≤ 9007199254740992) (hb1 : -9007199254740992 ≤ b) (hb2 : b ≤ 9007199254740992) (h : ¬ (-9007199254740992 ≤ a * b ∧ a * b ≤ 9007199254740992)) (w : World) :
    Calls Tryz.prog 181 #[.int .i64 a, .int .i64 b] w fun e w' => e = .returned (optV none) ∧ Adds w w' := by
  have hb : b ≠ 0 := by
    rintro rfl
    rw [Int.mul_zero] at h
    omega
  have kN := fun x => num_any x
  have HQ : Hid (¬ max a (-a) ≤ 9007199254740992 / max b (-b)) := fun hq => h ((abs_mul_le (a := a) hb).1 hq)
  have hb' : (b != 0) = true := by simpa using hb
  clear h
  simp only [optV, Option.getD_none, Option.isSome_none, V.val, vZ]
  go_enter Tryz.func181, Tryz.ntmps181
  go_wp2_with (go_at_call 166; refine (kN _ _).mono ?_; rintro e w1 ⟨rfl, os1, n1, rfl⟩)
  all_goals first
    | (exfalso
       have h9 := HQ.out
       simp only [show (if b < -b then -b else b) = max b (-b) by split <;> omega, show (if a < -a then -a else a) = max a (-a) by split <;> omega] at *
       first
         | exact absurd h9 (Int.not_le.2 (by assumption))
         | exact absurd h9 (Int.not_lt.2 (by assumption))
         | omega)
    | exact bodyPost_ret (v := .tuple #[.agg #[.int .i64 0, .int .i64 0, .string ⟨#[]⟩, .int .i64 0, .int .i64 0], .bool false]) (by simp [results, Tryz.results181, go_sem]) rfl ⟨rfl, by repeat (first | with_reducible exact Adds.refl _ | with_reducible refine Adds.alloc ?_ _ | with_reducible refine Adds.more ?_ _ _ | with_reducible refine Adds.drew ?_ | with_reducible refine Adds.drewN ?_ _)⟩

theorem times_any2 (a b : Int) (ha1 : -9007199254740992 ≤ a) (ha2 : a ≤ 9007199254740992) (hb1 : -9007199254740992 ≤ b) (hb2 : b ≤ 9007199254740992) (w : World) :
    Calls Tryz.prog 181 #[.int .i64 a, .int .i64 b] w fun e w' => e = .returned (optV (timesO a b)) ∧ Adds w w' := by
  unfold timesO
  by_cases h : -9007199254740992 ≤ a * b ∧ a * b ≤ 9007199254740992
  · rw [if_pos h]
    exact times_yes a b ha1 ha2 hb1 hb2 h w
  · rw [if_neg h]
    exact times_no a b ha1 ha2 hb1 hb2 h w

theorem prod_text (u v : V) (h : u.kind = 2 ∨ v.kind = 2) (w : World) :
    Calls Tryz.prog 173 #[u.val, v.val] w fun e w' => e = .returned (optV none) ∧ Adds w w' := by
  obtain ⟨k, n, t, re, im⟩ := u
  obtain ⟨k', n', t', re', im'⟩ := v
  simp only [V.val] at *
  by_cases hk : k = 2
  · subst hk
    clear h
    go_enter Tryz.func173, Tryz.ntmps173
    go_wp2
    exact bodyPost_ret (v := .tuple #[.agg #[.int .i64 0, .int .i64 0, .string ⟨#[]⟩, .int .i64 0, .int .i64 0], .bool false]) (by simp [results, Tryz.results173, go_sem]) rfl ⟨rfl, by repeat (first | with_reducible exact Adds.refl _ | with_reducible refine Adds.alloc ?_ _ | with_reducible refine Adds.more ?_ _ _ | with_reducible refine Adds.drew ?_ | with_reducible refine Adds.drewN ?_ _)⟩
  · have hk' : (k == 2) = false := by simpa using hk
    have h2 : k' = 2 := h.resolve_left hk
    subst h2
    clear h hk
    go_enter Tryz.func173, Tryz.ntmps173
    go_wp2
    exact bodyPost_ret (v := .tuple #[.agg #[.int .i64 0, .int .i64 0, .string ⟨#[]⟩, .int .i64 0, .int .i64 0], .bool false]) (by simp [results, Tryz.results173, go_sem]) rfl ⟨rfl, by repeat (first | with_reducible exact Adds.refl _ | with_reducible refine Adds.alloc ?_ _ | with_reducible refine Adds.more ?_ _ _ | with_reducible refine Adds.drew ?_ | with_reducible refine Adds.drewN ?_ _)⟩

set_option maxHeartbeats 1000000 in
theorem prod_nums (a b : Int) (ha1 : -9007199254740992 ≤ a) (ha2 : a ≤ 9007199254740992) (hb1 : -9007199254740992 ≤ b) (hb2 : b ≤ 9007199254740992) (w : World) :
    Calls Tryz.prog 173 #[(V.mkNum a).val, (V.mkNum b).val] w fun e w' => e = .returned (optV (timesO a b)) ∧ Adds w w' := by
  have kT := times_any2 a b ha1 ha2 hb1 hb2
  generalize timesO a b = o at *
  obtain ⟨⟨k, n, t, re, im⟩, hq⟩ : ∃ q, o.getD vZ = q := ⟨_, rfl⟩
  simp only [optV, hq, V.val, V.mkNum] at *
  generalize o.isSome = q2 at *
  clear hq
  go_enter Tryz.func173, Tryz.ntmps173
  go_wp2_with (go_at_call 181; refine (kT _).mono ?_; rintro e w1 ⟨rfl, os1, n1, rfl⟩)
  exact bodyPost_ret (v := .tuple #[.agg #[.int .i64 k, .int .i64 n, .string t, .int .i64 re, .int .i64 im], .bool q2]) (by simp [results, Tryz.results173, go_sem]) rfl ⟨rfl, by repeat (first | with_reducible exact Adds.refl _ | with_reducible refine Adds.alloc ?_ _ | with_reducible refine Adds.more ?_ _ _ | with_reducible refine Adds.drew ?_ | with_reducible refine Adds.drewN ?_ _)⟩

/-- The product of points, each of them may be or not. -/
def prodP (a b c d : Int) : Option V := if Gs.May a b ∧ Gs.May c d then ptO (a * c - b * d) (a * d + b * c) else none

theorem mulP_any (a b c d : Int) (w : World) :
    Calls Tryz.prog 182 #[Gs.pt a b, Gs.pt c d] w fun e w' => (∃ x y q, e = .returned (.tuple #[Gs.pt x y, .int .i64 q]) ∧ prodP a b c d = if q = 0 then some (V.mkPoint x y) else none) ∧ Adds w w' := by
  unfold prodP ptO
  by_cases h : Gs.May a b ∧ Gs.May c d
  · rw [if_pos h]
    refine (Gs.mul_may a b c d h.1 h.2 w).mono ?_
    rintro e w' ⟨rfl, hA⟩
    by_cases hm : Gs.May (a * c - b * d) (a * d + b * c)
    · rw [if_pos hm, if_pos hm]
      exact ⟨⟨_, _, 0, rfl, by simp⟩, hA⟩
    · rw [if_neg hm, if_neg hm]
      exact ⟨⟨_, _, 3, rfl, by simp⟩, hA⟩
  · rw [if_neg h]
    refine (Gs.mul_arg a b c d h w).mono ?_
    rintro e w' ⟨rfl, hA⟩
    exact ⟨⟨_, _, 1, rfl, by simp⟩, hA⟩

theorem pointOr_any (x y q : Int) (w : World) :
    Calls Tryz.prog 179 #[Gs.pt x y, .int .i64 q] w fun e w' => e = .returned (optV (if q = 0 then some (V.mkPoint x y) else none)) ∧ Adds w w' := by
  by_cases h : q = 0
  · subst h
    rw [if_pos rfl]
    exact pointOr_yes x y w
  · rw [if_neg h]
    exact pointOr_no x y q h w

end Go.Proofs.YtiacnmcdfpmcfaaGreatDoor
