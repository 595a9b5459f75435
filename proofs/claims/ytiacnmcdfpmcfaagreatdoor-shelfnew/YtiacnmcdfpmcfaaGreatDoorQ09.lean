/-
  Get of package paper, and the document's own, by contracts.
  Products and calls, and the function valueOf, by contracts.
-/
import Derived.Test.YtiacnmcdfpmcfaaGreatDoorDocs
import Derived.Test.YtiacnmcdfpmcfaaGreatDoorQ08
namespace Go.Proofs.YtiacnmcdfpmcfaaGreatDoor
open Go.RowKit
attribute [local go_sem] cell?_more frozen?_more setCell_more size_more tape_more drew_more drewN_more more_drew more_drewN more_more one_out plus_out plus_end lt_one le_p2 le_p3 le_p4 le_p5 le_p6 le_p7 le_p8 le_p9 le_p10 le_p11 le_p12 le_p13 le_p14 le_p15 le_p16 le_p17 le_p18 le_p19 le_p20 le_p21 le_p22 le_p23 le_p24 le_q0 le_q1 lt_q1 le_q2 lt_q2 le_q3 lt_q3 le_q4 lt_q4 le_q5 lt_q5 le_q6 lt_q6 le_q7 lt_q7 le_q8 lt_q8 le_q9 lt_q9 le_q10 lt_q10 le_q11 lt_q11 le_q12 lt_q12 le_q13 lt_q13 le_q14 lt_q14 le_q15 lt_q15 le_q16 lt_q16 le_q17 lt_q17 le_q18 lt_q18 le_q19 lt_q19 le_q20 lt_q20 le_q21 lt_q21 le_q22 lt_q22 le_q23 lt_q23 le_q24 lt_q24

/-- Where a path is first: its place, or the length. -/
def firstAt (p : ByteArray) : List F → Nat
  | [] => 0
  | f :: r => if f.path.toList = p.toList then 0 else firstAt p r + 1

theorem firstAt_le (p : ByteArray) (l : List F) : firstAt p l ≤ l.length := by
  induction l with
  | nil => simp [firstAt]
  | cons f r ih => simp only [firstAt]; split <;> simp <;> omega

theorem firstAt_eq {p : ByteArray} {l : List F} {k : Nat} (hk : k < l.length) (hb : ∀ j (hj : j < l.length), j < k → ¬ l[j].path.toList = p.toList) (he : l[k].path.toList = p.toList) : firstAt p l = k := by
  induction l generalizing k with
  | nil => simp at hk
  | cons f r ih =>
    cases k with
    | zero => simp [firstAt]; simpa using he
    | succ k =>
      have h0 := hb 0 (by simp) (by omega)
      simp at h0
      simp only [firstAt, h0, if_false]
      rw [ih (k := k) (by simpa using hk) (fun j hj hjk => by have := hb (j + 1) (by simpa using hj) (by omega); simpa using this) (by simpa using he)]

theorem firstAt_none {p : ByteArray} {l : List F} (hb : ∀ j (hj : j < l.length), ¬ l[j].path.toList = p.toList) : firstAt p l = l.length := by
  induction l with
  | nil => rfl
  | cons f r ih =>
    have h0 := hb 0 (by simp)
    simp at h0
    simp only [firstAt, h0, if_false, List.length_cons]
    rw [ih (fun j hj => by have := hb (j + 1) (by simpa using hj); simpa using this)]

theorem firstAt_at {p : ByteArray} {l : List F} (h : firstAt p l < l.length) : l[firstAt p l].path.toList = p.toList := by
  induction l with
  | nil => simp at h
  | cons f r ih =>
    by_cases h0 : f.path.toList = p.toList
    · simp [firstAt, h0]
    · simp only [firstAt, h0, if_false, List.length_cons] at h
      have := ih (by omega)
      simpa [firstAt, h0] using this

/-- The place that the document's own Get tells. -/
def placeOf (p : ByteArray) (l : List F) : Int := if firstAt p l < l.length then firstAt p l else -1

theorem refGet_any (s : Value) (l : List F) (p : ByteArray) (w : World) (hl : Lst w s l) (hl6 : l.length ≤ 1000) :
    Calls Tryz.prog 146 #[s, .string p] w fun e w' => e = .returned (.int .i64 (placeOf p l)) ∧ w' = w := by
  obtain ⟨ao, cap, rfl, hcap, hlo⟩ := hl
  go_enter Tryz.func146, Tryz.ntmps146
  go_wp2
  go_loopw [5] (fun i wr => ∃ k : Nat, k ≤ l.length ∧ i = .int .i64 k ∧ (∀ j (hj : j < l.length), j < k → ¬ l[j].path.toList = p.toList) ∧ wr = w) (fun i _ => l.length - (intOf i).toNat)
  case atStart => exact ⟨0, Nat.zero_le _, rfl, fun j _ hj => absurd hj (by omega), rfl⟩
  case round =>
    obtain ⟨k, hk, rfl, hb, rfl⟩ := hrel
    by_cases hlt : k < l.length
    · rcases hlo with rfl | ⟨b, off, rfl, hbb, hll⟩
      · simp at hlt
      have c0 := (hll k hlt).1
      have hf := firstAt_eq (p := p) hlt hb
      have hn : ¬ l[k].path.toList = p.toList → (∀ j (hj : j < l.length), j < k + 1 → ¬ l[j].path.toList = p.toList) := by
        intro h j hj hjk
        by_cases e : j = k
        · subst e; exact h
        · exact hb j hj (by omega)
      generalize l[k].path = x at *
      by_cases hE : x.toList = p.toList
      · have HP : Hid (placeOf p l = (k : Int)) := by
          show placeOf p l = (k : Int)
          rw [placeOf, hf hE, if_pos hlt]
        clear hf hn hb
        go_wp2
        go_ret
        exact ⟨by rw [HP.out]; rfl, rfl⟩
      · have HN : Hid _ := hn hE
        have hE' : (x.toList == p.toList) = false := by simpa using hE
        clear hf hn hb
        go_wp2
        go_roundw
        case rel => exact ⟨k + 1, by omega, by go_num, HN.out, trivial⟩
        case measure => simp [intOf]; omega
    · have hk' : k = l.length := by omega
      subst hk'
      have HP : Hid (placeOf p l = -1) := by
        show placeOf p l = -1
        rw [placeOf, firstAt_none (fun j hj => hb j hj hj), if_neg (by omega)]
      clear hb
      go_wp2
      go_ret
      exact ⟨by rw [HP.out]; rfl, rfl⟩

/-- What Get tells: the first value of a path, or the empty value. -/
def got (p : ByteArray) (l : List F) : V := if h : firstAt p l < l.length then l[firstAt p l].val else ⟨0, 0, ⟨#[]⟩, 0, 0⟩

set_option maxHeartbeats 1000000 in
theorem get_any (s : Value) (l : List F) (p : ByteArray) (w : World) (hl : Lst w s l) (hl6 : l.length ≤ 1000) :
    Calls Tryz.prog 170 #[s, .string p] w fun e w' => e = .returned (.tuple #[(got p l).val, .bool (decide (firstAt p l < l.length))]) ∧ Adds w w' := by
  obtain ⟨ao, cap, rfl, hcap, hlo⟩ := hl
  go_enter Tryz.func170, Tryz.ntmps170
  go_wp2
  go_loopw [10] (fun i wr => ∃ k : Nat, k ≤ l.length ∧ i = .int .i64 k ∧ (∀ j (hj : j < l.length), j < k → ¬ l[j].path.toList = p.toList) ∧ Adds (w.alloc (.cells #[.int .i64 0, .int .i64 0, .string ⟨#[]⟩, .int .i64 0, .int .i64 0] 87)) wr) (fun i _ => l.length - (intOf i).toNat)
  case atStart => exact ⟨0, Nat.zero_le _, rfl, fun j _ hj => absurd hj (by omega), Adds.refl _⟩
  case round =>
    obtain ⟨k, hk, rfl, hb, os, n, rfl⟩ := hrel
    by_cases hlt : k < l.length
    · rcases hlo with rfl | ⟨b, off, rfl, hbb, hll⟩
      · simp at hlt
      obtain ⟨c0, c1, c2, c3, c4, c5⟩ := hll k hlt
      have hf := firstAt_eq (p := p) hlt hb
      have hn : ¬ l[k].path.toList = p.toList → (∀ j (hj : j < l.length), j < k + 1 → ¬ l[j].path.toList = p.toList) := by
        intro h j hj hjk
        by_cases e : j = k
        · subst e; exact h
        · exact hb j hj (by omega)
      have hg : l[k].path.toList = p.toList → got p l = l[k].val := by
        intro h
        have := hf h
        simp only [got, this, hlt, dif_pos]
      have hdl : decide (firstAt p l < l.length) = decide (firstAt p l < l.length) := rfl
      generalize l[k] = x at *
      by_cases hE : x.path.toList = p.toList
      · have HP : Hid (got p l = x.val) := hg hE
        have HD : Hid (decide (firstAt p l < l.length) = true) := by
          show decide (firstAt p l < l.length) = true
          rw [hf hE]; simp [hlt]
        clear hf hn hb hg hdl
        go_wp2
        refine bodyPost_ret (v := .tuple #[x.val.val, .bool true]) (by simp [results, Tryz.results170, go_sem, V.val]) rfl ⟨by rw [HP.out, HD.out], ?_⟩
        repeat (first | with_reducible exact Adds.refl _ | with_reducible refine Adds.alloc ?_ _ | with_reducible refine Adds.more ?_ _ _ | with_reducible refine Adds.drew ?_ | with_reducible refine Adds.drewN ?_ _)
      · have HN : Hid _ := hn hE
        have hE' : (x.path.toList == p.toList) = false := by simpa using hE
        clear hf hn hb hg hdl
        go_wp2
        go_roundw
        case rel =>
          refine ⟨k + 1, by omega, by go_num, HN.out, ?_⟩
          repeat (first | with_reducible exact Adds.refl _ | with_reducible refine Adds.alloc ?_ _ | with_reducible refine Adds.more ?_ _ _ | with_reducible refine Adds.drew ?_ | with_reducible refine Adds.drewN ?_ _)
        case measure => simp [intOf]; omega
    · have hk' : k = l.length := by omega
      subst hk'
      have hn := firstAt_none (fun j hj => hb j hj hj)
      have HD : Hid (decide (firstAt p l < l.length) = false) := by
        show decide (firstAt p l < l.length) = false
        rw [hn]; simp
      have HP : Hid (got p l = ⟨0, 0, ⟨#[]⟩, 0, 0⟩) := by
        show got p l = _
        rw [got, dif_neg (by omega)]
      clear hb hn
      go_wp2
      refine bodyPost_ret (v := .tuple #[V.val ⟨0, 0, ⟨#[]⟩, 0, 0⟩, .bool false]) (by simp [results, Tryz.results170, go_sem, V.val]) rfl ⟨by rw [HP.out, HD.out], ?_⟩
      repeat (first | with_reducible exact Adds.refl _ | with_reducible refine Adds.alloc ?_ _ | with_reducible refine Adds.more ?_ _ _ | with_reducible refine Adds.drew ?_ | with_reducible refine Adds.drewN ?_ _)

end Go.Proofs.YtiacnmcdfpmcfaaGreatDoor

namespace Go.Proofs.YtiacnmcdfpmcfaaGreatDoor
open Go.RowKit
attribute [local go_sem] cell?_more frozen?_more setCell_more size_more tape_more drew_more drewN_more more_drew more_drewN one_out plus_out plus_end lt_one le_p2 le_p3 le_p4 le_p5 le_p6 le_p7 le_p8 le_p9 le_p10 le_p11 le_p12 le_p13 le_p14 le_p15 le_p16 le_p17 le_p18 le_p19 le_p20 le_p21 le_p22 le_p23 le_p24 le_q0 le_q1 lt_q1 le_q2 lt_q2 le_q3 lt_q3 le_q4 lt_q4 le_q5 lt_q5 le_q6 lt_q6 le_q7 lt_q7 le_q8 lt_q8 le_q9 lt_q9 le_q10 lt_q10 le_q11 lt_q11 le_q12 lt_q12 le_q13 lt_q13 le_q14 lt_q14 le_q15 lt_q15 le_q16 lt_q16 le_q17 lt_q17 le_q18 lt_q18 le_q19 lt_q19 le_q20 lt_q20 le_q21 lt_q21 le_q22 lt_q22 le_q23 lt_q23 le_q24 lt_q24


theorem abs_mul_le {a b : Int} (hb : b ≠ 0) : (max a (-a) ≤ 9007199254740992 / max b (-b)) ↔ (-9007199254740992 ≤ a * b ∧ a * b ≤ 9007199254740992) := by
  have hb0 : 0 < max b (-b) := by omega
  rw [Int.le_ediv_iff_mul_le hb0]
  have key : max a (-a) * max b (-b) = max (a * b) (-(a * b)) := by
    rcases Int.le_total 0 a with ha | ha <;> rcases Int.le_total 0 b with hb | hb
    · have := Int.mul_nonneg ha hb
      rw [show max a (-a) = a by omega, show max b (-b) = b by omega]
      omega
    · have := Int.mul_nonneg ha (show 0 ≤ -b by omega)
      rw [Int.mul_neg] at this
      rw [show max a (-a) = a by omega, show max b (-b) = -b by omega, Int.mul_neg]
      omega
    · have := Int.mul_nonneg (show 0 ≤ -a by omega) hb
      rw [Int.neg_mul] at this
      rw [show max a (-a) = -a by omega, show max b (-b) = b by omega, Int.neg_mul]
      omega
    · have := Int.mul_nonneg (show 0 ≤ -a by omega) (show 0 ≤ -b by omega)
      rw [Int.neg_mul_neg] at this
      rw [show max a (-a) = -a by omega, show max b (-b) = -b by omega, Int.neg_mul_neg]
      omega
  rw [key]
  omega

set_option maxHeartbeats 1000000 in
theorem times_yes (a b : Int) (ha1 : -9007199254740992 ≤ a) (ha2 : a ≤ 9007199254740992) (hb1 : -9007199254740992 ≤ b) (hb2 : b ≤ 9007199254740992) (h : -9007199254740992 ≤ a * b ∧ a * b ≤ 9007199254740992) (w : World) :
    Calls Tryz.prog 181 #[.int .i64 a, .int .i64 b] w fun e w' => e = .returned (optV (some (V.mkNum (a * b)))) ∧ Adds w w' := by
  have kN := num_any (a * b)
  simp only [optV, Option.getD_some, Option.isSome_some, V.val, V.mkNum]
  by_cases hb : b = 0
  · subst hb
    rw [Int.mul_zero] at *
    go_enter Tryz.func181, Tryz.ntmps181
    go_wp2_with (go_at_call 166; refine (kN _).mono ?_; rintro e w1 ⟨rfl, os1, n1, rfl⟩)
    exact bodyPost_ret (v := .tuple #[.agg #[.int .i64 1, .int .i64 0, .string ⟨#[]⟩, .int .i64 0, .int .i64 0], .bool true]) (by simp [results, Tryz.results181, go_sem]) rfl ⟨rfl, by repeat (first | with_reducible exact Adds.refl _ | with_reducible refine Adds.alloc ?_ _ | with_reducible refine Adds.more ?_ _ _ | with_reducible refine Adds.drew ?_ | with_reducible refine Adds.drewN ?_ _)⟩
  · have HQ : Hid (max a (-a) ≤ 9007199254740992 / max b (-b)) := (abs_mul_le (a := a) hb).2 h
    have hb' : (b != 0) = true := by simpa using hb
    obtain ⟨h1, h2⟩ := h
    go_enter Tryz.func181, Tryz.ntmps181
    go_wp2_with (go_at_call 166; refine (kN _).mono ?_; rintro e w1 ⟨rfl, os1, n1, rfl⟩)
    all_goals first
      | (exfalso
         have h9 := HQ.out
         simp only [show (if b < -b then -b else b) = max b (-b) by split <;> omega, show (if a < -a then -a else a) = max a (-a) by split <;> omega] at *
         first
           | exact absurd h9 (Int.not_le.2 (by assumption))
           | exact absurd h9 (Int.not_lt.2 (by assumption))
           | omega)
      | exact bodyPost_ret (v := .tuple #[.agg #[.int .i64 1, .int .i64 (a * b), .string ⟨#[]⟩, .int .i64 0, .int .i64 0], .bool true]) (by simp [results, Tryz.results181, go_sem]) rfl ⟨rfl, by repeat (first | with_reducible exact Adds.refl _ | with_reducible refine Adds.alloc ?_ _ | with_reducible refine Adds.more ?_ _ _ | with_reducible refine Adds.drew ?_ | with_reducible refine Adds.drewN ?_ _)⟩

set_option maxHeartbeats 1000000 in
theorem times_no (a b : Int) (ha1 : -9007199254740992 ≤ a) (ha2 : a ≤ 9007199254740992) (hb1 : -9007199254740992 ≤ b) (hb2 : b ≤ 9007199254740992) (h : ¬ (-9007199254740992 ≤ a * b ∧ a * b ≤ 9007199254740992)) (w : World) :
    Calls Tryz.prog 181 #[.int .i64 a, .int .i64 b] w fun e w' => e = .returned (optV none) ∧ Adds w w' := by
  have hb : b ≠ 0 := by
    rintro rfl
    rw [Int.mul_zero] at h
    omega
  have kN := fun x => num_any x
  have HQ : Hid (¬ max a (-a) ≤ 9007199254740992 / max b (-b)) := fun hq => h ((abs_mul_le (a := a) hb).1 hq)
  have hb' : (b != 0) = true := by simpa using hb
  clear h
  simp only [optV, Option.getD_none, Option.isSome_none, V.val, vZ]
  go_enter Tryz.func181, Tryz.ntmps181
  go_wp2_with (go_at_call 166; refine (kN _ _).mono ?_; rintro e w1 ⟨rfl, os1, n1, rfl⟩)
  all_goals first
    | (exfalso
       have h9 := HQ.out
       simp only [show (if b < -b then -b else b) = max b (-b) by split <;> omega, show (if a < -a then -a else a) = max a (-a) by split <;> omega] at *
       first
         | exact absurd h9 (Int.not_le.2 (by assumption))
         | exact absurd h9 (Int.not_lt.2 (by assumption))
         | omega)
    | exact bodyPost_ret (v := .tuple #[.agg #[.int .i64 0, .int .i64 0, .string ⟨#[]⟩, .int .i64 0, .int .i64 0], .bool false]) (by simp [results, Tryz.results181, go_sem]) rfl ⟨rfl, by repeat (first | with_reducible exact Adds.refl _ | with_reducible refine Adds.alloc ?_ _ | with_reducible refine Adds.more ?_ _ _ | with_reducible refine Adds.drew ?_ | with_reducible refine Adds.drewN ?_ _)⟩

theorem times_any2 (a b : Int) (ha1 : -9007199254740992 ≤ a) (ha2 : a ≤ 9007199254740992) (hb1 : -9007199254740992 ≤ b) (hb2 : b ≤ 9007199254740992) (w : World) :
    Calls Tryz.prog 181 #[.int .i64 a, .int .i64 b] w fun e w' => e = .returned (optV (timesO a b)) ∧ Adds w w' := by
  unfold timesO
  by_cases h : -9007199254740992 ≤ a * b ∧ a * b ≤ 9007199254740992
  · rw [if_pos h]
    exact times_yes a b ha1 ha2 hb1 hb2 h w
  · rw [if_neg h]
    exact times_no a b ha1 ha2 hb1 hb2 h w

theorem prod_text (u v : V) (h : u.kind = 2 ∨ v.kind = 2) (w : World) :
    Calls Tryz.prog 173 #[u.val, v.val] w fun e w' => e = .returned (optV none) ∧ Adds w w' := by
  obtain ⟨k, n, t, re, im⟩ := u
  obtain ⟨k', n', t', re', im'⟩ := v
  simp only [V.val] at *
  by_cases hk : k = 2
  · subst hk
    clear h
    go_enter Tryz.func173, Tryz.ntmps173
    go_wp2
    exact bodyPost_ret (v := .tuple #[.agg #[.int .i64 0, .int .i64 0, .string ⟨#[]⟩, .int .i64 0, .int .i64 0], .bool false]) (by simp [results, Tryz.results173, go_sem]) rfl ⟨rfl, by repeat (first | with_reducible exact Adds.refl _ | with_reducible refine Adds.alloc ?_ _ | with_reducible refine Adds.more ?_ _ _ | with_reducible refine Adds.drew ?_ | with_reducible refine Adds.drewN ?_ _)⟩
  · have hk' : (k == 2) = false := by simpa using hk
    have h2 : k' = 2 := h.resolve_left hk
    subst h2
    clear h hk
    go_enter Tryz.func173, Tryz.ntmps173
    go_wp2
    exact bodyPost_ret (v := .tuple #[.agg #[.int .i64 0, .int .i64 0, .string ⟨#[]⟩, .int .i64 0, .int .i64 0], .bool false]) (by simp [results, Tryz.results173, go_sem]) rfl ⟨rfl, by repeat (first | with_reducible exact Adds.refl _ | with_reducible refine Adds.alloc ?_ _ | with_reducible refine Adds.more ?_ _ _ | with_reducible refine Adds.drew ?_ | with_reducible refine Adds.drewN ?_ _)⟩

set_option maxHeartbeats 1000000 in
theorem prod_nums (a b : Int) (ha1 : -9007199254740992 ≤ a) (ha2 : a ≤ 9007199254740992) (hb1 : -9007199254740992 ≤ b) (hb2 : b ≤ 9007199254740992) (w : World) :
    Calls Tryz.prog 173 #[(V.mkNum a).val, (V.mkNum b).val] w fun e w' => e = .returned (optV (timesO a b)) ∧ Adds w w' := by
  have kT := times_any2 a b ha1 ha2 hb1 hb2
  generalize timesO a b = o at *
  obtain ⟨⟨k, n, t, re, im⟩, hq⟩ : ∃ q, o.getD vZ = q := ⟨_, rfl⟩
  simp only [optV, hq, V.val, V.mkNum] at *
  generalize o.isSome = q2 at *
  clear hq
  go_enter Tryz.func173, Tryz.ntmps173
  go_wp2_with (go_at_call 181; refine (kT _).mono ?_; rintro e w1 ⟨rfl, os1, n1, rfl⟩)
  exact bodyPost_ret (v := .tuple #[.agg #[.int .i64 k, .int .i64 n, .string t, .int .i64 re, .int .i64 im], .bool q2]) (by simp [results, Tryz.results173, go_sem]) rfl ⟨rfl, by repeat (first | with_reducible exact Adds.refl _ | with_reducible refine Adds.alloc ?_ _ | with_reducible refine Adds.more ?_ _ _ | with_reducible refine Adds.drew ?_ | with_reducible refine Adds.drewN ?_ _)⟩

/-- The product of points, each of them may be or not. -/
def prodP (a b c d : Int) : Option V := if Gs.May a b ∧ Gs.May c d then ptO (a * c - b * d) (a * d + b * c) else none

theorem mulP_any (a b c d : Int) (w : World) :
    Calls Tryz.prog 182 #[Gs.pt a b, Gs.pt c d] w fun e w' => (∃ x y q, e = .returned (.tuple #[Gs.pt x y, .int .i64 q]) ∧ prodP a b c d = if q = 0 then some (V.mkPoint x y) else none) ∧ Adds w w' := by
  unfold prodP ptO
  by_cases h : Gs.May a b ∧ Gs.May c d
  · rw [if_pos h]
    refine (Gs.mul_may a b c d h.1 h.2 w).mono ?_
    rintro e w' ⟨rfl, hA⟩
    by_cases hm : Gs.May (a * c - b * d) (a * d + b * c)
    · rw [if_pos hm, if_pos hm]
      exact ⟨⟨_, _, 0, rfl, by simp⟩, hA⟩
    · rw [if_neg hm, if_neg hm]
      exact ⟨⟨_, _, 3, rfl, by simp⟩, hA⟩
  · rw [if_neg h]
    refine (Gs.mul_arg a b c d h w).mono ?_
    rintro e w' ⟨rfl, hA⟩
    exact ⟨⟨_, _, 1, rfl, by simp⟩, hA⟩

theorem pointOr_any (x y q : Int) (w : World) :
    Calls Tryz.prog 179 #[Gs.pt x y, .int .i64 q] w fun e w' => e = .returned (optV (if q = 0 then some (V.mkPoint x y) else none)) ∧ Adds w w' := by
  by_cases h : q = 0
  · subst h
    rw [if_pos rfl]
    exact pointOr_yes x y w
  · rw [if_neg h]
    exact pointOr_no x y q h w

end Go.Proofs.YtiacnmcdfpmcfaaGreatDoor
