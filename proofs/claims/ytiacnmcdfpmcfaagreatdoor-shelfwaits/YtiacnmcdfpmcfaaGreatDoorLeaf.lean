/-
  The function leaf, by a contract.
-/
import Derived.Test.YtiacnmcdfpmcfaaGreatDoorNode
namespace Go.Proofs.YtiacnmcdfpmcfaaGreatDoor
open Go.RowKit
attribute [local go_sem] cell?_more frozen?_more setCell_more size_more tape_more drew_more drewN_more more_drew more_drewN one_out plus_out plus_end lt_one le_p2 le_p3 le_p4 le_p5 le_p6 le_p7 le_p8 le_p9 le_p10 le_p11 le_p12 le_p13 le_p14 le_p15 le_p16 le_p17 le_p18 le_p19 le_p20 le_p21 le_p22 le_p23 le_p24 le_q0 le_q1 lt_q1 le_q2 lt_q2 le_q3 lt_q3 le_q4 lt_q4 le_q5 lt_q5 le_q6 lt_q6 le_q7 lt_q7 le_q8 lt_q8 le_q9 lt_q9 le_q10 lt_q10 le_q11 lt_q11 le_q12 lt_q12 le_q13 lt_q13 le_q14 lt_q14 le_q15 lt_q15 le_q16 lt_q16 le_q17 lt_q17 le_q18 lt_q18 le_q19 lt_q19 le_q20 lt_q20 le_q21 lt_q21 le_q22 lt_q22 le_q23 lt_q23 le_q24 lt_q24


theorem numOf_snoc (l : List UInt8) (c : UInt8) : numOf (l ++ [c]) = numOf l * 10 + (c.toNat - 48) := by
  simp [numOf, List.foldl_append]

theorem head_get (s : ByteArray) (h : 0 < s.size) : s.toList.head? = some s[0] := by
  rw [List.head?_eq_getElem?, List.getElem?_eq_getElem (by rw [toList_length]; exact h), toList_get]

set_option maxHeartbeats 2000000 in
theorem leaf_num (s : ByteArray) (w : World) (hd : digs s.toList = true) (hl : ¬ (s.toList.length > 15 ∨ s.toList.length > 1 ∧ s.toList.head? = some 48)) :
    Calls Tryz.prog 91 #[.string s] w fun e w' => e = .returned (.tuple #[.agg #[.int .i64 2, .string ⟨#[]⟩, .int .i64 (numOf s.toList : Int), .slice none 0 0], .bool true]) ∧ Adds w w' := by
  have h15 : s.size ≤ 15 := by rw [toList_length] at hl; omega
  have kD := allDig_any s (by omega)
  rw [hd] at kD
  have hdig : ∀ c ∈ s.toList, isDig c = true := by
    simp only [digs, allDig, Bool.and_eq_true, List.all_eq_true] at hd
    exact hd.1
  have hne : 0 < s.size := by
    rw [← toList_length]
    cases h : s.toList with
    | nil => rw [h] at hd; simp [digs] at hd
    | cons _ _ => simp
  have h0 : 1 < s.size → ¬ (s[0].toNat : Int) = 48 := by
    intro h1 h2
    refine hl (.inr ⟨by rw [toList_length]; exact h1, ?_⟩)
    rw [head_get s hne]
    congr 1
    exact UInt8.toNat_inj.1 (by simpa using (by omega : s[0].toNat = 48))
  have HB : Hid (∀ k, k ≤ s.size → numOf (s.toList.take k) < 1000000000000000) := by
    intro k hk
    have h1 := numOf_lt (s.toList.take k) (fun c hc => hdig c (List.mem_of_mem_take hc)) 0
    have h2 : (s.toList.take k).length ≤ 15 := by rw [List.length_take, toList_length]; omega
    have h3 : 10 ^ (s.toList.take k).length ≤ 10 ^ 15 := Nat.pow_le_pow_right (by decide) h2
    have h4 : (10 : Nat) ^ 15 = 1000000000000000 := by decide
    unfold numOf
    omega
  have HD : Hid (∀ k (hk : k < s.size), 48 ≤ (s[k].toNat : Int) ∧ (s[k].toNat : Int) ≤ 57 ∧ numOf (s.toList.take (k + 1)) = numOf (s.toList.take k) * 10 + (s[k].toNat - 48)) := by
    intro k hk
    have hk' : k < s.toList.length := by rw [toList_length]; exact hk
    have h1 := hdig s.toList[k] (List.getElem_mem hk')
    rw [toList_get] at h1
    simp [isDig] at h1
    refine ⟨by omega, by omega, ?_⟩
    rw [List.take_succ_eq_append_getElem hk', toList_get, numOf_snoc]
  clear hd hl hdig
  by_cases h1 : 1 < s.size
  all_goals
    go_enter Tryz.func91, Tryz.ntmps91
    (first | have h0' : ((s[0].toNat : Int) == 48) = false := by simpa using h0 h1 | skip)
    clear h0
    go_wp2_with (go_at_call 120; refine (kD _).mono ?_; rintro e w1 ⟨rfl, hw⟩; subst w1)
    go_loopw [4, 5] (fun nv iv wr => ∃ k : Nat, k ≤ s.size ∧ iv = .int .i64 k ∧ nv = .int .i64 (numOf (s.toList.take k) : Int) ∧ wr = w.alloc (.cells #[.int .i64 0, .string ⟨#[]⟩, .int .i64 0, .slice none 0 0] 81)) (fun _ iv _ => s.size - (intOf iv).toNat)
    case atStart => exact ⟨0, Nat.zero_le _, rfl, by simp [numOf], rfl⟩
    case round =>
      obtain ⟨k, hk, rfl, rfl, rfl⟩ := hrel
      by_cases hlt : k < s.size
      · obtain ⟨d1, d2, d3⟩ := HD.out k hlt
        have b1 := HB.out k hk
        have H3 : Hid _ := d3
        clear d3
        generalize numOf (s.toList.take k) = m at *
        have hsub : IntKind.u8.wrap ((s[k].toNat : Int) - 48) = (s[k].toNat : Int) - 48 := by
          rw [IntKind.wrap_u8]
          omega
        go_wp2
        go_roundw
        case rel =>
          refine ⟨k + 1, by omega, by go_num, ?_, by first | rfl | trivial⟩
          rw [H3.out]
          congr 1
          omega
        case measure => simp [intOf]; omega
      · have hk' : k = s.size := by omega
        subst hk'
        have e1 : s.toList.take s.size = s.toList := by rw [← toList_length, List.take_length]
        rw [e1]
        go_wp2
        refine bodyPost_ret (v := .tuple #[.agg #[.int .i64 2, .string ⟨#[]⟩, .int .i64 (numOf s.toList : Int), .slice none 0 0], .bool true]) (by simp [results, Tryz.results91, go_sem]) rfl ⟨rfl, ?_⟩
        repeat (first | with_reducible exact Adds.refl _ | with_reducible refine Adds.alloc ?_ _ | with_reducible refine Adds.more ?_ _ _ | with_reducible refine Adds.drew ?_ | with_reducible refine Adds.drewN ?_ _)

set_option maxHeartbeats 2000000 in
theorem leaf_bad (s : ByteArray) (hs : s.size ≤ 9223372036854775807) (w : World) (hd : digs s.toList = true) (hl : s.toList.length > 15 ∨ s.toList.length > 1 ∧ s.toList.head? = some 48) :
    Calls Tryz.prog 91 #[.string s] w fun e w' => e = .returned (.tuple #[.agg #[.int .i64 0, .string ⟨#[]⟩, .int .i64 0, .slice none 0 0], .bool false]) ∧ Adds w w' := by
  have kD := allDig_any s hs
  rw [hd] at kD
  rw [toList_length] at hl
  by_cases h15 : s.size > 15
  · have h15' : (15 : Int) < (s.size : Int) := by omega
    clear hl hd
    go_enter Tryz.func91, Tryz.ntmps91
    go_wp2_with (go_at_call 120; refine (kD _).mono ?_; rintro e w1 ⟨rfl, hw⟩; subst w1)
    refine bodyPost_ret (v := .tuple #[.agg #[.int .i64 0, .string ⟨#[]⟩, .int .i64 0, .slice none 0 0], .bool false]) (by simp [results, Tryz.results91, go_sem]) rfl ⟨rfl, ?_⟩
    repeat (first | with_reducible exact Adds.refl _ | with_reducible refine Adds.alloc ?_ _ | with_reducible refine Adds.more ?_ _ _ | with_reducible refine Adds.drew ?_ | with_reducible refine Adds.drewN ?_ _)
  · obtain ⟨h1, h2⟩ : s.size > 1 ∧ s.toList.head? = some 48 := by
      rcases hl with h | h
      · exact absurd h h15
      · exact h
    have h3 : (s[0].toNat : Int) = 48 := by
      rw [head_get s (by omega)] at h2
      simp only [Option.some.injEq] at h2
      rw [h2]
      rfl
    have h15' : ¬ (15 : Int) < (s.size : Int) := by omega
    have h1' : (1 : Int) < (s.size : Int) := by omega
    clear hl hd h2
    go_enter Tryz.func91, Tryz.ntmps91
    go_wp2_with (go_at_call 120; refine (kD _).mono ?_; rintro e w1 ⟨rfl, hw⟩; subst w1)
    refine bodyPost_ret (v := .tuple #[.agg #[.int .i64 0, .string ⟨#[]⟩, .int .i64 0, .slice none 0 0], .bool false]) (by simp [results, Tryz.results91, go_sem]) rfl ⟨rfl, ?_⟩
    repeat (first | with_reducible exact Adds.refl _ | with_reducible refine Adds.alloc ?_ _ | with_reducible refine Adds.more ?_ _ _ | with_reducible refine Adds.drew ?_ | with_reducible refine Adds.drewN ?_ _)

theorem leaf_path (s : ByteArray) (hs : s.size ≤ 9223372036854775807) (w : World) (hd : digs s.toList = false) :
    Calls Tryz.prog 91 #[.string s] w fun e w' => e = .returned (.tuple #[.agg #[.int .i64 1, .string s, .int .i64 0, .slice none 0 0], .bool (pathL s.toList)]) ∧ Adds w w' := by
  have kD := allDig_any s hs
  have kP := path_any s
  rw [hd] at kD
  rw [isPath_L] at kP
  clear hd
  generalize pathL s.toList = q at *
  go_enter Tryz.func91, Tryz.ntmps91
  go_wp2_with (first
    | (go_at_call 120; refine (kD _).mono ?_; rintro e w1 ⟨rfl, hw⟩; subst w1)
    | (go_at_call 121; refine (kP _).mono ?_; rintro e w1 ⟨rfl, hw⟩; subst w1))
  refine bodyPost_ret (v := .tuple #[.agg #[.int .i64 1, .string s, .int .i64 0, .slice none 0 0], .bool q]) (by simp [results, Tryz.results91, go_sem]) rfl ⟨rfl, ?_⟩
  repeat (first | with_reducible exact Adds.refl _ | with_reducible refine Adds.alloc ?_ _ | with_reducible refine Adds.more ?_ _ _ | with_reducible refine Adds.drew ?_ | with_reducible refine Adds.drewN ?_ _)

/-- What leaf tells of a word. -/
theorem leaf_any (l : List UInt8) (hl : l.length ≤ 1000) (w : World) :
    Calls Tryz.prog 91 #[.string (toB l)] w fun e w' => (∃ (n : N) (q : Bool), e = .returned (.tuple #[nodeV n (.slice none 0 0), .bool q]) ∧ q = (leafE l).isSome ∧ (∀ x, leafE l = some x → n = x.toN ∧ x.toN.args = [])) ∧ Adds w w' := by
  have hs : (toB l).size ≤ 9223372036854775807 := by rw [toB_size]; omega
  have h0 : (toB l).toList = l := toB_toList l
  cases hd : digs l with
  | true =>
    by_cases hb : l.length > 15 ∨ l.length > 1 ∧ l.head? = some 48
    · refine (leaf_bad (toB l) hs w (by rw [h0]; exact hd) (by rw [h0]; exact hb)).mono ?_
      rintro e w' ⟨rfl, hA⟩
      have hL : leafE l = none := by rw [leafE, if_pos hd, if_pos hb]
      exact ⟨⟨N.zero, false, rfl, by rw [hL]; rfl, by rw [hL]; intro x h; cases h⟩, hA⟩
    · refine (leaf_num (toB l) w (by rw [h0]; exact hd) (by rw [h0]; exact hb)).mono ?_
      rintro e w' ⟨rfl, hA⟩
      have hL : leafE l = some (.num (numOf l)) := by rw [leafE, if_pos hd, if_neg hb]
      rw [h0]
      exact ⟨⟨.mk 2 ⟨#[]⟩ (numOf l) [], true, rfl, by rw [hL]; rfl, by rw [hL]; intro x h; cases h; exact ⟨rfl, rfl⟩⟩, hA⟩
  | false =>
    refine (leaf_path (toB l) hs w (by rw [h0]; exact hd)).mono ?_
    rintro e w' ⟨rfl, hA⟩
    rw [h0]
    refine ⟨⟨.mk 1 (toB l) 0 [], pathL l, rfl, ?_, ?_⟩, hA⟩
    · unfold leafE
      rw [if_neg (by rw [hd]; simp)]
      cases pathL l <;> simp
    · intro x hx
      unfold leafE at hx
      rw [if_neg (by rw [hd]; simp)] at hx
      split at hx
      · cases hx
        exact ⟨rfl, rfl⟩
      · cases hx

end Go.Proofs.YtiacnmcdfpmcfaaGreatDoor
