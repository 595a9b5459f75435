/-
  The reference's read of a word.
-/
import Derived.Test.YtiacnmcdfpmcfaaGreatDoorQ35
import Derived.Test.YtiacnmcdfpmcfaaGreatDoorQ36
namespace Go.Proofs.YtiacnmcdfpmcfaaGreatDoor
open Go.RowKit
attribute [local go_sem] cell?_more frozen?_more setCell_more size_more tape_more drew_more drewN_more more_drew more_drewN one_out plus_out plus_end lt_one le_p2 le_p3 le_p4 le_p5 le_p6 le_p7 le_p8 le_p9 le_p10 le_p11 le_p12 le_p13 le_p14 le_p15 le_p16 le_p17 le_p18 le_p19 le_p20 le_p21 le_p22 le_p23 le_p24 le_q0 le_q1 lt_q1 le_q2 lt_q2 le_q3 lt_q3 le_q4 lt_q4 le_q5 lt_q5 le_q6 lt_q6 le_q7 lt_q7 le_q8 lt_q8 le_q9 lt_q9 le_q10 lt_q10 le_q11 lt_q11 le_q12 lt_q12 le_q13 lt_q13 le_q14 lt_q14 le_q15 lt_q15 le_q16 lt_q16 le_q17 lt_q17 le_q18 lt_q18 le_q19 lt_q19 le_q20 lt_q20 le_q21 lt_q21 le_q22 lt_q22 le_q23 lt_q23 le_q24 lt_q24


theorem no_whole {l : List UInt8} (h : (40 : UInt8) ∉ l) : wholeL l = false := by
  cases hw : wholeL l with
  | false => rfl
  | true =>
    obtain ⟨a, rfl⟩ := whole_sound hw
    simp at h

theorem leaf_digs {l : List UInt8} (hd : allDig l = true) (hne : l ≠ []) : leafE l = if l.length > 15 ∨ l.length > 1 ∧ l.head? = some 48 then none else some (.num (numOf l)) := by
  have : digs l = true := by simp [digs, hd, hne]
  rw [leafE, if_pos this]
theorem leaf_word {l : List UInt8} (hd : allDig l = false) : leafE l = if pathL l then some (.path l) else none := by
  have : ¬ digs l = true := by simp [digs, hd]
  rw [leafE, if_neg this]

set_option maxHeartbeats 4000000 in
set_option maxRecDepth 20000 in
theorem reads_word {m : Nat} {l : List UInt8} (hm : m ≤ 300) (hl : l.length ≤ 1000) (hnil : l ≠ []) (h1 : noTop 43 0 l) (h2 : noTop 42 0 l) (hf : (40 : UInt8) ∉ l) (hd : allDig l = false) : Reads (m + 1) l := by
  intro W
  have HI : Hid (∀ e, G .sum l e ↔ (if pathL l then some (.path l) else none) = some e) := by
    intro e
    rw [G_leaf h1 h2 hf, leaf_word hd]
  have hw := no_whole hf
  have kN := fun W => rLast_any (toB l) (by rw [toB_size]; exact hl) 43 W
  rw [toB_toList, lastL_none (by decide) h1] at kN
  have kM := fun W => rLast_any (toB l) (by rw [toB_size]; exact hl) 42 W
  rw [toB_toList, lastL_none (by decide) h2] at kM
  have hn43 : (((43 : UInt8).toNat : Nat) : Int) = 43 := rfl
  have hn42 : (((42 : UInt8).toNat : Nat) : Int) = 42 := rfl
  rw [hn43] at kN
  rw [hn42] at kM
  clear hn43 hn42
  have kW := fun W => rWhole_any (toB l) (by rw [toB_size]; exact hl) W
  rw [toB_toList, hw] at kW
  have hsz : (toB l).size ≤ 1000 := by rw [toB_size]; exact hl
  have he : ((toB l).toList == []) = false := by rw [toB_toList]; simpa using hnil
  have hm1 : ((m + 1 : Nat) : Int) = (m : Int) + 1 := by omega
  rw [hm1]
  have hmz : ((m : Int) + 1 == 0) = false := by simp; omega
  have hsF : l.length = (toB l).size := by rw [toB_size]
  have hne : ∀ j (h : j < (toB l).size), j < l.length → (((toB l)[j].toNat : Int) == 40) = false := by
    intro j h hj
    rw [get_toB h hj]
    have hne : l[j] ≠ 40 := fun e => hf (by rw [← e]; exact List.getElem_mem hj)
    have : l[j].toNat ≠ 40 := fun e => hne (UInt8.toNat_inj.1 (by rw [e]; rfl))
    simp
    omega
  have kP := fun W => rPlain_any (toB l) (by rw [toB_size]; omega) W
  rw [toB_toList, hd] at kP
  have kQ := fun W => refPath_any (toB l) (by rw [toB_size]; omega) W
  rw [isPath_L, toB_toList] at kQ
  have HT : Hid (toB l = toB l) := rfl
  clear h1 h2 hl hm1 hw hf hd hnil
  generalize hS : toB l = S at *
  have HS : Hid (toB l = S) := hS
  clear hS
  generalize hQ : pathL l = qp at *
  clear hQ
  generalize hF : l.length = F at *
  clear hF
  go_enter Tryz.func52, Tryz.ntmps52
  go_wp2_with (first
    | (go_at_call 69; (with_reducible refine (kN _).mono ?_); rintro e w1 ⟨rfl, hw⟩; subst w1)
    | (go_at_call 69; (with_reducible refine (kM _).mono ?_); rintro e w1 ⟨rfl, hw⟩; subst w1)
    | (go_at_call 70; (with_reducible refine (kW _).mono ?_); rintro e w1 ⟨rfl, hw⟩; subst w1))
  go_loopw [12] (fun iv wr => ∃ j : Nat, j ≤ F ∧ iv = .int .i64 j ∧ wr = W.alloc (.cells #[.int .i64 0, .string ⟨#[]⟩, .int .i64 0, .slice none 0 0] 81)) (fun iv _ => F - (intOf iv).toNat)
  case atStart => exact ⟨0, Nat.zero_le _, rfl, rfl⟩
  case round =>
    obtain ⟨j, hj, rfl, rfl⟩ := hrel
    by_cases hlt : j < F
    · have hjs : j < S.size := by omega
      have hjb := hne j hjs hlt
      clear hne
      go_wp2
      go_roundw
      case rel => exact ⟨j + 1, by omega, by go_num, by first | rfl | trivial⟩
      case measure => simp [intOf]; omega
    · have hj' : j = F := by omega
      subst hj'
      clear hne hlt
      go_wp2_with (first
        | (go_at_call 72; (with_reducible refine (kP _).mono ?_); rintro e w1 ⟨rfl, hw⟩; subst w1)
        | (go_at_call 39; (with_reducible refine (kQ _).mono ?_); rintro e w1 ⟨rfl, hw⟩; subst w1))
      refine bodyPost_ret (v := .tuple #[.agg #[.int .i64 1, .string S, .int .i64 0, .slice none 0 0], .bool qp]) (by simp [results, Tryz.results52, go_sem]) rfl ⟨⟨_, _, _, _, _, _, _, rfl, ?_⟩, by repeat (first | with_reducible exact Adds.refl _ | with_reducible refine Adds.alloc ?_ _ | with_reducible refine Adds.more ?_ _ _ | with_reducible refine Adds.drew ?_ | with_reducible refine Adds.drewN ?_ _)⟩
      cases qp with
      | false => exact RT.no (fun e he => by have := (HI.out e).1 he; simp at this)
      | true => exact ⟨fun _ => ⟨.path l, 0, (HI.out _).2 (by simp), rfl, HS.out, rfl, rfl, none, 0, rfl⟩, fun h => by cases h⟩

set_option maxHeartbeats 4000000 in
set_option maxRecDepth 20000 in
theorem reads_num {m : Nat} {l : List UInt8} (hm : m ≤ 300) (hl : l.length ≤ 15) (hnil : l ≠ []) (h1 : noTop 43 0 l) (h2 : noTop 42 0 l) (hf : (40 : UInt8) ∉ l) (hd : allDig l = true) : Reads (m + 1) l := by
  intro W
  have hdig : ∀ c ∈ l, isDig c = true := by simpa [allDig] using hd
  have HI : Hid (∀ e, G .sum l e ↔ (if (toB (digL (numOf l))).toList == (toB l).toList then some (E.num (numOf l)) else none) = some e) := by
    intro e
    rw [G_leaf h1 h2 hf, leaf_digs hd hnil]
    have hi := digL_iff hdig hnil
    by_cases hz : l.length > 1 ∧ l.head? = some 48
    · rw [if_pos (.inr hz)]
      have : ¬ digL (numOf l) = l := fun h => hi.1 h hz
      rw [if_neg (by simpa [toB_toList] using this)]
    · rw [if_neg (fun h => h.elim (fun h => by omega) hz)]
      rw [if_pos (by simpa [toB_toList] using hi.2 hz)]
  have hw := no_whole hf
  have hl15 := hl
  have hl : l.length ≤ 1000 := by omega
  have kN := fun W => rLast_any (toB l) (by rw [toB_size]; exact hl) 43 W
  rw [toB_toList, lastL_none (by decide) h1] at kN
  have kM := fun W => rLast_any (toB l) (by rw [toB_size]; exact hl) 42 W
  rw [toB_toList, lastL_none (by decide) h2] at kM
  have hn43 : (((43 : UInt8).toNat : Nat) : Int) = 43 := rfl
  have hn42 : (((42 : UInt8).toNat : Nat) : Int) = 42 := rfl
  rw [hn43] at kN
  rw [hn42] at kM
  clear hn43 hn42
  have kW := fun W => rWhole_any (toB l) (by rw [toB_size]; exact hl) W
  rw [toB_toList, hw] at kW
  have hsz : (toB l).size ≤ 1000 := by rw [toB_size]; exact hl
  have he : ((toB l).toList == []) = false := by rw [toB_toList]; simpa using hnil
  have hm1 : ((m + 1 : Nat) : Int) = (m : Int) + 1 := by omega
  rw [hm1]
  have hmz : ((m : Int) + 1 == 0) = false := by simp; omega
  have hsF : l.length = (toB l).size := by rw [toB_size]
  have hne : ∀ j (h : j < (toB l).size), j < l.length → (((toB l)[j].toNat : Int) == 40) = false := by
    intro j h hj
    rw [get_toB h hj]
    have hne : l[j] ≠ 40 := fun e => hf (by rw [← e]; exact List.getElem_mem hj)
    have : l[j].toNat ≠ 40 := fun e => hne (UInt8.toNat_inj.1 (by rw [e]; rfl))
    simp
    omega
  have kP := fun W => rPlain_any (toB l) (by rw [toB_size]; omega) W
  rw [toB_toList, hd] at kP
  have HB : Hid (∀ k, numOf (l.take k) < 1000000000000000) := by
    intro k
    have h1 := numOf_lt (l.take k) (fun c hc => hdig c (List.mem_of_mem_take hc)) 0
    have h2 : (l.take k).length ≤ 15 := by rw [List.length_take]; omega
    have h3 : 10 ^ (l.take k).length ≤ 10 ^ 15 := Nat.pow_le_pow_right (by decide) h2
    have h4 : (10 : Nat) ^ 15 = 1000000000000000 := by decide
    unfold numOf
    omega
  have HD : Hid (∀ k (hk : k < (toB l).size), 48 ≤ ((toB l)[k].toNat : Int) ∧ ((toB l)[k].toNat : Int) ≤ 57 ∧ numOf (l.take (k + 1)) = numOf (l.take k) * 10 + ((toB l)[k].toNat - 48)) := by
    intro k hk
    have hk' : k < l.length := by rw [toB_size] at hk; exact hk
    have h1 := hdig l[k] (List.getElem_mem hk')
    rw [get_toB hk hk']
    simp [isDig] at h1
    refine ⟨by omega, by omega, ?_⟩
    rw [List.take_succ_eq_append_getElem hk', numOf_app]
  have HN : Hid (l.take (toB l).size = l) := by
    show _ = _
    rw [toB_size]
    exact List.take_length
  have kG := fun W => rDigits_any 15 (numOf l) (by have := HB.out (toB l).size; rw [HN.out] at this; have h4 : (10 : Nat) ^ 16 = 10000000000000000 := (by decide); rw [h4]; omega) (by omega) W
  clear h1 h2 hl hm1 hw hf hd hnil hdig
  have hs15 : (toB l).size ≤ 15 := by rw [toB_size]; exact hl15
  have hs15' : ((toB l).size : Int) ≤ 15 := by omega
  have hs16 : ∀ k, k < (toB l).size → (k : Int) < 16 := by omega
  generalize hS : toB l = S at *
  clear hS
  generalize toB (digL (numOf l)) = R at *
  generalize hF : l.length = F at *
  clear hF
  go_enter Tryz.func52, Tryz.ntmps52
  go_wp2_with (first
    | (go_at_call 69; (with_reducible refine (kN _).mono ?_); rintro e w1 ⟨rfl, hw⟩; subst w1)
    | (go_at_call 69; (with_reducible refine (kM _).mono ?_); rintro e w1 ⟨rfl, hw⟩; subst w1)
    | (go_at_call 70; (with_reducible refine (kW _).mono ?_); rintro e w1 ⟨rfl, hw⟩; subst w1))
  go_loopw [12] (fun iv wr => ∃ j : Nat, j ≤ F ∧ iv = .int .i64 j ∧ wr = W.alloc (.cells #[.int .i64 0, .string ⟨#[]⟩, .int .i64 0, .slice none 0 0] 81)) (fun iv _ => F - (intOf iv).toNat)
  case atStart => exact ⟨0, Nat.zero_le _, rfl, rfl⟩
  case round =>
    obtain ⟨j, hj, rfl, rfl⟩ := hrel
    by_cases hlt : j < F
    · have hjs : j < S.size := by omega
      have hjb := hne j hjs hlt
      clear hne
      go_wp2
      go_roundw
      case rel => exact ⟨j + 1, by omega, by go_num, by first | rfl | trivial⟩
      case measure => simp [intOf]; omega
    · have hj' : j = F := by omega
      subst hj'
      clear hne hlt
      go_wp2_with (first
        | (go_at_call 72; (with_reducible refine (kP _).mono ?_); rintro e w1 ⟨rfl, hw⟩; subst w1))
      go_loopw [15, 16] (fun nv iv wr => ∃ k : Nat, k ≤ S.size ∧ iv = .int .i64 k ∧ nv = .int .i64 (numOf (l.take k) : Int) ∧ wr = W.alloc (.cells #[.int .i64 0, .string ⟨#[]⟩, .int .i64 0, .slice none 0 0] 81)) (fun _ iv _ => S.size - (intOf iv).toNat)
      case atStart => exact ⟨0, Nat.zero_le _, rfl, by simp [numOf], rfl⟩
      case round =>
        obtain ⟨k, hk, rfl, rfl, rfl⟩ := hrel
        by_cases hlt : k < S.size
        · obtain ⟨d1, d2, d3⟩ := HD.out k hlt
          have b1 := HB.out k
          have b16 := hs16 k hlt
          have H3 : Hid _ := d3
          clear d3 HD hs16 kG
          generalize numOf (l.take k) = nn at *
          have hsub : IntKind.u8.wrap ((S[k].toNat : Int) - 48) = (S[k].toNat : Int) - 48 := by
            rw [IntKind.wrap_u8]
            omega
          go_wp2
          go_roundw
          case rel =>
            refine ⟨k + 1, by omega, by go_num, ?_, by first | rfl | trivial⟩
            rw [H3.out]
            congr 1
            omega
          case measure => simp [intOf]; omega
        · have hk' : k = S.size := by omega
          subst hk'
          rw [HN.out]
          clear HD HB HN hs16
          generalize numOf l = nn at *
          go_wp2_with (first
            | (go_at_call 73; (with_reducible refine (kG _).mono ?_); rintro e w1 ⟨rfl, os2, d2, rfl⟩))
          refine bodyPost_ret (v := .tuple #[.agg #[.int .i64 2, .string ⟨#[]⟩, .int .i64 (nn : Int), .slice none 0 0], .bool (R.toList == S.toList)]) (by simp [results, Tryz.results52, go_sem]) rfl ⟨⟨_, _, _, _, _, _, _, rfl, ?_⟩, by repeat (first | with_reducible exact Adds.refl _ | with_reducible refine Adds.alloc ?_ _ | with_reducible refine Adds.more ?_ _ _ | with_reducible refine Adds.drew ?_ | with_reducible refine Adds.drewN ?_ _)⟩
          refine ⟨fun hq => ⟨.num nn, 0, (HI.out _).2 (by rw [hq]; rfl), rfl, rfl, rfl, rfl, none, 0, rfl⟩, fun hq e he => ?_⟩
          have := (HI.out e).1 he
          rw [hq] at this
          simp at this

set_option maxHeartbeats 4000000 in
set_option maxRecDepth 20000 in
theorem reads_long {m : Nat} {l : List UInt8} (hm : m ≤ 300) (hl : l.length ≤ 1000) (hl16 : 16 ≤ l.length) (h1 : noTop 43 0 l) (h2 : noTop 42 0 l) (hf : (40 : UInt8) ∉ l) (hd : allDig l = true) : Reads (m + 1) l := by
  intro W
  have hnil : l ≠ [] := by rintro rfl; simp at hl16
  have hdig : ∀ c ∈ l, isDig c = true := by simpa [allDig] using hd
  have HI : Hid (∀ e, ¬ G .sum l e) := by
    intro e
    rw [G_leaf h1 h2 hf, leaf_digs hd hnil, if_pos (.inl (by omega))]
    intro h
    cases h
  have hw := no_whole hf
  have kN := fun W => rLast_any (toB l) (by rw [toB_size]; exact hl) 43 W
  rw [toB_toList, lastL_none (by decide) h1] at kN
  have kM := fun W => rLast_any (toB l) (by rw [toB_size]; exact hl) 42 W
  rw [toB_toList, lastL_none (by decide) h2] at kM
  have hn43 : (((43 : UInt8).toNat : Nat) : Int) = 43 := rfl
  have hn42 : (((42 : UInt8).toNat : Nat) : Int) = 42 := rfl
  rw [hn43] at kN
  rw [hn42] at kM
  clear hn43 hn42
  have kW := fun W => rWhole_any (toB l) (by rw [toB_size]; exact hl) W
  rw [toB_toList, hw] at kW
  have hsz : (toB l).size ≤ 1000 := by rw [toB_size]; exact hl
  have he : ((toB l).toList == []) = false := by rw [toB_toList]; simpa using hnil
  have hm1 : ((m + 1 : Nat) : Int) = (m : Int) + 1 := by omega
  rw [hm1]
  have hmz : ((m : Int) + 1 == 0) = false := by simp; omega
  have hsF : l.length = (toB l).size := by rw [toB_size]
  have hne : ∀ j (h : j < (toB l).size), j < l.length → (((toB l)[j].toNat : Int) == 40) = false := by
    intro j h hj
    rw [get_toB h hj]
    have hne : l[j] ≠ 40 := fun e => hf (by rw [← e]; exact List.getElem_mem hj)
    have : l[j].toNat ≠ 40 := fun e => hne (UInt8.toNat_inj.1 (by rw [e]; rfl))
    simp
    omega
  have kP := fun W => rPlain_any (toB l) (by rw [toB_size]; omega) W
  rw [toB_toList, hd] at kP
  have HB : Hid (∀ k, k ≤ 16 → numOf (l.take k) < 10000000000000000) := by
    intro k hk
    have h1 := numOf_lt (l.take k) (fun c hc => hdig c (List.mem_of_mem_take hc)) 0
    have h2 : (l.take k).length ≤ 16 := by rw [List.length_take]; omega
    have h3 : 10 ^ (l.take k).length ≤ 10 ^ 16 := Nat.pow_le_pow_right (by decide) h2
    have h4 : (10 : Nat) ^ 16 = 10000000000000000 := by decide
    unfold numOf
    omega
  have HD : Hid (∀ k (hk : k < (toB l).size), 48 ≤ ((toB l)[k].toNat : Int) ∧ ((toB l)[k].toNat : Int) ≤ 57 ∧ numOf (l.take (k + 1)) = numOf (l.take k) * 10 + ((toB l)[k].toNat - 48)) := by
    intro k hk
    have hk' : k < l.length := by rw [toB_size] at hk; exact hk
    have h1 := hdig l[k] (List.getElem_mem hk')
    rw [get_toB hk hk']
    simp [isDig] at h1
    refine ⟨by omega, by omega, ?_⟩
    rw [List.take_succ_eq_append_getElem hk', numOf_app]
  have hs15 : 16 ≤ (toB l).size := by rw [toB_size]; exact hl16
  have hs15' : ¬ ((toB l).size : Int) ≤ 15 := by omega
  clear h1 h2 hl hm1 hw hf hd hnil hdig hl16
  generalize hS : toB l = S at *
  clear hS
  generalize hF : l.length = F at *
  clear hF
  go_enter Tryz.func52, Tryz.ntmps52
  go_wp2_with (first
    | (go_at_call 69; (with_reducible refine (kN _).mono ?_); rintro e w1 ⟨rfl, hw⟩; subst w1)
    | (go_at_call 69; (with_reducible refine (kM _).mono ?_); rintro e w1 ⟨rfl, hw⟩; subst w1)
    | (go_at_call 70; (with_reducible refine (kW _).mono ?_); rintro e w1 ⟨rfl, hw⟩; subst w1))
  go_loopw [12] (fun iv wr => ∃ j : Nat, j ≤ F ∧ iv = .int .i64 j ∧ wr = W.alloc (.cells #[.int .i64 0, .string ⟨#[]⟩, .int .i64 0, .slice none 0 0] 81)) (fun iv _ => F - (intOf iv).toNat)
  case atStart => exact ⟨0, Nat.zero_le _, rfl, rfl⟩
  case round =>
    obtain ⟨j, hj, rfl, rfl⟩ := hrel
    by_cases hlt : j < F
    · have hjs : j < S.size := by omega
      have hjb := hne j hjs hlt
      clear hne
      go_wp2
      go_roundw
      case rel => exact ⟨j + 1, by omega, by go_num, by first | rfl | trivial⟩
      case measure => simp [intOf]; omega
    · have hj' : j = F := by omega
      subst hj'
      clear hne hlt
      go_wp2_with (first
        | (go_at_call 72; (with_reducible refine (kP _).mono ?_); rintro e w1 ⟨rfl, hw⟩; subst w1))
      go_loopw [15, 16] (fun nv iv wr => ∃ k : Nat, k ≤ 16 ∧ iv = .int .i64 k ∧ nv = .int .i64 (numOf (l.take k) : Int) ∧ wr = W.alloc (.cells #[.int .i64 0, .string ⟨#[]⟩, .int .i64 0, .slice none 0 0] 81)) (fun _ iv _ => 16 - (intOf iv).toNat)
      case atStart => exact ⟨0, Nat.zero_le _, rfl, by simp [numOf], rfl⟩
      case round =>
        obtain ⟨k, hk, rfl, rfl, rfl⟩ := hrel
        by_cases hlt : k < 16
        · have hks : k < S.size := by omega
          obtain ⟨d1, d2, d3⟩ := HD.out k hks
          have b1 := HB.out k hk
          have b16 : (k : Int) < 16 := by omega
          have H3 : Hid _ := d3
          clear d3 HD
          generalize numOf (l.take k) = nn at *
          have hsub : IntKind.u8.wrap ((S[k].toNat : Int) - 48) = (S[k].toNat : Int) - 48 := by
            rw [IntKind.wrap_u8]
            omega
          go_wp2
          go_roundw
          case rel =>
            refine ⟨k + 1, by omega, by go_num, ?_, by first | rfl | trivial⟩
            rw [H3.out]
            congr 1
            omega
          case measure => simp [intOf]; omega
        · have hk' : k = 16 := by omega
          subst hk'
          clear HD HB
          generalize numOf (l.take 16) = nn at *
          by_cases h16 : (16 : Int) < (S.size : Int)
          · go_wp2
            refine bodyPost_ret (v := .tuple #[.agg #[.int .i64 2, .string ⟨#[]⟩, .int .i64 (nn : Int), .slice none 0 0], .bool false]) (by simp [results, Tryz.results52, go_sem]) rfl ⟨⟨_, _, _, _, _, _, .inl ⟨rfl, RT.no HI.out⟩⟩, by repeat (first | with_reducible exact Adds.refl _ | with_reducible refine Adds.alloc ?_ _ | with_reducible refine Adds.more ?_ _ _ | with_reducible refine Adds.drew ?_ | with_reducible refine Adds.drewN ?_ _)⟩
          · go_wp2
            refine bodyPost_ret (v := .tuple #[.agg #[.int .i64 2, .string ⟨#[]⟩, .int .i64 (nn : Int), .slice none 0 0], .bool false]) (by simp [results, Tryz.results52, go_sem]) rfl ⟨⟨_, _, _, _, _, _, .inl ⟨rfl, RT.no HI.out⟩⟩, by repeat (first | with_reducible exact Adds.refl _ | with_reducible refine Adds.alloc ?_ _ | with_reducible refine Adds.more ?_ _ _ | with_reducible refine Adds.drew ?_ | with_reducible refine Adds.drewN ?_ _)⟩

end Go.Proofs.YtiacnmcdfpmcfaaGreatDoor
