/-
  The reference's read of any text.
  Both sides' Parse, by contracts.
-/
import Derived.Test.YtiacnmcdfpmcfaaGreatDoorQ35
import Derived.Test.YtiacnmcdfpmcfaaGreatDoorQ36
import Derived.Test.YtiacnmcdfpmcfaaGreatDoorRlf
import Derived.Test.YtiacnmcdfpmcfaaGreatDoorQ33
namespace Go.Proofs.YtiacnmcdfpmcfaaGreatDoor
open Go.RowKit
attribute [local go_sem] cell?_more frozen?_more setCell_more size_more tape_more drew_more drewN_more more_drew more_drewN one_out plus_out plus_end lt_one le_p2 le_p3 le_p4 le_p5 le_p6 le_p7 le_p8 le_p9 le_p10 le_p11 le_p12 le_p13 le_p14 le_p15 le_p16 le_p17 le_p18 le_p19 le_p20 le_p21 le_p22 le_p23 le_p24 le_q0 le_q1 lt_q1 le_q2 lt_q2 le_q3 lt_q3 le_q4 lt_q4 le_q5 lt_q5 le_q6 lt_q6 le_q7 lt_q7 le_q8 lt_q8 le_q9 lt_q9 le_q10 lt_q10 le_q11 lt_q11 le_q12 lt_q12 le_q13 lt_q13 le_q14 lt_q14 le_q15 lt_q15 le_q16 lt_q16 le_q17 lt_q17 le_q18 lt_q18 le_q19 lt_q19 le_q20 lt_q20 le_q21 lt_q21 le_q22 lt_q22 le_q23 lt_q23 le_q24 lt_q24


theorem first_of {l : List UInt8} (h : (40 : UInt8) ∈ l) : ∃ f t, l = f ++ 40 :: t ∧ (40 : UInt8) ∉ f := by
  induction l with
  | nil => cases h
  | cons x r ih =>
    by_cases hx : x = 40
    · subst hx
      exact ⟨[], r, rfl, by simp⟩
    · obtain ⟨f, t, rfl, hf⟩ := ih (by simpa [Ne.symm hx] using h)
      exact ⟨x :: f, t, rfl, by simp [Ne.symm hx, hf]⟩

set_option maxHeartbeats 2000000 in
set_option maxRecDepth 20000 in
theorem reads_nil {m : Nat} : Reads (m + 1) [] := by
  intro W
  have HI : Hid (∀ e, ¬ G .sum [] e) := fun e he => he.ne rfl
  have hm1 : ((m + 1 : Nat) : Int) = (m : Int) + 1 := by omega
  rw [hm1]
  have e0 : toB [] = ⟨#[]⟩ := rfl
  rw [e0]
  clear hm1 e0
  go_enter Tryz.func52, Tryz.ntmps52
  go_wp2
  refine bodyPost_ret (v := .tuple #[.agg #[.int .i64 0, .string ⟨#[]⟩, .int .i64 0, .slice none 0 0], .bool false]) (by simp [results, Tryz.results52, go_sem]) rfl ⟨⟨_, _, _, _, _, _, _, rfl, RT.no HI.out⟩, by repeat (first | with_reducible exact Adds.refl _ | with_reducible refine Adds.alloc ?_ _ | with_reducible refine Adds.more ?_ _ _ | with_reducible refine Adds.drew ?_ | with_reducible refine Adds.drewN ?_ _)⟩

/-- The reference's read, of any text that is no longer than it may go down. -/
theorem reads_any : ∀ (m : Nat), m ≤ 300 → ∀ l : List UInt8, l.length ≤ m → Reads (m + 1) l := by
  intro m
  induction m with
  | zero =>
    intro _ l hl
    have : l = [] := List.length_eq_zero_iff.1 (by omega)
    subst this
    exact reads_nil
  | succ m ih =>
    intro hm l hl
    have ih' := fun l' h => ih (by omega) l' h
    by_cases hnil : l = []
    · subst hnil
      exact reads_nil
    by_cases h1 : noTop 43 0 l
    · by_cases h2 : noTop 42 0 l
      · by_cases h40 : (40 : UInt8) ∈ l
        · cases hw : wholeL l with
          | true =>
            obtain ⟨a, rfl⟩ := whole_sound hw
            exact reads_paren hm (by omega) h1 h2 hw (ih' a (by simp at hl; omega))
          | false =>
            obtain ⟨f, t, rfl, hf⟩ := first_of h40
            by_cases hn : isName f = true ∧ wholeL (40 :: t) = true
            · obtain ⟨a, ha⟩ := whole_sound hn.2
              simp only [List.cons.injEq, true_and] at ha
              subst ha
              exact reads_call hm (by omega) h1 h2 hf hw hn.1 hn.2 (ih' a (by simp at hl; omega))
            · refine reads_none hm (by omega) h1 h2 hf hw (fun h => ?_)
              cases hq : wholeL (40 :: t) with
              | false => rfl
              | true => exact absurd ⟨h, hq⟩ hn
        · cases hd : allDig l with
          | false => exact reads_word hm (by omega) hnil h1 h2 h40 hd
          | true =>
            by_cases h15 : l.length ≤ 15
            · exact reads_num hm h15 hnil h1 h2 h40 hd
            · exact reads_long hm (by omega) (by omega) h1 h2 h40 hd
      · obtain ⟨p, q, rfl, hp, hq⟩ := ex_last (by decide) l 0 h2
        have hp : op p = 0 := by omega
        exact reads_star hm (by omega) h1 hp hq (ih' p (by simp at hl; omega)) (ih' q (by simp at hl; omega))
    · obtain ⟨p, q, rfl, hp, hq⟩ := ex_last (by decide) l 0 h1
      have hp : op p = 0 := by omega
      exact reads_plus hm (by omega) hp hq (ih' p (by simp at hl; omega)) (ih' q (by simp at hl; omega))

end Go.Proofs.YtiacnmcdfpmcfaaGreatDoor

namespace Go.Proofs.YtiacnmcdfpmcfaaGreatDoor
open Go.RowKit
attribute [local go_sem] cell?_more frozen?_more setCell_more size_more tape_more drew_more drewN_more more_drew more_drewN one_out plus_out plus_end lt_one le_p2 le_p3 le_p4 le_p5 le_p6 le_p7 le_p8 le_p9 le_p10 le_p11 le_p12 le_p13 le_p14 le_p15 le_p16 le_p17 le_p18 le_p19 le_p20 le_p21 le_p22 le_p23 le_p24 le_q0 le_q1 lt_q1 le_q2 lt_q2 le_q3 lt_q3 le_q4 lt_q4 le_q5 lt_q5 le_q6 lt_q6 le_q7 lt_q7 le_q8 lt_q8 le_q9 lt_q9 le_q10 lt_q10 le_q11 lt_q11 le_q12 lt_q12 le_q13 lt_q13 le_q14 lt_q14 le_q15 lt_q15 le_q16 lt_q16 le_q17 lt_q17 le_q18 lt_q18 le_q19 lt_q19 le_q20 lt_q20 le_q21 lt_q21 le_q22 lt_q22 le_q23 lt_q23 le_q24 lt_q24


theorem parse_long (s0 : ByteArray) (hs : 256 < s0.size) (w : World) : Calls Tryz.prog 48 #[.string s0] w fun e w' => e = .returned (.tuple #[.agg #[.int .i64 0, .string ⟨#[]⟩, .int .i64 0, .slice none 0 0], .int .i64 3]) ∧ Adds w w' := by
  have hs' : (256 : Int) < (s0.size : Int) := by omega
  go_enter Tryz.func48, Tryz.ntmps48
  go_wp2
  exact bodyPost_ret (v := .tuple #[.agg #[.int .i64 0, .string ⟨#[]⟩, .int .i64 0, .slice none 0 0], .int .i64 3]) (by simp [results, Tryz.results48, go_sem]) rfl ⟨rfl, by repeat (first | with_reducible exact Adds.refl _ | with_reducible refine Adds.alloc ?_ _ | with_reducible refine Adds.more ?_ _ _ | with_reducible refine Adds.drew ?_ | with_reducible refine Adds.drewN ?_ _)⟩

theorem rparse_long (s0 : ByteArray) (hs : 256 < s0.size) (w : World) : Calls Tryz.prog 38 #[.string s0] w fun e w' => e = .returned (.tuple #[.agg #[.int .i64 0, .string ⟨#[]⟩, .int .i64 0, .slice none 0 0], .int .i64 3]) ∧ Adds w w' := by
  have hs' : (256 : Int) < (s0.size : Int) := by omega
  go_enter Tryz.func38, Tryz.ntmps38
  go_wp2
  exact bodyPost_ret (v := .tuple #[.agg #[.int .i64 0, .string ⟨#[]⟩, .int .i64 0, .slice none 0 0], .int .i64 3]) (by simp [results, Tryz.results38, go_sem]) rfl ⟨rfl, by repeat (first | with_reducible exact Adds.refl _ | with_reducible refine Adds.alloc ?_ _ | with_reducible refine Adds.more ?_ _ _ | with_reducible refine Adds.drew ?_ | with_reducible refine Adds.drewN ?_ _)⟩

set_option maxHeartbeats 2000000 in
theorem parse_bad (s0 : ByteArray) (hs : s0.size ≤ 256) (hG : ∀ x, ¬ G .sum s0.toList x) (w : World) : Calls Tryz.prog 48 #[.string s0] w fun e w' => e = .returned (.tuple #[.agg #[.int .i64 0, .string ⟨#[]⟩, .int .i64 0, .slice none 0 0], .int .i64 5]) ∧ Adds w w' := by
  have hM : M s0.toList [] Fr.none none = none := by
    cases h : M s0.toList [] Fr.none none with
    | none => rfl
    | some x => exact absurd ((M_is _ _).1 h) (hG x)
  have kR : ∀ W, Calls Tryz.prog 65 #[.string s0] W fun e w' => e = .returned (.tuple #[.agg #[.int .i64 0, .string ⟨#[]⟩, .int .i64 0, .slice none 0 0], .bool false]) ∧ Adds W w' := by
    intro W
    refine (read_any s0 hs W).mono ?_
    rintro e w' (⟨y, sr, D, h1, _⟩ | ⟨_, rfl, hA⟩)
    · rw [hM] at h1
      cases h1
    · exact ⟨rfl, hA⟩
  have hs' : ¬ (256 : Int) < (s0.size : Int) := by omega
  clear hM hG
  go_enter Tryz.func48, Tryz.ntmps48
  go_wp2_with (first
    | (go_at_call 65; refine (kR _).mono ?_; rintro e w1 ⟨rfl, os1, n1, rfl⟩))
  exact bodyPost_ret (v := .tuple #[.agg #[.int .i64 0, .string ⟨#[]⟩, .int .i64 0, .slice none 0 0], .int .i64 5]) (by simp [results, Tryz.results48, go_sem]) rfl ⟨rfl, by repeat (first | with_reducible exact Adds.refl _ | with_reducible refine Adds.alloc ?_ _ | with_reducible refine Adds.more ?_ _ _ | with_reducible refine Adds.drew ?_ | with_reducible refine Adds.drewN ?_ _)⟩

set_option maxHeartbeats 2000000 in
theorem parse_deep (s0 : ByteArray) (hs : s0.size ≤ 256) (x : E) (hG : G .sum s0.toList x) (hd : ¬ x.depth ≤ 8) (w : World) : Calls Tryz.prog 48 #[.string s0] w fun e w' => e = .returned (.tuple #[.agg #[.int .i64 0, .string ⟨#[]⟩, .int .i64 0, .slice none 0 0], .int .i64 13]) ∧ Adds w w' := by
  have hM := M_whole hG
  have hok := hG.ok
  have hc : ∀ d, cntN d [x.toN] ≤ 10000 := fun d => by
    have h1 := cnt_E x d
    have h2 := hG.nodes
    rw [toList_length] at h2
    omega
  have kR' : ∀ W, Calls Tryz.prog 65 #[.string s0] W fun e w' => (∃ ao cap D, e = .returned (.tuple #[nodeV x.toN (.slice ao x.toN.args.length cap), .bool true]) ∧ Hid (Tn (fun b => W.heap.size ≤ b) D w' (.slice ao x.toN.args.length cap) x.toN.args)) ∧ Adds W w' := by
    intro W
    refine (read_any s0 hs W).mono ?_
    rintro e w' (⟨y, sr, D, h1, rfl, hT, hA⟩ | ⟨h1, _⟩)
    · rw [hM] at h1
      cases h1
      obtain ⟨ao, cap, rfl⟩ := hT.shape
      exact ⟨⟨ao, cap, D, rfl, hT⟩, hA⟩
    · rw [hM] at h1
      cases h1
  have kC : ∀ W ao cap D, Tn (fun b => 0 < b) D W (.slice ao x.toN.args.length cap) x.toN.args → Calls Tryz.prog 66 #[nodeV x.toN (.slice ao x.toN.args.length cap)] W fun e w' => e = .returned (.int .i64 13) ∧ Adds W w' := fun W ao cap D hT => (checkx_any (D := D) x _ W hT hok hc).mono (by rintro e w' ⟨rfl, hA'⟩; exact ⟨by rw [if_neg hd], hA'⟩)
  have hs' : ¬ (256 : Int) < (s0.size : Int) := by omega
  simp only [nodeV] at kR' kC ⊢
  clear hM hok hc hG hd
  generalize x.toN.args = xa at *
  generalize x.toN.kind = xk at *
  generalize x.toN.text = xt at *
  generalize x.toN.num = xn at *
  go_enter Tryz.func48, Tryz.ntmps48
  go_wp2_with (first
    | (go_at_call 65; refine (kR' _).mono ?_; rintro e w1 ⟨⟨ao, cap, D, rfl, hT⟩, os1, n1, rfl⟩)
    | (go_at_call 66; refine (kC _ _ _ D ((Tn.adds hT.out (by repeat (first | with_reducible exact Adds.refl _ | with_reducible refine Adds.alloc ?_ _ | with_reducible refine Adds.more ?_ _ _ | with_reducible refine Adds.drew ?_ | with_reducible refine Adds.drewN ?_ _))).weak (fun b hb _ => Nat.lt_of_lt_of_le (by simp) hb))).mono ?_; rintro e w2 ⟨rfl, os2, n2, rfl⟩))
  exact bodyPost_ret (v := .tuple #[.agg #[.int .i64 0, .string ⟨#[]⟩, .int .i64 0, .slice none 0 0], .int .i64 13]) (by simp [results, Tryz.results48, go_sem]) rfl ⟨rfl, by repeat (first | with_reducible exact Adds.refl _ | with_reducible refine Adds.alloc ?_ _ | with_reducible refine Adds.more ?_ _ _ | with_reducible refine Adds.drew ?_ | with_reducible refine Adds.drewN ?_ _)⟩

/-- What the reference reads, as it is asked for by its Parse. -/
theorem rread_300 (s0 : ByteArray) (hs : s0.size ≤ 256) (W : World) : Calls Tryz.prog 52 #[.string s0, .int .i64 300] W fun e w' =>
    (∃ k t mm ao n c q, e = .returned (.tuple #[.agg #[.int .i64 k, .string t, .int .i64 mm, .slice ao n c], .bool q]) ∧ Hid (RT W.heap.size s0.toList k t mm (.slice ao n c) q w')) ∧ Adds W w' := by
  have := reads_any 299 (by omega) s0.toList (by rw [toList_length]; omega) W
  rw [toB_of] at this
  exact this

set_option maxHeartbeats 2000000 in
theorem rparse_bad (s0 : ByteArray) (hs : s0.size ≤ 256) (hG : ∀ x, ¬ G .sum s0.toList x) (w : World) : Calls Tryz.prog 38 #[.string s0] w fun e w' => e = .returned (.tuple #[.agg #[.int .i64 0, .string ⟨#[]⟩, .int .i64 0, .slice none 0 0], .int .i64 5]) ∧ Adds w w' := by
  have kR : ∀ W, Calls Tryz.prog 52 #[.string s0, .int .i64 300] W fun e w' => (∃ k t mm ao n c, e = .returned (.tuple #[.agg #[.int .i64 k, .string t, .int .i64 mm, .slice ao n c], .bool false])) ∧ Adds W w' := by
    intro W
    refine (rread_300 s0 hs W).mono ?_
    rintro e w' ⟨⟨k, t, mm, ao, n, c, q, rfl, hR⟩, hA⟩
    cases q with
    | false => exact ⟨⟨k, t, mm, ao, n, c, rfl⟩, hA⟩
    | true =>
      obtain ⟨x, _, g, _⟩ := hR.out.1 rfl
      exact absurd g (hG x)
  have hs' : ¬ (256 : Int) < (s0.size : Int) := by omega
  clear hG
  go_enter Tryz.func38, Tryz.ntmps38
  go_wp2_with (first
    | (go_at_call 52; refine (kR _).mono ?_; rintro e w1 ⟨⟨k, t, mm, ao, n, c, rfl⟩, os1, n1, rfl⟩))
  exact bodyPost_ret (v := .tuple #[.agg #[.int .i64 0, .string ⟨#[]⟩, .int .i64 0, .slice none 0 0], .int .i64 5]) (by simp [results, Tryz.results38, go_sem]) rfl ⟨rfl, by repeat (first | with_reducible exact Adds.refl _ | with_reducible refine Adds.alloc ?_ _ | with_reducible refine Adds.more ?_ _ _ | with_reducible refine Adds.drew ?_ | with_reducible refine Adds.drewN ?_ _)⟩

theorem G.one {s : List UInt8} {x y : E} (h : G .sum s x) (h' : G .sum s y) : x = y := by
  have h1 := M_whole h
  rw [M_whole h'] at h1
  cases h1
  rfl

set_option maxHeartbeats 2000000 in
theorem rparse_some (s0 : ByteArray) (hs : s0.size ≤ 256) (x : E) (hG : G .sum s0.toList x) (w : World) : Calls Tryz.prog 38 #[.string s0] w fun e w' =>
    (if x.depth ≤ 8 then ∃ sr D, e = .returned (.tuple #[nodeV x.toN sr, .int .i64 0]) ∧ Tn (fun b => w.heap.size + 1 ≤ b) D w' sr x.toN.args else e = .returned (.tuple #[.agg #[.int .i64 0, .string ⟨#[]⟩, .int .i64 0, .slice none 0 0], .int .i64 13])) ∧ Adds w w' := by
  have hc : ∀ d, cntN d [x.toN] ≤ 10000 := fun d => by
    have h1 := cnt_E x d
    have h2 := hG.nodes
    rw [toList_length] at h2
    omega
  have kR : ∀ W, Calls Tryz.prog 52 #[.string s0, .int .i64 300] W fun e w' => (∃ ao cap D, e = .returned (.tuple #[nodeV x.toN (.slice ao x.toN.args.length cap), .bool true]) ∧ Hid (Tn (fun b => W.heap.size ≤ b) D w' (.slice ao x.toN.args.length cap) x.toN.args)) ∧ Adds W w' := by
    intro W
    refine (rread_300 s0 hs W).mono ?_
    rintro e w' ⟨⟨k, t, mm, ao, n, c, q, rfl, hR⟩, hA⟩
    cases q with
    | false => exact absurd hG (hR.out.2 rfl x)
    | true =>
      obtain ⟨y, D, g, h1, h2, h3, hT⟩ := hR.out.1 rfl
      obtain rfl := hG.one g
      obtain ⟨ao', c', e1⟩ := hT.shape
      simp only [Value.slice.injEq] at e1
      obtain ⟨rfl, rfl, rfl⟩ := e1
      exact ⟨⟨ao, c, D, by rw [nodeV, h1, h2, h3], hT⟩, hA⟩
  have kD : ∀ W ao cap D, Tn (fun _ => True) D W (.slice ao x.toN.args.length cap) x.toN.args → Calls Tryz.prog 53 #[nodeV x.toN (.slice ao x.toN.args.length cap), .int .i64 9] W fun e w' => e = .returned (.int .i64 ((min x.depth 10 : Nat) : Int)) ∧ Adds W w' := fun W ao cap D hT => by
    have := rDepth_any 9 D x.toN _ W (by omega) hT hc
    rw [depth_E] at this
    exact this
  have hs' : ¬ (256 : Int) < (s0.size : Int) := by omega
  by_cases hd : x.depth ≤ 8
  · simp only [if_pos hd]
    have hd' : ¬ (8 : Int) < ((min x.depth 10 : Nat) : Int) := by omega
    simp only [nodeV] at kR kD ⊢
    clear hc hG hd
    generalize min x.depth 10 = dd at *
    generalize x.toN.args = xa at *
    generalize x.toN.kind = xk at *
    generalize x.toN.text = xt at *
    generalize x.toN.num = xn at *
    go_enter Tryz.func38, Tryz.ntmps38
    go_wp2_with (first
      | (go_at_call 52; refine (kR _).mono ?_; rintro e w1 ⟨⟨ao, cap, D, rfl, hT⟩, os1, n1, rfl⟩)
      | (go_at_call 53; refine (kD _ _ _ D ((Tn.adds hT.out (by repeat (first | with_reducible exact Adds.refl _ | with_reducible refine Adds.alloc ?_ _ | with_reducible refine Adds.more ?_ _ _ | with_reducible refine Adds.drew ?_ | with_reducible refine Adds.drewN ?_ _))).weak (fun _ _ _ => trivial))).mono ?_; rintro e w2 ⟨rfl, os2, n2, rfl⟩))
    refine bodyPost_ret (v := .tuple #[.agg #[.int .i64 xk, .string xt, .int .i64 xn, .slice ao xa.length cap], .int .i64 0]) (by simp [results, Tryz.results38, go_sem]) rfl ⟨⟨_, D, rfl, ?_⟩, by repeat (first | with_reducible exact Adds.refl _ | with_reducible refine Adds.alloc ?_ _ | with_reducible refine Adds.more ?_ _ _ | with_reducible refine Adds.drew ?_ | with_reducible refine Adds.drewN ?_ _)⟩
    exact Tn.adds (Tn.box hT.out) (by repeat (first | with_reducible exact Adds.refl _ | with_reducible refine Adds.alloc ?_ _ | with_reducible refine Adds.more ?_ _ _ | with_reducible refine Adds.drew ?_ | with_reducible refine Adds.drewN ?_ _))
  · simp only [if_neg hd]
    have hd' : (8 : Int) < ((min x.depth 10 : Nat) : Int) := by omega
    simp only [nodeV] at kR kD ⊢
    clear hc hG hd
    generalize min x.depth 10 = dd at *
    generalize x.toN.args = xa at *
    generalize x.toN.kind = xk at *
    generalize x.toN.text = xt at *
    generalize x.toN.num = xn at *
    go_enter Tryz.func38, Tryz.ntmps38
    go_wp2_with (first
      | (go_at_call 52; refine (kR _).mono ?_; rintro e w1 ⟨⟨ao, cap, D, rfl, hT⟩, os1, n1, rfl⟩)
      | (go_at_call 53; refine (kD _ _ _ D ((Tn.adds hT.out (by repeat (first | with_reducible exact Adds.refl _ | with_reducible refine Adds.alloc ?_ _ | with_reducible refine Adds.more ?_ _ _ | with_reducible refine Adds.drew ?_ | with_reducible refine Adds.drewN ?_ _))).weak (fun _ _ _ => trivial))).mono ?_; rintro e w2 ⟨rfl, os2, n2, rfl⟩))
    exact bodyPost_ret (v := .tuple #[.agg #[.int .i64 0, .string ⟨#[]⟩, .int .i64 0, .slice none 0 0], .int .i64 13]) (by simp [results, Tryz.results38, go_sem]) rfl ⟨rfl, by repeat (first | with_reducible exact Adds.refl _ | with_reducible refine Adds.alloc ?_ _ | with_reducible refine Adds.more ?_ _ _ | with_reducible refine Adds.drew ?_ | with_reducible refine Adds.drewN ?_ _)⟩

end Go.Proofs.YtiacnmcdfpmcfaaGreatDoor
