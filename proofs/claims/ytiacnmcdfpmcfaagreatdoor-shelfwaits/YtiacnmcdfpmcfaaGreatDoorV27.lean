/-
  Both sides' Parse, by contracts.
  Lists of expressions: what is told of a text.
  The reference's made and Check, by contracts.
-/
import Derived.Test.YtiacnmcdfpmcfaaGreatDoorQ22
import Derived.Test.YtiacnmcdfpmcfaaGreatDoorQ24
import Derived.Test.YtiacnmcdfpmcfaaGreatDoorQ21
import Derived.Test.YtiacnmcdfpmcfaaGreatDoorQ11
namespace Go.Proofs.YtiacnmcdfpmcfaaGreatDoor
open Go.RowKit
attribute [local go_sem] cell?_more frozen?_more setCell_more size_more tape_more drew_more drewN_more more_drew more_drewN one_out plus_out plus_end lt_one le_p2 le_p3 le_p4 le_p5 le_p6 le_p7 le_p8 le_p9 le_p10 le_p11 le_p12 le_p13 le_p14 le_p15 le_p16 le_p17 le_p18 le_p19 le_p20 le_p21 le_p22 le_p23 le_p24 le_q0 le_q1 lt_q1 le_q2 lt_q2 le_q3 lt_q3 le_q4 lt_q4 le_q5 lt_q5 le_q6 lt_q6 le_q7 lt_q7 le_q8 lt_q8 le_q9 lt_q9 le_q10 lt_q10 le_q11 lt_q11 le_q12 lt_q12 le_q13 lt_q13 le_q14 lt_q14 le_q15 lt_q15 le_q16 lt_q16 le_q17 lt_q17 le_q18 lt_q18 le_q19 lt_q19 le_q20 lt_q20 le_q21 lt_q21 le_q22 lt_q22 le_q23 lt_q23 le_q24 lt_q24


theorem parse_long (s0 : ByteArray) (hs : 256 < s0.size) (w : World) : Calls Tryz.prog 48 #[.string s0] w fun e w' => e = .returned (.tuple #[.agg #[.int .i64 0, .string ⟨#[]⟩, .int .i64 0, .slice none 0 0], .int .i64 3]) ∧ Adds w w' := by
  have hs' : (256 : Int) < (s0.size : Int) := by omega
  go_enter Tryz.func48, Tryz.ntmps48
  go_wp2
  exact bodyPost_ret (v := .tuple #[.agg #[.int .i64 0, .string ⟨#[]⟩, .int .i64 0, .slice none 0 0], .int .i64 3]) (by simp [results, Tryz.results48, go_sem]) rfl ⟨rfl, by repeat (first | with_reducible exact Adds.refl _ | with_reducible refine Adds.alloc ?_ _ | with_reducible refine Adds.more ?_ _ _ | with_reducible refine Adds.drew ?_ | with_reducible refine Adds.drewN ?_ _)⟩

theorem rparse_long (s0 : ByteArray) (hs : 256 < s0.size) (w : World) : Calls Tryz.prog 38 #[.string s0] w fun e w' => e = .returned (.tuple #[.agg #[.int .i64 0, .string ⟨#[]⟩, .int .i64 0, .slice none 0 0], .int .i64 3]) ∧ Adds w w' := by
  have hs' : (256 : Int) < (s0.size : Int) := by omega
  go_enter Tryz.func38, Tryz.ntmps38
  go_wp2
  exact bodyPost_ret (v := .tuple #[.agg #[.int .i64 0, .string ⟨#[]⟩, .int .i64 0, .slice none 0 0], .int .i64 3]) (by simp [results, Tryz.results38, go_sem]) rfl ⟨rfl, by repeat (first | with_reducible exact Adds.refl _ | with_reducible refine Adds.alloc ?_ _ | with_reducible refine Adds.more ?_ _ _ | with_reducible refine Adds.drew ?_ | with_reducible refine Adds.drewN ?_ _)⟩

set_option maxHeartbeats 2000000 in
theorem parse_bad (s0 : ByteArray) (hs : s0.size ≤ 256) (hG : ∀ x, ¬ G .sum s0.toList x) (w : World) : Calls Tryz.prog 48 #[.string s0] w fun e w' => e = .returned (.tuple #[.agg #[.int .i64 0, .string ⟨#[]⟩, .int .i64 0, .slice none 0 0], .int .i64 5]) ∧ Adds w w' := by
  have hM : M s0.toList [] Fr.none none = none := by
    cases h : M s0.toList [] Fr.none none with
    | none => rfl
    | some x => exact absurd ((M_is _ _).1 h) (hG x)
  have kR : ∀ W, Calls Tryz.prog 65 #[.string s0] W fun e w' => e = .returned (.tuple #[.agg #[.int .i64 0, .string ⟨#[]⟩, .int .i64 0, .slice none 0 0], .bool false]) ∧ Adds W w' := by
    intro W
    refine (read_any s0 hs W).mono ?_
    rintro e w' (⟨y, sr, D, h1, _⟩ | ⟨_, rfl, hA⟩)
    · rw [hM] at h1
      cases h1
    · exact ⟨rfl, hA⟩
  have hs' : ¬ (256 : Int) < (s0.size : Int) := by omega
  clear hM hG
  go_enter Tryz.func48, Tryz.ntmps48
  go_wp2_with (first
    | (go_at_call 65; refine (kR _).mono ?_; rintro e w1 ⟨rfl, os1, n1, rfl⟩))
  exact bodyPost_ret (v := .tuple #[.agg #[.int .i64 0, .string ⟨#[]⟩, .int .i64 0, .slice none 0 0], .int .i64 5]) (by simp [results, Tryz.results48, go_sem]) rfl ⟨rfl, by repeat (first | with_reducible exact Adds.refl _ | with_reducible refine Adds.alloc ?_ _ | with_reducible refine Adds.more ?_ _ _ | with_reducible refine Adds.drew ?_ | with_reducible refine Adds.drewN ?_ _)⟩

set_option maxHeartbeats 2000000 in
theorem parse_deep (s0 : ByteArray) (hs : s0.size ≤ 256) (x : E) (hG : G .sum s0.toList x) (hd : ¬ x.depth ≤ 8) (w : World) : Calls Tryz.prog 48 #[.string s0] w fun e w' => e = .returned (.tuple #[.agg #[.int .i64 0, .string ⟨#[]⟩, .int .i64 0, .slice none 0 0], .int .i64 13]) ∧ Adds w w' := by
  have hM := M_whole hG
  have hok := hG.ok
  have hc : ∀ d, cntN d [x.toN] ≤ 10000 := fun d => by
    have h1 := cnt_E x d
    have h2 := hG.nodes
    rw [toList_length] at h2
    omega
  have kR' : ∀ W, Calls Tryz.prog 65 #[.string s0] W fun e w' => (∃ ao cap D, e = .returned (.tuple #[nodeV x.toN (.slice ao x.toN.args.length cap), .bool true]) ∧ Hid (Tn (fun b => W.heap.size ≤ b) D w' (.slice ao x.toN.args.length cap) x.toN.args)) ∧ Adds W w' := by
    intro W
    refine (read_any s0 hs W).mono ?_
    rintro e w' (⟨y, sr, D, h1, rfl, hT, hA⟩ | ⟨h1, _⟩)
    · rw [hM] at h1
      cases h1
      obtain ⟨ao, cap, rfl⟩ := hT.shape
      exact ⟨⟨ao, cap, D, rfl, hT⟩, hA⟩
    · rw [hM] at h1
      cases h1
  have kC : ∀ W ao cap D, Tn (fun b => 0 < b) D W (.slice ao x.toN.args.length cap) x.toN.args → Calls Tryz.prog 66 #[nodeV x.toN (.slice ao x.toN.args.length cap)] W fun e w' => e = .returned (.int .i64 13) ∧ Adds W w' := fun W ao cap D hT => (checkx_any (D := D) x _ W hT hok hc).mono (by rintro e w' ⟨rfl, hA'⟩; exact ⟨by rw [if_neg hd], hA'⟩)
  have hs' : ¬ (256 : Int) < (s0.size : Int) := by omega
  simp only [nodeV] at kR' kC ⊢
  clear hM hok hc hG hd
  generalize x.toN.args = xa at *
  generalize x.toN.kind = xk at *
  generalize x.toN.text = xt at *
  generalize x.toN.num = xn at *
  go_enter Tryz.func48, Tryz.ntmps48
  go_wp2_with (first
    | (go_at_call 65; refine (kR' _).mono ?_; rintro e w1 ⟨⟨ao, cap, D, rfl, hT⟩, os1, n1, rfl⟩)
    | (go_at_call 66; refine (kC _ _ _ D ((Tn.adds hT.out (by repeat (first | with_reducible exact Adds.refl _ | with_reducible refine Adds.alloc ?_ _ | with_reducible refine Adds.more ?_ _ _ | with_reducible refine Adds.drew ?_ | with_reducible refine Adds.drewN ?_ _))).weak (fun b hb _ => Nat.lt_of_lt_of_le (by simp) hb))).mono ?_; rintro e w2 ⟨rfl, os2, n2, rfl⟩))
  exact bodyPost_ret (v := .tuple #[.agg #[.int .i64 0, .string ⟨#[]⟩, .int .i64 0, .slice none 0 0], .int .i64 13]) (by simp [results, Tryz.results48, go_sem]) rfl ⟨rfl, by repeat (first | with_reducible exact Adds.refl _ | with_reducible refine Adds.alloc ?_ _ | with_reducible refine Adds.more ?_ _ _ | with_reducible refine Adds.drew ?_ | with_reducible refine Adds.drewN ?_ _)⟩

/-- What the reference reads, as it is asked for by its Parse. -/
theorem rread_300 (s0 : ByteArray) (hs : s0.size ≤ 256) (W : World) : Calls Tryz.prog 52 #[.string s0, .int .i64 300] W fun e w' =>
    (∃ k t mm ao n c q, e = .returned (.tuple #[.agg #[.int .i64 k, .string t, .int .i64 mm, .slice ao n c], .bool q]) ∧ Hid (RT W.heap.size s0.toList k t mm (.slice ao n c) q w')) ∧ Adds W w' := by
  have := reads_any 299 (by omega) s0.toList (by rw [toList_length]; omega) W
  rw [toB_of] at this
  exact this

set_option maxHeartbeats 2000000 in
theorem rparse_bad (s0 : ByteArray) (hs : s0.size ≤ 256) (hG : ∀ x, ¬ G .sum s0.toList x) (w : World) : Calls Tryz.prog 38 #[.string s0] w fun e w' => e = .returned (.tuple #[.agg #[.int .i64 0, .string ⟨#[]⟩, .int .i64 0, .slice none 0 0], .int .i64 5]) ∧ Adds w w' := by
  have kR : ∀ W, Calls Tryz.prog 52 #[.string s0, .int .i64 300] W fun e w' => (∃ k t mm ao n c, e = .returned (.tuple #[.agg #[.int .i64 k, .string t, .int .i64 mm, .slice ao n c], .bool false])) ∧ Adds W w' := by
    intro W
    refine (rread_300 s0 hs W).mono ?_
    rintro e w' ⟨⟨k, t, mm, ao, n, c, q, rfl, hR⟩, hA⟩
    cases q with
    | false => exact ⟨⟨k, t, mm, ao, n, c, rfl⟩, hA⟩
    | true =>
      obtain ⟨x, _, g, _⟩ := hR.out.1 rfl
      exact absurd g (hG x)
  have hs' : ¬ (256 : Int) < (s0.size : Int) := by omega
  clear hG
  go_enter Tryz.func38, Tryz.ntmps38
  go_wp2_with (first
    | (go_at_call 52; refine (kR _).mono ?_; rintro e w1 ⟨⟨k, t, mm, ao, n, c, rfl⟩, os1, n1, rfl⟩))
  exact bodyPost_ret (v := .tuple #[.agg #[.int .i64 0, .string ⟨#[]⟩, .int .i64 0, .slice none 0 0], .int .i64 5]) (by simp [results, Tryz.results38, go_sem]) rfl ⟨rfl, by repeat (first | with_reducible exact Adds.refl _ | with_reducible refine Adds.alloc ?_ _ | with_reducible refine Adds.more ?_ _ _ | with_reducible refine Adds.drew ?_ | with_reducible refine Adds.drewN ?_ _)⟩

theorem G.one {s : List UInt8} {x y : E} (h : G .sum s x) (h' : G .sum s y) : x = y := by
  have h1 := M_whole h
  rw [M_whole h'] at h1
  cases h1
  rfl

set_option maxHeartbeats 2000000 in
theorem rparse_some (s0 : ByteArray) (hs : s0.size ≤ 256) (x : E) (hG : G .sum s0.toList x) (w : World) : Calls Tryz.prog 38 #[.string s0] w fun e w' =>
    (if x.depth ≤ 8 then ∃ sr D, e = .returned (.tuple #[nodeV x.toN sr, .int .i64 0]) ∧ Tn (fun b => w.heap.size + 1 ≤ b) D w' sr x.toN.args else e = .returned (.tuple #[.agg #[.int .i64 0, .string ⟨#[]⟩, .int .i64 0, .slice none 0 0], .int .i64 13])) ∧ Adds w w' := by
  have hc : ∀ d, cntN d [x.toN] ≤ 10000 := fun d => by
    have h1 := cnt_E x d
    have h2 := hG.nodes
    rw [toList_length] at h2
    omega
  have kR : ∀ W, Calls Tryz.prog 52 #[.string s0, .int .i64 300] W fun e w' => (∃ ao cap D, e = .returned (.tuple #[nodeV x.toN (.slice ao x.toN.args.length cap), .bool true]) ∧ Hid (Tn (fun b => W.heap.size ≤ b) D w' (.slice ao x.toN.args.length cap) x.toN.args)) ∧ Adds W w' := by
    intro W
    refine (rread_300 s0 hs W).mono ?_
    rintro e w' ⟨⟨k, t, mm, ao, n, c, q, rfl, hR⟩, hA⟩
    cases q with
    | false => exact absurd hG (hR.out.2 rfl x)
    | true =>
      obtain ⟨y, D, g, h1, h2, h3, hT⟩ := hR.out.1 rfl
      obtain rfl := hG.one g
      obtain ⟨ao', c', e1⟩ := hT.shape
      simp only [Value.slice.injEq] at e1
      obtain ⟨rfl, rfl, rfl⟩ := e1
      exact ⟨⟨ao, c, D, by rw [nodeV, h1, h2, h3], hT⟩, hA⟩
  have kD : ∀ W ao cap D, Tn (fun _ => True) D W (.slice ao x.toN.args.length cap) x.toN.args → Calls Tryz.prog 53 #[nodeV x.toN (.slice ao x.toN.args.length cap), .int .i64 9] W fun e w' => e = .returned (.int .i64 ((min x.depth 10 : Nat) : Int)) ∧ Adds W w' := fun W ao cap D hT => by
    have := rDepth_any 9 D x.toN _ W (by omega) hT hc
    rw [depth_E] at this
    exact this
  have hs' : ¬ (256 : Int) < (s0.size : Int) := by omega
  by_cases hd : x.depth ≤ 8
  · simp only [if_pos hd]
    have hd' : ¬ (8 : Int) < ((min x.depth 10 : Nat) : Int) := by omega
    simp only [nodeV] at kR kD ⊢
    clear hc hG hd
    generalize min x.depth 10 = dd at *
    generalize x.toN.args = xa at *
    generalize x.toN.kind = xk at *
    generalize x.toN.text = xt at *
    generalize x.toN.num = xn at *
    go_enter Tryz.func38, Tryz.ntmps38
    go_wp2_with (first
      | (go_at_call 52; refine (kR _).mono ?_; rintro e w1 ⟨⟨ao, cap, D, rfl, hT⟩, os1, n1, rfl⟩)
      | (go_at_call 53; refine (kD _ _ _ D ((Tn.adds hT.out (by repeat (first | with_reducible exact Adds.refl _ | with_reducible refine Adds.alloc ?_ _ | with_reducible refine Adds.more ?_ _ _ | with_reducible refine Adds.drew ?_ | with_reducible refine Adds.drewN ?_ _))).weak (fun _ _ _ => trivial))).mono ?_; rintro e w2 ⟨rfl, os2, n2, rfl⟩))
    refine bodyPost_ret (v := .tuple #[.agg #[.int .i64 xk, .string xt, .int .i64 xn, .slice ao xa.length cap], .int .i64 0]) (by simp [results, Tryz.results38, go_sem]) rfl ⟨⟨_, D, rfl, ?_⟩, by repeat (first | with_reducible exact Adds.refl _ | with_reducible refine Adds.alloc ?_ _ | with_reducible refine Adds.more ?_ _ _ | with_reducible refine Adds.drew ?_ | with_reducible refine Adds.drewN ?_ _)⟩
    exact Tn.adds (Tn.box hT.out) (by repeat (first | with_reducible exact Adds.refl _ | with_reducible refine Adds.alloc ?_ _ | with_reducible refine Adds.more ?_ _ _ | with_reducible refine Adds.drew ?_ | with_reducible refine Adds.drewN ?_ _))
  · simp only [if_neg hd]
    have hd' : (8 : Int) < ((min x.depth 10 : Nat) : Int) := by omega
    simp only [nodeV] at kR kD ⊢
    clear hc hG hd
    generalize min x.depth 10 = dd at *
    generalize x.toN.args = xa at *
    generalize x.toN.kind = xk at *
    generalize x.toN.text = xt at *
    generalize x.toN.num = xn at *
    go_enter Tryz.func38, Tryz.ntmps38
    go_wp2_with (first
      | (go_at_call 52; refine (kR _).mono ?_; rintro e w1 ⟨⟨ao, cap, D, rfl, hT⟩, os1, n1, rfl⟩)
      | (go_at_call 53; refine (kD _ _ _ D ((Tn.adds hT.out (by repeat (first | with_reducible exact Adds.refl _ | with_reducible refine Adds.alloc ?_ _ | with_reducible refine Adds.more ?_ _ _ | with_reducible refine Adds.drew ?_ | with_reducible refine Adds.drewN ?_ _))).weak (fun _ _ _ => trivial))).mono ?_; rintro e w2 ⟨rfl, os2, n2, rfl⟩))
    exact bodyPost_ret (v := .tuple #[.agg #[.int .i64 0, .string ⟨#[]⟩, .int .i64 0, .slice none 0 0], .int .i64 13]) (by simp [results, Tryz.results38, go_sem]) rfl ⟨rfl, by repeat (first | with_reducible exact Adds.refl _ | with_reducible refine Adds.alloc ?_ _ | with_reducible refine Adds.more ?_ _ _ | with_reducible refine Adds.drew ?_ | with_reducible refine Adds.drewN ?_ _)⟩

end Go.Proofs.YtiacnmcdfpmcfaaGreatDoor

namespace Go.Proofs.YtiacnmcdfpmcfaaGreatDoor
open Go.RowKit


/-- Which expression a text is, or the number of the error. -/
def parseL (l : List UInt8) : Except Int E :=
  if 256 < l.length then .error 3 else
    match M l [] Fr.none none with
    | none => .error 5
    | some x => if x.depth ≤ 8 then .ok x else .error 13

theorem parseL_err {l : List UInt8} {c : Int} (h : parseL l = .error c) : c ≠ 0 := by
  unfold parseL at h
  split at h
  · cases h; decide
  · split at h
    · cases h; decide
    · split at h
      · cases h
      · cases h; decide

theorem parseL_ok {l : List UInt8} {x : E} (h : parseL l = .ok x) : l.length ≤ 256 ∧ G .sum l x ∧ x.depth ≤ 8 := by
  unfold parseL at h
  split at h
  · cases h
  · rename_i h1
    split at h
    · cases h
    · rename_i y hy
      split at h
      · rename_i h2
        cases h
        exact ⟨by omega, (M_is _ _).1 hy, h2⟩
      · cases h

theorem cnt_ok {l : List UInt8} {x : E} (h : parseL l = .ok x) : ∀ d, cntN d [x.toN] ≤ 256 := fun d => by
  obtain ⟨h1, h2, _⟩ := parseL_ok h
  have h3 := cnt_E x d
  have h4 := h2.nodes
  omega

/-- Parse where it refuses, on both sides. -/
theorem parse_E {l : List UInt8} {c : Int} (h : parseL l = .error c) (w : World) :
    Calls Tryz.prog 48 #[.string (toB l)] w (fun e w' => e = .returned (.tuple #[.agg #[.int .i64 0, .string ⟨#[]⟩, .int .i64 0, .slice none 0 0], .int .i64 c]) ∧ Adds w w') ∧ Calls Tryz.prog 38 #[.string (toB l)] w (fun e w' => e = .returned (.tuple #[.agg #[.int .i64 0, .string ⟨#[]⟩, .int .i64 0, .slice none 0 0], .int .i64 c]) ∧ Adds w w') := by
  have hs : (toB l).size = l.length := toB_size l
  have hl : (toB l).toList = l := toB_toList l
  unfold parseL at h
  split at h
  · cases h
    exact ⟨parse_long _ (by omega) w, rparse_long _ (by omega) w⟩
  · rename_i h1
    split at h
    · rename_i hM
      cases h
      have hG : ∀ x, ¬ G .sum (toB l).toList x := fun x hx => by
        rw [hl] at hx
        rw [M_whole hx] at hM
        cases hM
      exact ⟨parse_bad _ (by omega) hG w, rparse_bad _ (by omega) hG w⟩
    · rename_i y hy
      split at h
      · cases h
      · rename_i h2
        cases h
        have hG : G .sum (toB l).toList y := by rw [hl]; exact (M_is _ _).1 hy
        refine ⟨parse_deep _ (by omega) y hG h2 w, (rparse_some _ (by omega) y hG w).mono ?_⟩
        rintro e w' ⟨h3, hA⟩
        rw [if_neg h2] at h3
        exact ⟨h3, hA⟩

/-- What Parse tells of a text that is an expression. -/
def Gave (x : E) (w : World) (e : Ending) (w' : World) : Prop :=
  ∃ ao cap D, e = .returned (.tuple #[nodeV x.toN (.slice ao x.toN.args.length cap), .int .i64 0]) ∧ Hid (Tn (fun b => w.heap.size + 1 ≤ b) D w' (.slice ao x.toN.args.length cap) x.toN.args)

theorem parse_O {l : List UInt8} {x : E} (h : parseL l = .ok x) (w : World) :
    Calls Tryz.prog 48 #[.string (toB l)] w (fun e w' => Gave x w e w' ∧ Adds w w') ∧ Calls Tryz.prog 38 #[.string (toB l)] w (fun e w' => Gave x w e w' ∧ Adds w w') := by
  have hs : (toB l).size = l.length := toB_size l
  have hl : (toB l).toList = l := toB_toList l
  obtain ⟨h1, hG, hd⟩ := parseL_ok h
  have hc : ∀ d, cntN d [x.toN] ≤ 10000 := fun d => Nat.le_trans (cnt_ok h d) (by decide)
  constructor
  · refine (parse_ok (toB l) (by omega) x (by rw [hl]; exact M_whole hG) ((fits_deep 8 x hG.ok).2 hd) hG.ok hc w).mono ?_
    rintro e w' ⟨⟨sr, D, rfl, hT⟩, hA⟩
    obtain ⟨ao, cap, rfl⟩ := hT.shape
    exact ⟨⟨ao, cap, D, rfl, hT⟩, hA⟩
  · refine (rparse_some (toB l) (by omega) x (by rw [hl]; exact hG) w).mono ?_
    rintro e w' ⟨h3, hA⟩
    rw [if_pos hd] at h3
    obtain ⟨sr, D, rfl, hT⟩ := h3
    obtain ⟨ao, cap, rfl⟩ := hT.shape
    exact ⟨⟨ao, cap, D, rfl, hT⟩, hA⟩

/-- All of a list, or the first error. -/
def parseLs : List (List UInt8) → Except Int (List E)
  | [] => .ok []
  | l :: r => match parseL l with
    | .error c => .error c
    | .ok x => match parseLs r with
      | .error c => .error c
      | .ok xs => .ok (x :: xs)

/-- What has been read of a list so far. -/
def Sofar (ls : List (List UInt8)) (j : Nat) (xs : List E) : Prop :=
  xs.length = j ∧ (∀ x ∈ xs, x.ok ∧ ∀ d, cntN d [x.toN] ≤ 256) ∧ parseLs ls = match parseLs (ls.drop j) with
    | .error c => .error c
    | .ok ys => .ok (xs ++ ys)

theorem sofar_nil (ls : List (List UInt8)) : Sofar ls 0 [] := ⟨rfl, (fun x h => by cases h), (by simp only [List.drop_zero, List.nil_append]; cases parseLs ls <;> rfl)⟩

theorem Sofar.err {ls : List (List UInt8)} {j : Nat} {xs : List E} (h : Sofar ls j xs) (hj : j < ls.length) {c : Int} (hc : parseL ls[j] = .error c) : parseLs ls = .error c := by
  rw [h.2.2, List.drop_eq_getElem_cons hj, parseLs, hc]

theorem Sofar.next {ls : List (List UInt8)} {j : Nat} {xs : List E} (h : Sofar ls j xs) (hj : j < ls.length) {x : E} (hx : parseL ls[j] = .ok x) : Sofar ls (j + 1) (xs ++ [x]) := by
  refine ⟨by simp [h.1], fun y hy => ?_, ?_⟩
  · rcases List.mem_append.1 hy with hy | hy
    · exact h.2.1 y hy
    · rw [List.mem_singleton.1 hy]
      exact ⟨(parseL_ok hx).2.1.ok, cnt_ok hx⟩
  · rw [h.2.2, List.drop_eq_getElem_cons hj, parseLs, hx]
    cases parseLs (ls.drop (j + 1)) <;> simp

theorem Sofar.all {ls : List (List UInt8)} {xs : List E} (h : Sofar ls ls.length xs) : parseLs ls = .ok xs := by
  rw [h.2.2, List.drop_length]
  simp [parseLs]

theorem parseLs_err : ∀ {ls : List (List UInt8)} {c : Int}, parseLs ls = .error c → c ≠ 0 := by
  intro ls
  induction ls with
  | nil => intro c h; cases h
  | cons l r ih =>
    intro c h
    simp only [parseLs] at h
    split at h
    · rename_i c' hc
      cases h
      exact parseL_err hc
    · split at h
      · rename_i hr
        cases h
        exact ih hr
      · cases h

/-- The list of expressions that a text is. -/
def parseA (s : List UInt8) : Except Int (List E) := if 4 < (spl s).length then .error 5 else parseLs (spl s)

/-- What both sides' ParseAll tell. -/
def GaveR (R : Except Int (List E)) (e : Ending) (w' : World) : Prop :=
  match R with
  | .error c => e = .returned (.tuple #[.slice none 0 0, .int .i64 c])
  | .ok xs => ∃ ao cap D, e = .returned (.tuple #[.slice ao xs.length cap, .int .i64 0]) ∧ Tn (fun _ => True) D w' (.slice ao xs.length cap) (xs.map E.toN) ∧ ∀ x ∈ xs, x.ok ∧ ∀ d, cntN d [x.toN] ≤ 256

theorem Nr.shape {w1 wr : World} {v : Value} {xs : List E} {ns : List NV} {D : Nat} (h : Nr w1 wr v xs ns D) : ∃ ao cap, v = .slice ao xs.length cap := by
  have hl := h.rx.1
  rcases h.own.2 with ⟨rfl, h0⟩ | ⟨g, cap, cur, rfl, _⟩
  · exact ⟨none, 0, by rw [← hl, h0]⟩
  · exact ⟨_, cap, by rw [hl]⟩

theorem Nr.gave {w1 wr : World} {ao : Option Addr} {n cap : Nat} {xs : List E} {ns : List NV} {D : Nat} {ls : List (List UInt8)} (h : Nr w1 wr (.slice ao n cap) xs ns D) (hs : Sofar ls ls.length xs) : GaveR (parseLs ls) (.returned (.tuple #[.slice ao n cap, .int .i64 0])) wr := by
  rw [hs.all]
  obtain ⟨ao', cap', e⟩ := h.shape
  simp only [Value.slice.injEq] at e
  obtain ⟨rfl, rfl, rfl⟩ := e
  exact ⟨ao, cap, D + 1, rfl, h.tn (fun x hx => (hs.2.1 x hx).1), hs.2.1⟩

end Go.Proofs.YtiacnmcdfpmcfaaGreatDoor

namespace Go.Proofs.YtiacnmcdfpmcfaaGreatDoor
open Go.RowKit
attribute [local go_sem] cell?_more frozen?_more setCell_more size_more tape_more drew_more drewN_more more_drew more_drewN one_out plus_out plus_end lt_one le_p2 le_p3 le_p4 le_p5 le_p6 le_p7 le_p8 le_p9 le_p10 le_p11 le_p12 le_p13 le_p14 le_p15 le_p16 le_p17 le_p18 le_p19 le_p20 le_p21 le_p22 le_p23 le_p24 le_q0 le_q1 lt_q1 le_q2 lt_q2 le_q3 lt_q3 le_q4 lt_q4 le_q5 lt_q5 le_q6 lt_q6 le_q7 lt_q7 le_q8 lt_q8 le_q9 lt_q9 le_q10 lt_q10 le_q11 lt_q11 le_q12 lt_q12 le_q13 lt_q13 le_q14 lt_q14 le_q15 lt_q15 le_q16 lt_q16 le_q17 lt_q17 le_q18 lt_q18 le_q19 lt_q19 le_q20 lt_q20 le_q21 lt_q21 le_q22 lt_q22 le_q23 lt_q23 le_q24 lt_q24


/-- Made as it must be, through all levels. -/
def madeN : Nat → N → Bool
  | 0, n => rAlone n.kind n.text.toList n.num n.args.length
  | d + 1, n => n.args.all (madeN d) && rAlone n.kind n.text.toList n.num n.args.length

set_option maxHeartbeats 4000000 in
theorem made_core {ok : Nat → Prop} (d : Nat) (f : N → Bool) (n : N) (s : Value) (w : World) (hT : Tn ok d w s n.args) (hx : n.text.size ≤ 9223372036854775807) (hlen : n.args.length ≤ 10000)
    (ih : ∀ (e : Nat) (j : Nat) (h : j < n.args.length) (x : Value) (W : World), Tn ok e W x n.args[j].args → d = e + 1 → n.args[j].text.size ≤ 9223372036854775807 → Calls Tryz.prog 125 #[nodeV n.args[j] x] W fun e w' => e = .returned (.bool (f n.args[j])) ∧ Adds W w') :
    Calls Tryz.prog 125 #[nodeV n s] w fun e w' => e = .returned (.bool (n.args.all f && rAlone n.kind n.text.toList n.num n.args.length)) ∧ Adds w w' := by
  obtain ⟨ao, cap, rfl⟩ := hT.shape
  obtain ⟨nk, nt, nm, ts⟩ := n
  simp only [N.kind, N.text, N.num, N.args] at *
  have kP := refPath_any nt hx
  rw [isPath_L] at kP
  have kD := rPlain_any nt hx
  have kN := rName_any nt
  have HT : Hid (Tn ok d w (.slice ao ts.length cap) ts) := hT
  clear hT hx
  simp only [nodeV, N.kind, N.text, N.num]
  go_enter Tryz.func125, Tryz.ntmps125
  go_wp2
  go_loopw [3] (fun iv wr => ∃ j : Nat, j ≤ ts.length ∧ iv = .int .i64 j ∧ (ts.drop j).all f = ts.all f ∧ Adds (w.alloc (.cells #[.int .i64 nk, .string nt, .int .i64 nm, .slice ao ts.length cap] 81)) wr) (fun iv _ => ts.length - (intOf iv).toNat)
  case atStart => exact ⟨0, Nat.zero_le _, rfl, by simp, by repeat (first | with_reducible exact Adds.refl _ | with_reducible refine Adds.alloc ?_ _ | with_reducible refine Adds.more ?_ _ _ | with_reducible refine Adds.drew ?_ | with_reducible refine Adds.drewN ?_ _)⟩
  case round =>
    obtain ⟨j, hj, rfl, hall, os, n0, rfl⟩ := hrel
    by_cases hlt : j < ts.length
    · obtain ⟨e, b1, o1, x, he, rfl, hb1, ⟨c0, c1, c2, c3⟩, hsz, htx⟩ := HT.out.elem hlt
      have kR := fun W (hA : Adds w W) => ih e j hlt x W (htx.adds hA) he hsz
      have HN : Hid (ts.all f = (f ts[j] && (ts.drop (j + 1)).all f)) := by
        show _ = _
        rw [← hall, List.drop_eq_getElem_cons hlt]
        rfl
      obtain ⟨xo, xc, rfl⟩ := htx.shape
      (try simp only [nodeV] at kR)
      clear htx he HT hall ih hsz kP kD kN
      generalize f ts[j] = q1 at *
      generalize ts[j] = p at *
      cases q1
      · go_wp2_with (go_at_call 125; refine (kR _ (by repeat (first | with_reducible exact Adds.refl _ | with_reducible refine Adds.alloc ?_ _ | with_reducible refine Adds.more ?_ _ _ | with_reducible refine Adds.drew ?_ | with_reducible refine Adds.drewN ?_ _))).mono ?_; rintro e w2 ⟨rfl, os2, n2, rfl⟩)
        go_ret
        exact ⟨by rw [HN.out]; rfl, by repeat (first | with_reducible exact Adds.refl _ | with_reducible refine Adds.alloc ?_ _ | with_reducible refine Adds.more ?_ _ _ | with_reducible refine Adds.drew ?_ | with_reducible refine Adds.drewN ?_ _)⟩
      · go_wp2_with (go_at_call 125; refine (kR _ (by repeat (first | with_reducible exact Adds.refl _ | with_reducible refine Adds.alloc ?_ _ | with_reducible refine Adds.more ?_ _ _ | with_reducible refine Adds.drew ?_ | with_reducible refine Adds.drewN ?_ _))).mono ?_; rintro e w2 ⟨rfl, os2, n2, rfl⟩)
        go_roundw
        case rel => exact ⟨j + 1, by omega, by go_num, by rw [HN.out]; rfl, by repeat (first | with_reducible exact Adds.refl _ | with_reducible refine Adds.alloc ?_ _ | with_reducible refine Adds.more ?_ _ _ | with_reducible refine Adds.drew ?_ | with_reducible refine Adds.drewN ?_ _)⟩
        case measure => simp [intOf]; omega
    · have hj' : j = ts.length := by omega
      subst hj'
      have hq : ts.all f = true := by rw [← hall]; simp
      have HQ : Hid _ := hq
      clear hall hq HT ih
      by_cases h1 : nk = 1
      · subst h1
        cases ba : ((ts.length : Int) == 0)
        · have HR : Hid (rAlone 1 nt.toList nm ts.length = false) := by
            show rAlone 1 nt.toList nm ts.length = _
            unfold rAlone
            rw [if_pos rfl]
            simp only [rA1, ba]
            try rfl
          go_wp2_with (first
            | (go_at_call 39; refine (kP _).mono ?_; rintro e w5 ⟨rfl, hw⟩; subst w5)
            | (go_at_call 72; refine (kD _).mono ?_; rintro e w5 ⟨rfl, hw⟩; subst w5)
            | (go_at_call 71; refine (kN _).mono ?_; rintro e w5 ⟨rfl, hw⟩; subst w5))
          go_ret
          exact ⟨by rw [HQ.out, HR.out]; rfl, by repeat (first | with_reducible exact Adds.refl _ | with_reducible refine Adds.alloc ?_ _ | with_reducible refine Adds.more ?_ _ _ | with_reducible refine Adds.drew ?_ | with_reducible refine Adds.drewN ?_ _)⟩
        · cases bn : (nm == 0)
          · have HR : Hid (rAlone 1 nt.toList nm ts.length = false) := by
              show rAlone 1 nt.toList nm ts.length = _
              unfold rAlone
              rw [if_pos rfl]
              simp only [rA1, ba, bn]
              try rfl
            go_wp2_with (first
              | (go_at_call 39; refine (kP _).mono ?_; rintro e w5 ⟨rfl, hw⟩; subst w5)
              | (go_at_call 72; refine (kD _).mono ?_; rintro e w5 ⟨rfl, hw⟩; subst w5)
              | (go_at_call 71; refine (kN _).mono ?_; rintro e w5 ⟨rfl, hw⟩; subst w5))
            go_ret
            exact ⟨by rw [HQ.out, HR.out]; rfl, by repeat (first | with_reducible exact Adds.refl _ | with_reducible refine Adds.alloc ?_ _ | with_reducible refine Adds.more ?_ _ _ | with_reducible refine Adds.drew ?_ | with_reducible refine Adds.drewN ?_ _)⟩
          · cases hp : pathL nt.toList
            · rw [hp] at kP
              have HR : Hid (rAlone 1 nt.toList nm ts.length = false) := by
                show rAlone 1 nt.toList nm ts.length = _
                unfold rAlone
                rw [if_pos rfl]
                simp only [rA1, ba, bn, hp]
                try rfl
              go_wp2_with (first
                | (go_at_call 39; refine (kP _).mono ?_; rintro e w5 ⟨rfl, hw⟩; subst w5)
                | (go_at_call 72; refine (kD _).mono ?_; rintro e w5 ⟨rfl, hw⟩; subst w5)
                | (go_at_call 71; refine (kN _).mono ?_; rintro e w5 ⟨rfl, hw⟩; subst w5))
              go_ret
              exact ⟨by rw [HQ.out, HR.out]; rfl, by repeat (first | with_reducible exact Adds.refl _ | with_reducible refine Adds.alloc ?_ _ | with_reducible refine Adds.more ?_ _ _ | with_reducible refine Adds.drew ?_ | with_reducible refine Adds.drewN ?_ _)⟩
            · rw [hp] at kP
              cases hd : allDig nt.toList
              · rw [hd] at kD
                have HR : Hid (rAlone 1 nt.toList nm ts.length = true) := by
                  show rAlone 1 nt.toList nm ts.length = _
                  unfold rAlone
                  rw [if_pos rfl]
                  simp only [rA1, ba, bn, hp, hd]
                  try rfl
                go_wp2_with (first
                  | (go_at_call 39; refine (kP _).mono ?_; rintro e w5 ⟨rfl, hw⟩; subst w5)
                  | (go_at_call 72; refine (kD _).mono ?_; rintro e w5 ⟨rfl, hw⟩; subst w5)
                  | (go_at_call 71; refine (kN _).mono ?_; rintro e w5 ⟨rfl, hw⟩; subst w5))
                go_ret
                exact ⟨by rw [HQ.out, HR.out]; rfl, by repeat (first | with_reducible exact Adds.refl _ | with_reducible refine Adds.alloc ?_ _ | with_reducible refine Adds.more ?_ _ _ | with_reducible refine Adds.drew ?_ | with_reducible refine Adds.drewN ?_ _)⟩
              · rw [hd] at kD
                have HR : Hid (rAlone 1 nt.toList nm ts.length = false) := by
                  show rAlone 1 nt.toList nm ts.length = _
                  unfold rAlone
                  rw [if_pos rfl]
                  simp only [rA1, ba, bn, hp, hd]
                  try rfl
                go_wp2_with (first
                  | (go_at_call 39; refine (kP _).mono ?_; rintro e w5 ⟨rfl, hw⟩; subst w5)
                  | (go_at_call 72; refine (kD _).mono ?_; rintro e w5 ⟨rfl, hw⟩; subst w5)
                  | (go_at_call 71; refine (kN _).mono ?_; rintro e w5 ⟨rfl, hw⟩; subst w5))
                go_ret
                exact ⟨by rw [HQ.out, HR.out]; rfl, by repeat (first | with_reducible exact Adds.refl _ | with_reducible refine Adds.alloc ?_ _ | with_reducible refine Adds.more ?_ _ _ | with_reducible refine Adds.drew ?_ | with_reducible refine Adds.drewN ?_ _)⟩
      have b1 : (nk == 1) = false := by simpa using h1
      by_cases h2 : nk = 2
      · subst h2
        cases ba : ((ts.length : Int) == 0)
        · have HR : Hid (rAlone 2 nt.toList nm ts.length = false) := by
            show rAlone 2 nt.toList nm ts.length = _
            unfold rAlone
            rw [if_neg (by decide), if_pos rfl]
            simp only [rA2, ba]
            try rfl
          go_wp2_with (first
            | (go_at_call 39; refine (kP _).mono ?_; rintro e w5 ⟨rfl, hw⟩; subst w5)
            | (go_at_call 72; refine (kD _).mono ?_; rintro e w5 ⟨rfl, hw⟩; subst w5)
            | (go_at_call 71; refine (kN _).mono ?_; rintro e w5 ⟨rfl, hw⟩; subst w5))
          go_ret
          exact ⟨by rw [HQ.out, HR.out]; rfl, by repeat (first | with_reducible exact Adds.refl _ | with_reducible refine Adds.alloc ?_ _ | with_reducible refine Adds.more ?_ _ _ | with_reducible refine Adds.drew ?_ | with_reducible refine Adds.drewN ?_ _)⟩
        · cases bt : (nt.toList == [])
          · have HR : Hid (rAlone 2 nt.toList nm ts.length = false) := by
              show rAlone 2 nt.toList nm ts.length = _
              unfold rAlone
              rw [if_neg (by decide), if_pos rfl]
              simp only [rA2, ba, bt]
              try rfl
            go_wp2_with (first
              | (go_at_call 39; refine (kP _).mono ?_; rintro e w5 ⟨rfl, hw⟩; subst w5)
              | (go_at_call 72; refine (kD _).mono ?_; rintro e w5 ⟨rfl, hw⟩; subst w5)
              | (go_at_call 71; refine (kN _).mono ?_; rintro e w5 ⟨rfl, hw⟩; subst w5))
            go_ret
            exact ⟨by rw [HQ.out, HR.out]; rfl, by repeat (first | with_reducible exact Adds.refl _ | with_reducible refine Adds.alloc ?_ _ | with_reducible refine Adds.more ?_ _ _ | with_reducible refine Adds.drew ?_ | with_reducible refine Adds.drewN ?_ _)⟩
          · by_cases d0 : 0 ≤ nm
            · by_cases d1 : nm < 1000000000000000
              · have HR : Hid (rAlone 2 nt.toList nm ts.length = true) := by
                  show rAlone 2 nt.toList nm ts.length = _
                  unfold rAlone
                  rw [if_neg (by decide), if_pos rfl]
                  simp only [rA2, ba, bt, decide_eq_true d0, decide_eq_true d1]
                  try rfl
                go_wp2_with (first
                  | (go_at_call 39; refine (kP _).mono ?_; rintro e w5 ⟨rfl, hw⟩; subst w5)
                  | (go_at_call 72; refine (kD _).mono ?_; rintro e w5 ⟨rfl, hw⟩; subst w5)
                  | (go_at_call 71; refine (kN _).mono ?_; rintro e w5 ⟨rfl, hw⟩; subst w5))
                go_ret
                exact ⟨by rw [HQ.out, HR.out]; rfl, by repeat (first | with_reducible exact Adds.refl _ | with_reducible refine Adds.alloc ?_ _ | with_reducible refine Adds.more ?_ _ _ | with_reducible refine Adds.drew ?_ | with_reducible refine Adds.drewN ?_ _)⟩
              · have HR : Hid (rAlone 2 nt.toList nm ts.length = false) := by
                  show rAlone 2 nt.toList nm ts.length = _
                  unfold rAlone
                  rw [if_neg (by decide), if_pos rfl]
                  simp only [rA2, ba, bt, decide_eq_true d0, decide_eq_false d1]
                  try rfl
                go_wp2_with (first
                  | (go_at_call 39; refine (kP _).mono ?_; rintro e w5 ⟨rfl, hw⟩; subst w5)
                  | (go_at_call 72; refine (kD _).mono ?_; rintro e w5 ⟨rfl, hw⟩; subst w5)
                  | (go_at_call 71; refine (kN _).mono ?_; rintro e w5 ⟨rfl, hw⟩; subst w5))
                go_ret
                exact ⟨by rw [HQ.out, HR.out]; rfl, by repeat (first | with_reducible exact Adds.refl _ | with_reducible refine Adds.alloc ?_ _ | with_reducible refine Adds.more ?_ _ _ | with_reducible refine Adds.drew ?_ | with_reducible refine Adds.drewN ?_ _)⟩
            · have HR : Hid (rAlone 2 nt.toList nm ts.length = false) := by
                show rAlone 2 nt.toList nm ts.length = _
                unfold rAlone
                rw [if_neg (by decide), if_pos rfl]
                simp only [rA2, ba, bt, decide_eq_false d0]
                try rfl
              go_wp2_with (first
                | (go_at_call 39; refine (kP _).mono ?_; rintro e w5 ⟨rfl, hw⟩; subst w5)
                | (go_at_call 72; refine (kD _).mono ?_; rintro e w5 ⟨rfl, hw⟩; subst w5)
                | (go_at_call 71; refine (kN _).mono ?_; rintro e w5 ⟨rfl, hw⟩; subst w5))
              go_ret
              exact ⟨by rw [HQ.out, HR.out]; rfl, by repeat (first | with_reducible exact Adds.refl _ | with_reducible refine Adds.alloc ?_ _ | with_reducible refine Adds.more ?_ _ _ | with_reducible refine Adds.drew ?_ | with_reducible refine Adds.drewN ?_ _)⟩
      have b2 : (nk == 2) = false := by simpa using h2
      by_cases h3 : nk = 3
      · subst h3
        cases ba : ((ts.length : Int) == 2)
        · have HR : Hid (rAlone 3 nt.toList nm ts.length = false) := by
            show rAlone 3 nt.toList nm ts.length = _
            unfold rAlone
            rw [if_neg (by decide), if_neg (by decide), if_pos (Or.inl rfl)]
            simp only [rA3, ba]
            try rfl
          go_wp2_with (first
            | (go_at_call 39; refine (kP _).mono ?_; rintro e w5 ⟨rfl, hw⟩; subst w5)
            | (go_at_call 72; refine (kD _).mono ?_; rintro e w5 ⟨rfl, hw⟩; subst w5)
            | (go_at_call 71; refine (kN _).mono ?_; rintro e w5 ⟨rfl, hw⟩; subst w5))
          go_ret
          exact ⟨by rw [HQ.out, HR.out]; rfl, by repeat (first | with_reducible exact Adds.refl _ | with_reducible refine Adds.alloc ?_ _ | with_reducible refine Adds.more ?_ _ _ | with_reducible refine Adds.drew ?_ | with_reducible refine Adds.drewN ?_ _)⟩
        · cases bt : (nt.toList == [])
          · have HR : Hid (rAlone 3 nt.toList nm ts.length = false) := by
              show rAlone 3 nt.toList nm ts.length = _
              unfold rAlone
              rw [if_neg (by decide), if_neg (by decide), if_pos (Or.inl rfl)]
              simp only [rA3, ba, bt]
              try rfl
            go_wp2_with (first
              | (go_at_call 39; refine (kP _).mono ?_; rintro e w5 ⟨rfl, hw⟩; subst w5)
              | (go_at_call 72; refine (kD _).mono ?_; rintro e w5 ⟨rfl, hw⟩; subst w5)
              | (go_at_call 71; refine (kN _).mono ?_; rintro e w5 ⟨rfl, hw⟩; subst w5))
            go_ret
            exact ⟨by rw [HQ.out, HR.out]; rfl, by repeat (first | with_reducible exact Adds.refl _ | with_reducible refine Adds.alloc ?_ _ | with_reducible refine Adds.more ?_ _ _ | with_reducible refine Adds.drew ?_ | with_reducible refine Adds.drewN ?_ _)⟩
          · cases bn : (nm == 0)
            · have HR : Hid (rAlone 3 nt.toList nm ts.length = false) := by
                show rAlone 3 nt.toList nm ts.length = _
                unfold rAlone
                rw [if_neg (by decide), if_neg (by decide), if_pos (Or.inl rfl)]
                simp only [rA3, ba, bt, bn]
                try rfl
              go_wp2_with (first
                | (go_at_call 39; refine (kP _).mono ?_; rintro e w5 ⟨rfl, hw⟩; subst w5)
                | (go_at_call 72; refine (kD _).mono ?_; rintro e w5 ⟨rfl, hw⟩; subst w5)
                | (go_at_call 71; refine (kN _).mono ?_; rintro e w5 ⟨rfl, hw⟩; subst w5))
              go_ret
              exact ⟨by rw [HQ.out, HR.out]; rfl, by repeat (first | with_reducible exact Adds.refl _ | with_reducible refine Adds.alloc ?_ _ | with_reducible refine Adds.more ?_ _ _ | with_reducible refine Adds.drew ?_ | with_reducible refine Adds.drewN ?_ _)⟩
            · have HR : Hid (rAlone 3 nt.toList nm ts.length = true) := by
                show rAlone 3 nt.toList nm ts.length = _
                unfold rAlone
                rw [if_neg (by decide), if_neg (by decide), if_pos (Or.inl rfl)]
                simp only [rA3, ba, bt, bn]
                try rfl
              go_wp2_with (first
                | (go_at_call 39; refine (kP _).mono ?_; rintro e w5 ⟨rfl, hw⟩; subst w5)
                | (go_at_call 72; refine (kD _).mono ?_; rintro e w5 ⟨rfl, hw⟩; subst w5)
                | (go_at_call 71; refine (kN _).mono ?_; rintro e w5 ⟨rfl, hw⟩; subst w5))
              go_ret
              exact ⟨by rw [HQ.out, HR.out]; rfl, by repeat (first | with_reducible exact Adds.refl _ | with_reducible refine Adds.alloc ?_ _ | with_reducible refine Adds.more ?_ _ _ | with_reducible refine Adds.drew ?_ | with_reducible refine Adds.drewN ?_ _)⟩
      have b3 : (nk == 3) = false := by simpa using h3
      by_cases h4 : nk = 4
      · subst h4
        cases ba : ((ts.length : Int) == 2)
        · have HR : Hid (rAlone 4 nt.toList nm ts.length = false) := by
            show rAlone 4 nt.toList nm ts.length = _
            unfold rAlone
            rw [if_neg (by decide), if_neg (by decide), if_pos (Or.inr rfl)]
            simp only [rA3, ba]
            try rfl
          go_wp2_with (first
            | (go_at_call 39; refine (kP _).mono ?_; rintro e w5 ⟨rfl, hw⟩; subst w5)
            | (go_at_call 72; refine (kD _).mono ?_; rintro e w5 ⟨rfl, hw⟩; subst w5)
            | (go_at_call 71; refine (kN _).mono ?_; rintro e w5 ⟨rfl, hw⟩; subst w5))
          go_ret
          exact ⟨by rw [HQ.out, HR.out]; rfl, by repeat (first | with_reducible exact Adds.refl _ | with_reducible refine Adds.alloc ?_ _ | with_reducible refine Adds.more ?_ _ _ | with_reducible refine Adds.drew ?_ | with_reducible refine Adds.drewN ?_ _)⟩
        · cases bt : (nt.toList == [])
          · have HR : Hid (rAlone 4 nt.toList nm ts.length = false) := by
              show rAlone 4 nt.toList nm ts.length = _
              unfold rAlone
              rw [if_neg (by decide), if_neg (by decide), if_pos (Or.inr rfl)]
              simp only [rA3, ba, bt]
              try rfl
            go_wp2_with (first
              | (go_at_call 39; refine (kP _).mono ?_; rintro e w5 ⟨rfl, hw⟩; subst w5)
              | (go_at_call 72; refine (kD _).mono ?_; rintro e w5 ⟨rfl, hw⟩; subst w5)
              | (go_at_call 71; refine (kN _).mono ?_; rintro e w5 ⟨rfl, hw⟩; subst w5))
            go_ret
            exact ⟨by rw [HQ.out, HR.out]; rfl, by repeat (first | with_reducible exact Adds.refl _ | with_reducible refine Adds.alloc ?_ _ | with_reducible refine Adds.more ?_ _ _ | with_reducible refine Adds.drew ?_ | with_reducible refine Adds.drewN ?_ _)⟩
          · cases bn : (nm == 0)
            · have HR : Hid (rAlone 4 nt.toList nm ts.length = false) := by
                show rAlone 4 nt.toList nm ts.length = _
                unfold rAlone
                rw [if_neg (by decide), if_neg (by decide), if_pos (Or.inr rfl)]
                simp only [rA3, ba, bt, bn]
                try rfl
              go_wp2_with (first
                | (go_at_call 39; refine (kP _).mono ?_; rintro e w5 ⟨rfl, hw⟩; subst w5)
                | (go_at_call 72; refine (kD _).mono ?_; rintro e w5 ⟨rfl, hw⟩; subst w5)
                | (go_at_call 71; refine (kN _).mono ?_; rintro e w5 ⟨rfl, hw⟩; subst w5))
              go_ret
              exact ⟨by rw [HQ.out, HR.out]; rfl, by repeat (first | with_reducible exact Adds.refl _ | with_reducible refine Adds.alloc ?_ _ | with_reducible refine Adds.more ?_ _ _ | with_reducible refine Adds.drew ?_ | with_reducible refine Adds.drewN ?_ _)⟩
            · have HR : Hid (rAlone 4 nt.toList nm ts.length = true) := by
                show rAlone 4 nt.toList nm ts.length = _
                unfold rAlone
                rw [if_neg (by decide), if_neg (by decide), if_pos (Or.inr rfl)]
                simp only [rA3, ba, bt, bn]
                try rfl
              go_wp2_with (first
                | (go_at_call 39; refine (kP _).mono ?_; rintro e w5 ⟨rfl, hw⟩; subst w5)
                | (go_at_call 72; refine (kD _).mono ?_; rintro e w5 ⟨rfl, hw⟩; subst w5)
                | (go_at_call 71; refine (kN _).mono ?_; rintro e w5 ⟨rfl, hw⟩; subst w5))
              go_ret
              exact ⟨by rw [HQ.out, HR.out]; rfl, by repeat (first | with_reducible exact Adds.refl _ | with_reducible refine Adds.alloc ?_ _ | with_reducible refine Adds.more ?_ _ _ | with_reducible refine Adds.drew ?_ | with_reducible refine Adds.drewN ?_ _)⟩
      have b4 : (nk == 4) = false := by simpa using h4
      by_cases h5 : nk = 5
      · subst h5
        cases ba : ((ts.length : Int) == 1)
        · have HR : Hid (rAlone 5 nt.toList nm ts.length = false) := by
            show rAlone 5 nt.toList nm ts.length = _
            unfold rAlone
            rw [if_neg (by decide), if_neg (by decide), if_neg (by decide), if_pos rfl]
            simp only [rA5, ba]
            try rfl
          go_wp2_with (first
            | (go_at_call 39; refine (kP _).mono ?_; rintro e w5 ⟨rfl, hw⟩; subst w5)
            | (go_at_call 72; refine (kD _).mono ?_; rintro e w5 ⟨rfl, hw⟩; subst w5)
            | (go_at_call 71; refine (kN _).mono ?_; rintro e w5 ⟨rfl, hw⟩; subst w5))
          go_ret
          exact ⟨by rw [HQ.out, HR.out]; rfl, by repeat (first | with_reducible exact Adds.refl _ | with_reducible refine Adds.alloc ?_ _ | with_reducible refine Adds.more ?_ _ _ | with_reducible refine Adds.drew ?_ | with_reducible refine Adds.drewN ?_ _)⟩
        · cases bn : (nm == 0)
          · have HR : Hid (rAlone 5 nt.toList nm ts.length = false) := by
              show rAlone 5 nt.toList nm ts.length = _
              unfold rAlone
              rw [if_neg (by decide), if_neg (by decide), if_neg (by decide), if_pos rfl]
              simp only [rA5, ba, bn]
              try rfl
            go_wp2_with (first
              | (go_at_call 39; refine (kP _).mono ?_; rintro e w5 ⟨rfl, hw⟩; subst w5)
              | (go_at_call 72; refine (kD _).mono ?_; rintro e w5 ⟨rfl, hw⟩; subst w5)
              | (go_at_call 71; refine (kN _).mono ?_; rintro e w5 ⟨rfl, hw⟩; subst w5))
            go_ret
            exact ⟨by rw [HQ.out, HR.out]; rfl, by repeat (first | with_reducible exact Adds.refl _ | with_reducible refine Adds.alloc ?_ _ | with_reducible refine Adds.more ?_ _ _ | with_reducible refine Adds.drew ?_ | with_reducible refine Adds.drewN ?_ _)⟩
          · cases hn : isName nt.toList
            · rw [hn] at kN
              have HR : Hid (rAlone 5 nt.toList nm ts.length = false) := by
                show rAlone 5 nt.toList nm ts.length = _
                unfold rAlone
                rw [if_neg (by decide), if_neg (by decide), if_neg (by decide), if_pos rfl]
                simp only [rA5, ba, bn, hn]
                try rfl
              go_wp2_with (first
                | (go_at_call 39; refine (kP _).mono ?_; rintro e w5 ⟨rfl, hw⟩; subst w5)
                | (go_at_call 72; refine (kD _).mono ?_; rintro e w5 ⟨rfl, hw⟩; subst w5)
                | (go_at_call 71; refine (kN _).mono ?_; rintro e w5 ⟨rfl, hw⟩; subst w5))
              go_ret
              exact ⟨by rw [HQ.out, HR.out]; rfl, by repeat (first | with_reducible exact Adds.refl _ | with_reducible refine Adds.alloc ?_ _ | with_reducible refine Adds.more ?_ _ _ | with_reducible refine Adds.drew ?_ | with_reducible refine Adds.drewN ?_ _)⟩
            · rw [hn] at kN
              have HR : Hid (rAlone 5 nt.toList nm ts.length = true) := by
                show rAlone 5 nt.toList nm ts.length = _
                unfold rAlone
                rw [if_neg (by decide), if_neg (by decide), if_neg (by decide), if_pos rfl]
                simp only [rA5, ba, bn, hn]
                try rfl
              go_wp2_with (first
                | (go_at_call 39; refine (kP _).mono ?_; rintro e w5 ⟨rfl, hw⟩; subst w5)
                | (go_at_call 72; refine (kD _).mono ?_; rintro e w5 ⟨rfl, hw⟩; subst w5)
                | (go_at_call 71; refine (kN _).mono ?_; rintro e w5 ⟨rfl, hw⟩; subst w5))
              go_ret
              exact ⟨by rw [HQ.out, HR.out]; rfl, by repeat (first | with_reducible exact Adds.refl _ | with_reducible refine Adds.alloc ?_ _ | with_reducible refine Adds.more ?_ _ _ | with_reducible refine Adds.drew ?_ | with_reducible refine Adds.drewN ?_ _)⟩
      have b5 : (nk == 5) = false := by simpa using h5
      have HR : Hid (rAlone nk nt.toList nm ts.length = false) := by
        show rAlone nk nt.toList nm ts.length = _
        unfold rAlone
        rw [if_neg h1, if_neg h2, if_neg (by rintro (h | h); exact h3 h; exact h4 h), if_neg h5]
      go_wp2
      go_ret
      exact ⟨by rw [HQ.out, HR.out]; rfl, by repeat (first | with_reducible exact Adds.refl _ | with_reducible refine Adds.alloc ?_ _ | with_reducible refine Adds.more ?_ _ _ | with_reducible refine Adds.drew ?_ | with_reducible refine Adds.drewN ?_ _)⟩


theorem made_any {ok : Nat → Prop} (d : Nat) : ∀ (n : N) (s : Value) (w : World), Tn ok d w s n.args → n.text.size ≤ 9223372036854775807 → (∀ d, cntN d [n] ≤ 10000) →
    Calls Tryz.prog 125 #[nodeV n s] w fun e w' => e = .returned (.bool (madeN d n)) ∧ Adds w w' := by
  induction d with
  | zero =>
    intro n s w hT hx hc
    have h0 : n.args = [] := hT.1
    have := made_core 0 (fun _ => true) n s w hT hx (cnt_long hc) (fun e j h => absurd h (by rw [h0]; simp))
    have e : (n.args.all (fun _ => true) && rAlone n.kind n.text.toList n.num n.args.length) = madeN 0 n := by simp [madeN]
    rw [e] at this
    exact this
  | succ d ih =>
    intro n s w hT hx hc
    exact made_core (d + 1) (madeN d) n s w hT hx (cnt_long hc) (fun e j h x W hT' he hx' => by
      have : e = d := by omega
      subst this
      exact ih _ x W hT' hx' (cnt_kid hc (List.getElem_mem h)))

/-- No deeper than that. -/
def lowN : Nat → List N → Prop
  | 0, ts => ts = []
  | d + 1, ts => ∀ t ∈ ts, lowN d t.args
theorem Tn.low {ok : Nat → Prop} {d : Nat} {w : World} {s : Value} {ts : List N} (h : Tn ok d w s ts) : lowN d ts := by
  induction d generalizing s ts with
  | zero => exact h.1
  | succ d ih =>
    intro t ht
    obtain ⟨ao, cap, rfl, _, h | ⟨b, off, rfl, _, _, _, hx⟩⟩ := h
    · rw [h] at ht; cases ht
    · obtain ⟨j, hj, rfl⟩ := List.getElem_of_mem ht
      obtain ⟨x, _, _, h⟩ := hx j hj
      exact ih h

theorem fits_depth (k : Nat) : ∀ (m : Nat) (n : N), fitsN k n = true → depthN m n ≤ k := by
  induction k with
  | zero => intro m n h; cases h
  | succ k ih =>
    intro m n h
    simp only [fitsN, Bool.and_eq_true, List.all_eq_true] at h
    cases m with
    | zero => simp [depthN]
    | succ m =>
      have : mx (n.args.map (depthN m)) ≤ k := mx_le.2 (by simp only [List.mem_map]; rintro x ⟨y, hy, rfl⟩; exact ih m y (h.2 y hy))
      simp only [depthN]
      omega
theorem fits_made (k : Nat) : ∀ (d : Nat) (n : N), fitsN k n = true → madeN d n = true := by
  induction k with
  | zero => intro m n h; cases h
  | succ k ih =>
    intro d n h
    simp only [fitsN, Bool.and_eq_true, List.all_eq_true] at h
    cases d with
    | zero => simp only [madeN, rAlone_is]; exact h.1
    | succ d =>
      simp only [madeN, Bool.and_eq_true, List.all_eq_true, rAlone_is]
      exact ⟨fun y hy => ih d y (h.2 y hy), h.1⟩
theorem made_fits (k : Nat) : ∀ (d : Nat) (n : N), lowN d n.args → depthN (k + 1) n ≤ k → madeN d n = true → fitsN k n = true := by
  induction k with
  | zero => intro d n _ h; simp [depthN] at h
  | succ k ih =>
    intro d n hl hd hm
    have hd' : mx (n.args.map (depthN (k + 1))) ≤ k := by
      have e : depthN (k + 1 + 1) n = mx (n.args.map (depthN (k + 1))) + 1 := rfl
      omega
    rw [mx_le] at hd'
    simp only [fitsN, Bool.and_eq_true, List.all_eq_true]
    cases d with
    | zero =>
      have h0 : n.args = [] := hl
      simp only [madeN, rAlone_is] at hm
      exact ⟨hm, fun y hy => by rw [h0] at hy; cases hy⟩
    | succ d =>
      simp only [madeN, Bool.and_eq_true, List.all_eq_true, rAlone_is] at hm
      exact ⟨hm.2, fun y hy => ih d y (hl y hy) (hd' _ (List.mem_map.2 ⟨y, hy, rfl⟩)) (hm.1 y hy)⟩

theorem rCheckE_any {ok : Nat → Prop} {D : Nat} (n : N) (s : Value) (w : World) (hT : Tn ok D w s n.args) (hx : n.text.size ≤ 9223372036854775807) (hc : ∀ d, cntN d [n] ≤ 10000) :
    Calls Tryz.prog 99 #[nodeV n s] w fun e w' => (∃ x : Int, e = .returned (.int .i64 x) ∧ (x = 0 ↔ fitsN 8 n = true)) ∧ Adds w w' := by
  have kF := fun W hA => rDepth_any (ok := ok) 9 D n s W (Nat.le_refl _) (hT.adds hA) hc
  have kD := fun W hA => made_any (ok := ok) D n s W (hT.adds hA) hx hc
  have H1 : Hid (fitsN 8 n = true → depthN 9 n ≤ 8) := fits_depth 8 9 n
  have H2 : Hid (fitsN 8 n = true → madeN D n = true) := fits_made 8 D n
  have H3 : Hid (depthN 9 n ≤ 8 → madeN D n = true → fitsN 8 n = true) := made_fits 8 D n hT.low
  obtain ⟨ao, cap, rfl⟩ := hT.shape
  have h9 : ((9 : Nat) : Int) = 9 := rfl
  rw [h9] at kF
  have hd := depthN_le 9 n
  generalize depthN 9 n = dd at *
  generalize madeN D n = q at *
  generalize fitsN 8 n = r at *
  clear hT hx hc h9
  obtain ⟨nk, nt, nm, na⟩ := n
  simp only [nodeV, N.kind, N.text, N.num, N.args] at *
  generalize na.length = nl at *
  by_cases hg : 8 < (dd : Int)
  · go_enter Tryz.func99, Tryz.ntmps99
    go_wp2_with (first
      | (go_at_call 53; refine (kF _ (by repeat (first | with_reducible exact Adds.refl _ | with_reducible refine Adds.alloc ?_ _ | with_reducible refine Adds.more ?_ _ _ | with_reducible refine Adds.drew ?_ | with_reducible refine Adds.drewN ?_ _))).mono ?_; rintro e w1 ⟨rfl, os1, n1, rfl⟩))
    go_ret
    exact ⟨⟨13, rfl, fun h => absurd h (by decide), fun h => by have := H1.out h; omega⟩, by repeat (first | with_reducible exact Adds.refl _ | with_reducible refine Adds.alloc ?_ _ | with_reducible refine Adds.more ?_ _ _ | with_reducible refine Adds.drew ?_ | with_reducible refine Adds.drewN ?_ _)⟩
  · cases q
    · go_enter Tryz.func99, Tryz.ntmps99
      go_wp2_with (first
        | (go_at_call 53; refine (kF _ (by repeat (first | with_reducible exact Adds.refl _ | with_reducible refine Adds.alloc ?_ _ | with_reducible refine Adds.more ?_ _ _ | with_reducible refine Adds.drew ?_ | with_reducible refine Adds.drewN ?_ _))).mono ?_; rintro e w1 ⟨rfl, os1, n1, rfl⟩)
        | (go_at_call 125; refine (kD _ (by repeat (first | with_reducible exact Adds.refl _ | with_reducible refine Adds.alloc ?_ _ | with_reducible refine Adds.more ?_ _ _ | with_reducible refine Adds.drew ?_ | with_reducible refine Adds.drewN ?_ _))).mono ?_; rintro e w2 ⟨rfl, os2, n2, rfl⟩))
      go_ret
      exact ⟨⟨1, rfl, fun h => absurd h (by decide), fun h => by have := H2.out h; simp at this⟩, by repeat (first | with_reducible exact Adds.refl _ | with_reducible refine Adds.alloc ?_ _ | with_reducible refine Adds.more ?_ _ _ | with_reducible refine Adds.drew ?_ | with_reducible refine Adds.drewN ?_ _)⟩
    · go_enter Tryz.func99, Tryz.ntmps99
      go_wp2_with (first
        | (go_at_call 53; refine (kF _ (by repeat (first | with_reducible exact Adds.refl _ | with_reducible refine Adds.alloc ?_ _ | with_reducible refine Adds.more ?_ _ _ | with_reducible refine Adds.drew ?_ | with_reducible refine Adds.drewN ?_ _))).mono ?_; rintro e w1 ⟨rfl, os1, n1, rfl⟩)
        | (go_at_call 125; refine (kD _ (by repeat (first | with_reducible exact Adds.refl _ | with_reducible refine Adds.alloc ?_ _ | with_reducible refine Adds.more ?_ _ _ | with_reducible refine Adds.drew ?_ | with_reducible refine Adds.drewN ?_ _))).mono ?_; rintro e w2 ⟨rfl, os2, n2, rfl⟩))
      go_ret
      exact ⟨⟨0, rfl, fun _ => H3.out (by omega) (by first | rfl | trivial), fun _ => rfl⟩, by repeat (first | with_reducible exact Adds.refl _ | with_reducible refine Adds.alloc ?_ _ | with_reducible refine Adds.more ?_ _ _ | with_reducible refine Adds.drew ?_ | with_reducible refine Adds.drewN ?_ _)⟩

end Go.Proofs.YtiacnmcdfpmcfaaGreatDoor
