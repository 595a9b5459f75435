/-
  Both sides' Parse, by contracts.
  A text cut at its commas; Count and Index of package strings at a comma, by contracts.
  Split of package strings at a comma, by a contract.
-/
import Derived.Test.YtiacnmcdfpmcfaaGreatDoorQ27
import Derived.Test.YtiacnmcdfpmcfaaGreatDoorQ31
import Derived.Test.YtiacnmcdfpmcfaaGreatDoorNode
import Derived.Lib.Bytealg
import Derived.Test.YtiacnmcdfpmcfaaGreatDoorQ09
import Derived.Lib.Split
import Derived.Deep.OwnRows
import Derived.Deep.LoopGhost
namespace Go.Proofs.YtiacnmcdfpmcfaaGreatDoor
open Go.RowKit
attribute [local go_sem] cell?_more frozen?_more setCell_more size_more tape_more drew_more drewN_more more_drew more_drewN one_out plus_out plus_end lt_one le_p2 le_p3 le_p4 le_p5 le_p6 le_p7 le_p8 le_p9 le_p10 le_p11 le_p12 le_p13 le_p14 le_p15 le_p16 le_p17 le_p18 le_p19 le_p20 le_p21 le_p22 le_p23 le_p24 le_q0 le_q1 lt_q1 le_q2 lt_q2 le_q3 lt_q3 le_q4 lt_q4 le_q5 lt_q5 le_q6 lt_q6 le_q7 lt_q7 le_q8 lt_q8 le_q9 lt_q9 le_q10 lt_q10 le_q11 lt_q11 le_q12 lt_q12 le_q13 lt_q13 le_q14 lt_q14 le_q15 lt_q15 le_q16 lt_q16 le_q17 lt_q17 le_q18 lt_q18 le_q19 lt_q19 le_q20 lt_q20 le_q21 lt_q21 le_q22 lt_q22 le_q23 lt_q23 le_q24 lt_q24


theorem parse_long (s0 : ByteArray) (hs : 256 < s0.size) (w : World) : Calls Tryz.prog 48 #[.string s0] w fun e w' => e = .returned (.tuple #[.agg #[.int .i64 0, .string ⟨#[]⟩, .int .i64 0, .slice none 0 0], .int .i64 3]) ∧ Adds w w' := by
  have hs' : (256 : Int) < (s0.size : Int) := by omega
  go_enter Tryz.func48, Tryz.ntmps48
  go_wp2
  exact bodyPost_ret (v := .tuple #[.agg #[.int .i64 0, .string ⟨#[]⟩, .int .i64 0, .slice none 0 0], .int .i64 3]) (by simp [results, Tryz.results48, go_sem]) rfl ⟨rfl, by repeat (first | with_reducible exact Adds.refl _ | with_reducible refine Adds.alloc ?_ _ | with_reducible refine Adds.more ?_ _ _ | with_reducible refine Adds.drew ?_ | with_reducible refine Adds.drewN ?_ _)⟩

theorem rparse_long (s0 : ByteArray) (hs : 256 < s0.size) (w : World) : Calls Tryz.prog 38 #[.string s0] w fun e w' => e = .returned (.tuple #[.agg #[.int .i64 0, .string ⟨#[]⟩, .int .i64 0, .slice none 0 0], .int .i64 3]) ∧ Adds w w' := by
  have hs' : (256 : Int) < (s0.size : Int) := by omega
  go_enter Tryz.func38, Tryz.ntmps38
  go_wp2
  exact bodyPost_ret (v := .tuple #[.agg #[.int .i64 0, .string ⟨#[]⟩, .int .i64 0, .slice none 0 0], .int .i64 3]) (by simp [results, Tryz.results38, go_sem]) rfl ⟨rfl, by repeat (first | with_reducible exact Adds.refl _ | with_reducible refine Adds.alloc ?_ _ | with_reducible refine Adds.more ?_ _ _ | with_reducible refine Adds.drew ?_ | with_reducible refine Adds.drewN ?_ _)⟩

set_option maxHeartbeats 2000000 in
theorem parse_bad (s0 : ByteArray) (hs : s0.size ≤ 256) (hG : ∀ x, ¬ G .sum s0.toList x) (w : World) : Calls Tryz.prog 48 #[.string s0] w fun e w' => e = .returned (.tuple #[.agg #[.int .i64 0, .string ⟨#[]⟩, .int .i64 0, .slice none 0 0], .int .i64 5]) ∧ Adds w w' := by
  have hM : M s0.toList [] Fr.none none = none := by
    cases h : M s0.toList [] Fr.none none with
    | none => rfl
    | some x => exact absurd ((M_is _ _).1 h) (hG x)
  have kR : ∀ W, Calls Tryz.prog 65 #[.string s0] W fun e w' => e = .returned (.tuple #[.agg #[.int .i64 0, .string ⟨#[]⟩, .int .i64 0, .slice none 0 0], .bool false]) ∧ Adds W w' := by
    intro W
    refine (read_any s0 hs W).mono ?_
    rintro e w' (⟨y, sr, D, h1, _⟩ | ⟨_, rfl, hA⟩)
    · rw [hM] at h1
      cases h1
    · exact ⟨rfl, hA⟩
  have hs' : ¬ (256 : Int) < (s0.size : Int) := by omega
  clear hM hG
  go_enter Tryz.func48, Tryz.ntmps48
  go_wp2_with (first
    | (go_at_call 65; refine (kR _).mono ?_; rintro e w1 ⟨rfl, os1, n1, rfl⟩))
  exact bodyPost_ret (v := .tuple #[.agg #[.int .i64 0, .string ⟨#[]⟩, .int .i64 0, .slice none 0 0], .int .i64 5]) (by simp [results, Tryz.results48, go_sem]) rfl ⟨rfl, by repeat (first | with_reducible exact Adds.refl _ | with_reducible refine Adds.alloc ?_ _ | with_reducible refine Adds.more ?_ _ _ | with_reducible refine Adds.drew ?_ | with_reducible refine Adds.drewN ?_ _)⟩

set_option maxHeartbeats 2000000 in
theorem parse_deep (s0 : ByteArray) (hs : s0.size ≤ 256) (x : E) (hG : G .sum s0.toList x) (hd : ¬ x.depth ≤ 8) (w : World) : Calls Tryz.prog 48 #[.string s0] w fun e w' => e = .returned (.tuple #[.agg #[.int .i64 0, .string ⟨#[]⟩, .int .i64 0, .slice none 0 0], .int .i64 13]) ∧ Adds w w' := by
  have hM := M_whole hG
  have hok := hG.ok
  have hc : ∀ d, cntN d [x.toN] ≤ 10000 := fun d => by
    have h1 := cnt_E x d
    have h2 := hG.nodes
    rw [toList_length] at h2
    omega
  have kR' : ∀ W, Calls Tryz.prog 65 #[.string s0] W fun e w' => (∃ ao cap D, e = .returned (.tuple #[nodeV x.toN (.slice ao x.toN.args.length cap), .bool true]) ∧ Hid (Tn (fun b => W.heap.size ≤ b) D w' (.slice ao x.toN.args.length cap) x.toN.args)) ∧ Adds W w' := by
    intro W
    refine (read_any s0 hs W).mono ?_
    rintro e w' (⟨y, sr, D, h1, rfl, hT, hA⟩ | ⟨h1, _⟩)
    · rw [hM] at h1
      cases h1
      obtain ⟨ao, cap, rfl⟩ := hT.shape
      exact ⟨⟨ao, cap, D, rfl, hT⟩, hA⟩
    · rw [hM] at h1
      cases h1
  have kC : ∀ W ao cap D, Tn (fun b => 0 < b) D W (.slice ao x.toN.args.length cap) x.toN.args → Calls Tryz.prog 66 #[nodeV x.toN (.slice ao x.toN.args.length cap)] W fun e w' => e = .returned (.int .i64 13) ∧ Adds W w' := fun W ao cap D hT => (checkx_any (D := D) x _ W hT hok hc).mono (by rintro e w' ⟨rfl, hA'⟩; exact ⟨by rw [if_neg hd], hA'⟩)
  have hs' : ¬ (256 : Int) < (s0.size : Int) := by omega
  simp only [nodeV] at kR' kC ⊢
  clear hM hok hc hG hd
  generalize x.toN.args = xa at *
  generalize x.toN.kind = xk at *
  generalize x.toN.text = xt at *
  generalize x.toN.num = xn at *
  go_enter Tryz.func48, Tryz.ntmps48
  go_wp2_with (first
    | (go_at_call 65; refine (kR' _).mono ?_; rintro e w1 ⟨⟨ao, cap, D, rfl, hT⟩, os1, n1, rfl⟩)
    | (go_at_call 66; refine (kC _ _ _ D ((Tn.adds hT.out (by repeat (first | with_reducible exact Adds.refl _ | with_reducible refine Adds.alloc ?_ _ | with_reducible refine Adds.more ?_ _ _ | with_reducible refine Adds.drew ?_ | with_reducible refine Adds.drewN ?_ _))).weak (fun b hb _ => Nat.lt_of_lt_of_le (by simp) hb))).mono ?_; rintro e w2 ⟨rfl, os2, n2, rfl⟩))
  exact bodyPost_ret (v := .tuple #[.agg #[.int .i64 0, .string ⟨#[]⟩, .int .i64 0, .slice none 0 0], .int .i64 13]) (by simp [results, Tryz.results48, go_sem]) rfl ⟨rfl, by repeat (first | with_reducible exact Adds.refl _ | with_reducible refine Adds.alloc ?_ _ | with_reducible refine Adds.more ?_ _ _ | with_reducible refine Adds.drew ?_ | with_reducible refine Adds.drewN ?_ _)⟩

/-- What the reference reads, as it is asked for by its Parse. -/
theorem rread_300 (s0 : ByteArray) (hs : s0.size ≤ 256) (W : World) : Calls Tryz.prog 52 #[.string s0, .int .i64 300] W fun e w' =>
    (∃ k t mm ao n c q, e = .returned (.tuple #[.agg #[.int .i64 k, .string t, .int .i64 mm, .slice ao n c], .bool q]) ∧ Hid (RT W.heap.size s0.toList k t mm (.slice ao n c) q w')) ∧ Adds W w' := by
  have := reads_any 299 (by omega) s0.toList (by rw [toList_length]; omega) W
  rw [toB_of] at this
  exact this

set_option maxHeartbeats 2000000 in
theorem rparse_bad (s0 : ByteArray) (hs : s0.size ≤ 256) (hG : ∀ x, ¬ G .sum s0.toList x) (w : World) : Calls Tryz.prog 38 #[.string s0] w fun e w' => e = .returned (.tuple #[.agg #[.int .i64 0, .string ⟨#[]⟩, .int .i64 0, .slice none 0 0], .int .i64 5]) ∧ Adds w w' := by
  have kR : ∀ W, Calls Tryz.prog 52 #[.string s0, .int .i64 300] W fun e w' => (∃ k t mm ao n c, e = .returned (.tuple #[.agg #[.int .i64 k, .string t, .int .i64 mm, .slice ao n c], .bool false])) ∧ Adds W w' := by
    intro W
    refine (rread_300 s0 hs W).mono ?_
    rintro e w' ⟨⟨k, t, mm, ao, n, c, q, rfl, hR⟩, hA⟩
    cases q with
    | false => exact ⟨⟨k, t, mm, ao, n, c, rfl⟩, hA⟩
    | true =>
      obtain ⟨x, _, g, _⟩ := hR.out.1 rfl
      exact absurd g (hG x)
  have hs' : ¬ (256 : Int) < (s0.size : Int) := by omega
  clear hG
  go_enter Tryz.func38, Tryz.ntmps38
  go_wp2_with (first
    | (go_at_call 52; refine (kR _).mono ?_; rintro e w1 ⟨⟨k, t, mm, ao, n, c, rfl⟩, os1, n1, rfl⟩))
  exact bodyPost_ret (v := .tuple #[.agg #[.int .i64 0, .string ⟨#[]⟩, .int .i64 0, .slice none 0 0], .int .i64 5]) (by simp [results, Tryz.results38, go_sem]) rfl ⟨rfl, by repeat (first | with_reducible exact Adds.refl _ | with_reducible refine Adds.alloc ?_ _ | with_reducible refine Adds.more ?_ _ _ | with_reducible refine Adds.drew ?_ | with_reducible refine Adds.drewN ?_ _)⟩

theorem G.one {s : List UInt8} {x y : E} (h : G .sum s x) (h' : G .sum s y) : x = y := by
  have h1 := M_whole h
  rw [M_whole h'] at h1
  cases h1
  rfl

set_option maxHeartbeats 2000000 in
theorem rparse_some (s0 : ByteArray) (hs : s0.size ≤ 256) (x : E) (hG : G .sum s0.toList x) (w : World) : Calls Tryz.prog 38 #[.string s0] w fun e w' =>
    (if x.depth ≤ 8 then ∃ sr D, e = .returned (.tuple #[nodeV x.toN sr, .int .i64 0]) ∧ Tn (fun b => w.heap.size + 1 ≤ b) D w' sr x.toN.args else e = .returned (.tuple #[.agg #[.int .i64 0, .string ⟨#[]⟩, .int .i64 0, .slice none 0 0], .int .i64 13])) ∧ Adds w w' := by
  have hc : ∀ d, cntN d [x.toN] ≤ 10000 := fun d => by
    have h1 := cnt_E x d
    have h2 := hG.nodes
    rw [toList_length] at h2
    omega
  have kR : ∀ W, Calls Tryz.prog 52 #[.string s0, .int .i64 300] W fun e w' => (∃ ao cap D, e = .returned (.tuple #[nodeV x.toN (.slice ao x.toN.args.length cap), .bool true]) ∧ Hid (Tn (fun b => W.heap.size ≤ b) D w' (.slice ao x.toN.args.length cap) x.toN.args)) ∧ Adds W w' := by
    intro W
    refine (rread_300 s0 hs W).mono ?_
    rintro e w' ⟨⟨k, t, mm, ao, n, c, q, rfl, hR⟩, hA⟩
    cases q with
    | false => exact absurd hG (hR.out.2 rfl x)
    | true =>
      obtain ⟨y, D, g, h1, h2, h3, hT⟩ := hR.out.1 rfl
      obtain rfl := hG.one g
      obtain ⟨ao', c', e1⟩ := hT.shape
      simp only [Value.slice.injEq] at e1
      obtain ⟨rfl, rfl, rfl⟩ := e1
      exact ⟨⟨ao, c, D, by rw [nodeV, h1, h2, h3], hT⟩, hA⟩
  have kD : ∀ W ao cap D, Tn (fun _ => True) D W (.slice ao x.toN.args.length cap) x.toN.args → Calls Tryz.prog 53 #[nodeV x.toN (.slice ao x.toN.args.length cap), .int .i64 9] W fun e w' => e = .returned (.int .i64 ((min x.depth 10 : Nat) : Int)) ∧ Adds W w' := fun W ao cap D hT => by
    have := rDepth_any 9 D x.toN _ W (by omega) hT hc
    rw [depth_E] at this
    exact this
  have hs' : ¬ (256 : Int) < (s0.size : Int) := by omega
  by_cases hd : x.depth ≤ 8
  · simp only [if_pos hd]
    have hd' : ¬ (8 : Int) < ((min x.depth 10 : Nat) : Int) := by omega
    simp only [nodeV] at kR kD ⊢
    clear hc hG hd
    generalize min x.depth 10 = dd at *
    generalize x.toN.args = xa at *
    generalize x.toN.kind = xk at *
    generalize x.toN.text = xt at *
    generalize x.toN.num = xn at *
    go_enter Tryz.func38, Tryz.ntmps38
    go_wp2_with (first
      | (go_at_call 52; refine (kR _).mono ?_; rintro e w1 ⟨⟨ao, cap, D, rfl, hT⟩, os1, n1, rfl⟩)
      | (go_at_call 53; refine (kD _ _ _ D ((Tn.adds hT.out (by repeat (first | with_reducible exact Adds.refl _ | with_reducible refine Adds.alloc ?_ _ | with_reducible refine Adds.more ?_ _ _ | with_reducible refine Adds.drew ?_ | with_reducible refine Adds.drewN ?_ _))).weak (fun _ _ _ => trivial))).mono ?_; rintro e w2 ⟨rfl, os2, n2, rfl⟩))
    refine bodyPost_ret (v := .tuple #[.agg #[.int .i64 xk, .string xt, .int .i64 xn, .slice ao xa.length cap], .int .i64 0]) (by simp [results, Tryz.results38, go_sem]) rfl ⟨⟨_, D, rfl, ?_⟩, by repeat (first | with_reducible exact Adds.refl _ | with_reducible refine Adds.alloc ?_ _ | with_reducible refine Adds.more ?_ _ _ | with_reducible refine Adds.drew ?_ | with_reducible refine Adds.drewN ?_ _)⟩
    exact Tn.adds (Tn.box hT.out) (by repeat (first | with_reducible exact Adds.refl _ | with_reducible refine Adds.alloc ?_ _ | with_reducible refine Adds.more ?_ _ _ | with_reducible refine Adds.drew ?_ | with_reducible refine Adds.drewN ?_ _))
  · simp only [if_neg hd]
    have hd' : (8 : Int) < ((min x.depth 10 : Nat) : Int) := by omega
    simp only [nodeV] at kR kD ⊢
    clear hc hG hd
    generalize min x.depth 10 = dd at *
    generalize x.toN.args = xa at *
    generalize x.toN.kind = xk at *
    generalize x.toN.text = xt at *
    generalize x.toN.num = xn at *
    go_enter Tryz.func38, Tryz.ntmps38
    go_wp2_with (first
      | (go_at_call 52; refine (kR _).mono ?_; rintro e w1 ⟨⟨ao, cap, D, rfl, hT⟩, os1, n1, rfl⟩)
      | (go_at_call 53; refine (kD _ _ _ D ((Tn.adds hT.out (by repeat (first | with_reducible exact Adds.refl _ | with_reducible refine Adds.alloc ?_ _ | with_reducible refine Adds.more ?_ _ _ | with_reducible refine Adds.drew ?_ | with_reducible refine Adds.drewN ?_ _))).weak (fun _ _ _ => trivial))).mono ?_; rintro e w2 ⟨rfl, os2, n2, rfl⟩))
    exact bodyPost_ret (v := .tuple #[.agg #[.int .i64 0, .string ⟨#[]⟩, .int .i64 0, .slice none 0 0], .int .i64 13]) (by simp [results, Tryz.results38, go_sem]) rfl ⟨rfl, by repeat (first | with_reducible exact Adds.refl _ | with_reducible refine Adds.alloc ?_ _ | with_reducible refine Adds.more ?_ _ _ | with_reducible refine Adds.drew ?_ | with_reducible refine Adds.drewN ?_ _)⟩

end Go.Proofs.YtiacnmcdfpmcfaaGreatDoor

namespace Go.Proofs.YtiacnmcdfpmcfaaGreatDoor
open Go.RowKit


/-- A text cut at its commas. -/
def spl : List UInt8 → List (List UInt8)
  | [] => [[]]
  | c :: r => if c = 44 then [] :: spl r else match spl r with
    | [] => [[c]]
    | h :: t => (c :: h) :: t

theorem spl_ne (s : List UInt8) : spl s ≠ [] := by
  cases s with
  | nil => simp [spl]
  | cons c r =>
    simp only [spl]
    split
    · simp
    · split <;> simp

theorem spl_none {s : List UInt8} (h : (44 : UInt8) ∉ s) : spl s = [s] := by
  induction s with
  | nil => rfl
  | cons c r ih =>
    have hc : c ≠ 44 := fun e => h (by simp [e])
    simp only [spl]
    rw [if_neg hc, ih (fun hm => h (by simp [hm]))]

theorem spl_at {p q : List UInt8} (h : (44 : UInt8) ∉ p) : spl (p ++ 44 :: q) = p :: spl q := by
  induction p with
  | nil => simp [spl]
  | cons c r ih =>
    have hc : c ≠ 44 := fun e => h (by simp [e])
    simp only [List.cons_append, spl]
    rw [if_neg hc, ih (fun hm => h (by simp [hm]))]

theorem spl_len (s : List UInt8) : (spl s).length = s.count 44 + 1 := by
  induction s with
  | nil => simp [spl]
  | cons c r ih =>
    simp only [spl]
    by_cases hc : c = 44
    · rw [if_pos hc, hc]
      simp [ih]
    · rw [if_neg hc]
      have : (c :: r).count 44 = r.count 44 := by rw [List.count_cons]; simp [hc]
      rw [this]
      split
      · rename_i e
        exact absurd e (spl_ne r)
      · rename_i h t e
        rw [e] at ih
        simpa using ih

theorem first_comma {l : List UInt8} (h : (44 : UInt8) ∈ l) : ∃ f t, l = f ++ 44 :: t ∧ (44 : UInt8) ∉ f := by
  induction l with
  | nil => cases h
  | cons x r ih =>
    by_cases hx : x = 44
    · subst hx
      exact ⟨[], r, rfl, by simp⟩
    · obtain ⟨f, t, rfl, hf⟩ := ih (by simpa [Ne.symm hx] using h)
      exact ⟨x :: f, t, rfl, by simp [Ne.symm hx, hf]⟩

theorem idx_none {s : List UInt8} (h : (44 : UInt8) ∉ s) : Lib.indexByte s 44 = -1 := by
  induction s with
  | nil => rfl
  | cons c r ih =>
    have hc : c ≠ 44 := fun e => h (by simp [e])
    unfold Lib.indexByte
    rw [if_neg (by simpa using hc), ih (fun hm => h (by simp [hm]))]
    rfl
theorem idx_at {p q : List UInt8} (h : (44 : UInt8) ∉ p) : Lib.indexByte (p ++ 44 :: q) 44 = (p.length : Int) := by
  induction p with
  | nil => simp [Lib.indexByte]
  | cons c r ih =>
    have hc : c ≠ 44 := fun e => h (by simp [e])
    have hi := ih (fun hm => h (by simp [hm]))
    simp only [List.cons_append]
    unfold Lib.indexByte
    rw [if_neg (by simpa using hc), hi, if_neg (by simp)]
    simp

set_option maxHeartbeats 1000000 in
set_option maxRecDepth 100000 in
theorem count_any (s : ByteArray) (w : World) : Calls Tryz.prog 46 #[.string s, .string ⟨#[44]⟩] w fun e w' => e = .returned (.int .i64 ((s.toList.count 44 : Nat) : Int)) ∧ w' = w := by
  have e0 : s.data.toList = s.toList := (ByteArray.toList_eq s).symm
  go_enter Tryz.func46, Tryz.ntmps46
  go_wp2
  rw [run_callFunc_extern Tryz.func62 (by kernel_rfl) (by kernel_rfl) (by kernel_rfl) (e := Extern.BytealgCount.count) (by kernel_rfl), Lib.run_countString]
  simp only [Result.andThen]
  rw [Oper.upon_value]
  go_wp2
  go_ret
  exact ⟨by rw [← e0]; rfl, rfl⟩

set_option maxHeartbeats 1000000 in
set_option maxRecDepth 100000 in
theorem idxByte_any (s : ByteArray) (w : World) : Calls Tryz.prog 114 #[.string s, .int .u8 44] w fun e w' => e = .returned (.int .i64 (Lib.indexByte s.toList 44)) ∧ w' = w := by
  have e0 : s.data.toList = s.toList := (ByteArray.toList_eq s).symm
  go_enter Tryz.func114, Tryz.ntmps114
  go_wp2
  rw [run_callFunc_extern Tryz.func141 (by kernel_rfl) (by kernel_rfl) (by kernel_rfl) (e := Extern.BytealgIndexByte.indexByte) (by kernel_rfl), Lib.run_indexByteString]
  simp only [Result.andThen]
  rw [Oper.upon_value]
  go_wp2
  go_ret
  exact ⟨by rw [← e0]; rfl, rfl⟩

set_option maxHeartbeats 1000000 in
set_option maxRecDepth 100000 in
theorem slIndex_any (s : ByteArray) (w : World) : Calls Tryz.prog 86 #[.string s, .string ⟨#[44]⟩] w fun e w' => e = .returned (.int .i64 (Lib.indexByte s.toList 44)) ∧ w' = w := by
  have kI := idxByte_any s
  have q : (⟨#[44]⟩ : ByteArray).toList = [44] := by rw [ByteArray.toList_eq]
  by_cases he : s.toList = [44]
  · have he' : ([44] == s.toList) = true := by rw [he]; rfl
    have hx : Lib.indexByte s.toList 44 = 0 := by rw [he]; rfl
    rw [hx]
    clear hx he kI
    go_enter Tryz.func86, Tryz.ntmps86
    go_wp2
    go_ret
    exact ⟨rfl, rfl⟩
  · have he' : ([44] == s.toList) = false := by
      cases h : ([44] == s.toList) with
      | false => rfl
      | true => exact absurd (beq_iff_eq.1 h).symm he
    clear he
    go_enter Tryz.func86, Tryz.ntmps86
    go_wp2_with (go_at_call 114; refine (kI _).mono ?_; rintro e w1 ⟨rfl, hw⟩; subst w1)
    go_ret
    exact ⟨rfl, rfl⟩

theorem index_any (s : ByteArray) (w : World) : Calls Tryz.prog 63 #[.string s, .string ⟨#[44]⟩] w fun e w' => e = .returned (.int .i64 (Lib.indexByte s.toList 44)) ∧ w' = w := by
  have kI := slIndex_any s
  go_enter Tryz.func63, Tryz.ntmps63
  go_wp2_with (go_at_call 86; refine (kI _).mono ?_; rintro e w1 ⟨rfl, hw⟩; subst w1)
  go_ret
  exact ⟨rfl, rfl⟩

end Go.Proofs.YtiacnmcdfpmcfaaGreatDoor

namespace Go.Proofs.YtiacnmcdfpmcfaaGreatDoor
open Go.RowKit


theorem spl_last {s : List UInt8} (h : (spl s).length = 1) : spl s = [s] := by
  rw [spl_len] at h
  exact spl_none (List.count_eq_zero.1 (by omega))
theorem spl_more {s : List UInt8} (h : 1 < (spl s).length) : ∃ p q, s = p ++ 44 :: q ∧ (44 : UInt8) ∉ p := by
  rw [spl_len] at h
  exact first_comma (List.count_pos_iff.1 (by omega))

theorem pieces_cells {l : List ByteArray} {n : Nat} (h : n = l.length) : Lib.cellsOf l n = (l.map Value.string).toArray := by
  subst h
  simp [Lib.cellsOf]

set_option maxHeartbeats 4000000 in
set_option maxRecDepth 1000000 in
theorem genSplit_any (s : ByteArray) (hs : s.size ≤ 2000) (w : World) : Calls Tryz.prog 64 #[.string s, .string ⟨#[44]⟩, .int .i64 0, .int .i64 (-1)] w fun e w' =>
    e = .returned (.slice (some ⟨w.heap.size, 0, none⟩) (spl s.toList).length (spl s.toList).length) ∧ w' = w.alloc (.cells ((spl s.toList).map (fun l => Value.string (toB l))).toArray 9) := by
  obtain ⟨cn, hcn⟩ : ∃ cn : Nat, s.toList.count 44 = cn := ⟨_, rfl⟩
  have kC := count_any s
  rw [hcn] at kC
  have kI := fun x w => index_any x w
  have hle : cn ≤ s.size := by rw [← hcn, ← toList_length]; exact List.count_le_length
  have hN : (spl s.toList).length = cn + 1 := by rw [spl_len, hcn]
  have hmin : min ((cn : Int) + 1) ((s.size : Int) + 1) = (cn : Int) + 1 := by omega
  have q : (⟨#[44]⟩ : ByteArray).toList = [44] := by rw [ByteArray.toList_eq]
  have hmk := run_make_row' (P := Tryz.prog) 79 9 (.string ByteArray.empty) 16 Tryz.underlying79 (by kernel_rfl) rfl .i64 .i64 (cn + 1) (by omega) (by omega)
  rw [hN]
  have hc1 : ((cn + 1 : Nat) : Int) = (cn : Int) + 1 := by omega
  rw [hc1] at hmk
  clear hcn
  go_enter Tryz.func64, Tryz.ntmps64
  go_wp2_with (go_at_call 46; refine (kC _).mono ?_; rintro e w1 ⟨rfl, hw⟩; subst w1)
  clear hmk kC hmin hc1
  have HN : Hid ((spl s.toList).length = cn + 1) := hN
  clear hN
  go_loopw [0, 10] (fun sv iv wr => ∃ (done : List ByteArray) (rest : ByteArray), sv = .string rest ∧ iv = .int .i64 (done.length : Int) ∧ done.length ≤ cn ∧ rest.size ≤ 2000 ∧ wr = w.alloc (.cells (Lib.cellsOf done (cn + 1)) 9) ∧ Hid (done.map ByteArray.toList ++ spl rest.toList = spl s.toList)) (fun _ iv _ => cn - (intOf iv).toNat)
  case atStart => exact ⟨[], s, rfl, rfl, Nat.zero_le _, hs, by rw [Lib.cellsOf_nil], rfl⟩
  case round =>
    obtain ⟨done, rest, rfl, rfl, hd, hrs, rfl, HS⟩ := hrel
    have hnext : (Lib.cellsOf done (cn + 1))[done.length]? = some (.string ByteArray.empty) := Lib.cellsOf_next (by omega)
    have hlen : done.length + (spl rest.toList).length = cn + 1 := by
      have h1 := congrArg List.length HS.out
      rw [List.length_append, List.length_map, HN.out] at h1
      exact h1
    by_cases hlt : done.length < cn
    · have hltz : ((done.length : Nat) : Int) < (cn : Int) := by omega
      obtain ⟨p, r, hp, hno⟩ := spl_more (s := rest.toList) (by omega)
      have hix : Lib.indexByte rest.toList 44 = (p.length : Int) := by rw [hp]; exact idx_at hno
      have kJ := fun w => kI rest w
      rw [hix] at kJ
      have hpl : p.length + 1 ≤ rest.size := by
        rw [← toList_length, hp]
        simp
      have c0 : ¬ ((p.length : Int) < 0) := by omega
      have HP : Hid ((rest.extract 0 p.length).toList = p ∧ (rest.extract (p.length + 1) rest.size).toList = r) := by
        constructor
        · rw [extract_L, hp]; simp
        · rw [extract_L, ← toList_length, List.take_length, hp, show p ++ 44 :: r = (p ++ [44]) ++ r by simp, show p.length + 1 = (p ++ [44]).length by simp, List.drop_left]
      have HQ : Hid (spl rest.toList = p :: spl r) := by
        show _ = _
        rw [hp]
        exact spl_at hno
      have HX : Hid (done.length + (spl rest.toList).length = cn + 1) := hlen
      clear hlen hp hno kI hix
      generalize p.length = P at *
      go_wp2_with (go_at_call 63; refine (kJ _).mono ?_; rintro e w1 ⟨rfl, hw⟩; subst w1)
      go_roundw
      case rel =>
        refine ⟨done ++ [rest.extract 0 P], rest.extract (P + 1) rest.size, rfl, by simp, by simp; omega, by rw [ByteArray.size_extract]; omega, by rw [← Lib.cellsOf_set (by omega)], ?_⟩
        show _ = _
        rw [← HS.out, HQ.out, List.map_append, List.map_cons, List.map_nil, HP.out.1, HP.out.2]
        simp
      case measure => simp [intOf]; omega
    · have hltz : ¬ (((done.length : Nat) : Int) < (cn : Int)) := by omega
      have hfin : Hid ((w.alloc (.cells ((Lib.cellsOf done (cn + 1)).setIfInBounds done.length (.string rest)) 9)) = w.alloc (.cells ((spl s.toList).map (fun l => Value.string (toB l))).toArray 9)) := by
        show _ = _
        have h1 := spl_last (s := rest.toList) (by omega)
        rw [Lib.cellsOf_set (by omega), ← HS.out, h1, pieces_cells (by simp; omega)]
        simp [Function.comp_def, toB_of]
      have hdc : Hid (done.length = cn) := by
        show _ = _
        omega
      clear hlen HS HN kI
      go_wp2
      go_ret
      refine ⟨?_, hfin.out⟩
      rw [← hdc.out]
      first | rfl | (congr 2 <;> omega)

set_option maxHeartbeats 1000000 in
theorem split_any (s : ByteArray) (hs : s.size ≤ 2000) (w : World) : Calls Tryz.prog 47 #[.string s, .string ⟨#[44]⟩] w fun e w' =>
    e = .returned (.slice (some ⟨w.heap.size, 0, none⟩) (spl s.toList).length (spl s.toList).length) ∧ w' = w.alloc (.cells ((spl s.toList).map (fun l => Value.string (toB l))).toArray 9) := by
  have kG := genSplit_any s hs
  go_enter Tryz.func47, Tryz.ntmps47
  go_wp2_with (go_at_call 64; refine (kG _).mono ?_; rintro e w1 ⟨rfl, hw⟩; subst w1)
  go_ret
  exact ⟨rfl, rfl⟩

end Go.Proofs.YtiacnmcdfpmcfaaGreatDoor
