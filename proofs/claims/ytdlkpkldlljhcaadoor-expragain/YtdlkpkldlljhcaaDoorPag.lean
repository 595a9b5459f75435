/-
  The law ExprAgain, by contract.
-/
import Derived.Test.YtdlkpkldlljhcaaDoorPta
import Derived.Test.YtdlkpkldlljhcaaDoorPsc
namespace Go.Proofs.YtdlkpkldlljhcaaDoor
open Go.RowKit
attribute [local go_sem] cell?_more frozen?_more setCell_more size_more tape_more drew_more drewN_more more_drew more_drewN one_out plus_out plus_end lt_one le_p2 le_p3 le_p4 le_p5 le_p6 le_p7 le_p8 le_p9 le_p10 le_p11 le_p12 le_p13 le_p14 le_p15 le_p16 le_p17 le_p18 le_p19 le_p20 le_p21 le_p22 le_p23 le_p24 le_q0 le_q1 lt_q1 le_q2 lt_q2 le_q3 lt_q3 le_q4 lt_q4 le_q5 lt_q5 le_q6 lt_q6 le_q7 lt_q7 le_q8 lt_q8 le_q9 lt_q9 le_q10 lt_q10 le_q11 lt_q11 le_q12 lt_q12 le_q13 lt_q13 le_q14 lt_q14 le_q15 lt_q15 le_q16 lt_q16 le_q17 lt_q17 le_q18 lt_q18 le_q19 lt_q19 le_q20 lt_q20 le_q21 lt_q21 le_q22 lt_q22 le_q23 lt_q23 le_q24 lt_q24

theorem G_one {s : List UInt8} {x y : E} (h : G .sum s x) (h' : G .sum s y) : x = y := by
  have := M_whole h
  rw [M_whole h'] at this
  exact (Option.some.inj this).symm

set_option maxHeartbeats 4000000 in
set_option maxRecDepth 20000 in
theorem again_bad (s : ByteArray) (w : World) (c : Int) (hc : c ≠ 0) (hs : s.size ≤ 1000) (kP : ∀ W, Calls Tryd.prog 11 #[.string s] W fun e w' => e = .returned (.tuple #[.agg #[.int .i64 0, .string ⟨#[]⟩, .int .i64 0, .slice none 0 0], .int .i64 c]) ∧ Adds W w') :
    Calls Tryd.prog 4 #[.string s] w fun e w' => e = .returned (.bool true) ∧ Adds w w' := by
  have kA := awakeE_any
  have hcb : (c != 0) = true := by simpa using hc
  have hcb' : (c == 0) = false := by simpa using hc
  have hs' : ¬ (1000 : Int) < (s.size : Int) := by omega
  clear hc hs
  go_enter Tryd.func4, Tryd.ntmps4
  go_wp2_with (first
    | (go_at_call 11; refine (kP _).mono ?_; rintro e w1 ⟨rfl, os1, n1, rfl⟩)
    | (go_at_call 6; refine (kA _).mono ?_; rintro e w2 ⟨rfl, os2, n2, rfl⟩))
  go_ret
  exact ⟨rfl, (by repeat (first | with_reducible exact Adds.refl _ | with_reducible refine Adds.alloc ?_ _ | with_reducible refine Adds.more ?_ _ _ | with_reducible refine Adds.drew ?_ | with_reducible refine Adds.drewN ?_ _))⟩

set_option maxHeartbeats 4000000 in
set_option maxRecDepth 20000 in
theorem again_long (s : ByteArray) (w : World) (hs : ¬ s.size ≤ 1000) : Calls Tryd.prog 4 #[.string s] w fun e w' => e = .returned (.bool true) ∧ Adds w w' := by
  have kA := awakeE_any
  have hs' : (1000 : Int) < (s.size : Int) := by omega
  clear hs
  go_enter Tryd.func4, Tryd.ntmps4
  go_wp2_with (go_at_call 6; refine (kA _).mono ?_; rintro e w2 ⟨rfl, os2, n2, rfl⟩)
  go_ret
  exact ⟨rfl, (by repeat (first | with_reducible exact Adds.refl _ | with_reducible refine Adds.alloc ?_ _ | with_reducible refine Adds.more ?_ _ _ | with_reducible refine Adds.drew ?_ | with_reducible refine Adds.drewN ?_ _))⟩

set_option maxHeartbeats 4000000 in
set_option maxRecDepth 20000 in
theorem again_ok (s : ByteArray) (x : E) (w : World) (ht : Tab w) (hs : s.size ≤ 256) (hG : G .sum s.toList x) (hd : x.depth ≤ 8) : Calls Tryd.prog 4 #[.string s] w fun e w' => e = .returned (.bool true) ∧ Adds w w' := by
  have kA := awakeE_any
  have hok := hG.ok
  have hf : fitsN 8 x.toN = true := (fits_deep 8 x hok).2 hd
  have hnod := hG.nodes
  rw [toList_length] at hnod
  have hc6 : ∀ d, cntN d [x.toN] ≤ 256 := fun d => Nat.le_trans (cnt_E x d) (by omega)
  have hc : ∀ d, cntN d [x.toN] ≤ 10000 := fun d => Nat.le_trans (hc6 d) (by omega)
  have hpl : x.print.length ≤ s.size := by
    have := print_least hG
    rw [toList_length] at this
    exact this
  have hG2 : G .sum (toB x.print).toList x := by
    rw [toB_toList]
    exact G_up (G_print x hok)
  have hts := toB_size x.print
  have kP := fun W => (parse_ok s hs x (M_whole hG) hf hok hc W).mono (R' := fun e w' => (∃ ao cap D, e = .returned (.tuple #[nodeV x.toN (.slice ao x.toN.args.length cap), .int .i64 0]) ∧ Hid (Tn (fun _ => True) D w' (.slice ao x.toN.args.length cap) x.toN.args)) ∧ Adds W w') (by
    rintro e w' ⟨⟨sr, D, rfl, hT⟩, hA⟩
    obtain ⟨ao, cap, rfl⟩ := hT.shape
    exact ⟨⟨ao, cap, D, rfl, hT.weak (fun _ _ _ => trivial)⟩, hA⟩)
  have kP2 := fun W => (parse_ok (toB x.print) (by omega) x (M_whole hG2) hf hok hc W).mono (R' := fun e w' => (∃ ao cap D, e = .returned (.tuple #[nodeV x.toN (.slice ao x.toN.args.length cap), .int .i64 0]) ∧ Hid (Tn (fun _ => True) D w' (.slice ao x.toN.args.length cap) x.toN.args)) ∧ Adds W w') (by
    rintro e w' ⟨⟨sr, D, rfl, hT⟩, hA⟩
    obtain ⟨ao, cap, rfl⟩ := hT.shape
    exact ⟨⟨ao, cap, D, rfl, hT.weak (fun _ _ _ => trivial)⟩, hA⟩)
  have kQ := fun W D v (hA : Adds w W) (hT : Tn (fun _ => True) D W v x.toN.args) => print_any x v W (ht.adds hA) hT hok hf hc (by omega)
  have kS := fun W D D' v u (hT : Tn (fun _ => True) D W v x.toN.args) (hT' : Tn (fun _ => True) D' W u x.toN.args) => same_any (d := D + D') x.toN v u W (hT.up (by omega)) (hT'.up (by omega)) (ok_size hok) (hc6 _)
  have hs1 : ¬ (1000 : Int) < (s.size : Int) := by omega
  have hle : ((toB x.print).size : Int) ≤ (s.size : Int) := by omega
  simp only [nodeV] at kP kP2 kQ kS
  have kQ1 := kQ
  have kQ2 := kQ
  clear kQ hok hf hc hc6 hnod hG hG2 hd hs ht hts hpl
  generalize toB x.print = X at *
  generalize x.toN.args = xa at *
  generalize x.toN.kind = xk at *
  generalize x.toN.text = xt at *
  generalize x.toN.num = xn at *
  go_enter Tryd.func4, Tryd.ntmps4
  go_wp2_with (first
    | (go_at_call 11; refine (kP _).mono ?_; rintro e w1 ⟨⟨ao, cap, D, rfl, hT1⟩, os1, n1, rfl⟩; clear kP)
    | (go_at_call 7; refine (kQ1 _ D _ (by repeat (first | with_reducible exact Adds.refl _ | with_reducible refine Adds.alloc ?_ _ | with_reducible refine Adds.more ?_ _ _ | with_reducible refine Adds.drew ?_ | with_reducible refine Adds.drewN ?_ _)) (Tn.adds hT1.out (by repeat (first | with_reducible exact Adds.refl _ | with_reducible refine Adds.alloc ?_ _ | with_reducible refine Adds.more ?_ _ _ | with_reducible refine Adds.drew ?_ | with_reducible refine Adds.drewN ?_ _)))).mono ?_; rintro e w2 ⟨rfl, os2, n2, rfl⟩; clear kQ1)
    | (go_at_call 11; refine (kP2 _).mono ?_; rintro e w3 ⟨⟨bo, cap2, D2, rfl, hT2⟩, os3, n3, rfl⟩; clear kP2)
    | (go_at_call 7; refine (kQ2 _ D2 _ (by repeat (first | with_reducible exact Adds.refl _ | with_reducible refine Adds.alloc ?_ _ | with_reducible refine Adds.more ?_ _ _ | with_reducible refine Adds.drew ?_ | with_reducible refine Adds.drewN ?_ _)) (Tn.adds hT2.out (by repeat (first | with_reducible exact Adds.refl _ | with_reducible refine Adds.alloc ?_ _ | with_reducible refine Adds.more ?_ _ _ | with_reducible refine Adds.drew ?_ | with_reducible refine Adds.drewN ?_ _)))).mono ?_; rintro e w4 ⟨rfl, os4, n4, rfl⟩; clear kQ2)
    | (go_at_call 13; refine (kS _ D D2 _ _ (Tn.adds hT1.out (by repeat (first | with_reducible exact Adds.refl _ | with_reducible refine Adds.alloc ?_ _ | with_reducible refine Adds.more ?_ _ _ | with_reducible refine Adds.drew ?_ | with_reducible refine Adds.drewN ?_ _))) (Tn.adds hT2.out (by repeat (first | with_reducible exact Adds.refl _ | with_reducible refine Adds.alloc ?_ _ | with_reducible refine Adds.more ?_ _ _ | with_reducible refine Adds.drew ?_ | with_reducible refine Adds.drewN ?_ _)))).mono ?_; rintro e w5 ⟨rfl, os5, n5, rfl⟩)
    | (go_at_call 6; refine (kA _).mono ?_; rintro e w6 ⟨rfl, os6, n6, rfl⟩))
  go_ret
  exact ⟨rfl, (by repeat (first | with_reducible exact Adds.refl _ | with_reducible refine Adds.alloc ?_ _ | with_reducible refine Adds.more ?_ _ _ | with_reducible refine Adds.drew ?_ | with_reducible refine Adds.drewN ?_ _))⟩

theorem again_any (s : ByteArray) (w : World) (ht : Tab w) : Calls Tryd.prog 4 #[.string s] w fun e w' => e = .returned (.bool true) ∧ Adds w w' := by
  by_cases h1 : s.size ≤ 1000
  rotate_left
  · exact again_long s w h1
  by_cases h2 : s.size ≤ 256
  rotate_left
  · exact again_bad s w 3 (by decide) h1 (fun W => parse_long s (by omega) W)
  by_cases hG : ∃ x, G .sum s.toList x
  · obtain ⟨x, hG⟩ := hG
    by_cases hd : x.depth ≤ 8
    · exact again_ok s x w ht h2 hG hd
    · exact again_bad s w 13 (by decide) h1 (fun W => parse_deep s h2 x hG hd W)
  · exact again_bad s w 5 (by decide) h1 (fun W => parse_bad s h2 (fun x hx => hG ⟨x, hx⟩) W)

end Go.Proofs.YtdlkpkldlljhcaaDoor
