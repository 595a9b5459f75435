/-
  The law ExprParses, by a contract.
-/
import Derived.Test.YtdlkpkldlljhcaaParse2
namespace Go.Proofs.Ytdlkpkldlljhcaa
open Go.RowKit
attribute [local go_sem] cell?_more frozen?_more setCell_more size_more tape_more drew_more drewN_more more_drew more_drewN one_out plus_out plus_end lt_one le_p2 le_p3 le_p4 le_p5 le_p6 le_p7 le_p8 le_p9 le_p10 le_p11 le_p12 le_p13 le_p14 le_p15 le_p16 le_p17 le_p18 le_p19 le_p20 le_p21 le_p22 le_p23 le_p24 le_q0 le_q1 lt_q1 le_q2 lt_q2 le_q3 lt_q3 le_q4 lt_q4 le_q5 lt_q5 le_q6 lt_q6 le_q7 lt_q7 le_q8 lt_q8 le_q9 lt_q9 le_q10 lt_q10 le_q11 lt_q11 le_q12 lt_q12 le_q13 lt_q13 le_q14 lt_q14 le_q15 lt_q15 le_q16 lt_q16 le_q17 lt_q17 le_q18 lt_q18 le_q19 lt_q19 le_q20 lt_q20 le_q21 lt_q21 le_q22 lt_q22 le_q23 lt_q23 le_q24 lt_q24


theorem same_zero (w : World) : Calls Try.prog 8 #[.agg #[.int .i64 0, .string ⟨#[]⟩, .int .i64 0, .slice none 0 0], .agg #[.int .i64 0, .string ⟨#[]⟩, .int .i64 0, .slice none 0 0]] w fun e w' => e = .returned (.bool true) ∧ Adds w w' :=
  rSame_any (ok := fun _ => True) (ok' := fun _ => True) 0 N.zero (.slice none 0 0) (.slice none 0 0) w ⟨rfl, none, 0, rfl⟩ ⟨rfl, none, 0, rfl⟩ (fun d => by cases d <;> simp [cntN, N.zero, N.args, cnt_nil])

set_option maxHeartbeats 2000000 in
theorem plaw_great (s0 : ByteArray) (hs : 2000 < s0.size) (w : World) : Calls Try.prog 3 #[.string s0] w fun e w' => e = .returned (.bool true) ∧ Adds w w' := by
  have kA := awakeE_any
  have hs' : (2000 : Int) < (s0.size : Int) := by omega
  go_enter Try.func3, Try.ntmps3
  go_wp2_with (first
    | (go_at_call 5; refine (kA _).mono ?_; rintro e w5 ⟨rfl, os5, n5, rfl⟩))
  go_ret
  exact ⟨rfl, by repeat (first | with_reducible exact Adds.refl _ | with_reducible refine Adds.alloc ?_ _ | with_reducible refine Adds.more ?_ _ _ | with_reducible refine Adds.drew ?_ | with_reducible refine Adds.drewN ?_ _)⟩

set_option maxHeartbeats 2000000 in
theorem plaw_err (s0 : ByteArray) (hs : s0.size ≤ 2000) (c : Int) (hc : c ≠ 0) (kP : ∀ W, Calls Try.prog 6 #[.string s0] W fun e w' => e = .returned (.tuple #[.agg #[.int .i64 0, .string ⟨#[]⟩, .int .i64 0, .slice none 0 0], .int .i64 c]) ∧ Adds W w') (kQ : ∀ W, Calls Try.prog 7 #[.string s0] W fun e w' => e = .returned (.tuple #[.agg #[.int .i64 0, .string ⟨#[]⟩, .int .i64 0, .slice none 0 0], .int .i64 c]) ∧ Adds W w') (w : World) :
    Calls Try.prog 3 #[.string s0] w fun e w' => e = .returned (.bool true) ∧ Adds w w' := by
  have kA := awakeE_any
  have kS := same_zero
  have hs' : ¬ (2000 : Int) < (s0.size : Int) := by omega
  have hc' : (c == 0) = false := by simpa using hc
  clear hc
  go_enter Try.func3, Try.ntmps3
  go_wp2_with (first
    | (go_at_call 6; refine (kP _).mono ?_; rintro e w1 ⟨rfl, os1, n1, rfl⟩)
    | (go_at_call 7; refine (kQ _).mono ?_; rintro e w2 ⟨rfl, os2, n2, rfl⟩)
    | (go_at_call 8; refine (kS _).mono ?_; rintro e w3 ⟨rfl, os3, n3, rfl⟩)
    | (go_at_call 5; refine (kA _).mono ?_; rintro e w5 ⟨rfl, os5, n5, rfl⟩))
  go_ret
  exact ⟨rfl, by repeat (first | with_reducible exact Adds.refl _ | with_reducible refine Adds.alloc ?_ _ | with_reducible refine Adds.more ?_ _ _ | with_reducible refine Adds.drew ?_ | with_reducible refine Adds.drewN ?_ _)⟩

set_option maxHeartbeats 4000000 in
theorem plaw_ok (s0 : ByteArray) (hs : s0.size ≤ 256) (x : E) (hG : G .sum s0.toList x) (hd : x.depth ≤ 8) (w : World) : Calls Try.prog 3 #[.string s0] w fun e w' => e = .returned (.bool true) ∧ Adds w w' := by
  have kA := awakeE_any
  have hc : ∀ d, cntN d [x.toN] ≤ 10000 := fun d => by
    have h1 := cnt_E x d
    have h2 := hG.nodes
    rw [toList_length] at h2
    omega
  have kP : ∀ W, Calls Try.prog 6 #[.string s0] W fun e w' => (∃ ao cap D, e = .returned (.tuple #[nodeV x.toN (.slice ao x.toN.args.length cap), .int .i64 0]) ∧ Hid (Tn (fun _ => True) D w' (.slice ao x.toN.args.length cap) x.toN.args)) ∧ Adds W w' := by
    intro W
    refine (parse_ok s0 hs x (M_whole hG) ((fits_deep 8 x hG.ok).2 hd) hG.ok hc W).mono ?_
    rintro e w' ⟨⟨sr, D, rfl, hT⟩, hA⟩
    obtain ⟨ao, cap, rfl⟩ := hT.shape
    exact ⟨⟨ao, cap, D, rfl, hT.weak (fun _ _ _ => trivial)⟩, hA⟩
  have kQ : ∀ W, Calls Try.prog 7 #[.string s0] W fun e w' => (∃ ao cap D, e = .returned (.tuple #[nodeV x.toN (.slice ao x.toN.args.length cap), .int .i64 0]) ∧ Hid (Tn (fun _ => True) D w' (.slice ao x.toN.args.length cap) x.toN.args)) ∧ Adds W w' := by
    intro W
    refine (rparse_some s0 hs x hG W).mono ?_
    rintro e w' ⟨h, hA⟩
    rw [if_pos hd] at h
    obtain ⟨sr, D, rfl, hT⟩ := h
    obtain ⟨ao, cap, rfl⟩ := hT.shape
    exact ⟨⟨ao, cap, D, rfl, hT.weak (fun _ _ _ => trivial)⟩, hA⟩
  have kS : ∀ W a c a' c' D D', Tn (fun _ => True) D W (.slice a x.toN.args.length c) x.toN.args → Tn (fun _ => True) D' W (.slice a' x.toN.args.length c') x.toN.args → Calls Try.prog 8 #[nodeV x.toN (.slice a x.toN.args.length c), nodeV x.toN (.slice a' x.toN.args.length c')] W fun e w' => e = .returned (.bool true) ∧ Adds W w' :=
    fun W a c a' c' D D' h h' => rSame_any (max D D') x.toN _ _ W (h.up (Nat.le_max_left _ _)) (h'.up (Nat.le_max_right _ _)) hc
  have hs' : ¬ (2000 : Int) < (s0.size : Int) := by omega
  simp only [nodeV] at kP kQ kS
  clear hc hG hd
  generalize x.toN.args = xa at *
  generalize x.toN.kind = xk at *
  generalize x.toN.text = xt at *
  generalize x.toN.num = xn at *
  go_enter Try.func3, Try.ntmps3
  go_wp2_with (first
    | (go_at_call 6; refine (kP _).mono ?_; rintro e w1 ⟨⟨a1, c1, D1, rfl, hT1⟩, os1, n1, rfl⟩)
    | (go_at_call 7; refine (kQ _).mono ?_; rintro e w2 ⟨⟨a2, c2, D2, rfl, hT2⟩, os2, n2, rfl⟩)
    | (go_at_call 8; refine (kS _ _ _ _ _ D1 D2 (Tn.adds hT1.out (by repeat (first | with_reducible exact Adds.refl _ | with_reducible refine Adds.alloc ?_ _ | with_reducible refine Adds.more ?_ _ _ | with_reducible refine Adds.drew ?_ | with_reducible refine Adds.drewN ?_ _))) (Tn.adds hT2.out (by repeat (first | with_reducible exact Adds.refl _ | with_reducible refine Adds.alloc ?_ _ | with_reducible refine Adds.more ?_ _ _ | with_reducible refine Adds.drew ?_ | with_reducible refine Adds.drewN ?_ _)))).mono ?_; rintro e w3 ⟨rfl, os3, n3, rfl⟩)
    | (go_at_call 5; refine (kA _).mono ?_; rintro e w5 ⟨rfl, os5, n5, rfl⟩))
  go_ret
  exact ⟨rfl, by repeat (first | with_reducible exact Adds.refl _ | with_reducible refine Adds.alloc ?_ _ | with_reducible refine Adds.more ?_ _ _ | with_reducible refine Adds.drew ?_ | with_reducible refine Adds.drewN ?_ _)⟩

theorem exprParses_any (s0 : ByteArray) (w : World) : Calls Try.prog 3 #[.string s0] w fun e w' => e = .returned (.bool true) ∧ Adds w w' := by
  by_cases h1 : 2000 < s0.size
  · exact plaw_great s0 h1 w
  by_cases h2 : 256 < s0.size
  · exact plaw_err s0 (by omega) 3 (by decide) (parse_long s0 h2) (rparse_long s0 h2) w
  by_cases h3 : ∃ x, G .sum s0.toList x
  · obtain ⟨x, hx⟩ := h3
    by_cases h4 : x.depth ≤ 8
    · exact plaw_ok s0 (by omega) x hx h4 w
    · refine plaw_err s0 (by omega) 13 (by decide) (parse_deep s0 (by omega) x hx h4) (fun W => (rparse_some s0 (by omega) x hx W).mono ?_) w
      rintro e w' ⟨h, hA⟩
      rw [if_neg h4] at h
      exact ⟨h, hA⟩
  · have h3 : ∀ x, ¬ G .sum s0.toList x := fun x hx => h3 ⟨x, hx⟩
    exact plaw_err s0 (by omega) 5 (by decide) (parse_bad s0 (by omega) h3) (rparse_bad s0 (by omega) h3) w

end Go.Proofs.Ytdlkpkldlljhcaa
