/-
  The law of what is read and pulled: FeedReads returns true, whatever the input.
-/
import Derived.Test.YtpjhohmbifpogaaRlw
namespace Go.Proofs.Ytpjhohmbifpogaa
open Go.RowKit
attribute [local go_sem] cell?_more frozen?_more setCell_more size_more tape_more drew_more drewN_more more_drew more_drewN one_out plus_out plus_end lt_one le_p2 le_p3 le_p4 le_p5 le_p6 le_p7 le_p8 le_p9 le_p10 le_p11 le_p12 le_p13 le_p14 le_p15 le_p16 le_p17 le_p18 le_p19 le_p20 le_p21 le_p22 le_p23 le_p24 le_q0 le_q1 lt_q1 le_q2 lt_q2 le_q3 lt_q3 le_q4 lt_q4 le_q5 lt_q5 le_q6 lt_q6 le_q7 lt_q7 le_q8 lt_q8 le_q9 lt_q9 le_q10 lt_q10 le_q11 lt_q11 le_q12 lt_q12 le_q13 lt_q13 le_q14 lt_q14 le_q15 lt_q15 le_q16 lt_q16 le_q17 lt_q17 le_q18 lt_q18 le_q19 lt_q19 le_q20 lt_q20 le_q21 lt_q21 le_q22 lt_q22 le_q23 lt_q23 le_q24 lt_q24

set_option maxHeartbeats 4000000 in
set_option maxRecDepth 20000 in
theorem feedReads_great (v : Value) (f : Fd) (name : ByteArray) (a b : Int) (w : World) (h : LstF w v f) (hL : ¬ (LightF f ∧ name.size ≤ 200)) :
    Calls Try.prog 5 #[v, .string name, .agg #[.int .i64 a, .int .i64 b]] w fun e w' => e = .returned (.bool true) ∧ Adds w w' := by
  have kL := fun w' (hA : Adds w w') => light_any v f w' (h.adds hA)
  have kA := fun w' => awake_any w'
  obtain ⟨s, t, rfl, hs, ht⟩ := h
  by_cases hf : LightF f
  · have h2 : (200 : Int) < (name.size : Int) := by
      have : ¬ name.size ≤ 200 := fun h => hL ⟨hf, h⟩
      omega
    rw [decide_eq_true hf] at kL
    clear hL hf hs ht
    go_enter Try.func5, Try.ntmps5
    go_wp2_with (first
      | (go_at_call 8; refine (kL _ (by repeat (first | with_reducible exact Adds.refl _ | with_reducible refine Adds.alloc ?_ _ | with_reducible refine Adds.more ?_ _ _ | with_reducible refine Adds.drew ?_ | with_reducible refine Adds.drewN ?_ _))).mono ?_; rintro e w1 ⟨rfl, os1, n1, rfl⟩)
      | (go_at_call 10; refine (kA _).mono ?_; rintro e w2 ⟨rfl, os2, n2, rfl⟩))
    go_ret
    exact ⟨rfl, (by repeat (first | with_reducible exact Adds.refl _ | with_reducible refine Adds.alloc ?_ _ | with_reducible refine Adds.more ?_ _ _ | with_reducible refine Adds.drew ?_ | with_reducible refine Adds.drewN ?_ _))⟩
  · rw [decide_eq_false hf] at kL
    clear hL hf hs ht
    go_enter Try.func5, Try.ntmps5
    go_wp2_with (first
      | (go_at_call 8; refine (kL _ (by repeat (first | with_reducible exact Adds.refl _ | with_reducible refine Adds.alloc ?_ _ | with_reducible refine Adds.more ?_ _ _ | with_reducible refine Adds.drew ?_ | with_reducible refine Adds.drewN ?_ _))).mono ?_; rintro e w1 ⟨rfl, os1, n1, rfl⟩)
      | (go_at_call 10; refine (kA _).mono ?_; rintro e w2 ⟨rfl, os2, n2, rfl⟩))
    go_ret
    exact ⟨rfl, (by repeat (first | with_reducible exact Adds.refl _ | with_reducible refine Adds.alloc ?_ _ | with_reducible refine Adds.more ?_ _ _ | with_reducible refine Adds.drew ?_ | with_reducible refine Adds.drewN ?_ _))⟩

set_option maxHeartbeats 4000000 in
set_option maxRecDepth 20000 in
theorem feedReads_bad (v : Value) (f : Fd) (name : ByteArray) (a b : Int) (w : World) (h : LstF w v f) (hL : LightF f) (h2 : name.size ≤ 200) (hM : ¬ MayF f) :
    Calls Try.prog 5 #[v, .string name, .agg #[.int .i64 a, .int .i64 b]] w fun e w' => e = .returned (.bool true) ∧ Adds w w' := by
  have hc : f.ch.length ≤ 1000 := Nat.le_trans hL.1.1 (by omega)
  have kL := fun w' (hA : Adds w w') => light_any v f w' (h.adds hA)
  rw [decide_eq_true hL] at kL
  have kA := fun w' => awake_any w'
  have kR := fun w' (hA : Adds w w') => read_bad v f name b w' (h.adds hA) hc hM
  have kP := fun w' (hA : Adds w w') => pull_bad v f a b w' (h.adds hA) hc (fun h => hM h.1)
  have kM := fun w' (hA : Adds w w') => refMayF_any v f w' (h.adds hA) hc (fun k hk => Nat.le_trans (hL.1.2 k hk) (by omega))
  rw [decide_eq_false hM] at kM
  obtain ⟨s, t, rfl, hs, ht⟩ := h
  have h2' : ¬ (200 : Int) < (name.size : Int) := by omega
  clear hL hM hs ht h2 hc
  go_enter Try.func5, Try.ntmps5
  go_wp2_with (first
    | (go_at_call 8; refine (kL _ (by repeat (first | with_reducible exact Adds.refl _ | with_reducible refine Adds.alloc ?_ _ | with_reducible refine Adds.more ?_ _ _ | with_reducible refine Adds.drew ?_ | with_reducible refine Adds.drewN ?_ _))).mono ?_; rintro e w1 ⟨rfl, os1, n1, rfl⟩))
  go_quiet (fail)
  go_wp2_with (first
    | (go_at_call 26; refine (kR _ (by repeat (first | with_reducible exact Adds.refl _ | with_reducible refine Adds.alloc ?_ _ | with_reducible refine Adds.more ?_ _ _ | with_reducible refine Adds.drew ?_ | with_reducible refine Adds.drewN ?_ _))).mono ?_; rintro e w3 ⟨rfl, os3, n3, rfl⟩)
    | (go_at_call 27; refine (kP _ (by repeat (first | with_reducible exact Adds.refl _ | with_reducible refine Adds.alloc ?_ _ | with_reducible refine Adds.more ?_ _ _ | with_reducible refine Adds.drew ?_ | with_reducible refine Adds.drewN ?_ _))).mono ?_; rintro e w4 ⟨rfl, os4, n4, rfl⟩)
    | (go_at_call 12; refine (kM _ (by repeat (first | with_reducible exact Adds.refl _ | with_reducible refine Adds.alloc ?_ _ | with_reducible refine Adds.more ?_ _ _ | with_reducible refine Adds.drew ?_ | with_reducible refine Adds.drewN ?_ _))).mono ?_; rintro e w5 ⟨rfl, os5, n5, rfl⟩)
    | (go_at_call 10; refine (kA _).mono ?_; rintro e w2 ⟨rfl, os2, n2, rfl⟩))
  go_ret
  exact ⟨rfl, (by repeat (first | with_reducible exact Adds.refl _ | with_reducible refine Adds.alloc ?_ _ | with_reducible refine Adds.more ?_ _ _ | with_reducible refine Adds.drew ?_ | with_reducible refine Adds.drewN ?_ _))⟩

set_option maxHeartbeats 4000000 in
set_option maxRecDepth 20000 in
theorem feedReads_ok (v : Value) (f : Fd) (name : ByteArray) (a b : Int) (w : World) (h : LstF w v f) (hL : LightF f) (h2 : name.size ≤ 200) (hM : MayF f) :
    Calls Try.prog 5 #[v, .string name, .agg #[.int .i64 a, .int .i64 b]] w fun e w' => e = .returned (.bool true) ∧ Adds w w' := by
  have hc : f.ch.length ≤ 1000 := Nat.le_trans hL.1.1 (by omega)
  have kL := fun w' (hA : Adds w w') => light_any v f w' (h.adds hA)
  rw [decide_eq_true hL] at kL
  have kA := fun w' => awake_any w'
  obtain ⟨l, p, c, R1, R2, hl6, hld⟩ := reads_both v f name b w h hL hM
  obtain ⟨q, d, P1, P2, hq6, hqd⟩ := pulls_both v f a b w h hL hM
  have kM := fun w' (hA : Adds w w') => refMayF_any v f w' (h.adds hA) hc (fun k hk => Nat.le_trans (hL.1.2 k hk) (by omega))
  rw [decide_eq_true hM] at kM
  have kN1 := fun s s' W (h : LstH W s l) (h' : LstH W s' l) => news_any s s' l W h h' hl6 hld
  have kN2 := fun s s' W (h : LstH W s q) (h' : LstH W s' q) => news_any s s' q W h h' hq6 hqd
  obtain ⟨s, t, rfl, hs, ht⟩ := h
  have h2' : ¬ (200 : Int) < (name.size : Int) := by omega
  clear hL hM hs ht h2 hc hl6 hld hq6 hqd
  go_enter Try.func5, Try.ntmps5
  go_wp2_with (first
    | (go_at_call 8; refine (kL _ (by repeat (first | with_reducible exact Adds.refl _ | with_reducible refine Adds.alloc ?_ _ | with_reducible refine Adds.more ?_ _ _ | with_reducible refine Adds.drew ?_ | with_reducible refine Adds.drewN ?_ _))).mono ?_; rintro e w1 ⟨rfl, os1, n1, rfl⟩))
  go_quiet (fail)
  go_wp2_with (first
    | (go_at_call 26; refine (R1 _ (by repeat (first | with_reducible exact Adds.refl _ | with_reducible refine Adds.alloc ?_ _ | with_reducible refine Adds.more ?_ _ _ | with_reducible refine Adds.drew ?_ | with_reducible refine Adds.drewN ?_ _))).mono ?_; rintro e w3 ⟨⟨v3, c3, rfl, H3⟩, os3, n3, rfl⟩)
    | (go_at_call 27; refine (P1 _ (by repeat (first | with_reducible exact Adds.refl _ | with_reducible refine Adds.alloc ?_ _ | with_reducible refine Adds.more ?_ _ _ | with_reducible refine Adds.drew ?_ | with_reducible refine Adds.drewN ?_ _))).mono ?_; rintro e w4 ⟨⟨v4, c4, rfl, H4⟩, os4, n4, rfl⟩)
    | (go_at_call 12; refine (kM _ (by repeat (first | with_reducible exact Adds.refl _ | with_reducible refine Adds.alloc ?_ _ | with_reducible refine Adds.more ?_ _ _ | with_reducible refine Adds.drew ?_ | with_reducible refine Adds.drewN ?_ _))).mono ?_; rintro e w5 ⟨rfl, os5, n5, rfl⟩)
    | (go_at_call 28; refine (R2 _ (by repeat (first | with_reducible exact Adds.refl _ | with_reducible refine Adds.alloc ?_ _ | with_reducible refine Adds.more ?_ _ _ | with_reducible refine Adds.drew ?_ | with_reducible refine Adds.drewN ?_ _))).mono ?_; rintro e w6 ⟨⟨v6, c6, rfl, H6⟩, os6, n6, rfl⟩)
    | (go_at_call 29; refine (P2 _ (by repeat (first | with_reducible exact Adds.refl _ | with_reducible refine Adds.alloc ?_ _ | with_reducible refine Adds.more ?_ _ _ | with_reducible refine Adds.drew ?_ | with_reducible refine Adds.drewN ?_ _))).mono ?_; rintro e w7 ⟨⟨v7, c7, rfl, H7⟩, os7, n7, rfl⟩)
    | (go_at_call 30; (with_reducible refine (kN1 (.slice v3 l.length c3) (.slice v6 l.length c6) _ ?_ ?_).mono ?_); exact LstH.adds H3.out (by repeat (first | with_reducible exact Adds.refl _ | with_reducible refine Adds.alloc ?_ _ | with_reducible refine Adds.more ?_ _ _ | with_reducible refine Adds.drew ?_ | with_reducible refine Adds.drewN ?_ _)); exact LstH.adds H6.out (by repeat (first | with_reducible exact Adds.refl _ | with_reducible refine Adds.alloc ?_ _ | with_reducible refine Adds.more ?_ _ _ | with_reducible refine Adds.drew ?_ | with_reducible refine Adds.drewN ?_ _)); rintro e w8 ⟨rfl, os8, n8, rfl⟩)
    | (go_at_call 30; (with_reducible refine (kN2 (.slice v4 q.length c4) (.slice v7 q.length c7) _ ?_ ?_).mono ?_); exact LstH.adds H4.out (by repeat (first | with_reducible exact Adds.refl _ | with_reducible refine Adds.alloc ?_ _ | with_reducible refine Adds.more ?_ _ _ | with_reducible refine Adds.drew ?_ | with_reducible refine Adds.drewN ?_ _)); exact LstH.adds H7.out (by repeat (first | with_reducible exact Adds.refl _ | with_reducible refine Adds.alloc ?_ _ | with_reducible refine Adds.more ?_ _ _ | with_reducible refine Adds.drew ?_ | with_reducible refine Adds.drewN ?_ _)); rintro e w9 ⟨rfl, os9, n9, rfl⟩)
    | (go_at_call 10; refine (kA _).mono ?_; rintro e w2 ⟨rfl, os2, n2, rfl⟩))
  go_ret
  exact ⟨rfl, (by repeat (first | with_reducible exact Adds.refl _ | with_reducible refine Adds.alloc ?_ _ | with_reducible refine Adds.more ?_ _ _ | with_reducible refine Adds.drew ?_ | with_reducible refine Adds.drewN ?_ _))⟩

theorem feedReads_any (v : Value) (f : Fd) (name : ByteArray) (a b : Int) (w : World) (h : LstF w v f) :
    Calls Try.prog 5 #[v, .string name, .agg #[.int .i64 a, .int .i64 b]] w fun e w' => e = .returned (.bool true) ∧ Adds w w' := by
  by_cases hL : LightF f ∧ name.size ≤ 200
  · by_cases hM : MayF f
    · exact feedReads_ok v f name a b w h hL.1 hL.2 hM
    · exact feedReads_bad v f name a b w h hL.1 hL.2 hM
  · exact feedReads_great v f name a b w h hL

end Go.Proofs.Ytpjhohmbifpogaa
