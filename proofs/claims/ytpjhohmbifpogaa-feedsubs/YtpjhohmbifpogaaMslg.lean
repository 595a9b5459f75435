/-
  The law of subscriptions, where the feed is too great or may not be. The law of subscriptions: FeedSubs returns true, where the feed may be. The law of subscriptions: FeedSubs returns true, whatever the input.
-/
import Derived.Test.YtpjhohmbifpogaaMpur
import Derived.Test.YtpjhohmbifpogaaRdf
import Derived.Test.YtpjhohmbifpogaaRlw
import Derived.Test.YtpjhohmbifpogaaMalw
import Derived.Deep.RegionHeld3
namespace Go.Proofs.Ytpjhohmbifpogaa
open Go.RowKit
attribute [local go_sem] cell?_more frozen?_more setCell_more size_more tape_more drew_more drewN_more more_drew more_drewN one_out plus_out plus_end lt_one le_p2 le_p3 le_p4 le_p5 le_p6 le_p7 le_p8 le_p9 le_p10 le_p11 le_p12 le_p13 le_p14 le_p15 le_p16 le_p17 le_p18 le_p19 le_p20 le_p21 le_p22 le_p23 le_p24 le_q0 le_q1 lt_q1 le_q2 lt_q2 le_q3 lt_q3 le_q4 lt_q4 le_q5 lt_q5 le_q6 lt_q6 le_q7 lt_q7 le_q8 lt_q8 le_q9 lt_q9 le_q10 lt_q10 le_q11 lt_q11 le_q12 lt_q12 le_q13 lt_q13 le_q14 lt_q14 le_q15 lt_q15 le_q16 lt_q16 le_q17 lt_q17 le_q18 lt_q18 le_q19 lt_q19 le_q20 lt_q20 le_q21 lt_q21 le_q22 lt_q22 le_q23 lt_q23 le_q24 lt_q24

set_option maxHeartbeats 4000000 in
set_option maxRecDepth 20000 in
theorem feedSubs_great (v : Value) (f : Fd) (name : ByteArray) (pos : Int) (w : World) (h : LstF w v f) (hL : ¬ (LightF f ∧ name.size ≤ 200)) :
    Calls Try.prog 4 #[v, .string name, .int .i64 pos] w fun e w' => e = .returned (.bool true) ∧ Adds w w' := by
  have kL := fun w' (hA : Adds w w') => light_any v f w' (h.adds hA)
  have kA := fun w' => awake_any w'
  obtain ⟨s, t, rfl, hs, ht⟩ := h
  by_cases hf : LightF f
  · have h2 : (200 : Int) < (name.size : Int) := by
      have : ¬ name.size ≤ 200 := fun h => hL ⟨hf, h⟩
      omega
    rw [decide_eq_true hf] at kL
    clear hL hf hs ht
    go_enter Try.func4, Try.ntmps4
    go_wp2_with (first
      | (go_at_call 8; refine (kL _ (by repeat (first | with_reducible exact Adds.refl _ | with_reducible refine Adds.alloc ?_ _ | with_reducible refine Adds.more ?_ _ _ | with_reducible refine Adds.drew ?_ | with_reducible refine Adds.drewN ?_ _))).mono ?_; rintro e w1 ⟨rfl, os1, n1, rfl⟩)
      | (go_at_call 10; refine (kA _).mono ?_; rintro e w2 ⟨rfl, os2, n2, rfl⟩))
    go_ret
    exact ⟨rfl, (by repeat (first | with_reducible exact Adds.refl _ | with_reducible refine Adds.alloc ?_ _ | with_reducible refine Adds.more ?_ _ _ | with_reducible refine Adds.drew ?_ | with_reducible refine Adds.drewN ?_ _))⟩
  · rw [decide_eq_false hf] at kL
    clear hL hf hs ht
    go_enter Try.func4, Try.ntmps4
    go_wp2_with (first
      | (go_at_call 8; refine (kL _ (by repeat (first | with_reducible exact Adds.refl _ | with_reducible refine Adds.alloc ?_ _ | with_reducible refine Adds.more ?_ _ _ | with_reducible refine Adds.drew ?_ | with_reducible refine Adds.drewN ?_ _))).mono ?_; rintro e w1 ⟨rfl, os1, n1, rfl⟩)
      | (go_at_call 10; refine (kA _).mono ?_; rintro e w2 ⟨rfl, os2, n2, rfl⟩))
    go_ret
    exact ⟨rfl, (by repeat (first | with_reducible exact Adds.refl _ | with_reducible refine Adds.alloc ?_ _ | with_reducible refine Adds.more ?_ _ _ | with_reducible refine Adds.drew ?_ | with_reducible refine Adds.drewN ?_ _))⟩

set_option maxHeartbeats 4000000 in
set_option maxRecDepth 20000 in
theorem feedSubs_bad (v : Value) (f : Fd) (name : ByteArray) (pos : Int) (w : World) (h : LstF w v f) (hL : LightF f) (h2 : name.size ≤ 200) (hM : ¬ MayF f) :
    Calls Try.prog 4 #[v, .string name, .int .i64 pos] w fun e w' => e = .returned (.bool true) ∧ Adds w w' := by
  have hc : f.ch.length ≤ 1000 := Nat.le_trans hL.1.1 (by omega)
  have kL := fun w' (hA : Adds w w') => light_any v f w' (h.adds hA)
  rw [decide_eq_true hL] at kL
  have kO := fun w' (hA : Adds w w') => open_bad v f name pos w' (h.adds hA) hc hM
  have kK := fun w' (hA : Adds w w') => ack_bad v f name pos w' (h.adds hA) hc hM
  have kC := fun w' (hA : Adds w w') => close_bad v f name w' (h.adds hA) hc hM
  have kT := fun w' (hA : Adds w w') => trim_bad v f pos w' (h.adds hA) hc hM
  have kM := fun w' (hA : Adds w w') => refMayF_any v f w' (h.adds hA) hc (fun k hk => Nat.le_trans (hL.1.2 k hk) (by omega))
  rw [decide_eq_false hM] at kM
  have kZ := fun W => same_zero 1 W
  have kA := fun W => awake_any W
  obtain ⟨s, t, rfl, hs, ht⟩ := h
  have h2' : ¬ (200 : Int) < (name.size : Int) := by omega
  clear hL hM hs ht hc h2
  go_enter Try.func4, Try.ntmps4
  go_wp2_with (first
    | (go_at_call 8; refine (kL _ (by repeat (first | with_reducible exact Adds.refl _ | with_reducible refine Adds.alloc ?_ _ | with_reducible refine Adds.more ?_ _ _ | with_reducible refine Adds.drew ?_ | with_reducible refine Adds.drewN ?_ _))).mono ?_; rintro e w1 ⟨rfl, os1, n1, rfl⟩)
    | (go_at_call 18; refine (kO _ (by repeat (first | with_reducible exact Adds.refl _ | with_reducible refine Adds.alloc ?_ _ | with_reducible refine Adds.more ?_ _ _ | with_reducible refine Adds.drew ?_ | with_reducible refine Adds.drewN ?_ _))).mono ?_; rintro e w3 ⟨rfl, os3, n3, rfl⟩)
    | (go_at_call 19; refine (kK _ (by repeat (first | with_reducible exact Adds.refl _ | with_reducible refine Adds.alloc ?_ _ | with_reducible refine Adds.more ?_ _ _ | with_reducible refine Adds.drew ?_ | with_reducible refine Adds.drewN ?_ _))).mono ?_; rintro e w4 ⟨rfl, os4, n4, rfl⟩)
    | (go_at_call 20; refine (kC _ (by repeat (first | with_reducible exact Adds.refl _ | with_reducible refine Adds.alloc ?_ _ | with_reducible refine Adds.more ?_ _ _ | with_reducible refine Adds.drew ?_ | with_reducible refine Adds.drewN ?_ _))).mono ?_; rintro e w5 ⟨rfl, os5, n5, rfl⟩)
    | (go_at_call 21; refine (kT _ (by repeat (first | with_reducible exact Adds.refl _ | with_reducible refine Adds.alloc ?_ _ | with_reducible refine Adds.more ?_ _ _ | with_reducible refine Adds.drew ?_ | with_reducible refine Adds.drewN ?_ _))).mono ?_; rintro e w6 ⟨rfl, os6, n6, rfl⟩)
    | (go_at_call 12; refine (kM _ (by repeat (first | with_reducible exact Adds.refl _ | with_reducible refine Adds.alloc ?_ _ | with_reducible refine Adds.more ?_ _ _ | with_reducible refine Adds.drew ?_ | with_reducible refine Adds.drewN ?_ _))).mono ?_; rintro e w7 ⟨rfl, os7, n7, rfl⟩)
    | (go_at_call 14; refine (kZ _).mono ?_; rintro e w8 ⟨rfl, os8, n8, rfl⟩)
    | (go_at_call 10; refine (kA _).mono ?_; rintro e w9 ⟨rfl, os9, n9, rfl⟩))
  go_ret
  exact ⟨rfl, (by repeat (first | with_reducible exact Adds.refl _ | with_reducible refine Adds.alloc ?_ _ | with_reducible refine Adds.more ?_ _ _ | with_reducible refine Adds.drew ?_ | with_reducible refine Adds.drewN ?_ _))⟩

end Go.Proofs.Ytpjhohmbifpogaa

namespace Go.Proofs.Ytpjhohmbifpogaa
open Go.RowKit
attribute [local go_sem] cell?_more frozen?_more setCell_more size_more tape_more drew_more drewN_more more_drew more_drewN one_out plus_out plus_end lt_one le_p2 le_p3 le_p4 le_p5 le_p6 le_p7 le_p8 le_p9 le_p10 le_p11 le_p12 le_p13 le_p14 le_p15 le_p16 le_p17 le_p18 le_p19 le_p20 le_p21 le_p22 le_p23 le_p24 le_q0 le_q1 lt_q1 le_q2 lt_q2 le_q3 lt_q3 le_q4 lt_q4 le_q5 lt_q5 le_q6 lt_q6 le_q7 lt_q7 le_q8 lt_q8 le_q9 lt_q9 le_q10 lt_q10 le_q11 lt_q11 le_q12 lt_q12 le_q13 lt_q13 le_q14 lt_q14 le_q15 lt_q15 le_q16 lt_q16 le_q17 lt_q17 le_q18 lt_q18 le_q19 lt_q19 le_q20 lt_q20 le_q21 lt_q21 le_q22 lt_q22 le_q23 lt_q23 le_q24 lt_q24

theorem wp_named {P : Program} {c : Code} {Q : Exit → Act → World → Prop} {a : Act} {w : World} (h : ∀ X, Hid (X = w) → c.wp P Q a X) : c.wp P Q a w := h w rfl

set_option maxHeartbeats 4000000 in
set_option maxRecDepth 20000 in
theorem feedSubs_walk (v : Value) (f : Fd) (name : ByteArray) (pos : Int) (w : World) (h : LstF w v f) (hL : LightF f) (h2 : name.size ≤ 200) (hM : MayF f)
    (g1 g2 g3 g4 : Fd) (n1 n2 n3 n4 m1 m2 m3 m4 : Nat) (c1 c2 c3 : Int)
    (kO : TellsG 18 #[v, .string name, .int .i64 pos] g1 n1 m1 c1 w) (rO : TellsG 22 #[v, .string name, .int .i64 pos] g1 n1 m1 c1 w)
    (kK : TellsG 19 #[v, .string name, .int .i64 pos] g2 n2 m2 c2 w) (rK : TellsG 23 #[v, .string name, .int .i64 pos] g2 n2 m2 c2 w)
    (kC : TellsG 20 #[v, .string name] g3 n3 m3 c3 w) (rC : TellsG 24 #[v, .string name] g3 n3 m3 c3 w)
    (kT : TellsG 21 #[v, .int .i64 pos] g4 n4 m4 0 w)
    (rT : ∀ W, Adds w W → Calls Try.prog 25 #[v, .int .i64 pos] W fun e w' => (∃ vo vc uo uc, e = .returned (.agg #[.int .i64 g4.base, .int .i64 g4.total, .slice vo n4 vc, .slice uo m4 uc]) ∧ Hid (LstF w' (.agg #[.int .i64 g4.base, .int .i64 g4.total, .slice vo n4 vc, .slice uo m4 uc]) g4)) ∧ Adds W w')
    (s1 : ∀ v v' W, LstF W v g1 → LstF W v' g1 → Calls Try.prog 14 #[v, .int .i64 c1, v', .int .i64 c1] W fun e w' => e = .returned (.bool true) ∧ Adds W w')
    (s2 : ∀ v v' W, LstF W v g2 → LstF W v' g2 → Calls Try.prog 14 #[v, .int .i64 c2, v', .int .i64 c2] W fun e w' => e = .returned (.bool true) ∧ Adds W w')
    (s3 : ∀ v v' W, LstF W v g3 → LstF W v' g3 → Calls Try.prog 14 #[v, .int .i64 c3, v', .int .i64 c3] W fun e w' => e = .returned (.bool true) ∧ Adds W w')
    (s4 : ∀ v v' W, LstF W v g4 → LstF W v' g4 → Calls Try.prog 14 #[v, .int .i64 0, v', .int .i64 0] W fun e w' => e = .returned (.bool true) ∧ Adds W w')
    (a1 : ∀ v W, LstF W v g1 → Calls Try.prog 12 #[v] W fun e w' => e = .returned (.bool true) ∧ Adds W w')
    (a2 : ∀ v W, LstF W v g2 → Calls Try.prog 12 #[v] W fun e w' => e = .returned (.bool true) ∧ Adds W w')
    (a3 : ∀ v W, LstF W v g3 → Calls Try.prog 12 #[v] W fun e w' => e = .returned (.bool true) ∧ Adds W w')
    (a4 : ∀ v W, LstF W v g4 → Calls Try.prog 12 #[v] W fun e w' => e = .returned (.bool true) ∧ Adds W w')
    (hm4 : g4.sb.length = m4) (h84 : g4.sb.length ≤ 8) (hp4 : ∀ k (hk : k < g4.sb.length), g4.base ≤ g4.sb[k].pos) :
    Calls Try.prog 4 #[v, .string name, .int .i64 pos] w fun e w' => e = .returned (.bool true) ∧ Adds w w' := by
  have hc : f.ch.length ≤ 1000 := Nat.le_trans hL.1.1 (by omega)
  have kL := fun w' (hA : Adds w w') => light_any v f w' (h.adds hA)
  rw [decide_eq_true hL] at kL
  have kA := fun w' => awake_any w'
  have kM := fun w' (hA : Adds w w') => refMayF_any v f w' (h.adds hA) hc (fun k hk => Nat.le_trans (hL.1.2 k hk) (by omega))
  rw [decide_eq_true hM] at kM
  unfold TellsG at kO rO kK rK kC rC kT
  obtain ⟨s, t, rfl, hs, ht⟩ := h
  have h2' : ¬ (200 : Int) < (name.size : Int) := by omega
  obtain ⟨b1, t1, ch1, sb1⟩ := g1
  obtain ⟨b2, t2, ch2, sb2⟩ := g2
  obtain ⟨b3, t3, ch3, sb3⟩ := g3
  obtain ⟨b4, t4, ch4, sb4⟩ := g4
  simp only at *
  have HM4 : Hid _ := hm4
  have HP4 : Hid _ := hp4
  have HB : Hid _ := h84
  clear h84
  clear hL hM hs ht hc h2 hm4 hp4
  go_enter Try.func4, Try.ntmps4
  go_wp2_with (first
    | (go_at_call 8; refine (kL _ (by repeat (first | with_reducible exact Adds.refl _ | with_reducible refine Adds.alloc ?_ _ | with_reducible refine Adds.more ?_ _ _ | with_reducible refine Adds.drew ?_ | with_reducible refine Adds.drewN ?_ _))).mono ?_; rintro e w1 ⟨rfl, os1, q1, rfl⟩; clear kL)
    | (go_at_call 18; refine (kO _ (by repeat (first | with_reducible exact Adds.refl _ | with_reducible refine Adds.alloc ?_ _ | with_reducible refine Adds.more ?_ _ _ | with_reducible refine Adds.drew ?_ | with_reducible refine Adds.drewN ?_ _))).mono ?_; rintro e w2 ⟨⟨v2, x2, y2, z2, rfl, H2⟩, os2, q2, rfl⟩; clear kO)
    | (go_at_call 19; refine (kK _ (by repeat (first | with_reducible exact Adds.refl _ | with_reducible refine Adds.alloc ?_ _ | with_reducible refine Adds.more ?_ _ _ | with_reducible refine Adds.drew ?_ | with_reducible refine Adds.drewN ?_ _))).mono ?_; rintro e w3 ⟨⟨v3, x3, y3, z3, rfl, H3⟩, os3, q3, rfl⟩; clear kK)
    | (go_at_call 20; refine (kC _ (by repeat (first | with_reducible exact Adds.refl _ | with_reducible refine Adds.alloc ?_ _ | with_reducible refine Adds.more ?_ _ _ | with_reducible refine Adds.drew ?_ | with_reducible refine Adds.drewN ?_ _))).mono ?_; rintro e w4 ⟨⟨v4, x4, y4, z4, rfl, H4⟩, os4, q4, rfl⟩; clear kC)
    | (go_at_call 21; refine (kT _ (by repeat (first | with_reducible exact Adds.refl _ | with_reducible refine Adds.alloc ?_ _ | with_reducible refine Adds.more ?_ _ _ | with_reducible refine Adds.drew ?_ | with_reducible refine Adds.drewN ?_ _))).mono ?_; rintro e w5 ⟨⟨v5, x5, y5, z5, rfl, H5⟩, os5, q5, rfl⟩; clear kT)
    | (go_at_call 12; refine (kM _ (by repeat (first | with_reducible exact Adds.refl _ | with_reducible refine Adds.alloc ?_ _ | with_reducible refine Adds.more ?_ _ _ | with_reducible refine Adds.drew ?_ | with_reducible refine Adds.drewN ?_ _))).mono ?_; rintro e w6 ⟨rfl, os6, q6, rfl⟩; clear kM)
    | (go_at_call 22; refine (rO _ (by repeat (first | with_reducible exact Adds.refl _ | with_reducible refine Adds.alloc ?_ _ | with_reducible refine Adds.more ?_ _ _ | with_reducible refine Adds.drew ?_ | with_reducible refine Adds.drewN ?_ _))).mono ?_; rintro e w7 ⟨⟨v7, x7, y7, z7, rfl, H7⟩, os7, q7, rfl⟩; clear rO)
    | (go_at_call 23; refine (rK _ (by repeat (first | with_reducible exact Adds.refl _ | with_reducible refine Adds.alloc ?_ _ | with_reducible refine Adds.more ?_ _ _ | with_reducible refine Adds.drew ?_ | with_reducible refine Adds.drewN ?_ _))).mono ?_; rintro e w8 ⟨⟨v8, x8, y8, z8, rfl, H8⟩, os8, q8, rfl⟩; clear rK)
    | (go_at_call 24; refine (rC _ (by repeat (first | with_reducible exact Adds.refl _ | with_reducible refine Adds.alloc ?_ _ | with_reducible refine Adds.more ?_ _ _ | with_reducible refine Adds.drew ?_ | with_reducible refine Adds.drewN ?_ _))).mono ?_; rintro e w9 ⟨⟨v9, x9, y9, z9, rfl, H9⟩, os9, q9, rfl⟩; clear rC)
    | (go_at_call 14; refine (s1 _ _ _ (LstF.adds H2.out (by repeat (first | with_reducible exact Adds.refl _ | with_reducible refine Adds.alloc ?_ _ | with_reducible refine Adds.more ?_ _ _ | with_reducible refine Adds.drew ?_ | with_reducible refine Adds.drewN ?_ _))) (LstF.adds H7.out (by repeat (first | with_reducible exact Adds.refl _ | with_reducible refine Adds.alloc ?_ _ | with_reducible refine Adds.more ?_ _ _ | with_reducible refine Adds.drew ?_ | with_reducible refine Adds.drewN ?_ _)))).mono ?_; rintro e w10 ⟨rfl, os10, q10, rfl⟩; clear s1)
    | (go_at_call 14; refine (s2 _ _ _ (LstF.adds H3.out (by repeat (first | with_reducible exact Adds.refl _ | with_reducible refine Adds.alloc ?_ _ | with_reducible refine Adds.more ?_ _ _ | with_reducible refine Adds.drew ?_ | with_reducible refine Adds.drewN ?_ _))) (LstF.turned H8.out (by repeat (first | with_reducible exact Turned.box _ _ _ _ _ _ _ _ _ _ | with_reducible refine Turned.mores ?_ (by simp [go_sem]) _ _ _ | with_reducible refine Turned.allocs ?_ (by simp [go_sem]) _ | with_reducible refine Turned.more ?_ _ _ | with_reducible refine Turned.alloc ?_ _)))).mono ?_; rintro e w11 ⟨rfl, os11, q11, rfl⟩; clear s2))
  refine wp_named ?_
  intro X HX
  have kp00 : X.cell? ⟨w.heap.size, 0, none⟩ = some (.int .i64 f.base) := by rw [HX.out]; simp [go_sem]
  have kp01 : X.cell? ⟨w.heap.size, 1, none⟩ = some (.int .i64 f.total) := by rw [HX.out]; simp [go_sem]
  have kp02 : X.cell? ⟨w.heap.size, 2, none⟩ = some (s) := by rw [HX.out]; simp [go_sem]
  have kp03 : X.cell? ⟨w.heap.size, 3, none⟩ = some (t) := by rw [HX.out]; simp [go_sem]
  have lp0 : w.heap.size < X.heap.size := by rw [HX.out]; simp [go_sem] <;> omega
  have kpa0 : X.cell? ⟨w.heap.size + os1.size + os2.size + 1, 0, none⟩ = some (.int .i64 b1) := by rw [HX.out]; simp [go_sem]
  have kpa1 : X.cell? ⟨w.heap.size + os1.size + os2.size + 1, 1, none⟩ = some (.int .i64 t1) := by rw [HX.out]; simp [go_sem]
  have kpa2 : X.cell? ⟨w.heap.size + os1.size + os2.size + 1, 2, none⟩ = some (.slice v2 n1 x2) := by rw [HX.out]; simp [go_sem]
  have kpa3 : X.cell? ⟨w.heap.size + os1.size + os2.size + 1, 3, none⟩ = some (.slice y2 m1 z2) := by rw [HX.out]; simp [go_sem]
  have lpa : w.heap.size + os1.size + os2.size + 1 < X.heap.size := by rw [HX.out]; simp [go_sem] <;> omega
  have kpb0 : X.cell? ⟨w.heap.size + os1.size + os2.size + os3.size + 1 + 1, 0, none⟩ = some (.int .i64 b2) := by rw [HX.out]; simp [go_sem]
  have kpb1 : X.cell? ⟨w.heap.size + os1.size + os2.size + os3.size + 1 + 1, 1, none⟩ = some (.int .i64 t2) := by rw [HX.out]; simp [go_sem]
  have kpb2 : X.cell? ⟨w.heap.size + os1.size + os2.size + os3.size + 1 + 1, 2, none⟩ = some (.slice v3 n2 x3) := by rw [HX.out]; simp [go_sem]
  have kpb3 : X.cell? ⟨w.heap.size + os1.size + os2.size + os3.size + 1 + 1, 3, none⟩ = some (.slice y3 m2 z3) := by rw [HX.out]; simp [go_sem]
  have lpb : w.heap.size + os1.size + os2.size + os3.size + 1 + 1 < X.heap.size := by rw [HX.out]; simp [go_sem] <;> omega
  have kpc0 : X.cell? ⟨w.heap.size + os1.size + os2.size + os3.size + os4.size + 1 + 1 + 1, 0, none⟩ = some (.int .i64 b3) := by rw [HX.out]; simp [go_sem]
  have kpc1 : X.cell? ⟨w.heap.size + os1.size + os2.size + os3.size + os4.size + 1 + 1 + 1, 1, none⟩ = some (.int .i64 t3) := by rw [HX.out]; simp [go_sem]
  have kpc2 : X.cell? ⟨w.heap.size + os1.size + os2.size + os3.size + os4.size + 1 + 1 + 1, 2, none⟩ = some (.slice v4 n3 x4) := by rw [HX.out]; simp [go_sem]
  have kpc3 : X.cell? ⟨w.heap.size + os1.size + os2.size + os3.size + os4.size + 1 + 1 + 1, 3, none⟩ = some (.slice y4 m3 z4) := by rw [HX.out]; simp [go_sem]
  have lpc : w.heap.size + os1.size + os2.size + os3.size + os4.size + 1 + 1 + 1 < X.heap.size := by rw [HX.out]; simp [go_sem] <;> omega
  have kpd0 : X.cell? ⟨w.heap.size + os1.size + os2.size + os3.size + os4.size + os5.size + 1 + 1 + 1 + 1, 0, none⟩ = some (.int .i64 b4) := by rw [HX.out]; simp [go_sem]
  have kpd1 : X.cell? ⟨w.heap.size + os1.size + os2.size + os3.size + os4.size + os5.size + 1 + 1 + 1 + 1, 1, none⟩ = some (.int .i64 t4) := by rw [HX.out]; simp [go_sem]
  have kpd2 : X.cell? ⟨w.heap.size + os1.size + os2.size + os3.size + os4.size + os5.size + 1 + 1 + 1 + 1, 2, none⟩ = some (.slice v5 n4 x5) := by rw [HX.out]; simp [go_sem]
  have kpd3 : X.cell? ⟨w.heap.size + os1.size + os2.size + os3.size + os4.size + os5.size + 1 + 1 + 1 + 1, 3, none⟩ = some (.slice y5 m4 z5) := by rw [HX.out]; simp [go_sem]
  have lpd : w.heap.size + os1.size + os2.size + os3.size + os4.size + os5.size + 1 + 1 + 1 + 1 < X.heap.size := by rw [HX.out]; simp [go_sem] <;> omega
  have kpw0 : X.cell? ⟨w.heap.size + os1.size + os2.size + os3.size + os4.size + os5.size + os6.size + os7.size + 1 + 1 + 1 + 1 + 1, 0, none⟩ = some (.int .i64 b3) := by rw [HX.out]; simp [go_sem]
  have kpw1 : X.cell? ⟨w.heap.size + os1.size + os2.size + os3.size + os4.size + os5.size + os6.size + os7.size + 1 + 1 + 1 + 1 + 1, 1, none⟩ = some (.int .i64 t3) := by rw [HX.out]; simp [go_sem]
  have kpw2 : X.cell? ⟨w.heap.size + os1.size + os2.size + os3.size + os4.size + os5.size + os6.size + os7.size + 1 + 1 + 1 + 1 + 1, 2, none⟩ = some (.slice v9 n3 x9) := by rw [HX.out]; simp [go_sem]
  have kpw3 : X.cell? ⟨w.heap.size + os1.size + os2.size + os3.size + os4.size + os5.size + os6.size + os7.size + 1 + 1 + 1 + 1 + 1, 3, none⟩ = some (.slice y9 m3 z9) := by rw [HX.out]; simp [go_sem]
  have lpw : w.heap.size + os1.size + os2.size + os3.size + os4.size + os5.size + os6.size + os7.size + 1 + 1 + 1 + 1 + 1 < X.heap.size := by rw [HX.out]; simp [go_sem] <;> omega
  have hA : Adds w X := by rw [HX.out]; repeat (first | with_reducible exact Adds.refl _ | with_reducible refine Adds.alloc ?_ _ | with_reducible refine Adds.more ?_ _ _ | with_reducible refine Adds.drew ?_ | with_reducible refine Adds.drewN ?_ _)
  have F1 : Hid (LstF X (.agg #[.int .i64 b1, .int .i64 t1, .slice v2 n1 x2, .slice y2 m1 z2]) ⟨b1, t1, ch1, sb1⟩) := by rw [HX.out]; exact LstF.adds H2.out (by repeat (first | with_reducible exact Adds.refl _ | with_reducible refine Adds.alloc ?_ _ | with_reducible refine Adds.more ?_ _ _ | with_reducible refine Adds.drew ?_ | with_reducible refine Adds.drewN ?_ _))
  have F2 : Hid (LstF X (.agg #[.int .i64 b2, .int .i64 t2, .slice v3 n2 x3, .slice y3 m2 z3]) ⟨b2, t2, ch2, sb2⟩) := by rw [HX.out]; exact LstF.adds H3.out (by repeat (first | with_reducible exact Adds.refl _ | with_reducible refine Adds.alloc ?_ _ | with_reducible refine Adds.more ?_ _ _ | with_reducible refine Adds.drew ?_ | with_reducible refine Adds.drewN ?_ _))
  have F3 : Hid (LstF X (.agg #[.int .i64 b3, .int .i64 t3, .slice v4 n3 x4, .slice y4 m3 z4]) ⟨b3, t3, ch3, sb3⟩) := by rw [HX.out]; exact LstF.adds H4.out (by repeat (first | with_reducible exact Adds.refl _ | with_reducible refine Adds.alloc ?_ _ | with_reducible refine Adds.more ?_ _ _ | with_reducible refine Adds.drew ?_ | with_reducible refine Adds.drewN ?_ _))
  have F4 : Hid (LstF X (.agg #[.int .i64 b4, .int .i64 t4, .slice v5 n4 x5, .slice y5 m4 z5]) ⟨b4, t4, ch4, sb4⟩) := by rw [HX.out]; exact LstF.adds H5.out (by repeat (first | with_reducible exact Adds.refl _ | with_reducible refine Adds.alloc ?_ _ | with_reducible refine Adds.more ?_ _ _ | with_reducible refine Adds.drew ?_ | with_reducible refine Adds.drewN ?_ _))
  have FW : Hid (LstF X (.agg #[.int .i64 b3, .int .i64 t3, .slice v9 n3 x9, .slice y9 m3 z9]) ⟨b3, t3, ch3, sb3⟩) := by rw [HX.out]; exact LstF.turned H9.out (by repeat (first | with_reducible exact Turned.box _ _ _ _ _ _ _ _ _ _ | with_reducible refine Turned.mores ?_ (by simp [go_sem]) _ _ _ | with_reducible refine Turned.allocs ?_ (by simp [go_sem]) _ | with_reducible refine Turned.more ?_ _ _ | with_reducible refine Turned.alloc ?_ _))
  clear H2 H3 H4 H5 H7 H8 H9 HX kA
  generalize w.heap.size + os1.size + os2.size + os3.size + os4.size + os5.size + os6.size + os7.size + 1 + 1 + 1 + 1 + 1 = pw at *
  generalize w.heap.size + os1.size + os2.size + os3.size + os4.size + os5.size + 1 + 1 + 1 + 1 = pd at *
  generalize w.heap.size + os1.size + os2.size + os3.size + os4.size + 1 + 1 + 1 = pc at *
  generalize w.heap.size + os1.size + os2.size + os3.size + 1 + 1 = pb at *
  generalize w.heap.size + os1.size + os2.size + 1 = pa at *
  generalize w.heap.size = p0 at *
  go_region_held3 (fun w' => w'.cell? ⟨p0, 0, none⟩ = some (.int .i64 f.base) ∧ w'.cell? ⟨p0, 1, none⟩ = some (.int .i64 f.total) ∧ w'.cell? ⟨p0, 2, none⟩ = some (s) ∧ w'.cell? ⟨p0, 3, none⟩ = some (t) ∧ w'.cell? ⟨pc, 0, none⟩ = some (.int .i64 b3) ∧ w'.cell? ⟨pc, 1, none⟩ = some (.int .i64 t3) ∧ w'.cell? ⟨pc, 2, none⟩ = some (.slice v4 n3 x4) ∧ w'.cell? ⟨pc, 3, none⟩ = some (.slice y4 m3 z4) ∧ w'.cell? ⟨pd, 0, none⟩ = some (.int .i64 b4) ∧ w'.cell? ⟨pd, 1, none⟩ = some (.int .i64 t4) ∧ w'.cell? ⟨pd, 2, none⟩ = some (.slice v5 n4 x5) ∧ w'.cell? ⟨pd, 3, none⟩ = some (.slice y5 m4 z5) ∧ w'.cell? ⟨pw, 0, none⟩ = some (.int .i64 b3) ∧ w'.cell? ⟨pw, 1, none⟩ = some (.int .i64 t3) ∧ w'.cell? ⟨pw, 2, none⟩ = some (.slice v9 n3 x9) ∧ w'.cell? ⟨pw, 3, none⟩ = some (.slice y9 m3 z9)) (simp [go_sem, *]) (first
    | (go_at_call 14; refine (s3 _ _ _ (LstF.adds F3.out (by repeat (first | with_reducible exact Adds.refl _ | with_reducible refine Adds.alloc ?_ _ | with_reducible refine Adds.more ?_ _ _ | with_reducible refine Adds.drew ?_ | with_reducible refine Adds.drewN ?_ _))) (LstF.adds FW.out (by repeat (first | with_reducible exact Adds.refl _ | with_reducible refine Adds.alloc ?_ _ | with_reducible refine Adds.more ?_ _ _ | with_reducible refine Adds.drew ?_ | with_reducible refine Adds.drewN ?_ _)))).mono ?_; rintro e w12 ⟨rfl, os12, q12, rfl⟩; clear s3)
    | (go_at_call 25; refine (rT _ (Adds.trans hA (by repeat (first | with_reducible exact Adds.refl _ | with_reducible refine Adds.alloc ?_ _ | with_reducible refine Adds.more ?_ _ _ | with_reducible refine Adds.drew ?_ | with_reducible refine Adds.drewN ?_ _)))).mono ?_; rintro e w13 ⟨⟨v13, x13, y13, z13, rfl, H13⟩, os13, q13, rfl⟩; clear rT)
    | (go_at_call 14; refine (s4 _ _ _ (LstF.adds F4.out (by repeat (first | with_reducible exact Adds.refl _ | with_reducible refine Adds.alloc ?_ _ | with_reducible refine Adds.more ?_ _ _ | with_reducible refine Adds.drew ?_ | with_reducible refine Adds.drewN ?_ _))) (LstF.adds H13.out (by repeat (first | with_reducible exact Adds.refl _ | with_reducible refine Adds.alloc ?_ _ | with_reducible refine Adds.more ?_ _ _ | with_reducible refine Adds.drew ?_ | with_reducible refine Adds.drewN ?_ _)))).mono ?_; rintro e w14 ⟨rfl, os14, q14, rfl⟩; clear s4))
  go_wp2
  refine wp_named ?_
  intro Y HY
  have hXY : Adds X Y := by rw [HY.out]; repeat (first | with_reducible exact Adds.refl _ | with_reducible refine Adds.alloc ?_ _ | with_reducible refine Adds.more ?_ _ _ | with_reducible refine Adds.drew ?_ | with_reducible refine Adds.drewN ?_ _)
  have hpa0 : Y.cell? ⟨pa, 0, none⟩ = some (.int .i64 b1) := by rw [HY.out]; simp [go_sem, *]
  have hpa1 : Y.cell? ⟨pa, 1, none⟩ = some (.int .i64 t1) := by rw [HY.out]; simp [go_sem, *]
  have hpa2 : Y.cell? ⟨pa, 2, none⟩ = some (.slice v2 n1 x2) := by rw [HY.out]; simp [go_sem, *]
  have hpa3 : Y.cell? ⟨pa, 3, none⟩ = some (.slice y2 m1 z2) := by rw [HY.out]; simp [go_sem, *]
  have hlpa : pa < Y.heap.size := by rw [HY.out]; simp [go_sem]; omega
  have hpb0 : Y.cell? ⟨pb, 0, none⟩ = some (.int .i64 b2) := by rw [HY.out]; simp [go_sem, *]
  have hpb1 : Y.cell? ⟨pb, 1, none⟩ = some (.int .i64 t2) := by rw [HY.out]; simp [go_sem, *]
  have hpb2 : Y.cell? ⟨pb, 2, none⟩ = some (.slice v3 n2 x3) := by rw [HY.out]; simp [go_sem, *]
  have hpb3 : Y.cell? ⟨pb, 3, none⟩ = some (.slice y3 m2 z3) := by rw [HY.out]; simp [go_sem, *]
  have hlpb : pb < Y.heap.size := by rw [HY.out]; simp [go_sem]; omega
  have hpc0 : Y.cell? ⟨pc, 0, none⟩ = some (.int .i64 b3) := by rw [HY.out]; simp [go_sem, *]
  have hpc1 : Y.cell? ⟨pc, 1, none⟩ = some (.int .i64 t3) := by rw [HY.out]; simp [go_sem, *]
  have hpc2 : Y.cell? ⟨pc, 2, none⟩ = some (.slice v4 n3 x4) := by rw [HY.out]; simp [go_sem, *]
  have hpc3 : Y.cell? ⟨pc, 3, none⟩ = some (.slice y4 m3 z4) := by rw [HY.out]; simp [go_sem, *]
  have hlpc : pc < Y.heap.size := by rw [HY.out]; simp [go_sem]; omega
  have hpd0 : Y.cell? ⟨pd, 0, none⟩ = some (.int .i64 b4) := by rw [HY.out]; simp [go_sem, *]
  have hpd1 : Y.cell? ⟨pd, 1, none⟩ = some (.int .i64 t4) := by rw [HY.out]; simp [go_sem, *]
  have hpd2 : Y.cell? ⟨pd, 2, none⟩ = some (.slice v5 n4 x5) := by rw [HY.out]; simp [go_sem, *]
  have hpd3 : Y.cell? ⟨pd, 3, none⟩ = some (.slice y5 m4 z5) := by rw [HY.out]; simp [go_sem, *]
  have hlpd : pd < Y.heap.size := by rw [HY.out]; simp [go_sem]; omega
  obtain ⟨s5, t5, e5, hs5, uo, uc, e6, hcap, hul⟩ := LstF.adds F4.out hXY
  obtain ⟨rfl, rfl⟩ : s5 = .slice v5 n4 x5 ∧ t5 = .slice y5 m4 z5 := by simpa [eq_comm] using e5
  obtain ⟨rfl, rfl, rfl⟩ : uo = y5 ∧ m4 = sb4.length ∧ uc = z5 := by simpa [eq_comm] using e6
  clear HY kpa0 kpa1 kpa2 kpa3 kpb0 kpb1 kpb2 kpb3 kpc0 kpc1 kpc2 kpc3 kpd0 kpd1 kpd2 kpd3 lpa lpb lpc lpd kp00 kp01 kp02 kp03 kpw0 kpw1 kpw2 kpw3 lp0 lpw H13 e5 e6 hs5 FW
  go_loopw [18] (fun i wr => ∃ k d : Nat, k ≤ sb4.length ∧ i = .int .i64 k ∧ wr = more Y #[] d) (fun i _ => sb4.length - (intOf i).toNat)
  case atStart => exact ⟨0, Y.drawn, Nat.zero_le _, rfl, by rw [more_nil]⟩
  case round =>
    obtain ⟨k, d, hk, rfl, rfl⟩ := hrel
    by_cases hlt : k < sb4.length
    · rcases hul with rfl | ⟨b, off, rfl, hb, hl⟩
      · simp at hlt
      obtain ⟨lc0, lc1⟩ := hl k hlt
      have hp := HP4.out k hlt
      have hlt' : (k : Int) < (sb4.length : Int) := by omega
      have hng : ¬ sb4[k].pos < b4 := by omega
      clear hl
      generalize sb4[k].name = nm at *
      generalize sb4[k].pos = ps at *
      have h8 : sb4.length ≤ 8 := HB.out
      go_wp2
      go_quiet (fail)
      go_wp2
      go_roundw
      case rel => exact ⟨k + 1, _, by omega, by go_num, rfl⟩
      case measure => simp [intOf]; omega
    · obtain rfl : k = sb4.length := by omega
      clear hul hcap
      go_wp2_with (first
        | (go_at_call 12; refine (a1 _ _ (LstF.adds F1.out (Adds.trans hXY (by repeat (first | with_reducible exact Adds.refl _ | with_reducible refine Adds.alloc ?_ _ | with_reducible refine Adds.more ?_ _ _ | with_reducible refine Adds.drew ?_ | with_reducible refine Adds.drewN ?_ _))))).mono ?_; rintro e w21 ⟨rfl, os21, q21, rfl⟩; clear a1)
        | (go_at_call 12; refine (a2 _ _ (LstF.adds F2.out (Adds.trans hXY (by repeat (first | with_reducible exact Adds.refl _ | with_reducible refine Adds.alloc ?_ _ | with_reducible refine Adds.more ?_ _ _ | with_reducible refine Adds.drew ?_ | with_reducible refine Adds.drewN ?_ _))))).mono ?_; rintro e w22 ⟨rfl, os22, q22, rfl⟩; clear a2)
        | (go_at_call 12; refine (a3 _ _ (LstF.adds F3.out (Adds.trans hXY (by repeat (first | with_reducible exact Adds.refl _ | with_reducible refine Adds.alloc ?_ _ | with_reducible refine Adds.more ?_ _ _ | with_reducible refine Adds.drew ?_ | with_reducible refine Adds.drewN ?_ _))))).mono ?_; rintro e w23 ⟨rfl, os23, q23, rfl⟩; clear a3)
        | (go_at_call 12; refine (a4 _ _ (LstF.adds F4.out (Adds.trans hXY (by repeat (first | with_reducible exact Adds.refl _ | with_reducible refine Adds.alloc ?_ _ | with_reducible refine Adds.more ?_ _ _ | with_reducible refine Adds.drew ?_ | with_reducible refine Adds.drewN ?_ _))))).mono ?_; rintro e w24 ⟨rfl, os24, q24, rfl⟩; clear a4)
        | (go_at_call 10; refine (awake_any _).mono ?_; rintro e w25 ⟨rfl, os25, q25, rfl⟩))
      go_ret
      exact ⟨rfl, hA.trans (hXY.trans (by repeat (first | with_reducible exact Adds.refl _ | with_reducible refine Adds.alloc ?_ _ | with_reducible refine Adds.more ?_ _ _ | with_reducible refine Adds.drew ?_ | with_reducible refine Adds.drewN ?_ _)))⟩

end Go.Proofs.Ytpjhohmbifpogaa

namespace Go.Proofs.Ytpjhohmbifpogaa
open Go.RowKit
attribute [local go_sem] cell?_more frozen?_more setCell_more size_more tape_more drew_more drewN_more more_drew more_drewN one_out plus_out plus_end lt_one le_p2 le_p3 le_p4 le_p5 le_p6 le_p7 le_p8 le_p9 le_p10 le_p11 le_p12 le_p13 le_p14 le_p15 le_p16 le_p17 le_p18 le_p19 le_p20 le_p21 le_p22 le_p23 le_p24 le_q0 le_q1 lt_q1 le_q2 lt_q2 le_q3 lt_q3 le_q4 lt_q4 le_q5 lt_q5 le_q6 lt_q6 le_q7 lt_q7 le_q8 lt_q8 le_q9 lt_q9 le_q10 lt_q10 le_q11 lt_q11 le_q12 lt_q12 le_q13 lt_q13 le_q14 lt_q14 le_q15 lt_q15 le_q16 lt_q16 le_q17 lt_q17 le_q18 lt_q18 le_q19 lt_q19 le_q20 lt_q20 le_q21 lt_q21 le_q22 lt_q22 le_q23 lt_q23 le_q24 lt_q24

theorem feedSubs_any (v : Value) (f : Fd) (name : ByteArray) (pos : Int) (w : World) (h : LstF w v f) :
    Calls Try.prog 4 #[v, .string name, .int .i64 pos] w fun e w' => e = .returned (.bool true) ∧ Adds w w' := by
  by_cases hL : LightF f ∧ name.size ≤ 200
  rotate_left
  · exact feedSubs_great v f name pos w h hL
  obtain ⟨hL, h2⟩ := hL
  have hc : f.ch.length ≤ 1000 := Nat.le_trans hL.1.1 (by omega)
  have hd := lightC_doc hL.1
  by_cases hM : MayF f
  rotate_left
  · exact feedSubs_bad v f name pos w h hL h2 hM
  obtain ⟨g1, n1, m1, c1, ⟨kO, rO, M1, l1, d1⟩, _⟩ := opens_both v f name pos w h hM hc hd
  obtain ⟨g2, n2, m2, c2, ⟨kK, rK, M2, l2, d2⟩⟩ := acks_both v f name pos w h hM hc hd
  obtain ⟨g3, n3, m3, c3, ⟨kC, rC, M3, l3, d3⟩⟩ := closes_both v f name w h hM hc hd
  obtain ⟨g4, n4, kT, rT, M4, l4, d4, hs4, _, _⟩ := trims_both v f pos w h hM hc hd
  have e8 : ∀ {g : Fd}, MayF g → g.sb.length ≤ 1000 := fun hM => Nat.le_trans hM.2.2.2.2.2.1 (by omega)
  have mm : ∀ {g : Fd}, MayF g → g.ch.length ≤ 1000 → (∀ d ∈ g.ch, d.doc.length ≤ 1000) → ∀ v W, LstF W v g → Calls Try.prog 12 #[v] W fun e w' => e = .returned (.bool true) ∧ Adds W w' := by
    intro g hM hc hd v W hv
    have := refMayF_any v g W hv hc (fun k hk => hd _ (List.getElem_mem hk))
    rw [decide_eq_true hM] at this
    exact this
  exact feedSubs_walk v f name pos w h hL h2 hM g1 g2 g3 g4 n1 n2 n3 n4 m1 m2 m3 f.sb.length c1 c2 c3 kO rO kK rK kC rC kT rT
    (fun v v' W hv hv' => same14 v v' g1 c1 W hv hv' l1 d1 (e8 M1)) (fun v v' W hv hv' => same14 v v' g2 c2 W hv hv' l2 d2 (e8 M2)) (fun v v' W hv hv' => same14 v v' g3 c3 W hv hv' l3 d3 (e8 M3)) (fun v v' W hv hv' => same14 v v' g4 0 W hv hv' l4 d4 (e8 M4))
    (mm M1 l1 d1) (mm M2 l2 d2) (mm M3 l3 d3) (mm M4 l4 d4) (by rw [hs4]) M4.2.2.2.2.2.1 (fun k hk => (M4.2.2.2.2.2.2 k hk).2.1)

end Go.Proofs.Ytpjhohmbifpogaa
