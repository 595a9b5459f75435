/-
  The reference's Light of a document, by contract.
-/
import Derived.Test.YtgnhkpihlghbmaaMsnb
import Derived.Test.YtgnhkpihlghbmaaMrefcell
import Derived.Test.YtgnhkpihlghbmaaMlen
import Derived.Test.YtgnhkpihlghbmaaMays
namespace Go.Proofs.Ytgnhkpihlghbmaa
open Go.RowKit
attribute [local go_sem] cell?_more frozen?_more setCell_more size_more tape_more drew_more drewN_more more_drew more_drewN one_out plus_out plus_end lt_one le_p2 le_p3 le_p4 le_p5 le_p6 le_p7 le_p8 le_p9 le_p10 le_p11 le_p12 le_p13 le_p14 le_p15 le_p16 le_p17 le_p18 le_p19 le_p20 le_p21 le_p22 le_p23 le_p24 le_q0 le_q1 lt_q1 le_q2 lt_q2 le_q3 lt_q3 le_q4 lt_q4 le_q5 lt_q5 le_q6 lt_q6 le_q7 lt_q7 le_q8 lt_q8 le_q9 lt_q9 le_q10 lt_q10 le_q11 lt_q11 le_q12 lt_q12 le_q13 lt_q13 le_q14 lt_q14 le_q15 lt_q15 le_q16 lt_q16 le_q17 lt_q17 le_q18 lt_q18 le_q19 lt_q19 le_q20 lt_q20 le_q21 lt_q21 le_q22 lt_q22 le_q23 lt_q23 le_q24 lt_q24

set_option maxRecDepth 20000 in
set_option maxHeartbeats 2000000 in
theorem rLight_any (s : Value) (fs : List F) (w : World) (h : Lst w s fs) (hle : fs.length ≤ 1000) :
    Calls Try.prog 18 #[s] w fun e w' => e = .returned (.bool (lightD fs)) ∧ Adds w w' := by
  have kM := fun W (hA : Adds w W) => refMay_any s fs W (h.adds hA) hle
  by_cases hm : May fs
  · rw [decide_eq_true hm] at kM
    obtain ⟨hok, _, hln⟩ := may_doc hm
    have kC := fun W (hA : Adds w W) => refCell_any s fs W (h.adds hA) hm
    have kB : ∀ (r : Value) (W : World), Tr (fun b => b < W.heap.size) 3 W r (docT fs).list → Calls Try.prog 37 #[.agg #[.int .i64 3, .int .i64 0, .string ⟨#[]⟩, r]] W fun e w' => (∃ vo vc, e = .returned (.slice vo (docBytes fs).length vc)) ∧ Adds W w' := fun r W hT =>
      (rbytes_ok 3 (docT fs) r W hT hok (by show (docBytes fs).length ≤ _; omega)).mono (by
        rintro e w' ⟨v', rfl, ho⟩
        obtain ⟨vo, vc, rfl, _, _⟩ := Byt.open (own_lst ho)
        exact ⟨⟨vo, vc, rfl⟩, Adds.of ho.2.1⟩)
    have hE : lightD fs = decide ((docBytes fs).length ≤ 512) := by
      unfold lightD
      rw [decide_eq_true hm, Bool.true_and]
    rw [hE]
    obtain ⟨ao, cap, rfl, _, _⟩ := h
    clear hE hm hok hln hle
    generalize (docBytes fs).length = n at *
    have hn : decide (n ≤ 512) = decide ((n : Int) ≤ 512) := by simp; omega
    rw [hn]
    go_enter Try.func18, Try.ntmps18
    go_wp2_with (first
      | (go_at_call 36; refine (kM _ (by repeat (first | with_reducible exact Adds.refl _ | with_reducible refine Adds.alloc ?_ _ | with_reducible refine Adds.more ?_ _ _ | with_reducible refine Adds.drew ?_ | with_reducible refine Adds.drewN ?_ _))).mono ?_; rintro e w1 ⟨rfl, os1, n1, rfl⟩)
      | (go_at_call 38; refine (kC _ (by repeat (first | with_reducible exact Adds.refl _ | with_reducible refine Adds.alloc ?_ _ | with_reducible refine Adds.more ?_ _ _ | with_reducible refine Adds.drew ?_ | with_reducible refine Adds.drewN ?_ _))).mono ?_; rintro e w2 ⟨r, rfl, hT, hA2⟩; have HT : Hid (Tr (fun b => b < w2.heap.size) 3 w2 r (docT fs).list) := hT.fresh; obtain ⟨ro, rc, rfl⟩ := hT.shape; have HA2 : Hid _ := hA2; clear hT hA2)
      | (go_at_call 37; refine (kB _ _ HT.out).mono ?_; rintro e w3 ⟨⟨vo, vc, rfl⟩, hA3⟩))
    go_ret
    exact ⟨rfl, ((Adds.more (Adds.refl w) os1 n1).trans HA2.out).trans hA3⟩
  · rw [decide_eq_false hm] at kM
    have hE : lightD fs = false := by
      unfold lightD
      rw [decide_eq_false hm, Bool.false_and]
    rw [hE]
    obtain ⟨ao, cap, rfl, _, _⟩ := h
    clear hE hm hle
    generalize fs.length = n at *
    go_enter Try.func18, Try.ntmps18
    go_wp2_with (go_at_call 36; refine (kM _ (by repeat (first | with_reducible exact Adds.refl _ | with_reducible refine Adds.alloc ?_ _ | with_reducible refine Adds.more ?_ _ _ | with_reducible refine Adds.drew ?_ | with_reducible refine Adds.drewN ?_ _))).mono ?_; rintro e w1 ⟨rfl, os1, n1, rfl⟩)
    go_ret
    exact ⟨rfl, (by repeat (first | with_reducible exact Adds.refl _ | with_reducible refine Adds.alloc ?_ _ | with_reducible refine Adds.more ?_ _ _ | with_reducible refine Adds.drew ?_ | with_reducible refine Adds.drewN ?_ _))⟩

end Go.Proofs.Ytgnhkpihlghbmaa
