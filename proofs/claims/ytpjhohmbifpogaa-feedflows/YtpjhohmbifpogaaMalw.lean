/-
  The law of what is added: FeedAdds returns true, whatever the input. The law of what is added: FeedAdds returns true, whatever the input.
-/
import Derived.Test.YtpjhohmbifpogaaRlw
import Derived.Test.YtpjhohmbifpogaaMadg
import Derived.Test.YtpjhohmbifpogaaMrad
import Derived.Test.YtpjhohmbifpogaaMsnm
namespace Go.Proofs.Ytpjhohmbifpogaa
open Go.RowKit
attribute [local go_sem] cell?_more frozen?_more setCell_more size_more tape_more drew_more drewN_more more_drew more_drewN one_out plus_out plus_end lt_one le_p2 le_p3 le_p4 le_p5 le_p6 le_p7 le_p8 le_p9 le_p10 le_p11 le_p12 le_p13 le_p14 le_p15 le_p16 le_p17 le_p18 le_p19 le_p20 le_p21 le_p22 le_p23 le_p24 le_q0 le_q1 lt_q1 le_q2 lt_q2 le_q3 lt_q3 le_q4 lt_q4 le_q5 lt_q5 le_q6 lt_q6 le_q7 lt_q7 le_q8 lt_q8 le_q9 lt_q9 le_q10 lt_q10 le_q11 lt_q11 le_q12 lt_q12 le_q13 lt_q13 le_q14 lt_q14 le_q15 lt_q15 le_q16 lt_q16 le_q17 lt_q17 le_q18 lt_q18 le_q19 lt_q19 le_q20 lt_q20 le_q21 lt_q21 le_q22 lt_q22 le_q23 lt_q23 le_q24 lt_q24

attribute [local go_sem] cell?_addTo

theorem follow_append {ch l : List Ch} {t : Int} : Follow (ch ++ l) t ↔ Follow ch t ∧ Follow l (t + ch.length) := by
  constructor
  · intro h
    refine ⟨fun k hk => ?_, fun k hk => ?_⟩
    · have := h k (by simp; omega)
      simpa [GoodH, List.getElem_append_left hk] using this
    · have := h (ch.length + k) (by simp; omega)
      simp only [GoodH, List.getElem_append_right (Nat.le_add_right _ _), Nat.add_sub_cancel_left] at this ⊢
      refine ⟨?_, this.2⟩
      rw [this.1]
      omega
  · rintro ⟨h1, h2⟩ k hk
    by_cases hlt : k < ch.length
    · have := h1 k hlt
      simpa [GoodH, List.getElem_append_left hlt] using this
    · have hk' : k - ch.length < l.length := by simp at hk; omega
      have := h2 (k - ch.length) hk'
      simp only [GoodH, List.getElem_append_right (Nat.le_of_not_lt hlt)] at this ⊢
      refine ⟨?_, this.2⟩
      rw [this.1]
      omega

theorem subsc_mono {sb : List Sb} {a b c : Int} (h : Subsc sb a b) (hc : b ≤ c) : Subsc sb a c := ⟨h.1, fun k hk => ⟨(h.2 k hk).1, (h.2 k hk).2.1, Int.le_trans (h.2 k hk).2.2.1 hc, (h.2 k hk).2.2.2⟩⟩

theorem mayF_add {base total : Int} {ch l : List Ch} {sb : List Sb} (h : MayF ⟨base, total, ch, sb⟩) : MayF ⟨base, total + l.length, ch ++ l, sb⟩ ↔ (total + l.length ≤ 2147483647 ∧ Follow l total) := by
  obtain ⟨h1, h2, h3, h4, h5, h6⟩ := h
  simp only at *
  have he : base + (ch.length : Int) = total := by omega
  constructor
  · rintro ⟨_, _, k3, _, k5, _⟩
    simp only at *
    have := (follow_append.1 k5).2
    rw [he] at this
    exact ⟨k3, this⟩
  · rintro ⟨k3, k5⟩
    refine ⟨h1, by show base ≤ total + _; omega, k3, by simp; omega, follow_append.2 ⟨h5, by rw [he]; exact k5⟩, subsc_mono h6 (by show total ≤ total + _; omega)⟩

set_option maxHeartbeats 4000000 in
set_option maxRecDepth 20000 in
theorem feedAdds_great (v x : Value) (f : Fd) (l : List Ch) (w : World) (h : LstF w v f) (hx : LstH w x l) (hL : ¬ (LightF f ∧ LightC l)) :
    Calls Try.prog 3 #[v, x] w fun e w' => e = .returned (.bool true) ∧ Adds w w' := by
  have kL := fun w' (hA : Adds w w') => light_any v f w' (h.adds hA)
  have kC := fun w' (hA : Adds w w') => changes_any x l w' (hx.adds hA)
  have kA := fun w' => awake_any w'
  obtain ⟨s, t, rfl, hs, ht⟩ := h
  obtain ⟨xo, xc, rfl, _, _⟩ := hx
  by_cases hf : LightF f
  · rw [decide_eq_true hf] at kL
    rw [decide_eq_false (fun h => hL ⟨hf, h⟩ : ¬ LightC l)] at kC
    clear hL hf hs ht
    go_enter Try.func3, Try.ntmps3
    go_wp2_with (first
      | (go_at_call 8; refine (kL _ (by repeat (first | with_reducible exact Adds.refl _ | with_reducible refine Adds.alloc ?_ _ | with_reducible refine Adds.more ?_ _ _ | with_reducible refine Adds.drew ?_ | with_reducible refine Adds.drewN ?_ _))).mono ?_; rintro e w1 ⟨rfl, os1, n1, rfl⟩)
      | (go_at_call 9; refine (kC _ (by repeat (first | with_reducible exact Adds.refl _ | with_reducible refine Adds.alloc ?_ _ | with_reducible refine Adds.more ?_ _ _ | with_reducible refine Adds.drew ?_ | with_reducible refine Adds.drewN ?_ _))).mono ?_; rintro e w3 ⟨rfl, os3, n3, rfl⟩)
      | (go_at_call 10; refine (kA _).mono ?_; rintro e w2 ⟨rfl, os2, n2, rfl⟩))
    go_ret
    exact ⟨rfl, (by repeat (first | with_reducible exact Adds.refl _ | with_reducible refine Adds.alloc ?_ _ | with_reducible refine Adds.more ?_ _ _ | with_reducible refine Adds.drew ?_ | with_reducible refine Adds.drewN ?_ _))⟩
  · rw [decide_eq_false hf] at kL
    clear hL hf hs ht
    go_enter Try.func3, Try.ntmps3
    go_wp2_with (first
      | (go_at_call 8; refine (kL _ (by repeat (first | with_reducible exact Adds.refl _ | with_reducible refine Adds.alloc ?_ _ | with_reducible refine Adds.more ?_ _ _ | with_reducible refine Adds.drew ?_ | with_reducible refine Adds.drewN ?_ _))).mono ?_; rintro e w1 ⟨rfl, os1, n1, rfl⟩)
      | (go_at_call 10; refine (kA _).mono ?_; rintro e w2 ⟨rfl, os2, n2, rfl⟩))
    go_ret
    exact ⟨rfl, (by repeat (first | with_reducible exact Adds.refl _ | with_reducible refine Adds.alloc ?_ _ | with_reducible refine Adds.more ?_ _ _ | with_reducible refine Adds.drew ?_ | with_reducible refine Adds.drewN ?_ _))⟩

theorem lstF_zero (w : World) : LstF w (.agg #[.int .i64 0, .int .i64 0, .slice none 0 0, .slice none 0 0]) ⟨0, 0, [], []⟩ := ⟨_, _, rfl, ⟨_, _, rfl, Nat.le_refl _, .inl rfl⟩, ⟨_, _, rfl, Nat.le_refl _, .inl rfl⟩⟩

theorem same_zero (c : Int) (w : World) : Calls Try.prog 14 #[.agg #[.int .i64 0, .int .i64 0, .slice none 0 0, .slice none 0 0], .int .i64 c, .agg #[.int .i64 0, .int .i64 0, .slice none 0 0, .slice none 0 0], .int .i64 c] w fun e w' => e = .returned (.bool true) ∧ Adds w w' :=
  same14 _ _ ⟨0, 0, [], []⟩ c w (lstF_zero w) (lstF_zero w) (by simp) (by simp) (by simp)

set_option maxHeartbeats 4000000 in
set_option maxRecDepth 20000 in
theorem feedAdds_bad (v x : Value) (f : Fd) (l : List Ch) (w : World) (h : LstF w v f) (hx : LstH w x l) (hL : LightF f) (hL2 : LightC l) (hM : ¬ MayF f) :
    Calls Try.prog 3 #[v, x] w fun e w' => e = .returned (.bool true) ∧ Adds w w' := by
  have hc : f.ch.length ≤ 1000 := Nat.le_trans hL.1.1 (by omega)
  have kL := fun w' (hA : Adds w w') => light_any v f w' (h.adds hA)
  rw [decide_eq_true hL] at kL
  have kC := fun w' (hA : Adds w w') => changes_any x l w' (hx.adds hA)
  rw [decide_eq_true hL2] at kC
  have kA := fun w' => awake_any w'
  have kD := fun w' (hA : Adds w w') => add_bad v f x w' (h.adds hA) hc hM
  have kK := fun w' (hA : Adds w w') => checkF_any v f w' (h.adds hA) hc
  rw [err_bad hM] at kK
  have kM := fun w' (hA : Adds w w') => refMayF_any v f w' (h.adds hA) hc (fun k hk => Nat.le_trans (hL.1.2 k hk) (by omega))
  rw [decide_eq_false hM] at kM
  have kZ := fun w' => same_zero 1 w'
  obtain ⟨s, t, rfl, hs, ht⟩ := h
  obtain ⟨xo, xc, rfl, _, _⟩ := hx
  clear hL hL2 hM hs ht hc
  go_enter Try.func3, Try.ntmps3
  go_wp2_with (first
    | (go_at_call 8; refine (kL _ (by repeat (first | with_reducible exact Adds.refl _ | with_reducible refine Adds.alloc ?_ _ | with_reducible refine Adds.more ?_ _ _ | with_reducible refine Adds.drew ?_ | with_reducible refine Adds.drewN ?_ _))).mono ?_; rintro e w1 ⟨rfl, os1, n1, rfl⟩)
    | (go_at_call 9; refine (kC _ (by repeat (first | with_reducible exact Adds.refl _ | with_reducible refine Adds.alloc ?_ _ | with_reducible refine Adds.more ?_ _ _ | with_reducible refine Adds.drew ?_ | with_reducible refine Adds.drewN ?_ _))).mono ?_; rintro e w3 ⟨rfl, os3, n3, rfl⟩)
    | (go_at_call 11; refine (kD _ (by repeat (first | with_reducible exact Adds.refl _ | with_reducible refine Adds.alloc ?_ _ | with_reducible refine Adds.more ?_ _ _ | with_reducible refine Adds.drew ?_ | with_reducible refine Adds.drewN ?_ _))).mono ?_; rintro e w4 ⟨rfl, os4, n4, rfl⟩)
    | (go_at_call 12; refine (kM _ (by repeat (first | with_reducible exact Adds.refl _ | with_reducible refine Adds.alloc ?_ _ | with_reducible refine Adds.more ?_ _ _ | with_reducible refine Adds.drew ?_ | with_reducible refine Adds.drewN ?_ _))).mono ?_; rintro e w5 ⟨rfl, os5, n5, rfl⟩)
    | (go_at_call 13; refine (kK _ (by repeat (first | with_reducible exact Adds.refl _ | with_reducible refine Adds.alloc ?_ _ | with_reducible refine Adds.more ?_ _ _ | with_reducible refine Adds.drew ?_ | with_reducible refine Adds.drewN ?_ _))).mono ?_; rintro e w6 ⟨rfl, os6, n6, rfl⟩)
    | (go_at_call 14; refine (kZ _).mono ?_; rintro e w7 ⟨rfl, os7, n7, rfl⟩)
    | (go_at_call 10; refine (kA _).mono ?_; rintro e w2 ⟨rfl, os2, n2, rfl⟩))
  go_ret
  exact ⟨rfl, (by repeat (first | with_reducible exact Adds.refl _ | with_reducible refine Adds.alloc ?_ _ | with_reducible refine Adds.more ?_ _ _ | with_reducible refine Adds.drew ?_ | with_reducible refine Adds.drewN ?_ _))⟩

theorem addTo_adds (W : World) (p : Plus) : Adds W (addTo W p) := ⟨p.os, p.draws, rfl⟩

/-- What either side tells of a feed. -/
def TellsF (fn : FuncId) (args : Array Value) (g : Fd) (n : Nat) (c : Value) (w : World) : Prop :=
  ∀ W, Adds w W → Calls Try.prog fn args W fun e w' => (∃ vo vc uo uc, e = .returned (.tuple #[.agg #[.int .i64 g.base, .int .i64 g.total, .slice vo n vc, .slice uo g.sb.length uc], c]) ∧ Hid (LstF w' (.agg #[.int .i64 g.base, .int .i64 g.total, .slice vo n vc, .slice uo g.sb.length uc]) g)) ∧ Adds W w'

set_option maxHeartbeats 4000000 in
set_option maxRecDepth 20000 in
theorem feedAdds_walk (v x : Value) (f : Fd) (l : List Ch) (w : World) (h : LstF w v f) (hx : LstH w x l) (hL : LightF f) (hL2 : LightC l) (hM : MayF f) (g : Fd) (n : Nat) (c : Int) (b q : Bool)
    (hc0 : c = if b then 0 else 1) (kD : TellsF 11 #[v, x] g n (.int .i64 c) w) (kR : TellsF 15 #[v, x] g n (.bool b) w) (hg : g.ch.length ≤ 1000) (hgd : ∀ d ∈ g.ch, d.doc.length ≤ 1000) (hgs : g.sb.length ≤ 1000)
    (kQ : ∀ W v', Adds w W → LstF W v' g → Calls Try.prog 16 #[v, v'] W fun e w' => e = .returned (.bool q) ∧ Adds W w') (kP : ∀ W v', Adds w W → LstF W v' g → Calls Try.prog 17 #[v, v'] W fun e w' => e = .returned (.bool q) ∧ Adds W w') :
    Calls Try.prog 3 #[v, x] w fun e w' => e = .returned (.bool true) ∧ Adds w w' := by
  have hc : f.ch.length ≤ 1000 := Nat.le_trans hL.1.1 (by omega)
  have kL := fun w' (hA : Adds w w') => light_any v f w' (h.adds hA)
  rw [decide_eq_true hL] at kL
  have kC := fun w' (hA : Adds w w') => changes_any x l w' (hx.adds hA)
  rw [decide_eq_true hL2] at kC
  have kA := fun w' => awake_any w'
  have kK := fun w' (hA : Adds w w') => checkF_any v f w' (h.adds hA) hc
  rw [err_ok hM] at kK
  have kM := fun w' (hA : Adds w w') => refMayF_any v f w' (h.adds hA) hc (fun k hk => Nat.le_trans (hL.1.2 k hk) (by omega))
  rw [decide_eq_true hM] at kM
  have kZ := fun v v' w' (h : LstF w' v g) (h' : LstF w' v' g) => same14 v v' g c w' h h' hg hgd hgs
  unfold TellsF at kD kR
  have kK' := fun W (hA : Adds w W) (p : Plus) => Calls.adds_of (kK (addTo W p) (hA.trans (addTo_adds W p)))
  have kQ' := fun W v' (hA : Adds w W) (p : Plus) (h : LstF (addTo W p) v' g) => Calls.adds_of (kQ (addTo W p) v' (hA.trans (addTo_adds W p)) h)
  have kP' := fun W v' (hA : Adds w W) (p : Plus) (h : LstF (addTo W p) v' g) => Calls.adds_of (kP (addTo W p) v' (hA.trans (addTo_adds W p)) h)
  have kZ' := fun v v' W (p : Plus) (h : LstF (addTo W p) v g) (h' : LstF (addTo W p) v' g) => Calls.adds_of (kZ v v' (addTo W p) h h')
  have kA' := fun W (p : Plus) => Calls.adds_of (kA (addTo W p))
  clear kK kQ kP kZ kA
  obtain ⟨s, t, rfl, hs, ht⟩ := h
  obtain ⟨xo, xc, rfl, _, _⟩ := hx
  obtain ⟨base, total, ch, sb⟩ := f
  obtain ⟨gb, gt, gc, gs⟩ := g
  simp only at *
  clear hL hL2 hM hs ht hc hg hgd hgs
  cases b <;> cases q <;> simp only [if_true, if_false, Bool.false_eq_true] at hc0 <;> subst hc0
  all_goals
    go_enter Try.func3, Try.ntmps3
    go_wp2_with (first
      | (go_at_call 8; refine (kL _ (by repeat (first | with_reducible exact Adds.refl _ | with_reducible refine Adds.alloc ?_ _ | with_reducible refine Adds.more ?_ _ _ | with_reducible refine Adds.drew ?_ | with_reducible refine Adds.drewN ?_ _))).mono ?_; rintro e w1 ⟨rfl, os1, n1, rfl⟩)
      | (go_at_call 9; refine (kC _ (by repeat (first | with_reducible exact Adds.refl _ | with_reducible refine Adds.alloc ?_ _ | with_reducible refine Adds.more ?_ _ _ | with_reducible refine Adds.drew ?_ | with_reducible refine Adds.drewN ?_ _))).mono ?_; rintro e w3 ⟨rfl, os3, n3, rfl⟩)
      | (go_at_call 11; refine (kD _ (by repeat (first | with_reducible exact Adds.refl _ | with_reducible refine Adds.alloc ?_ _ | with_reducible refine Adds.more ?_ _ _ | with_reducible refine Adds.drew ?_ | with_reducible refine Adds.drewN ?_ _))).mono ?_; rintro e w4 ⟨⟨v4, c4, u4, d4, rfl, H4⟩, os4, n4, rfl⟩)
      | (go_at_call 12; refine (kM _ (by repeat (first | with_reducible exact Adds.refl _ | with_reducible refine Adds.alloc ?_ _ | with_reducible refine Adds.more ?_ _ _ | with_reducible refine Adds.drew ?_ | with_reducible refine Adds.drewN ?_ _))).mono ?_; rintro e w5 ⟨rfl, os5, n5, rfl⟩)
      | (go_at_call 15; refine (kR _ (by repeat (first | with_reducible exact Adds.refl _ | with_reducible refine Adds.alloc ?_ _ | with_reducible refine Adds.more ?_ _ _ | with_reducible refine Adds.drew ?_ | with_reducible refine Adds.drewN ?_ _))).mono ?_; rintro e w9 ⟨⟨v9, c9, u9, d9, rfl, H9⟩, os9, n9, rfl⟩))
    refine wp_region_adds (by kernel_rfl) (by kernel_rfl) ?_
    repeat (go_big_quiet_step (first
      | (go_at_call 13; exact kK' _ (by repeat (first | with_reducible exact Adds.refl _ | with_reducible refine Adds.alloc ?_ _ | with_reducible refine Adds.more ?_ _ _ | with_reducible refine Adds.drew ?_ | with_reducible refine Adds.drewN ?_ _)) _)
      | (go_at_call 14; refine kZ' _ _ _ _ ?_ ?_; exact LstF.adds H4.out (by refine Adds.trans ?_ (addTo_adds _ _); repeat (first | with_reducible exact Adds.refl _ | with_reducible refine Adds.alloc ?_ _ | with_reducible refine Adds.more ?_ _ _ | with_reducible refine Adds.drew ?_ | with_reducible refine Adds.drewN ?_ _)); exact LstF.adds H9.out (by refine Adds.trans ?_ (addTo_adds _ _); repeat (first | with_reducible exact Adds.refl _ | with_reducible refine Adds.alloc ?_ _ | with_reducible refine Adds.more ?_ _ _ | with_reducible refine Adds.drew ?_ | with_reducible refine Adds.drewN ?_ _)))
      | (go_at_call 16; exact kQ' _ _ (by repeat (first | with_reducible exact Adds.refl _ | with_reducible refine Adds.alloc ?_ _ | with_reducible refine Adds.more ?_ _ _ | with_reducible refine Adds.drew ?_ | with_reducible refine Adds.drewN ?_ _)) _ (LstF.adds H4.out (by refine Adds.trans ?_ (addTo_adds _ _); repeat (first | with_reducible exact Adds.refl _ | with_reducible refine Adds.alloc ?_ _ | with_reducible refine Adds.more ?_ _ _ | with_reducible refine Adds.drew ?_ | with_reducible refine Adds.drewN ?_ _))))
      | (go_at_call 17; exact kP' _ _ (by repeat (first | with_reducible exact Adds.refl _ | with_reducible refine Adds.alloc ?_ _ | with_reducible refine Adds.more ?_ _ _ | with_reducible refine Adds.drew ?_ | with_reducible refine Adds.drewN ?_ _)) _ (LstF.adds H4.out (by refine Adds.trans ?_ (addTo_adds _ _); repeat (first | with_reducible exact Adds.refl _ | with_reducible refine Adds.alloc ?_ _ | with_reducible refine Adds.more ?_ _ _ | with_reducible refine Adds.drew ?_ | with_reducible refine Adds.drewN ?_ _))))
      | (go_at_call 10; exact kA' _ _)))
    refine wpQuiet_nil ?_
    rintro _ ⟨pl, rfl⟩
    unfold addTo
    go_wp2
    go_ret
    exact ⟨rfl, (by repeat (first | with_reducible exact Adds.refl _ | with_reducible refine Adds.alloc ?_ _ | with_reducible refine Adds.more ?_ _ _ | with_reducible refine Adds.drew ?_ | with_reducible refine Adds.drewN ?_ _))⟩

end Go.Proofs.Ytpjhohmbifpogaa

namespace Go.Proofs.Ytpjhohmbifpogaa
open Go.RowKit
attribute [local go_sem] cell?_more frozen?_more setCell_more size_more tape_more drew_more drewN_more more_drew more_drewN one_out plus_out plus_end lt_one le_p2 le_p3 le_p4 le_p5 le_p6 le_p7 le_p8 le_p9 le_p10 le_p11 le_p12 le_p13 le_p14 le_p15 le_p16 le_p17 le_p18 le_p19 le_p20 le_p21 le_p22 le_p23 le_p24 le_q0 le_q1 lt_q1 le_q2 lt_q2 le_q3 lt_q3 le_q4 lt_q4 le_q5 lt_q5 le_q6 lt_q6 le_q7 lt_q7 le_q8 lt_q8 le_q9 lt_q9 le_q10 lt_q10 le_q11 lt_q11 le_q12 lt_q12 le_q13 lt_q13 le_q14 lt_q14 le_q15 lt_q15 le_q16 lt_q16 le_q17 lt_q17 le_q18 lt_q18 le_q19 lt_q19 le_q20 lt_q20 le_q21 lt_q21 le_q22 lt_q22 le_q23 lt_q23 le_q24 lt_q24

theorem feedAdds_any (v x : Value) (f : Fd) (l : List Ch) (w : World) (h : LstF w v f) (hx : LstH w x l) :
    Calls Try.prog 3 #[v, x] w fun e w' => e = .returned (.bool true) ∧ Adds w w' := by
  by_cases hL : LightF f ∧ LightC l
  rotate_left
  · exact feedAdds_great v x f l w h hx hL
  obtain ⟨hL, hL2⟩ := hL
  by_cases hM : MayF f
  rotate_left
  · exact feedAdds_bad v x f l w h hx hL hL2 hM
  have hc : f.ch.length ≤ 60 := hL.1.1
  have hl : l.length ≤ 60 := hL2.1
  have hd := lightC_doc hL.1
  have hld := lightC_doc hL2
  have hs6 : f.sb.length ≤ 1000 := Nat.le_trans hM.2.2.2.2.2.1 (by omega)
  have hdl : ∀ d ∈ f.ch ++ l, d.doc.length ≤ 1000 := fun d hm => by
    rcases List.mem_append.1 hm with hm | hm
    · exact hd d hm
    · exact hld d hm
  have ht0 : 0 ≤ f.total := Int.le_trans hM.1 hM.2.1
  obtain ⟨base, total, ch, sb⟩ := f
  obtain ⟨s, t, rfl, hs, ht⟩ := id h
  simp only at hc hd hs6 hdl ht0 hs ht h
  by_cases hO : total + l.length ≤ 2147483647 ∧ Follow l total
  · have hMg := (mayF_add hM).2 hO
    have kD : TellsF 11 #[.agg #[.int .i64 base, .int .i64 total, s, t], x] ⟨base, total + l.length, ch ++ l, sb⟩ (ch.length + l.length) (.int .i64 0) w := by
      intro W hA
      refine (add_ok _ ⟨base, total, ch, sb⟩ x l W (h.adds hA) (hx.adds hA) hM hO.2 hO.1 (by show ch.length ≤ _; omega) hd (by omega) hld).mono ?_
      rintro e w' ⟨⟨vo, vc, uo, uc, rfl, H⟩, hA'⟩
      exact ⟨⟨vo, vc, uo, uc, rfl, ⟨_, _, rfl, H.out.1, H.out.2⟩⟩, hA'⟩
    have kR : TellsF 15 #[.agg #[.int .i64 base, .int .i64 total, s, t], x] ⟨base, total + l.length, ch ++ l, sb⟩ (ch.length + l.length) (.bool true) w := by
      intro W hA
      refine (refAdd_ok base total s t x ch l sb W (hs.adds hA) (ht.adds hA) (hx.adds hA) ht0 hO.1 (by omega) (by omega) hdl hMg).mono ?_
      rintro e w' ⟨⟨vo, vc, uo, uc, rfl, H⟩, hA'⟩
      exact ⟨⟨vo, vc, uo, uc, rfl, ⟨_, _, rfl, H.out.1, H.out.2⟩⟩, hA'⟩
    by_cases hn : l = []
    · subst hn
      refine feedAdds_walk _ x ⟨base, total, ch, sb⟩ [] w h hx hL hL2 hM _ _ 0 true true rfl kD kR (by simp; omega) (by simpa using hd) hs6 ?_ ?_
      · intro W v' hA hv'
        exact fSame_alike _ _ ⟨base, total, ch, sb⟩ W (h.adds hA) (by simpa using hv') (by show ch.length ≤ _; omega) hs6 hd
      · intro W v' hA hv'
        exact rSame_alike _ _ ⟨base, total, ch, sb⟩ W (h.adds hA) (by simpa using hv') (by show ch.length ≤ _; omega) hd hs6
    · have hne : total ≠ total + (l.length : Int) := by
        have : l.length ≠ 0 := fun e => hn (List.eq_nil_of_length_eq_zero e)
        omega
      refine feedAdds_walk _ x ⟨base, total, ch, sb⟩ l w h hx hL hL2 hM _ _ 0 true false rfl kD kR (by simp; omega) hdl hs6 ?_ ?_
      · rintro W v' hA ⟨s', t', rfl, _, _⟩
        exact fSame_unlike base _ _ _ _ _ _ W hne
      · rintro W v' hA ⟨s', t', rfl, _, _⟩
        exact rSame_unlike _ _ _ _ _ _ _ _ W hne
  · have kD : TellsF 11 #[.agg #[.int .i64 base, .int .i64 total, s, t], x] ⟨base, total, ch, sb⟩ ch.length (.int .i64 1) w := by
      intro W hA
      refine (add_arg _ ⟨base, total, ch, sb⟩ x l W (h.adds hA) (hx.adds hA) hM hO (by show ch.length ≤ _; omega) hd (by omega)).mono ?_
      rintro e w' ⟨⟨vo, vc, uo, uc, rfl, H⟩, hA'⟩
      exact ⟨⟨vo, vc, uo, uc, rfl, ⟨_, _, rfl, H.out.1, H.out.2⟩⟩, hA'⟩
    have kR : TellsF 15 #[.agg #[.int .i64 base, .int .i64 total, s, t], x] ⟨base, total, ch, sb⟩ ch.length (.bool false) w := by
      intro W hA
      have hv := h.adds hA
      have key : Calls Try.prog 15 #[.agg #[.int .i64 base, .int .i64 total, s, t], x] W fun e w' => e = .returned (.tuple #[.agg #[.int .i64 base, .int .i64 total, s, t], .bool false]) ∧ Adds W w' := by
        by_cases hT : total + l.length ≤ 2147483647
        · exact refAdd_no base total s t x ch l sb W (hs.adds hA) (ht.adds hA) (hx.adds hA) ht0 hT (by omega) (by omega) hdl (fun hg => hO ((mayF_add hM).1 hg))
        · exact refAdd_long _ ⟨base, total, ch, sb⟩ x l W hv (hx.adds hA) ht0 hM.2.2.1 (by show 2147483647 < total + _; omega)
      refine key.mono ?_
      rintro e w' ⟨rfl, hA'⟩
      obtain ⟨so, sc, rfl, _, _⟩ := hs
      obtain ⟨uo, uc, rfl, _, _⟩ := ht
      exact ⟨⟨so, sc, uo, uc, rfl, hv.adds hA'⟩, hA'⟩
    refine feedAdds_walk _ x ⟨base, total, ch, sb⟩ l w h hx hL hL2 hM _ _ 1 false true rfl kD kR (by show ch.length ≤ _; omega) hd hs6 ?_ ?_
    · intro W v' hA hv'
      exact fSame_alike _ _ ⟨base, total, ch, sb⟩ W (h.adds hA) hv' (by show ch.length ≤ _; omega) hs6 hd
    · intro W v' hA hv'
      exact rSame_alike _ _ ⟨base, total, ch, sb⟩ W (h.adds hA) hv' (by show ch.length ≤ _; omega) hd hs6

end Go.Proofs.Ytpjhohmbifpogaa
