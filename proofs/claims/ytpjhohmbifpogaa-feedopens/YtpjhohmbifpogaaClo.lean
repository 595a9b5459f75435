/-
  Close of package feed, by contract.
-/
import Derived.Test.YtpjhohmbifpogaaDel
import Derived.Test.YtpjhohmbifpogaaAci
namespace Go.Proofs.Ytpjhohmbifpogaa
open Go.RowKit
attribute [local go_sem] cell?_more frozen?_more setCell_more size_more tape_more drew_more drewN_more more_drew more_drewN one_out plus_out plus_end lt_one le_p2 le_p3 le_p4 le_p5 le_p6 le_p7 le_p8 le_p9 le_p10 le_p11 le_p12 le_p13 le_p14 le_p15 le_p16 le_p17 le_p18 le_p19 le_p20 le_p21 le_p22 le_p23 le_p24 le_q0 le_q1 lt_q1 le_q2 lt_q2 le_q3 lt_q3 le_q4 lt_q4 le_q5 lt_q5 le_q6 lt_q6 le_q7 lt_q7 le_q8 lt_q8 le_q9 lt_q9 le_q10 lt_q10 le_q11 lt_q11 le_q12 lt_q12 le_q13 lt_q13 le_q14 lt_q14 le_q15 lt_q15 le_q16 lt_q16 le_q17 lt_q17 le_q18 lt_q18 le_q19 lt_q19 le_q20 lt_q20 le_q21 lt_q21 le_q22 lt_q22 le_q23 lt_q23 le_q24 lt_q24

theorem delete_box {Y : World} {os2 : Array Obj} {n2 : Nat} {w : World} (c : Array Value) {B : Nat} {s : Value} {rs : List Rh} {W0 W1 : World} (hH : OwnH B s rs W0 (more Y os2 n2)) {uo : Option Addr} {n uc : Nat} {ss : List Sb} (hS : OwnS B (.slice uo n uc) ss W1 (more Y os2 n2)) (hn : ss.length = n) (hw : Adds ((more Y os2 n2).alloc (.cells c 25)) w) (hYB : Y.heap.size ≤ B) (i : Nat) (hi : i < n) :
    Calls Try.prog 43 #[.slice uo n uc, .int .i64 (i : Nat), .int .i64 ((i : Int) + 1)] w fun e w' => ∃ vo vc os2' os d, e = .returned (.slice vo (n - 1) vc) ∧ os2'.size = os2.size ∧ Hid (∀ c', OwnH B s rs (more ((more Y os2' n2).alloc (.cells c' 25)) os d) (more ((more Y os2' n2).alloc (.cells c' 25)) os d) ∧ OwnS B (.slice vo (n - 1) vc) (ss.take i ++ ss.drop (i + 1)) (more ((more Y os2' n2).alloc (.cells c' 25)) os d) (more ((more Y os2' n2).alloc (.cells c' 25)) os d)) ∧ w' = more ((more Y os2' n2).alloc (.cells c 25)) os d := by
  subst hn
  have hlt := hS.1.lt
  have hA0 : Adds (more Y os2 n2) w := ((Adds.refl _).alloc _).trans hw
  have hS' := hS.adds hA0
  have hH' := hH.adds hA0
  refine (delete_one B _ ss W1 w hS' i hi).mono ?_
  rintro e w' ⟨v', rfl, h1, h2⟩
  have hH2 := hH'.grown hS'.1 h2
  obtain ⟨os2', os, d, hz, rfl⟩ := grown_split hw h2 hlt hYB
  obtain ⟨vo, vc, rfl, _, _⟩ := h1.lst
  have hl : (ss.take i ++ ss.drop (i + 1)).length = ss.length - 1 := by
    rw [List.length_append, List.length_take, List.length_drop]
    omega
  rw [hl] at h1 ⊢
  exact ⟨vo, vc, os2', os, d, rfl, hz, fun c' => ⟨hH2.box c', h1.box c'⟩, rfl⟩

set_option maxHeartbeats 4000000 in
set_option maxRecDepth 20000 in
theorem close_ok (v : Value) (f : Fd) (name : ByteArray) (w : World) (h : LstF w v f) (hM : MayF f) (hc : f.ch.length ≤ 1000) (hd : ∀ d ∈ f.ch, d.doc.length ≤ 1000) (hn : hasAt name f.sb = true) (at_ : Nat) (hcc : cutAt name f.sb = at_) (hlt : at_ < f.sb.length) :
    Calls Try.prog 20 #[v, .string name] w fun e w' => (∃ vo vc uo uc, e = .returned (.tuple #[.agg #[.int .i64 f.base, .int .i64 f.total, .slice vo f.ch.length vc, .slice uo (f.sb.length - 1) uc], .int .i64 0]) ∧ Hid (LstH w' (.slice vo f.ch.length vc) f.ch ∧ LstS w' (.slice uo (f.sb.length - 1) uc) (f.sb.take at_ ++ f.sb.drop (at_ + 1)))) ∧ Adds w w' := by
  have kC := fun w' (hA : Adds w w') => checkF_any v f w' (h.adds hA) hc
  rw [err_ok hM] at kC
  obtain ⟨s, t, rfl, hs, ht⟩ := h
  obtain ⟨base, total, ch, sb⟩ := f
  simp only at *
  have hs6 : sb.length ≤ 1000 := Nat.le_trans hM.2.2.2.2.2.1 (by omega)
  have kO := fun w' (hA : Adds w w') => copyOf_row base total s t ch sb w' (hs.adds hA) (ht.adds hA) hc hd hs6
  have kF := fun u w' (hu : LstS w' u sb) => find_any u sb name w' hu hs6 (subsc_climbs hM.2.2.2.2.2)
  rw [hn, hcc] at kF
  have hw1 : IntKind.i64.wrap ((at_ : Int) + 1) = (at_ : Int) + 1 := by rw [IntKind.wrap_i64]; omega
  clear hcc hd hM hs ht hn
  go_enter Try.func20, Try.ntmps20
  go_wp2_with (first
    | (go_at_call 13; refine (kC _ (by repeat (first | with_reducible exact Adds.refl _ | with_reducible refine Adds.alloc ?_ _ | with_reducible refine Adds.more ?_ _ _ | with_reducible refine Adds.drew ?_ | with_reducible refine Adds.drewN ?_ _))).mono ?_; rintro e w1 ⟨rfl, os1, n1, rfl⟩)
    | (go_at_call 31; refine (kO _ (by repeat (first | with_reducible exact Adds.refl _ | with_reducible refine Adds.alloc ?_ _ | with_reducible refine Adds.more ?_ _ _ | with_reducible refine Adds.drew ?_ | with_reducible refine Adds.drewN ?_ _))).mono ?_; rintro e w2 ⟨⟨v2, c2, u2, d2, rs, rfl, H2⟩, os2, n2, rfl⟩)
    | (go_at_call 40; refine (kF _ _ (OwnS.far H2.out.2.2 (by repeat (first | with_reducible exact Far.refl _ _ | with_reducible refine Far.mores ?_ (by simp [go_sem]) _ _ _ | with_reducible refine Far.allocs ?_ (by simp [go_sem]) _ | with_reducible refine Far.low ?_ (by simp [go_sem]) (by simp [go_sem] <;> omega) _ _ | with_reducible refine Far.more ?_ _ _ | with_reducible refine Far.alloc ?_ _)) (Nat.le_refl _)).lst).mono ?_; rintro e w3 ⟨rfl, os3, n3, rfl⟩)
    | (go_at_call 43; refine (delete_box #[.int .i64 base, .int .i64 total, .slice v2 ch.length c2, .slice u2 sb.length d2] H2.out.1 H2.out.2.2 rfl (by repeat (first | with_reducible exact Adds.refl _ | with_reducible refine Adds.alloc ?_ _ | with_reducible refine Adds.more ?_ _ _ | with_reducible refine Adds.drew ?_ | with_reducible refine Adds.drewN ?_ _)) (by simp [go_sem] <;> omega) at_ hlt).mono ?_; rintro e w5 ⟨v5, c5, os5, os6, d5, rfl, hz5, H5, rfl⟩))
  refine bodyPost_ret (v := .tuple #[.agg #[.int .i64 base, .int .i64 total, .slice v2 ch.length c2, .slice v5 (sb.length - 1) c5], .int .i64 0]) (by simp [results, Try.results20, go_sem]) rfl ⟨⟨v2, c2, v5, c5, rfl, ?_⟩, (by repeat (first | with_reducible exact Adds.refl _ | with_reducible refine Adds.alloc ?_ _ | with_reducible refine Adds.more ?_ _ _ | with_reducible refine Adds.drew ?_ | with_reducible refine Adds.drewN ?_ _))⟩
  have H7 := H5.out #[.int .i64 base, .int .i64 total, .slice v2 ch.length c2, .slice v5 (sb.length - 1) c5]
  exact lstG_far H7.1 H2.out.2.1 H7.2 (by repeat (first | with_reducible exact Far.refl _ _ | with_reducible refine Far.mores ?_ (by simp [go_sem]) _ _ _ | with_reducible refine Far.allocs ?_ (by simp [go_sem]) _ | with_reducible refine Far.low ?_ (by simp [go_sem]) (by simp [go_sem] <;> omega) _ _ | with_reducible refine Far.more ?_ _ _ | with_reducible refine Far.alloc ?_ _))

end Go.Proofs.Ytpjhohmbifpogaa
