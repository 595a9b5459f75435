/-
  A store into a row of subscriptions that a call owns. Ack of package feed where it is refused; Close likewise, by contract. Ack of package feed, by contract.
-/
import Derived.Test.YtpjhohmbifpogaaMopg
namespace Go.Proofs.Ytpjhohmbifpogaa
open Go.RowKit
attribute [local go_sem] cell?_more frozen?_more setCell_more size_more tape_more drew_more drewN_more more_drew more_drewN one_out plus_out plus_end lt_one le_p2 le_p3 le_p4 le_p5 le_p6 le_p7 le_p8 le_p9 le_p10 le_p11 le_p12 le_p13 le_p14 le_p15 le_p16 le_p17 le_p18 le_p19 le_p20 le_p21 le_p22 le_p23 le_p24 le_q0 le_q1 lt_q1 le_q2 lt_q2 le_q3 lt_q3 le_q4 lt_q4 le_q5 lt_q5 le_q6 lt_q6 le_q7 lt_q7 le_q8 lt_q8 le_q9 lt_q9 le_q10 lt_q10 le_q11 lt_q11 le_q12 lt_q12 le_q13 lt_q13 le_q14 lt_q14 le_q15 lt_q15 le_q16 lt_q16 le_q17 lt_q17 le_q18 lt_q18 le_q19 lt_q19 le_q20 lt_q20 le_q21 lt_q21 le_q22 lt_q22 le_q23 lt_q23 le_q24 lt_q24

theorem set_grown (w : World) (g o : Nat) (v : Value) : w.grownBy (w.setCell ⟨g, o, none⟩ v) (some g) := by
  refine ⟨rfl, rfl, rfl, by simp [World.setCell], fun k hk hne => ?_⟩
  have : g ≠ k := fun e => hne (by rw [e])
  simp [World.setCell, Array.getElem?_modify, this]

theorem cellsS_set (ss : List Sb) (i : Nat) (hi : i < ss.length) (p : Int) : cellsS (ss.set i ⟨ss[i].name, p⟩) = (cellsS ss).set (i * 2 + 1) (.int .i64 p) := by
  induction ss generalizing i with
  | nil => simp at hi
  | cons f r ih =>
    cases i with
    | zero => simp [cellsS, Sb.cells]
    | succ i =>
      have := ih i (by simpa using hi)
      simp only [cellsS, List.set_cons_succ, List.flatMap_cons, List.getElem_cons_succ] at this ⊢
      rw [this]
      simp only [Sb.cells, List.cons_append, List.nil_append]
      rw [show (i + 1) * 2 + 1 = (i * 2 + 1) + 1 + 1 by omega, List.set_cons_succ, List.set_cons_succ]

theorem own_store {X : World} {os2 : Array Obj} {n2 B : Nat} {s : Value} {rs : List Rh} {W0 W1 : World} {u : Option Addr} {n uc : Nat} {ss : List Sb} (hH : OwnH B s rs W0 (more X os2 n2)) (hS : OwnS B (.slice u n uc) ss W1 (more X os2 n2)) (hn : ss.length = n) (hXB : X.heap.size ≤ B) (i : Nat) (hi : i < ss.length) (p : Int) :
    ∃ gb os4, u = some ⟨gb, 0, none⟩ ∧ X.heap.size ≤ gb ∧ gb < X.heap.size + os2.size ∧ (more X os2 n2).cell? ⟨gb, i * 2 + 1, none⟩ = some (.int .i64 ss[i].pos) ∧ (more X os2 n2).frozen? ⟨gb, i * 2 + 1, none⟩ = false ∧ (more X os2 n2).setCell ⟨gb, i * 2 + 1, none⟩ (.int .i64 p) = more X os4 n2 ∧ os4.size = os2.size ∧
      Hid (OwnH B s rs (more X os4 n2) (more X os4 n2) ∧ OwnS B (.slice u n uc) (ss.set i ⟨ss[i].name, p⟩) (more X os4 n2) (more X os4 n2)) := by
  subst hn
  have hlt := hS.1.lt
  have hcell := fun g => hS.1.cells (g := g)
  rcases hS.1.2 with ⟨e, h0⟩ | ⟨gb, cap, cur, e, hb, hg, hnc, hcm, hcs, htk⟩
  · omega
  obtain ⟨rfl, rfl⟩ : u = some ⟨gb, 0, none⟩ ∧ uc = cap := by simpa using e
  have hl := hlt gb rfl
  rw [size_more] at hl
  have hC := liesS_of (hcell gb rfl) i hi
  have hG := set_grown (more X os2 n2) gb (i * 2 + 1) (.int .i64 p)
  have hH2 := hH.grown hS.1 hG
  have hA : Adds X ((more X os2 n2).setCell ⟨gb, i * 2 + 1, none⟩ (.int .i64 p)) := by
    refine Adds.of ⟨rfl, rfl, rfl, Nat.le_trans (by rw [size_more]; omega) hG.size, fun q hq => ?_⟩
    rw [hG.block q (by rw [size_more]; omega) (by simp; omega)]
    exact more_block os2 n2 hq
  obtain ⟨os4, k, hw⟩ := hA
  have hk : k = n2 := by
    have : ((more X os2 n2).setCell ⟨gb, i * 2 + 1, none⟩ (.int .i64 p)).drawn = (more X os4 k).drawn := by rw [hw]
    exact this.symm
  subst hk
  have hz : os4.size = os2.size := by
    have : ((more X os2 k).setCell ⟨gb, i * 2 + 1, none⟩ (.int .i64 p)).heap.size = (more X os4 k).heap.size := by rw [hw]
    rw [size_more] at this
    have h2 : ((more X os2 k).setCell ⟨gb, i * 2 + 1, none⟩ (.int .i64 p)).heap.size = X.heap.size + os2.size := by
      simp [World.setCell, more]
    omega
  have hg4 : (more X os4 k).heap[gb]? = some (.cells (cur.set! (i * 2 + 1) (.int .i64 p)) 43 (0, 0)) := by
    rw [← hw]
    have hlt2 : gb < (more X os2 k).heap.size := (Array.getElem?_eq_some_iff.1 hg).1
    simp only [World.setCell, Array.getElem?_modify, if_true, hg, Option.map_some]
    rfl
  refine ⟨gb, os4, rfl, by omega, by omega, by simpa using hC.2, ?_, hw, hz, ?_⟩
  · simp [World.frozen?, hg]
  · rw [hw] at hH2
    refine ⟨hH2, ⟨by rw [cellsS_length, List.length_set], .inr ⟨gb, uc, _, by rw [List.length_set], hb, hg4, by rw [List.length_set]; exact hnc, hcm, by simp [hcs], ?_⟩⟩, Below.refl _ _, by have := hS.2.2; rw [size_more] at this ⊢; omega⟩
    rw [cellsS_set ss i hi p, ← htk, List.length_set]
    simp [List.take_set]

end Go.Proofs.Ytpjhohmbifpogaa

namespace Go.Proofs.Ytpjhohmbifpogaa
open Go.RowKit
attribute [local go_sem] cell?_more frozen?_more setCell_more size_more tape_more drew_more drewN_more more_drew more_drewN one_out plus_out plus_end lt_one le_p2 le_p3 le_p4 le_p5 le_p6 le_p7 le_p8 le_p9 le_p10 le_p11 le_p12 le_p13 le_p14 le_p15 le_p16 le_p17 le_p18 le_p19 le_p20 le_p21 le_p22 le_p23 le_p24 le_q0 le_q1 lt_q1 le_q2 lt_q2 le_q3 lt_q3 le_q4 lt_q4 le_q5 lt_q5 le_q6 lt_q6 le_q7 lt_q7 le_q8 lt_q8 le_q9 lt_q9 le_q10 lt_q10 le_q11 lt_q11 le_q12 lt_q12 le_q13 lt_q13 le_q14 lt_q14 le_q15 lt_q15 le_q16 lt_q16 le_q17 lt_q17 le_q18 lt_q18 le_q19 lt_q19 le_q20 lt_q20 le_q21 lt_q21 le_q22 lt_q22 le_q23 lt_q23 le_q24 lt_q24

set_option maxHeartbeats 2000000 in
set_option maxRecDepth 20000 in
theorem ack_bad (v : Value) (f : Fd) (name : ByteArray) (pos : Int) (w : World) (h : LstF w v f) (hc : f.ch.length ≤ 1000) (hM : ¬ MayF f) :
    Calls Try.prog 19 #[v, .string name, .int .i64 pos] w fun e w' => e = .returned (.tuple #[.agg #[.int .i64 0, .int .i64 0, .slice none 0 0, .slice none 0 0], .int .i64 1]) ∧ Adds w w' := by
  have kC := fun w' (hA : Adds w w') => checkF_any v f w' (h.adds hA) hc
  rw [err_bad hM] at kC
  obtain ⟨s, t, rfl, hs, ht⟩ := h
  obtain ⟨so, sc, rfl, _, _⟩ := hs
  obtain ⟨uo, uc, rfl, _, _⟩ := ht
  clear hM
  go_enter Try.func19, Try.ntmps19
  go_wp2_with (first
    | (go_at_call 13; refine (kC _ (by repeat (first | with_reducible exact Adds.refl _ | with_reducible refine Adds.alloc ?_ _ | with_reducible refine Adds.more ?_ _ _ | with_reducible refine Adds.drew ?_ | with_reducible refine Adds.drewN ?_ _))).mono ?_; rintro e w1 ⟨rfl, os1, n1, rfl⟩))
  exact bodyPost_ret (v := .tuple #[.agg #[.int .i64 0, .int .i64 0, .slice none 0 0, .slice none 0 0], .int .i64 1]) (by simp [results, Try.results19, go_sem]) rfl ⟨rfl, (by repeat (first | with_reducible exact Adds.refl _ | with_reducible refine Adds.alloc ?_ _ | with_reducible refine Adds.more ?_ _ _ | with_reducible refine Adds.drew ?_ | with_reducible refine Adds.drewN ?_ _))⟩

set_option maxHeartbeats 4000000 in
set_option maxRecDepth 20000 in
theorem ack_none (v : Value) (f : Fd) (name : ByteArray) (pos : Int) (w : World) (h : LstF w v f) (hM : MayF f) (hc : f.ch.length ≤ 1000) (hd : ∀ d ∈ f.ch, d.doc.length ≤ 1000) (hn : hasAt name f.sb = false) :
    Calls Try.prog 19 #[v, .string name, .int .i64 pos] w fun e w' => (∃ vo vc uo uc, e = .returned (.tuple #[.agg #[.int .i64 f.base, .int .i64 f.total, .slice vo f.ch.length vc, .slice uo f.sb.length uc], .int .i64 4]) ∧ Hid (LstH w' (.slice vo f.ch.length vc) f.ch ∧ LstS w' (.slice uo f.sb.length uc) f.sb)) ∧ Adds w w' := by
  have kC := fun w' (hA : Adds w w') => checkF_any v f w' (h.adds hA) hc
  rw [err_ok hM] at kC
  obtain ⟨s, t, rfl, hs, ht⟩ := h
  obtain ⟨base, total, ch, sb⟩ := f
  simp only at *
  have hs6 : sb.length ≤ 1000 := Nat.le_trans hM.2.2.2.2.2.1 (by omega)
  have kO := fun w' (hA : Adds w w') => copyOf_row base total s t ch sb w' (hs.adds hA) (ht.adds hA) hc hd hs6
  have kF := fun u w' (hu : LstS w' u sb) => find_any u sb name w' hu hs6 (subsc_climbs hM.2.2.2.2.2)
  rw [hn] at kF
  clear hn
  generalize hasAt name sb = hq at *
  generalize cutAt name sb = at_ at *
  clear hd hM hs ht
  go_enter Try.func19, Try.ntmps19
  go_wp2_with (first
    | (go_at_call 13; refine (kC _ (by repeat (first | with_reducible exact Adds.refl _ | with_reducible refine Adds.alloc ?_ _ | with_reducible refine Adds.more ?_ _ _ | with_reducible refine Adds.drew ?_ | with_reducible refine Adds.drewN ?_ _))).mono ?_; rintro e w1 ⟨rfl, os1, n1, rfl⟩)
    | (go_at_call 31; refine (kO _ (by repeat (first | with_reducible exact Adds.refl _ | with_reducible refine Adds.alloc ?_ _ | with_reducible refine Adds.more ?_ _ _ | with_reducible refine Adds.drew ?_ | with_reducible refine Adds.drewN ?_ _))).mono ?_; rintro e w2 ⟨⟨v2, c2, u2, d2, rs, rfl, H2⟩, os2, n2, rfl⟩)
    | (go_at_call 40; refine (kF _ _ (OwnS.far H2.out.2.2 (by repeat (first | with_reducible exact Far.refl _ _ | with_reducible refine Far.mores ?_ (by simp [go_sem]) _ _ _ | with_reducible refine Far.allocs ?_ (by simp [go_sem]) _ | with_reducible refine Far.low ?_ (by simp [go_sem]) (by simp [go_sem] <;> omega) _ _ | with_reducible refine Far.more ?_ _ _ | with_reducible refine Far.alloc ?_ _)) (Nat.le_refl _)).lst).mono ?_; rintro e w3 ⟨rfl, os3, n3, rfl⟩))
  refine bodyPost_ret (v := .tuple #[.agg #[.int .i64 base, .int .i64 total, .slice v2 ch.length c2, .slice u2 sb.length d2], .int .i64 4]) (by simp [results, Try.results19, go_sem]) rfl ⟨⟨v2, c2, u2, d2, rfl, ?_⟩, (by repeat (first | with_reducible exact Adds.refl _ | with_reducible refine Adds.alloc ?_ _ | with_reducible refine Adds.more ?_ _ _ | with_reducible refine Adds.drew ?_ | with_reducible refine Adds.drewN ?_ _))⟩
  exact lstG_far H2.out.1 H2.out.2.1 H2.out.2.2 (by repeat (first | with_reducible exact Far.refl _ _ | with_reducible refine Far.mores ?_ (by simp [go_sem]) _ _ _ | with_reducible refine Far.allocs ?_ (by simp [go_sem]) _ | with_reducible refine Far.low ?_ (by simp [go_sem]) (by simp [go_sem] <;> omega) _ _ | with_reducible refine Far.more ?_ _ _ | with_reducible refine Far.alloc ?_ _))

set_option maxHeartbeats 4000000 in
set_option maxRecDepth 20000 in
theorem ack_far (v : Value) (f : Fd) (name : ByteArray) (pos : Int) (w : World) (h : LstF w v f) (hM : MayF f) (hc : f.ch.length ≤ 1000) (hd : ∀ d ∈ f.ch, d.doc.length ≤ 1000) (hn : hasAt name f.sb = true) (hp : f.total < pos) :
    Calls Try.prog 19 #[v, .string name, .int .i64 pos] w fun e w' => (∃ vo vc uo uc, e = .returned (.tuple #[.agg #[.int .i64 f.base, .int .i64 f.total, .slice vo f.ch.length vc, .slice uo f.sb.length uc], .int .i64 1]) ∧ Hid (LstH w' (.slice vo f.ch.length vc) f.ch ∧ LstS w' (.slice uo f.sb.length uc) f.sb)) ∧ Adds w w' := by
  have kC := fun w' (hA : Adds w w') => checkF_any v f w' (h.adds hA) hc
  rw [err_ok hM] at kC
  obtain ⟨s, t, rfl, hs, ht⟩ := h
  obtain ⟨base, total, ch, sb⟩ := f
  simp only at *
  have hs6 : sb.length ≤ 1000 := Nat.le_trans hM.2.2.2.2.2.1 (by omega)
  have kO := fun w' (hA : Adds w w') => copyOf_row base total s t ch sb w' (hs.adds hA) (ht.adds hA) hc hd hs6
  have kF := fun u w' (hu : LstS w' u sb) => find_any u sb name w' hu hs6 (subsc_climbs hM.2.2.2.2.2)
  rw [hn] at kF
  clear hn
  generalize hasAt name sb = hq at *
  generalize cutAt name sb = at_ at *
  clear hd hM hs ht
  go_enter Try.func19, Try.ntmps19
  go_wp2_with (first
    | (go_at_call 13; refine (kC _ (by repeat (first | with_reducible exact Adds.refl _ | with_reducible refine Adds.alloc ?_ _ | with_reducible refine Adds.more ?_ _ _ | with_reducible refine Adds.drew ?_ | with_reducible refine Adds.drewN ?_ _))).mono ?_; rintro e w1 ⟨rfl, os1, n1, rfl⟩)
    | (go_at_call 31; refine (kO _ (by repeat (first | with_reducible exact Adds.refl _ | with_reducible refine Adds.alloc ?_ _ | with_reducible refine Adds.more ?_ _ _ | with_reducible refine Adds.drew ?_ | with_reducible refine Adds.drewN ?_ _))).mono ?_; rintro e w2 ⟨⟨v2, c2, u2, d2, rs, rfl, H2⟩, os2, n2, rfl⟩)
    | (go_at_call 40; refine (kF _ _ (OwnS.far H2.out.2.2 (by repeat (first | with_reducible exact Far.refl _ _ | with_reducible refine Far.mores ?_ (by simp [go_sem]) _ _ _ | with_reducible refine Far.allocs ?_ (by simp [go_sem]) _ | with_reducible refine Far.low ?_ (by simp [go_sem]) (by simp [go_sem] <;> omega) _ _ | with_reducible refine Far.more ?_ _ _ | with_reducible refine Far.alloc ?_ _)) (Nat.le_refl _)).lst).mono ?_; rintro e w3 ⟨rfl, os3, n3, rfl⟩))
  refine bodyPost_ret (v := .tuple #[.agg #[.int .i64 base, .int .i64 total, .slice v2 ch.length c2, .slice u2 sb.length d2], .int .i64 1]) (by simp [results, Try.results19, go_sem]) rfl ⟨⟨v2, c2, u2, d2, rfl, ?_⟩, (by repeat (first | with_reducible exact Adds.refl _ | with_reducible refine Adds.alloc ?_ _ | with_reducible refine Adds.more ?_ _ _ | with_reducible refine Adds.drew ?_ | with_reducible refine Adds.drewN ?_ _))⟩
  exact lstG_far H2.out.1 H2.out.2.1 H2.out.2.2 (by repeat (first | with_reducible exact Far.refl _ _ | with_reducible refine Far.mores ?_ (by simp [go_sem]) _ _ _ | with_reducible refine Far.allocs ?_ (by simp [go_sem]) _ | with_reducible refine Far.low ?_ (by simp [go_sem]) (by simp [go_sem] <;> omega) _ _ | with_reducible refine Far.more ?_ _ _ | with_reducible refine Far.alloc ?_ _))

set_option maxHeartbeats 2000000 in
set_option maxRecDepth 20000 in
theorem close_bad (v : Value) (f : Fd) (name : ByteArray) (w : World) (h : LstF w v f) (hc : f.ch.length ≤ 1000) (hM : ¬ MayF f) :
    Calls Try.prog 20 #[v, .string name] w fun e w' => e = .returned (.tuple #[.agg #[.int .i64 0, .int .i64 0, .slice none 0 0, .slice none 0 0], .int .i64 1]) ∧ Adds w w' := by
  have kC := fun w' (hA : Adds w w') => checkF_any v f w' (h.adds hA) hc
  rw [err_bad hM] at kC
  obtain ⟨s, t, rfl, hs, ht⟩ := h
  obtain ⟨so, sc, rfl, _, _⟩ := hs
  obtain ⟨uo, uc, rfl, _, _⟩ := ht
  clear hM
  go_enter Try.func20, Try.ntmps20
  go_wp2_with (first
    | (go_at_call 13; refine (kC _ (by repeat (first | with_reducible exact Adds.refl _ | with_reducible refine Adds.alloc ?_ _ | with_reducible refine Adds.more ?_ _ _ | with_reducible refine Adds.drew ?_ | with_reducible refine Adds.drewN ?_ _))).mono ?_; rintro e w1 ⟨rfl, os1, n1, rfl⟩))
  exact bodyPost_ret (v := .tuple #[.agg #[.int .i64 0, .int .i64 0, .slice none 0 0, .slice none 0 0], .int .i64 1]) (by simp [results, Try.results20, go_sem]) rfl ⟨rfl, (by repeat (first | with_reducible exact Adds.refl _ | with_reducible refine Adds.alloc ?_ _ | with_reducible refine Adds.more ?_ _ _ | with_reducible refine Adds.drew ?_ | with_reducible refine Adds.drewN ?_ _))⟩

set_option maxHeartbeats 4000000 in
set_option maxRecDepth 20000 in
theorem close_none (v : Value) (f : Fd) (name : ByteArray) (w : World) (h : LstF w v f) (hM : MayF f) (hc : f.ch.length ≤ 1000) (hd : ∀ d ∈ f.ch, d.doc.length ≤ 1000) (hn : hasAt name f.sb = false) :
    Calls Try.prog 20 #[v, .string name] w fun e w' => (∃ vo vc uo uc, e = .returned (.tuple #[.agg #[.int .i64 f.base, .int .i64 f.total, .slice vo f.ch.length vc, .slice uo f.sb.length uc], .int .i64 4]) ∧ Hid (LstH w' (.slice vo f.ch.length vc) f.ch ∧ LstS w' (.slice uo f.sb.length uc) f.sb)) ∧ Adds w w' := by
  have kC := fun w' (hA : Adds w w') => checkF_any v f w' (h.adds hA) hc
  rw [err_ok hM] at kC
  obtain ⟨s, t, rfl, hs, ht⟩ := h
  obtain ⟨base, total, ch, sb⟩ := f
  simp only at *
  have hs6 : sb.length ≤ 1000 := Nat.le_trans hM.2.2.2.2.2.1 (by omega)
  have kO := fun w' (hA : Adds w w') => copyOf_row base total s t ch sb w' (hs.adds hA) (ht.adds hA) hc hd hs6
  have kF := fun u w' (hu : LstS w' u sb) => find_any u sb name w' hu hs6 (subsc_climbs hM.2.2.2.2.2)
  rw [hn] at kF
  clear hn
  generalize hasAt name sb = hq at *
  generalize cutAt name sb = at_ at *
  clear hd hM hs ht
  go_enter Try.func20, Try.ntmps20
  go_wp2_with (first
    | (go_at_call 13; refine (kC _ (by repeat (first | with_reducible exact Adds.refl _ | with_reducible refine Adds.alloc ?_ _ | with_reducible refine Adds.more ?_ _ _ | with_reducible refine Adds.drew ?_ | with_reducible refine Adds.drewN ?_ _))).mono ?_; rintro e w1 ⟨rfl, os1, n1, rfl⟩)
    | (go_at_call 31; refine (kO _ (by repeat (first | with_reducible exact Adds.refl _ | with_reducible refine Adds.alloc ?_ _ | with_reducible refine Adds.more ?_ _ _ | with_reducible refine Adds.drew ?_ | with_reducible refine Adds.drewN ?_ _))).mono ?_; rintro e w2 ⟨⟨v2, c2, u2, d2, rs, rfl, H2⟩, os2, n2, rfl⟩)
    | (go_at_call 40; refine (kF _ _ (OwnS.far H2.out.2.2 (by repeat (first | with_reducible exact Far.refl _ _ | with_reducible refine Far.mores ?_ (by simp [go_sem]) _ _ _ | with_reducible refine Far.allocs ?_ (by simp [go_sem]) _ | with_reducible refine Far.low ?_ (by simp [go_sem]) (by simp [go_sem] <;> omega) _ _ | with_reducible refine Far.more ?_ _ _ | with_reducible refine Far.alloc ?_ _)) (Nat.le_refl _)).lst).mono ?_; rintro e w3 ⟨rfl, os3, n3, rfl⟩))
  refine bodyPost_ret (v := .tuple #[.agg #[.int .i64 base, .int .i64 total, .slice v2 ch.length c2, .slice u2 sb.length d2], .int .i64 4]) (by simp [results, Try.results20, go_sem]) rfl ⟨⟨v2, c2, u2, d2, rfl, ?_⟩, (by repeat (first | with_reducible exact Adds.refl _ | with_reducible refine Adds.alloc ?_ _ | with_reducible refine Adds.more ?_ _ _ | with_reducible refine Adds.drew ?_ | with_reducible refine Adds.drewN ?_ _))⟩
  exact lstG_far H2.out.1 H2.out.2.1 H2.out.2.2 (by repeat (first | with_reducible exact Far.refl _ _ | with_reducible refine Far.mores ?_ (by simp [go_sem]) _ _ _ | with_reducible refine Far.allocs ?_ (by simp [go_sem]) _ | with_reducible refine Far.low ?_ (by simp [go_sem]) (by simp [go_sem] <;> omega) _ _ | with_reducible refine Far.more ?_ _ _ | with_reducible refine Far.alloc ?_ _))

end Go.Proofs.Ytpjhohmbifpogaa

namespace Go.Proofs.Ytpjhohmbifpogaa
open Go.RowKit
attribute [local go_sem] cell?_more frozen?_more setCell_more size_more tape_more drew_more drewN_more more_drew more_drewN one_out plus_out plus_end lt_one le_p2 le_p3 le_p4 le_p5 le_p6 le_p7 le_p8 le_p9 le_p10 le_p11 le_p12 le_p13 le_p14 le_p15 le_p16 le_p17 le_p18 le_p19 le_p20 le_p21 le_p22 le_p23 le_p24 le_q0 le_q1 lt_q1 le_q2 lt_q2 le_q3 lt_q3 le_q4 lt_q4 le_q5 lt_q5 le_q6 lt_q6 le_q7 lt_q7 le_q8 lt_q8 le_q9 lt_q9 le_q10 lt_q10 le_q11 lt_q11 le_q12 lt_q12 le_q13 lt_q13 le_q14 lt_q14 le_q15 lt_q15 le_q16 lt_q16 le_q17 lt_q17 le_q18 lt_q18 le_q19 lt_q19 le_q20 lt_q20 le_q21 lt_q21 le_q22 lt_q22 le_q23 lt_q23 le_q24 lt_q24

set_option maxHeartbeats 4000000 in
set_option maxRecDepth 20000 in
theorem ack_ok (v : Value) (f : Fd) (name : ByteArray) (pos : Int) (w : World) (h : LstF w v f) (hM : MayF f) (hc : f.ch.length ≤ 1000) (hd : ∀ d ∈ f.ch, d.doc.length ≤ 1000) (hn : hasAt name f.sb = true) (at_ : Nat) (hcc : cutAt name f.sb = at_) (hlt : at_ < f.sb.length) (h1 : pos ≤ f.total) (h2 : f.sb[at_].pos ≤ pos) :
    Calls Try.prog 19 #[v, .string name, .int .i64 pos] w fun e w' => (∃ vo vc uo uc, e = .returned (.tuple #[.agg #[.int .i64 f.base, .int .i64 f.total, .slice vo f.ch.length vc, .slice uo f.sb.length uc], .int .i64 0]) ∧ Hid (LstH w' (.slice vo f.ch.length vc) f.ch ∧ LstS w' (.slice uo f.sb.length uc) (f.sb.set at_ ⟨f.sb[at_].name, pos⟩))) ∧ Adds w w' := by
  have kC := fun w' (hA : Adds w w') => checkF_any v f w' (h.adds hA) hc
  rw [err_ok hM] at kC
  obtain ⟨s, t, rfl, hs, ht⟩ := h
  obtain ⟨base, total, ch, sb⟩ := f
  simp only at *
  have hs6 : sb.length ≤ 1000 := Nat.le_trans hM.2.2.2.2.2.1 (by omega)
  have kO := fun w' (hA : Adds w w') => copyOf_row base total s t ch sb w' (hs.adds hA) (ht.adds hA) hc hd hs6
  have kF := fun u w' (hu : LstS w' u sb) => find_any u sb name w' hu hs6 (subsc_climbs hM.2.2.2.2.2)
  rw [hn, hcc] at kF
  have hp' : ¬ total < pos := by omega
  have hlt' : (at_ : Int) < (sb.length : Int) := Int.ofNat_lt.2 hlt
  have hq' : ¬ pos < sb[at_].pos := Int.not_lt.2 h2
  have HSet : Hid (∀ X os2 n2 B s rs W0 W1 u n uc, OwnH B s rs W0 (more X os2 n2) → OwnS B (.slice u n uc) sb W1 (more X os2 n2) → sb.length = n → X.heap.size ≤ B → ∃ gb os4, u = some ⟨gb, 0, none⟩ ∧ X.heap.size ≤ gb ∧ gb < X.heap.size + os2.size ∧ (more X os2 n2).cell? ⟨gb, at_ * 2 + 1, none⟩ = some (.int .i64 sb[at_].pos) ∧ (more X os2 n2).frozen? ⟨gb, at_ * 2 + 1, none⟩ = false ∧ (more X os2 n2).setCell ⟨gb, at_ * 2 + 1, none⟩ (.int .i64 pos) = more X os4 n2 ∧ os4.size = os2.size ∧ Hid (OwnH B s rs (more X os4 n2) (more X os4 n2) ∧ OwnS B (.slice u n uc) (sb.set at_ ⟨sb[at_].name, pos⟩) (more X os4 n2) (more X os4 n2))) :=
    fun X os2 n2 B s rs W0 W1 u n uc hH hS hn hX => own_store hH hS hn hX at_ hlt pos
  generalize sb[at_].pos = pp at *
  generalize sb.set at_ ⟨sb[at_].name, pos⟩ = ns at *
  clear hcc hd hM hs ht hn h2 h1
  go_enter Try.func19, Try.ntmps19
  go_wp2_with (first
    | (go_at_call 13; refine (kC _ (by repeat (first | with_reducible exact Adds.refl _ | with_reducible refine Adds.alloc ?_ _ | with_reducible refine Adds.more ?_ _ _ | with_reducible refine Adds.drew ?_ | with_reducible refine Adds.drewN ?_ _))).mono ?_; rintro e w1 ⟨rfl, os1, n1, rfl⟩)
    | (go_at_call 31; refine (kO _ (by repeat (first | with_reducible exact Adds.refl _ | with_reducible refine Adds.alloc ?_ _ | with_reducible refine Adds.more ?_ _ _ | with_reducible refine Adds.drew ?_ | with_reducible refine Adds.drewN ?_ _))).mono ?_; rintro e w2 ⟨⟨v2, c2, u2, d2, rs, rfl, H2⟩, os2, n2, rfl⟩; obtain ⟨gb, os4, rfl, hg1, hg2, x1, xf, xs, hz, H4⟩ := HSet.out _ _ _ _ _ _ _ _ _ _ _ H2.out.1 H2.out.2.2 rfl (Nat.le_refl _); (simp only [size_more, alloc_size] at hg1 hg2); (have g1 : gb ≤ w.heap.size + os1.size + os2.size + 1 + 1 := by omega); (have g2 : gb ≤ w.heap.size + os1.size + os2.size + 1 := by omega); (have g3 : ¬ gb = w.heap.size + os1.size + os2.size + 1 + 1 := by omega); (have g4 : ¬ w.heap.size + os1.size + os2.size + 1 + 1 = gb := by omega); clear hg1 hg2)
    | (go_at_call 40; refine (kF _ _ (OwnS.far H2.out.2.2 (by repeat (first | with_reducible exact Far.refl _ _ | with_reducible refine Far.mores ?_ (by simp [go_sem]) _ _ _ | with_reducible refine Far.allocs ?_ (by simp [go_sem]) _ | with_reducible refine Far.low ?_ (by simp [go_sem]) (by simp [go_sem] <;> omega) _ _ | with_reducible refine Far.more ?_ _ _ | with_reducible refine Far.alloc ?_ _)) (Nat.le_refl _)).lst).mono ?_; rintro e w3 ⟨rfl, os3, n3, rfl⟩))
  refine bodyPost_ret (v := .tuple #[.agg #[.int .i64 base, .int .i64 total, .slice v2 ch.length c2, .slice (some ⟨gb, 0, none⟩) sb.length d2], .int .i64 0]) (by simp [results, Try.results19, go_sem]) rfl ⟨⟨v2, c2, some ⟨gb, 0, none⟩, d2, rfl, ?_⟩, (by repeat (first | with_reducible exact Adds.refl _ | with_reducible refine Adds.alloc ?_ _ | with_reducible refine Adds.more ?_ _ _ | with_reducible refine Adds.drew ?_ | with_reducible refine Adds.drewN ?_ _))⟩
  exact lstG_far H4.out.1 H2.out.2.1 H4.out.2 (by repeat (first | with_reducible exact Far.refl _ _ | with_reducible refine Far.mores ?_ (by simp [go_sem]) _ _ _ | with_reducible refine Far.allocs ?_ (by simp [go_sem]) _ | with_reducible refine Far.low ?_ (by simp [go_sem]) (by simp [go_sem] <;> omega) _ _ | with_reducible refine Far.more ?_ _ _ | with_reducible refine Far.alloc ?_ _))

set_option maxHeartbeats 4000000 in
set_option maxRecDepth 20000 in
theorem ack_old (v : Value) (f : Fd) (name : ByteArray) (pos : Int) (w : World) (h : LstF w v f) (hM : MayF f) (hc : f.ch.length ≤ 1000) (hd : ∀ d ∈ f.ch, d.doc.length ≤ 1000) (hn : hasAt name f.sb = true) (at_ : Nat) (hcc : cutAt name f.sb = at_) (hlt : at_ < f.sb.length) (h1 : pos ≤ f.total) (h2 : pos < f.sb[at_].pos) :
    Calls Try.prog 19 #[v, .string name, .int .i64 pos] w fun e w' => (∃ vo vc uo uc, e = .returned (.tuple #[.agg #[.int .i64 f.base, .int .i64 f.total, .slice vo f.ch.length vc, .slice uo f.sb.length uc], .int .i64 8]) ∧ Hid (LstH w' (.slice vo f.ch.length vc) f.ch ∧ LstS w' (.slice uo f.sb.length uc) f.sb)) ∧ Adds w w' := by
  have kC := fun w' (hA : Adds w w') => checkF_any v f w' (h.adds hA) hc
  rw [err_ok hM] at kC
  obtain ⟨s, t, rfl, hs, ht⟩ := h
  obtain ⟨base, total, ch, sb⟩ := f
  simp only at *
  have hs6 : sb.length ≤ 1000 := Nat.le_trans hM.2.2.2.2.2.1 (by omega)
  have kO := fun w' (hA : Adds w w') => copyOf_row base total s t ch sb w' (hs.adds hA) (ht.adds hA) hc hd hs6
  have kF := fun u w' (hu : LstS w' u sb) => find_any u sb name w' hu hs6 (subsc_climbs hM.2.2.2.2.2)
  rw [hn, hcc] at kF
  have hp' : ¬ total < pos := by omega
  have hlt' : (at_ : Int) < (sb.length : Int) := Int.ofNat_lt.2 hlt
  have hq' : pos < sb[at_].pos := h2
  have HSet : Hid (∀ X os2 n2 B s rs W0 W1 u n uc, OwnH B s rs W0 (more X os2 n2) → OwnS B (.slice u n uc) sb W1 (more X os2 n2) → sb.length = n → X.heap.size ≤ B → ∃ gb os4, u = some ⟨gb, 0, none⟩ ∧ X.heap.size ≤ gb ∧ gb < X.heap.size + os2.size ∧ (more X os2 n2).cell? ⟨gb, at_ * 2 + 1, none⟩ = some (.int .i64 sb[at_].pos) ∧ (more X os2 n2).frozen? ⟨gb, at_ * 2 + 1, none⟩ = false ∧ (more X os2 n2).setCell ⟨gb, at_ * 2 + 1, none⟩ (.int .i64 pos) = more X os4 n2 ∧ os4.size = os2.size ∧ Hid (OwnH B s rs (more X os4 n2) (more X os4 n2) ∧ OwnS B (.slice u n uc) (sb.set at_ ⟨sb[at_].name, pos⟩) (more X os4 n2) (more X os4 n2))) :=
    fun X os2 n2 B s rs W0 W1 u n uc hH hS hn hX => own_store hH hS hn hX at_ hlt pos
  generalize sb[at_].pos = pp at *
  generalize sb.set at_ ⟨sb[at_].name, pos⟩ = ns at *
  clear hcc hd hM hs ht hn h2 h1
  go_enter Try.func19, Try.ntmps19
  go_wp2_with (first
    | (go_at_call 13; refine (kC _ (by repeat (first | with_reducible exact Adds.refl _ | with_reducible refine Adds.alloc ?_ _ | with_reducible refine Adds.more ?_ _ _ | with_reducible refine Adds.drew ?_ | with_reducible refine Adds.drewN ?_ _))).mono ?_; rintro e w1 ⟨rfl, os1, n1, rfl⟩)
    | (go_at_call 31; refine (kO _ (by repeat (first | with_reducible exact Adds.refl _ | with_reducible refine Adds.alloc ?_ _ | with_reducible refine Adds.more ?_ _ _ | with_reducible refine Adds.drew ?_ | with_reducible refine Adds.drewN ?_ _))).mono ?_; rintro e w2 ⟨⟨v2, c2, u2, d2, rs, rfl, H2⟩, os2, n2, rfl⟩; obtain ⟨gb, os4, rfl, hg1, hg2, x1, xf, xs, hz, H4⟩ := HSet.out _ _ _ _ _ _ _ _ _ _ _ H2.out.1 H2.out.2.2 rfl (Nat.le_refl _); (simp only [size_more, alloc_size] at hg1 hg2); (have g1 : gb ≤ w.heap.size + os1.size + os2.size + 1 + 1 := by omega); (have g2 : gb ≤ w.heap.size + os1.size + os2.size + 1 := by omega); (have g3 : ¬ gb = w.heap.size + os1.size + os2.size + 1 + 1 := by omega); (have g4 : ¬ w.heap.size + os1.size + os2.size + 1 + 1 = gb := by omega); clear hg1 hg2)
    | (go_at_call 40; refine (kF _ _ (OwnS.far H2.out.2.2 (by repeat (first | with_reducible exact Far.refl _ _ | with_reducible refine Far.mores ?_ (by simp [go_sem]) _ _ _ | with_reducible refine Far.allocs ?_ (by simp [go_sem]) _ | with_reducible refine Far.low ?_ (by simp [go_sem]) (by simp [go_sem] <;> omega) _ _ | with_reducible refine Far.more ?_ _ _ | with_reducible refine Far.alloc ?_ _)) (Nat.le_refl _)).lst).mono ?_; rintro e w3 ⟨rfl, os3, n3, rfl⟩))
  refine bodyPost_ret (v := .tuple #[.agg #[.int .i64 base, .int .i64 total, .slice v2 ch.length c2, .slice (some ⟨gb, 0, none⟩) sb.length d2], .int .i64 8]) (by simp [results, Try.results19, go_sem]) rfl ⟨⟨v2, c2, some ⟨gb, 0, none⟩, d2, rfl, ?_⟩, (by repeat (first | with_reducible exact Adds.refl _ | with_reducible refine Adds.alloc ?_ _ | with_reducible refine Adds.more ?_ _ _ | with_reducible refine Adds.drew ?_ | with_reducible refine Adds.drewN ?_ _))⟩
  exact lstG_far H2.out.1 H2.out.2.1 H2.out.2.2 (by repeat (first | with_reducible exact Far.refl _ _ | with_reducible refine Far.mores ?_ (by simp [go_sem]) _ _ _ | with_reducible refine Far.allocs ?_ (by simp [go_sem]) _ | with_reducible refine Far.low ?_ (by simp [go_sem]) (by simp [go_sem] <;> omega) _ _ | with_reducible refine Far.more ?_ _ _ | with_reducible refine Far.alloc ?_ _))

end Go.Proofs.Ytpjhohmbifpogaa
