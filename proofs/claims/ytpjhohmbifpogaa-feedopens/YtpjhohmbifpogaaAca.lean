/-
  A store into a row of subscriptions that a call owns.
-/
import Derived.Test.YtpjhohmbifpogaaOpg
namespace Go.Proofs.Ytpjhohmbifpogaa
open Go.RowKit
attribute [local go_sem] cell?_more frozen?_more setCell_more size_more tape_more drew_more drewN_more more_drew more_drewN one_out plus_out plus_end lt_one le_p2 le_p3 le_p4 le_p5 le_p6 le_p7 le_p8 le_p9 le_p10 le_p11 le_p12 le_p13 le_p14 le_p15 le_p16 le_p17 le_p18 le_p19 le_p20 le_p21 le_p22 le_p23 le_p24 le_q0 le_q1 lt_q1 le_q2 lt_q2 le_q3 lt_q3 le_q4 lt_q4 le_q5 lt_q5 le_q6 lt_q6 le_q7 lt_q7 le_q8 lt_q8 le_q9 lt_q9 le_q10 lt_q10 le_q11 lt_q11 le_q12 lt_q12 le_q13 lt_q13 le_q14 lt_q14 le_q15 lt_q15 le_q16 lt_q16 le_q17 lt_q17 le_q18 lt_q18 le_q19 lt_q19 le_q20 lt_q20 le_q21 lt_q21 le_q22 lt_q22 le_q23 lt_q23 le_q24 lt_q24

theorem set_grown (w : World) (g o : Nat) (v : Value) : w.grownBy (w.setCell ⟨g, o, none⟩ v) (some g) := by
  refine ⟨rfl, rfl, rfl, by simp [World.setCell], fun k hk hne => ?_⟩
  have : g ≠ k := fun e => hne (by rw [e])
  simp [World.setCell, Array.getElem?_modify, this]

theorem cellsS_set (ss : List Sb) (i : Nat) (hi : i < ss.length) (p : Int) : cellsS (ss.set i ⟨ss[i].name, p⟩) = (cellsS ss).set (i * 2 + 1) (.int .i64 p) := by
  induction ss generalizing i with
  | nil => simp at hi
  | cons f r ih =>
    cases i with
    | zero => simp [cellsS, Sb.cells]
    | succ i =>
      have := ih i (by simpa using hi)
      simp only [cellsS, List.set_cons_succ, List.flatMap_cons, List.getElem_cons_succ] at this ⊢
      rw [this]
      simp only [Sb.cells, List.cons_append, List.nil_append]
      rw [show (i + 1) * 2 + 1 = (i * 2 + 1) + 1 + 1 by omega, List.set_cons_succ, List.set_cons_succ]

theorem own_store {X : World} {os2 : Array Obj} {n2 B : Nat} {s : Value} {rs : List Rh} {W0 W1 : World} {u : Option Addr} {n uc : Nat} {ss : List Sb} (hH : OwnH B s rs W0 (more X os2 n2)) (hS : OwnS B (.slice u n uc) ss W1 (more X os2 n2)) (hn : ss.length = n) (hXB : X.heap.size ≤ B) (i : Nat) (hi : i < ss.length) (p : Int) :
    ∃ gb os4, u = some ⟨gb, 0, none⟩ ∧ X.heap.size ≤ gb ∧ gb < X.heap.size + os2.size ∧ (more X os2 n2).cell? ⟨gb, i * 2 + 1, none⟩ = some (.int .i64 ss[i].pos) ∧ (more X os2 n2).frozen? ⟨gb, i * 2 + 1, none⟩ = false ∧ (more X os2 n2).setCell ⟨gb, i * 2 + 1, none⟩ (.int .i64 p) = more X os4 n2 ∧ os4.size = os2.size ∧
      Hid (OwnH B s rs (more X os4 n2) (more X os4 n2) ∧ OwnS B (.slice u n uc) (ss.set i ⟨ss[i].name, p⟩) (more X os4 n2) (more X os4 n2)) := by
  subst hn
  have hlt := hS.1.lt
  have hcell := fun g => hS.1.cells (g := g)
  rcases hS.1.2 with ⟨e, h0⟩ | ⟨gb, cap, cur, e, hb, hg, hnc, hcm, hcs, htk⟩
  · omega
  obtain ⟨rfl, rfl⟩ : u = some ⟨gb, 0, none⟩ ∧ uc = cap := by simpa using e
  have hl := hlt gb rfl
  rw [size_more] at hl
  have hC := liesS_of (hcell gb rfl) i hi
  have hG := set_grown (more X os2 n2) gb (i * 2 + 1) (.int .i64 p)
  have hH2 := hH.grown hS.1 hG
  have hA : Adds X ((more X os2 n2).setCell ⟨gb, i * 2 + 1, none⟩ (.int .i64 p)) := by
    refine Adds.of ⟨rfl, rfl, rfl, Nat.le_trans (by rw [size_more]; omega) hG.size, fun q hq => ?_⟩
    rw [hG.block q (by rw [size_more]; omega) (by simp; omega)]
    exact more_block os2 n2 hq
  obtain ⟨os4, k, hw⟩ := hA
  have hk : k = n2 := by
    have : ((more X os2 n2).setCell ⟨gb, i * 2 + 1, none⟩ (.int .i64 p)).drawn = (more X os4 k).drawn := by rw [hw]
    exact this.symm
  subst hk
  have hz : os4.size = os2.size := by
    have : ((more X os2 k).setCell ⟨gb, i * 2 + 1, none⟩ (.int .i64 p)).heap.size = (more X os4 k).heap.size := by rw [hw]
    rw [size_more] at this
    have h2 : ((more X os2 k).setCell ⟨gb, i * 2 + 1, none⟩ (.int .i64 p)).heap.size = X.heap.size + os2.size := by
      simp [World.setCell, more]
    omega
  have hg4 : (more X os4 k).heap[gb]? = some (.cells (cur.set! (i * 2 + 1) (.int .i64 p)) 43 (0, 0)) := by
    rw [← hw]
    have hlt2 : gb < (more X os2 k).heap.size := (Array.getElem?_eq_some_iff.1 hg).1
    simp only [World.setCell, Array.getElem?_modify, if_true, hg, Option.map_some]
    rfl
  refine ⟨gb, os4, rfl, by omega, by omega, by simpa using hC.2, ?_, hw, hz, ?_⟩
  · simp [World.frozen?, hg]
  · rw [hw] at hH2
    refine ⟨hH2, ⟨by rw [cellsS_length, List.length_set], .inr ⟨gb, uc, _, by rw [List.length_set], hb, hg4, by rw [List.length_set]; exact hnc, hcm, by simp [hcs], ?_⟩⟩, Below.refl _ _, by have := hS.2.2; rw [size_more] at this ⊢; omega⟩
    rw [cellsS_set ss i hi p, ← htk, List.length_set]
    simp [List.take_set]

end Go.Proofs.Ytpjhohmbifpogaa
