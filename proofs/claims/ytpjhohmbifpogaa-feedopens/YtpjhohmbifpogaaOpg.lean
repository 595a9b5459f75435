/-
  Subscriptions turned beside a box; slices.Insert, by contract.
-/
import Derived.Test.YtpjhohmbifpogaaAdg
import Derived.Test.YtpjhohmbifpogaaInu
namespace Go.Proofs.Ytpjhohmbifpogaa
open Go.RowKit
attribute [local go_sem] cell?_more frozen?_more setCell_more size_more tape_more drew_more drewN_more more_drew more_drewN one_out plus_out plus_end lt_one le_p2 le_p3 le_p4 le_p5 le_p6 le_p7 le_p8 le_p9 le_p10 le_p11 le_p12 le_p13 le_p14 le_p15 le_p16 le_p17 le_p18 le_p19 le_p20 le_p21 le_p22 le_p23 le_p24 le_q0 le_q1 lt_q1 le_q2 lt_q2 le_q3 lt_q3 le_q4 lt_q4 le_q5 lt_q5 le_q6 lt_q6 le_q7 lt_q7 le_q8 lt_q8 le_q9 lt_q9 le_q10 lt_q10 le_q11 lt_q11 le_q12 lt_q12 le_q13 lt_q13 le_q14 lt_q14 le_q15 lt_q15 le_q16 lt_q16 le_q17 lt_q17 le_q18 lt_q18 le_q19 lt_q19 le_q20 lt_q20 le_q21 lt_q21 le_q22 lt_q22 le_q23 lt_q23 le_q24 lt_q24

theorem rows_other {w : World} {B C : Nat} {ty ty' : TypeId} {k k' : Nat} {v x : Value} {n m : Nat} {xs ys : List Value} (hne : ty ≠ ty') (h : w.ownsRow B ty k v n xs) (h' : w.ownsRow C ty' k' x m ys) : x.ownBlock = none ∨ x.ownBlock ≠ v.ownBlock := by
  rcases h'.2 with ⟨rfl, _⟩ | ⟨g, cap, cur, rfl, _, hg, _⟩
  · exact .inl rfl
  · refine .inr fun e => ?_
    rcases h.2 with ⟨rfl, _⟩ | ⟨g', cap', cur', rfl, _, hg', _⟩
    · cases e
    · simp only [Value.ownBlock, Option.some.injEq] at e
      subst e
      rw [hg] at hg'
      simp only [Option.some.injEq, Obj.cells.injEq] at hg'
      exact hne hg'.2.1.symm

theorem OwnH.grown {B C : Nat} {s t : Value} {rs : List Rh} {m : Nat} {ys : List Value} {W0 w w' : World} (h : OwnH B s rs W0 w) (ht : w.ownsRow C 43 2 t m ys) (hg : w.grownBy w' t.ownBlock) : OwnH B s rs w' w' :=
  ⟨h.1.kept hg (rows_other (by decide) ht h.1), Below.refl _ _, Nat.le_trans h.2.2.1 hg.size, fun r hr => World.ownsRow.kept (h.2.2.2 r hr) hg (rows_other (by decide) ht (h.2.2.2 r hr))⟩

theorem grown_split {Y : World} {os2 : Array Obj} {n2 : Nat} {c : Array Value} {w w' : World} {own : Option Nat} {B : Nat} (hw : Adds ((more Y os2 n2).alloc (.cells c 25)) w) (h3 : w.grownBy w' own) (hlt : ∀ q, own = some q → B ≤ q ∧ q < (more Y os2 n2).heap.size) (hYB : Y.heap.size ≤ B) :
    ∃ os2' os d, os2'.size = os2.size ∧ w' = more ((more Y os2' n2).alloc (.cells c 25)) os d := by
  have hAY : Adds Y w := (((Adds.refl _).more _ _).alloc _).trans hw
  have hbox : w.heap[Y.heap.size + os2.size]? = some (.cells c 25) := by
    rw [hw.below.block _ (by rw [alloc_size, size_more]; omega), ← size_more os2 n2]
    exact new_block2 _ _
  have hA : Adds Y w' := by
    refine Adds.of ?_
    have hb := hAY.below
    refine ⟨h3.os.trans hb.os, h3.tape.trans hb.tape, h3.output.trans hb.output, Nat.le_trans hb.size h3.size, fun q hq => ?_⟩
    rw [h3.block q (Nat.lt_of_lt_of_le hq hb.size) ?_]
    · exact hb.block q hq
    · intro e
      have := hlt q e.symm
      omega
  have hO : w'.heap[Y.heap.size + os2.size]? = some (.cells c 25) := by
    rw [h3.block _ ?_ ?_]
    · exact hbox
    · exact (Array.getElem?_eq_some_iff.1 hbox).1
    · intro e
      have := (hlt _ e.symm).2
      rw [size_more] at this
      omega
  exact world_split Y w' os2.size n2 _ hA hO

theorem insert_box {Y : World} {os2 : Array Obj} {n2 : Nat} {w : World} (c : Array Value) {B : Nat} {s : Value} {rs : List Rh} {W0 W1 : World} (hH : OwnH B s rs W0 (more Y os2 n2)) {uo : Option Addr} {n uc : Nat} {ss : List Sb} (hS : OwnS B (.slice uo n uc) ss W1 (more Y os2 n2)) (hn : ss.length = n) (hw : Adds ((more Y os2 n2).alloc (.cells c 25)) w) (hYB : Y.heap.size ≤ B) (x : Sb) (k : Nat) (hk : Alone1 w k x) (hkz : (more Y os2 n2).heap.size ≤ k) (i : Nat) (hi : i ≤ n) (hle : n ≤ 1000) :
    Calls Try.prog 42 #[.slice uo n uc, .int .i64 (i : Nat), .slice (some ⟨k, 0, none⟩) 1 1] w fun e w' => ∃ vo vc os2' os d, e = .returned (.slice vo (n + 1) vc) ∧ os2'.size = os2.size ∧ Hid (∀ c', OwnH B s rs (more ((more Y os2' n2).alloc (.cells c' 25)) os d) (more ((more Y os2' n2).alloc (.cells c' 25)) os d) ∧ OwnS B (.slice vo (n + 1) vc) (ss.take i ++ x :: ss.drop i) (more ((more Y os2' n2).alloc (.cells c' 25)) os d) (more ((more Y os2' n2).alloc (.cells c' 25)) os d)) ∧ w' = more ((more Y os2' n2).alloc (.cells c 25)) os d := by
  subst hn
  have hlt := hS.1.lt
  have hA0 : Adds (more Y os2 n2) w := ((Adds.refl _).alloc _).trans hw
  have hS' := hS.adds hA0
  have hH' := hH.adds hA0
  have hv : (Value.slice uo ss.length uc).ownBlock ≠ some k := fun e => by
    have := (hlt k e).2
    omega
  refine (insert_any B _ ss W1 w hS' x k hk hv i hi hle).mono ?_
  rintro e w' ⟨v', rfl, h1, h2⟩
  have hH2 := hH'.grown hS'.1 h2
  obtain ⟨os2', os, d, hz, rfl⟩ := grown_split hw h2 hlt hYB
  obtain ⟨vo, vc, rfl, _, _⟩ := h1.lst
  have hl : (ss.take i ++ x :: ss.drop i).length = ss.length + 1 := by
    rw [List.length_append, List.length_cons, List.length_take, List.length_drop]
    omega
  rw [hl] at h1 ⊢
  exact ⟨vo, vc, os2', os, d, rfl, hz, fun c' => ⟨hH2.box c', h1.box c'⟩, rfl⟩

end Go.Proofs.Ytpjhohmbifpogaa
