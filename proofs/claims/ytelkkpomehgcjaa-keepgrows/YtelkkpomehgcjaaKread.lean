/-
  A keep as it lies, and the methods that read it, by contracts.
-/
import Derived.Test.YtelkkpomehgcjaaTread
import Derived.Test.YtelkkpomehgcjaaKnum
namespace Go.Proofs.Ytelkkpomehgcjaa
open Go.RowKit Go.Maps
attribute [local go_sem] cell?_more frozen?_more setCell_more size_more tape_more drew_more drewN_more more_drew more_drewN more_more one_out plus_out plus_end lt_one le_p2 le_p3 le_p4 le_p5 le_p6 le_p7 le_p8 le_p9 le_p10 le_p11 le_p12 le_p13 le_p14 le_p15 le_p16 le_p17 le_p18 le_p19 le_p20 le_p21 le_p22 le_p23 le_p24 le_q0 le_q1 lt_q1 le_q2 lt_q2 le_q3 lt_q3 le_q4 lt_q4 le_q5 lt_q5 le_q6 lt_q6 le_q7 lt_q7 le_q8 lt_q8 le_q9 lt_q9 le_q10 lt_q10 le_q11 lt_q11 le_q12 lt_q12 le_q13 lt_q13 le_q14 lt_q14 le_q15 lt_q15 le_q16 lt_q16 le_q17 lt_q17 le_q18 lt_q18 le_q19 lt_q19 le_q20 lt_q20 le_q21 lt_q21 le_q22 lt_q22 le_q23 lt_q23 le_q24 lt_q24

/-- A keep as it lies: its block, its tape's, its note's record and its entries' records with what they read as. -/
structure Kw where
  p : Nat
  tp : Nat
  nv : Value
  ev : Value
  nt : List UInt8
  es : List (List UInt8)

structure Kr (w : World) (K : Kw) : Prop where
  hp : w.heap[K.p]? = some (.cells #[ptr K.tp, K.nv, K.ev] 29 (0, 0))
  note : Byt w K.nv K.nt
  rows : Rws w K.ev K.es

theorem Kr.adds {w w' : World} {K : Kw} (h : Kr w K) (ha : Adds w w') : Kr w' K := ⟨ha.at h.hp, h.note.adds ha, h.rows.adds ha⟩

theorem openedK_any {w : World} {p tp : Nat} {a b : Value} (hp : w.heap[p]? = some (.cells #[ptr tp, a, b] 29 (0, 0))) : Calls Try.prog 19 #[ptr p] w fun e w' => e = .returned (.bool true) ∧ w' = w := by
  have c0 : w.cell? ⟨p, 0, none⟩ = some (ptr tp) := cell_of_row w p 0 _ _ _ hp
  go_enter Try.func19, Try.ntmps19
  go_wp2
  go_ret
  exact ⟨rfl, rfl⟩

theorem lenK_any {w : World} {K : Kw} (h : Kr w K) : Calls Try.prog 8 #[ptr K.p] w fun e w' => e = .returned (.int .i64 (K.es.length : Int)) ∧ w' = w := by
  have c2 : w.cell? ⟨K.p, 2, none⟩ = some K.ev := cell_of_row w K.p 2 _ _ _ h.hp
  obtain ⟨ao, cap, hv, _⟩ := h.rows.slice
  rw [hv] at c2
  have kO := openedK_any h.hp
  go_enter Try.func8, Try.ntmps8
  go_wp2_with (go_at_call 19; refine kO.mono ?_; rintro e w1 ⟨rfl, rfl⟩)
  go_ret
  exact ⟨rfl, rfl⟩

set_option maxRecDepth 20000 in
theorem behind_any (x : Value) (l : List UInt8) (w : World) (h : Byt w x l) (hlen : l.length ≤ 1000000) :
    Calls Try.prog 15 #[x] w fun e w' => ∃ r, e = .returned r ∧ w'.ownsRow w.heap.size 5 1 r (l.drop 1).length (cellsB (l.drop 1)) ∧ Adds w w' := by
  obtain ⟨ao, cap, rfl, hcap, ho⟩ := h.open
  cases l with
  | nil =>
    go_enter Try.func15, Try.ntmps15
    go_wp2
    go_ret
    exact ⟨_, rfl, World.ownsRow_nil _ _ _ _, Adds.refl _⟩
  | cons c t =>
    rcases ho with ho | ⟨b, off, rfl, hb, hl⟩
    · cases ho
    have hr := h.rest (k := 1) (by simp)
    simp only [List.drop_succ_cons, List.drop_zero, Option.map_some, add_at] at hr ⊢
    have kC := clone_any _ _ w hr (by simp at hlen; omega)
    have hcap' : t.length + 1 ≤ cap := by simpa using hcap
    by_cases hc1 : cap = 1
    · subst hc1
      have ht : t = [] := List.eq_nil_of_length_eq_zero (by omega)
      subst ht
      rw [if_pos rfl] at kC
      simp only [List.length_cons, List.length_nil, Nat.zero_add, Nat.sub_self] at kC ⊢
      clear h hr hl hcap hlen hcap'
      go_enter Try.func15, Try.ntmps15
      go_wp2_with (go_at_call 27; refine kC.mono ?_; rintro e w2 ⟨r2, rfl, h2, a2⟩)
      go_ret
      exact ⟨r2, rfl, h2, a2⟩
    · rw [if_neg hc1] at kC
      have hN1 : 1 ≤ (c :: t).length := by simp
      clear h hr hl hlen hcap'
      generalize (c :: t).length = N at *
      have hN0 : ¬ ((N : Int) = 0) := by omega
      go_enter Try.func15, Try.ntmps15
      go_wp2_with (go_at_call 27; refine kC.mono ?_; rintro e w2 ⟨r2, rfl, h2, a2⟩)
      go_ret
      exact ⟨r2, rfl, h2, a2⟩

theorem notedK_any {w : World} {K : Kw} (h : Kr w K) (hlen : K.nt.length ≤ 1000000) :
    Calls Try.prog 7 #[ptr K.p] w fun e w' => ∃ r, e = .returned r ∧ w'.ownsRow w.heap.size 5 1 r (K.nt.drop 1).length (cellsB (K.nt.drop 1)) ∧ Adds w w' := by
  have c1 : w.cell? ⟨K.p, 1, none⟩ = some K.nv := cell_of_row w K.p 1 _ _ _ h.hp
  have kO := openedK_any h.hp
  have kB := behind_any _ _ w h.note hlen
  obtain ⟨ao, cap, hv, _⟩ := h.note.open
  rw [hv] at c1 kB
  go_enter Try.func7, Try.ntmps7
  go_wp2_with (first
    | (go_at_call 19; refine kO.mono ?_; rintro e w1 ⟨rfl, rfl⟩)
    | (go_at_call 15; refine kB.mono ?_; rintro e w2 ⟨r2, rfl, h2, a2⟩))
  go_ret
  exact ⟨r2, rfl, h2, a2⟩

theorem getK_any {w : World} {K : Kw} (h : Kr w K) {i : Nat} (hi : i < K.es.length) (hfit : K.es[i].length ≤ 1000000) :
    Calls Try.prog 5 #[ptr K.p, .int .i64 (i : Int)] w fun e w' => ∃ r, e = .returned (.tuple #[r, .bool true]) ∧ w'.ownsRow w.heap.size 5 1 r (K.es[i].drop 1).length (cellsB (K.es[i].drop 1)) ∧ Adds w w' := by
  have c2 : w.cell? ⟨K.p, 2, none⟩ = some K.ev := cell_of_row w K.p 2 _ _ _ h.hp
  have kL := lenK_any h
  obtain ⟨ao, cap, hv, hcap⟩ := h.rows.slice
  have hr := h.rows
  rw [hv] at c2 hr
  obtain ⟨b, off, x, rfl, hb, hc, hx⟩ := hr.at hi
  have kC := behind_any _ _ w hx hfit
  clear hr hv hx
  generalize K.es[i] = l at *
  generalize K.es.length = n at *
  have i0 : ¬ ((i : Int) < 0) := by omega
  go_enter Try.func5, Try.ntmps5
  go_wp2_with (first
    | (go_at_call 8; refine kL.mono ?_; rintro e w1 ⟨rfl, rfl⟩)
    | (go_at_call 15; refine kC.mono ?_; rintro e w2 ⟨r2, rfl, h2, a2⟩))
  go_ret2
  exact ⟨r2, rfl, h2, a2⟩

end Go.Proofs.Ytelkkpomehgcjaa
