/-
  The methods that read a tape, by contracts.
-/
import Derived.Test.YtelkkpomehgcjaaTopen
namespace Go.Proofs.Ytelkkpomehgcjaa
open Go.RowKit Go.Maps
attribute [local go_sem] cell?_more frozen?_more setCell_more size_more tape_more drew_more drewN_more more_drew more_drewN more_more one_out plus_out plus_end lt_one le_p2 le_p3 le_p4 le_p5 le_p6 le_p7 le_p8 le_p9 le_p10 le_p11 le_p12 le_p13 le_p14 le_p15 le_p16 le_p17 le_p18 le_p19 le_p20 le_p21 le_p22 le_p23 le_p24 le_q0 le_q1 lt_q1 le_q2 lt_q2 le_q3 lt_q3 le_q4 lt_q4 le_q5 lt_q5 le_q6 lt_q6 le_q7 lt_q7 le_q8 lt_q8 le_q9 lt_q9 le_q10 lt_q10 le_q11 lt_q11 le_q12 lt_q12 le_q13 lt_q13 le_q14 lt_q14 le_q15 lt_q15 le_q16 lt_q16 le_q17 lt_q17 le_q18 lt_q18 le_q19 lt_q19 le_q20 lt_q20 le_q21 lt_q21 le_q22 lt_q22 le_q23 lt_q23 le_q24 lt_q24

theorem Tap.adds {w w' : World} {B : Nat} {T : Tw} {d : Dk} (h : Tap w B T d) (ha : Adds w w') : Tap w' B T d := ⟨h.st.adds ha, ha.at h.hp, h.bp, h.recs.mv (Mv.adds _ ha)⟩

theorem opened_any {w : World} {B : Nat} {T : Tw} {d : Dk} (h : Tap w B T d) : Calls Try.prog 35 #[ptr T.p] w fun e w' => e = .returned (.bool true) ∧ w' = w := by
  have c0 : w.cell? ⟨T.p, 0, none⟩ = some (ptr T.R.p) := cell_of_row w T.p 0 _ _ _ h.hp
  go_enter Try.func35, Try.ntmps35
  go_wp2
  go_ret
  exact ⟨rfl, rfl⟩

theorem len_any {w : World} {B : Nat} {T : Tw} {d : Dk} (h : Tap w B T d) : Calls Try.prog 22 #[ptr T.p] w fun e w' => e = .returned (.int .i64 (T.ls.length : Int)) ∧ w' = w := by
  have c3 : w.cell? ⟨T.p, 3, none⟩ = some T.v := cell_of_row w T.p 3 _ _ _ h.hp
  obtain ⟨ao, cap, hv, _⟩ := h.recs.rws.slice
  rw [hv] at c3
  have kO := opened_any h
  go_enter Try.func22, Try.ntmps22
  go_wp2_with (go_at_call 35; refine kO.mono ?_; rintro e w1 ⟨rfl, rfl⟩)
  go_ret
  exact ⟨rfl, rfl⟩

theorem grown_any {w : World} {B : Nat} {T : Tw} {d : Dk} (h : Tap w B T d) (hl : T.ls.length ≤ 1000000) (hb : T.base ≤ T.ls.length) : Calls Try.prog 58 #[ptr T.p] w fun e w' => e = .returned (.int .i64 ((T.ls.length : Int) - (T.base : Int))) ∧ Adds w w' := by
  have c3 : w.cell? ⟨T.p, 3, none⟩ = some T.v := cell_of_row w T.p 3 _ _ _ h.hp
  have c2 : w.cell? ⟨T.p, 2, none⟩ = some (.int .i64 (T.base : Int)) := cell_of_row w T.p 2 _ _ _ h.hp
  obtain ⟨ao, cap, hv, _⟩ := h.recs.rws.slice
  rw [hv] at c3
  have kO := opened_any h
  have hpl := (Array.getElem?_eq_some_iff.1 h.hp).1
  generalize T.ls.length = n at *
  generalize T.base = m at *
  clear h
  go_enter Try.func58, Try.ntmps58
  go_wp2_with (go_at_call 35; refine kO.mono ?_; rintro e w1 ⟨rfl, rfl⟩)
  go_quiet (fail)
  go_wp2
  go_ret
  refine ⟨rfl, ?_⟩
  repeat (first | with_reducible exact Adds.refl _ | with_reducible refine Adds.alloc ?_ _ | with_reducible refine Adds.more ?_ _ _ | with_reducible refine Adds.drew ?_ | with_reducible refine Adds.drewN ?_ _)

theorem getT_none {w : World} {B : Nat} {T : Tw} {d : Dk} (h : Tap w B T d) (hl : T.ls.length ≤ 1000000) : Calls Try.prog 23 #[ptr T.p, .int .i64 (T.ls.length : Int)] w fun e w' => e = .returned (.tuple #[.slice none 0 0, .bool false]) ∧ Adds w w' := by
  have kL := len_any h
  generalize T.ls.length = n at *
  have i0 : ¬ ((n : Int) < 0) := by omega
  go_enter Try.func23, Try.ntmps23
  go_wp2_with (go_at_call 22; refine kL.mono ?_; rintro e w1 ⟨rfl, rfl⟩)
  go_ret2
  refine ⟨rfl, ?_⟩
  repeat (first | with_reducible exact Adds.refl _ | with_reducible refine Adds.alloc ?_ _ | with_reducible refine Adds.more ?_ _ _ | with_reducible refine Adds.drew ?_ | with_reducible refine Adds.drewN ?_ _)

theorem get_any {w : World} {B : Nat} {T : Tw} {d : Dk} (h : Tap w B T d) {i : Nat} (hi : i < T.ls.length) (hfit : T.ls[i].length ≤ 1000000) :
    Calls Try.prog 23 #[ptr T.p, .int .i64 (i : Int)] w fun e w' => ∃ r, e = .returned (.tuple #[r, .bool true]) ∧ w'.ownsRow w.heap.size 5 1 r T.ls[i].length (cellsB T.ls[i]) ∧ Adds w w' := by
  have c3 : w.cell? ⟨T.p, 3, none⟩ = some T.v := cell_of_row w T.p 3 _ _ _ h.hp
  have kL := len_any h
  obtain ⟨ao, cap, hv, hcap⟩ := h.recs.rws.slice
  have hr := h.recs.rws
  rw [hv] at c3 hr
  obtain ⟨b, off, x, rfl, hb, hc, hx⟩ := hr.at hi
  have kC : Calls Try.prog 27 #[x] w fun e w' => ∃ r, e = .returned r ∧ w'.ownsRow w.heap.size 5 1 r T.ls[i].length (cellsB T.ls[i]) ∧ Adds w w' := clone_any _ _ _ hx (by omega)
  clear hr hv hx
  generalize T.ls[i] = l at *
  generalize T.ls.length = n at *
  have i0 : ¬ ((i : Int) < 0) := by omega
  go_enter Try.func23, Try.ntmps23
  go_wp2_with (first
    | (go_at_call 22; refine kL.mono ?_; rintro e w1 ⟨rfl, rfl⟩)
    | (go_at_call 27; refine kC.mono ?_; rintro e w2 ⟨r2, rfl, h2, a2⟩))
  go_ret2
  exact ⟨r2, rfl, h2, a2⟩

theorem rows_app {ops : Array Oper} {rest : List Oper} {o : Oper} {a : Act} {w : World} {Q : Exit → Act → World → Prop} (hgd : o.guard = none) (s x : Operand) (ho : o.op = .call { callee := .builtin .append, args := #[s, x], argTypes := #[27, 27] })
    {B : Nat} {v : Value} {xs : List Value} {W0 : World} (h : OwnV B 22 v xs W0 w) (hs : a.eval s = v) {x' : Value} {ys : List Value} (hg : LstV w x' ys) (hx : a.eval x = x') (hys : ∀ u ∈ ys, u.oneCell' = true) (hlen : xs.length + ys.length ≤ 1000000)
    (hk : ∀ v' w', OwnV B 22 v' (xs ++ ys) W0 w' → w.grownBy w' v.ownBlock → wpList Try.prog ops Q rest (a.put o.dst v') w') : wpList Try.prog ops Q (o :: rest) a w := row_app hgd s x ho h hs hg hx hys hlen hk

end Go.Proofs.Ytelkkpomehgcjaa
