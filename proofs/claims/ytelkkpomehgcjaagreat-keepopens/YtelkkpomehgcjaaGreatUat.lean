/-
  The reference's functions at and do by contracts.
-/
import Derived.Test.YtelkkpomehgcjaaGreatUleft
namespace Go.Proofs.YtelkkpomehgcjaaGreat
open Go.RowKit Go.Maps
attribute [local go_sem] cell?_more frozen?_more setCell_more size_more tape_more drew_more drewN_more more_drew more_drewN more_more one_out plus_out plus_end lt_one le_p2 le_p3 le_p4 le_p5 le_p6 le_p7 le_p8 le_p9 le_p10 le_p11 le_p12 le_p13 le_p14 le_p15 le_p16 le_p17 le_p18 le_p19 le_p20 le_p21 le_p22 le_p23 le_p24 le_q0 le_q1 lt_q1 le_q2 lt_q2 le_q3 lt_q3 le_q4 lt_q4 le_q5 lt_q5 le_q6 lt_q6 le_q7 lt_q7 le_q8 lt_q8 le_q9 lt_q9 le_q10 lt_q10 le_q11 lt_q11 le_q12 lt_q12 le_q13 lt_q13 le_q14 lt_q14 le_q15 lt_q15 le_q16 lt_q16 le_q17 lt_q17 le_q18 lt_q18 le_q19 lt_q19 le_q20 lt_q20 le_q21 lt_q21 le_q22 lt_q22 le_q23 lt_q23 le_q24 lt_q24

theorem refAt_any {w : World} {R : Rw} {v : Value} {l : List Fl} (h : FilesV w R v l) (hl : l.length ≤ 1000000) (n : Int) :
    Calls Tryz.prog 92 #[v, .int .i64 n] w fun e w' => ∃ i : Int, e = .returned (.int .i64 i) ∧ w' = w ∧ ((i = -1 ∧ ∀ p ∈ l, p.1 ≠ n) ∨ (∃ j : Nat, i = (j : Int) ∧ ∃ hj : j < l.length, l[j].1 = n)) := by
  have HV : Hid (FilesV w R v l) := h
  obtain ⟨so, sc, rfl, _⟩ := h.slice
  clear h
  go_enter Tryz.func92, Tryz.ntmps92
  go_wp2
  go_loopw [5] (fun i W => ∃ j : Nat, j ≤ l.length ∧ i = .int .i64 (j : Int) ∧ (∀ k (hk : k < l.length), k < j → l[k].1 ≠ n) ∧ W = w) (fun i _ => (l.length - intOf i).toNat)
  case atStart => exact ⟨0, by omega, rfl, fun k _ hk => by omega, rfl⟩
  case round =>
    obtain ⟨j, hj, rfl, hno, rfl⟩ := hrel
    have HN : Hid (∀ k (hk : k < l.length), k < j → l[k].1 ≠ n) := hno
    clear hno
    by_cases hlt : j < l.length
    · obtain ⟨b, off, cap', he, _, hbl, e0, e1, hs⟩ := FilesV.at HV.out (i := j) hlt
      simp only [Value.slice.injEq, true_and] at he
      obtain ⟨rfl, x2⟩ := he
      clear x2 e1 hs
      have i1 : (j : Int) < (l.length : Int) := by omega
      have HE : Hid (∃ x, l[j].1 = x) := ⟨_, rfl⟩
      obtain ⟨x, hx⟩ := HE.out
      rw [hx] at e0
      have HX : Hid (l[j].1 = x) := hx
      clear hx HE
      by_cases hxn : x = n
      · subst hxn
        go_wp2
        go_ret
        exact ⟨_, rfl, rfl, .inr ⟨j, rfl, hlt, HX.out⟩⟩
      · go_wp2
        go_roundw
        case rel =>
          refine ⟨j + 1, by omega, by go_num, fun k hk hkj => ?_, trivial⟩
          rcases Nat.lt_succ_iff_lt_or_eq.1 hkj with h | rfl
          · exact HN.out k hk h
          · rw [HX.out]; exact hxn
        case measure => simp [intOf]; omega
    · obtain rfl : j = l.length := by omega
      have i1 : ¬ ((l.length : Int) < (l.length : Int)) := by omega
      go_wp2
      go_ret
      refine ⟨_, rfl, rfl, .inl ⟨rfl, ?_⟩⟩
      intro a b c hp
      obtain ⟨k, hk, he⟩ := List.getElem_of_mem hp
      have := HN.out k hk hk
      rw [he] at this
      exact this

theorem Tryz.underlying34 : Tryz.prog.underlying 34 = some (.slice 83) := by kernel_rfl

theorem cellsU_length (l : List Un) : (cellsU l).length = l.length * 4 := by
  induction l with
  | nil => rfl
  | cons u r ih =>
    simp only [cellsU, List.flatMap_cons, List.length_append, List.length_cons] at ih ⊢
    rw [ih]
    simp [Un.cells]
    omega

theorem cellsU_append (l t : List Un) : cellsU (l ++ t) = cellsU l ++ cellsU t := by simp [cellsU]

theorem cellsU_one (l : List Un) : ∀ x ∈ cellsU l, x.oneCell' = true := by
  intro x hx
  obtain ⟨u, _, hx⟩ := List.mem_flatMap.1 hx
  simp [Un.cells] at hx
  rcases hx with rfl | rfl | rfl | rfl <;> rfl

theorem units_append (w : World) (B : Nat) (ty : TypeId) (v : Value) (l : List Un) (h : w.ownsRow B 83 4 v l.length (cellsU l)) (hB : B ≤ w.heap.size) (x : Value) (m : List Un) (hx : Lie w 83 4 x m.length (cellsU m)) (hlen : l.length + m.length ≤ 1000001) :
    ∃ v' w', (Builtin.append_ #[34, 34] ty #[v, x]).run Tryz.prog w = .ok v' w' ∧ w'.ownsRow B 83 4 v' (l ++ m).length (cellsU (l ++ m)) ∧ w.grownBy w' v.ownBlock := by
  obtain ⟨i0, hi, hz0, hzs, hzb⟩ := info_parts Tryz.info83
  obtain ⟨ao, cap, rfl, hcap, hll, hxs⟩ := hx
  rcases hxs with h0 | ⟨b, off, C, rfl, hb, hl⟩
  · obtain rfl := List.eq_nil_of_length_eq_zero h0
    have hrun : (Builtin.append_ #[34, 34] ty #[v, .slice ao 0 cap]).run Tryz.prog w = .ok v w := by
      rcases h.2 with ⟨rfl, hn⟩ | ⟨g, cp, cur, rfl, hbb, hg, hnc, hcm, hcs, htk⟩
      · cases ao <;> simp [Builtin.append_, run_underlying Tryz.underlying34, sizeOf, typeInfo, hi, Builtin.lenOf, Builtin.firstCells, loadCells, loadCellsFrom]
      · cases ao <;> simp [Builtin.append_, run_underlying Tryz.underlying34, sizeOf, typeInfo, hi, Builtin.lenOf, Builtin.firstCells, loadCells, loadCellsFrom, hnc, storeCells]
    refine ⟨v, w, by simpa using hrun, ?_, grown_refl _ _⟩
    rw [List.append_nil]
    exact h
  · obtain ⟨v', w', h1, h2, h3, _, _⟩ := run_append_own_at (P := Tryz.prog) w B 34 ty 83 i0 _ 4 16 Tryz.underlying34 hi hz0 hzs hzb rfl (by decide) v l.length (cellsU l) h ⟨b, off, none⟩ m.length cap (cellsU m) hll (fun j u hu => by rw [add_at]; exact hl j u hu) (cellsU_one m) (by unfold maxLen; omega) (by omega) hB
    exact ⟨v', w', h1, by rw [cellsU_append, List.length_append]; exact h2, h3⟩

def OwnU (B : Nat) (v : Value) (l : List Un) (W0 w : World) : Prop := w.ownsRow B 83 4 v l.length (cellsU l) ∧ Below B W0 w ∧ B ≤ w.heap.size

theorem OwnU.adds {B : Nat} {v : Value} {l : List Un} {W0 w w' : World} (h : OwnU B v l W0 w) (ha : Adds w w') : OwnU B v l W0 w' :=
  ⟨row_adds h.1 ha, h.2.1.trans (ha.below.mono h.2.2), Nat.le_trans h.2.2 ha.below.size⟩

theorem OwnU.added {v : Value} {l : List Un} {W0 w : World} (h : OwnU W0.heap.size v l W0 w) : Adds W0 w := Adds.of h.2.1

theorem unitRow_step {ops : Array Oper} {o : Oper} {a : Act} {w : World} {K : Act → World → Prop} {Q : Exit → Act → World → Prop} {E : Prop} (hgd : o.guard = none) (s x : Operand) (ho : o.op = .call { callee := .builtin .append, args := #[s, x], argTypes := #[34, 34] })
    {B : Nat} {v : Value} {l : List Un} {W0 : World} (h : OwnU B v l W0 w) (hs : a.eval s = v) {x' : Value} {m : List Un} (hg : Lie w 83 4 x' m.length (cellsU m)) (hx : a.eval x = x') (hlen : l.length + m.length ≤ 1000001)
    (hk : ∀ v' w', OwnU B v' (l ++ m) W0 w' → w.grownBy w' v.ownBlock → K (a.put o.dst v') w') : if Region.wanted o (yielded ops a.tmps) = true then Oper.wp Tryz.prog o a w K Q else E := by
  have hw : Region.wanted o (yielded ops a.tmps) = true := by simp [Region.wanted, hgd]
  rw [if_pos hw]
  obtain ⟨v', w', hr, h2, h3⟩ := units_append w B o.type v l h.1 h.2.2 x' m hg hlen
  refine Lib.wp_append_run w s x 34 34 ho v x' hs hx v' w' hr (hk v' w' ⟨h2, ?_, Nat.le_trans h.2.2 h3.size⟩ h3)
  refine ⟨h3.os.trans h.2.1.os, h3.tape.trans h.2.1.tape, h3.output.trans h.2.1.output, Nat.le_trans h.2.1.size h3.size, fun i hi' => ?_⟩
  refine (h3.block i (Nat.lt_of_lt_of_le hi' h.2.2) fun e => ?_).trans (h.2.1.block i hi')
  have := (h.1.lt i e.symm).1
  omega

theorem row_slice_any {w : World} {B : Nat} {e : TypeId} {n k : Nat} {v : Value} {xs : List Value} (h : w.ownsRow B e n v k xs) : ∃ ao cap, v = .slice ao k cap ∧ k ≤ cap := by
  rcases h.2 with ⟨rfl, rfl⟩ | ⟨g, cap, cur, rfl, _, _, hnc, _⟩
  · exact ⟨none, 0, rfl, Nat.le_refl _⟩
  · exact ⟨_, cap, rfl, hnc⟩

theorem own93_at {w5 W : World} {g : Nat} (ha : Adds w5 W) (hg : w5.heap.size ≤ g) (hW : W.heap[g]? = some (.cells #[] 83 (0, 0))) : OwnU w5.heap.size (.slice (some ⟨g, 0, none⟩) 0 0) [] w5 W :=
  ⟨⟨rfl, .inr ⟨g, 0, #[], rfl, hg, hW, Nat.le_refl _, by decide, rfl, rfl⟩⟩, ha.below, ha.below.size⟩

theorem lie_at {w : World} {k : Nat} {u : Un} (h : w.heap[k]? = some (.cells #[.int .i64 u.n, .int .u8 (u.c.toNat : Int), .bool u.drop, .bool u.empty] 83 (0, 0))) : Lie w 83 4 (.slice (some ⟨k, 0, none⟩) 1 1) [u].length (cellsU [u]) := by
  refine ⟨_, 1, rfl, Nat.le_refl _, rfl, .inr ⟨k, 0, _, rfl, h, fun j x hx => ?_⟩⟩
  have hj : j < 4 := by
    have := (List.getElem?_eq_some_iff.1 hx).1
    simpa [cellsU, Un.cells] using this
  match j, hj with
  | 0, _ => simp [cellsU, Un.cells] at hx; subst hx; exact cell_of_row w _ 0 _ _ _ h
  | 1, _ => simp [cellsU, Un.cells] at hx; subst hx; exact cell_of_row w _ 1 _ _ _ h
  | 2, _ => simp [cellsU, Un.cells] at hx; subst hx; exact cell_of_row w _ 2 _ _ _ h
  | 3, _ => simp [cellsU, Un.cells] at hx; subst hx; exact cell_of_row w _ 3 _ _ _ h

/-- But for two blocks nothing has turned. -/
structure Turn2 (p q : Nat) (a b : World) : Prop where
  os : b.os = a.os
  tape : b.tape = a.tape
  output : b.output = a.output
  size : a.heap.size ≤ b.heap.size
  block : ∀ i, i < a.heap.size → i ≠ p → i ≠ q → b.heap[i]? = a.heap[i]?

theorem Turn2.refl (p q : Nat) (a : World) : Turn2 p q a a := ⟨rfl, rfl, rfl, Nat.le_refl _, fun _ _ _ _ => rfl⟩
theorem Turn2.set1 {p q : Nat} {a b : World} (h : Turn2 p q a b) (i : Nat) (v : Value) : Turn2 p q a (b.setCell ⟨p, i, none⟩ v) := by
  have g := grown_set b p i v
  exact ⟨g.os.trans h.os, g.tape.trans h.tape, g.output.trans h.output, Nat.le_trans h.size g.size, fun k hk h1 h2 => (g.block k (Nat.lt_of_lt_of_le hk h.size) (by simpa using h1)).trans (h.block k hk h1 h2)⟩
theorem Turn2.set2 {p q : Nat} {a b : World} (h : Turn2 p q a b) (i : Nat) (v : Value) : Turn2 p q a (b.setCell ⟨q, i, none⟩ v) := by
  have g := grown_set b q i v
  exact ⟨g.os.trans h.os, g.tape.trans h.tape, g.output.trans h.output, Nat.le_trans h.size g.size, fun k hk h1 h2 => (g.block k (Nat.lt_of_lt_of_le hk h.size) (by simpa using h2)).trans (h.block k hk h1 h2)⟩

theorem turn_end {w wc w' : World} {R : Rw} {kv dv dv' : Value} {kept : List Fl} {done : List Un} {u : Un} (h : RefV w R kv dv kept done) (hl : Lie wc 83 4 dv' (done ++ [u]).length (cellsU (done ++ [u]))) (ha : Adds w wc) (h1 : ∃ C, wc.heap[w.heap.size]? = some (.cells C 36 (0, 0))) (h2 : ∃ C, wc.heap[w.heap.size + 1 + 1]? = some (.cells C 36 (0, 0))) (ht : Turn2 w.heap.size (w.heap.size + 1 + 1) wc w') :
    RefV w' R kv dv' kept (done ++ [u]) ∧ Adds w w' := by
  have hA : Adds w w' := Adds.of ⟨ht.os.trans ha.below.os, ht.tape.trans ha.below.tape, ht.output.trans ha.below.output, Nat.le_trans ha.below.size ht.size, fun i hi => (ht.block i (Nat.lt_of_lt_of_le hi ha.below.size) (by omega) (by omega)).trans (ha.below.block i hi)⟩
  obtain ⟨C1, h1⟩ := h1
  obtain ⟨C2, h2⟩ := h2
  refine ⟨⟨h.kept.adds hA, hl.keep fun b C hb => ht.block b (Array.getElem?_eq_some_iff.1 hb).1 (fun e => ?_) (fun e => ?_)⟩, hA⟩
  · rw [e, h1] at hb
    simp at hb
  · rw [e, h2] at hb
    simp at hb

theorem put_done (r : Rf) (u : Un) : (r.put u).done = r.done ++ [u] := by
  unfold Rf.put
  split
  · rfl
  · split
    · rfl
    · split <;> rfl

theorem do_rel {w Wb w7 : World} {room : Int} {kv dv : Value} {live armed : Int} {gone : Bool} {done : List Un} {u : Un} {ao7 : Option Addr} {c7 : Nat} {X : Array Value} (hA : Adds w Wb) (h1 : Wb.heap[w.heap.size]? = some (.cells #[.int .i64 room, kv, dv, .int .i64 live, .bool gone, .int .i64 armed] 36 (0, 0))) {Y : Array Value} (h2 : Wb.heap[w.heap.size + 1]? = some (.cells Y 83 (0, 0))) (h3 : Wb.heap[w.heap.size + 1 + 1]? = some (.cells X 36 (0, 0)))
    (h7 : OwnU Wb.heap.size (Value.slice ao7 ([] ++ done ++ [u]).length c7) ([] ++ done ++ [u]) Wb w7) :
    ∃ xo xc, (w7.setCell ⟨w.heap.size, 2, none⟩ (Value.slice ao7 (done.length + 1) c7)).heap[w.heap.size]? = some (.cells #[.int .i64 room, kv, Value.slice xo (done.length + 1) xc, .int .i64 live, .bool gone, .int .i64 armed] 36 (0, 0)) ∧ (w7.setCell ⟨w.heap.size, 2, none⟩ (Value.slice ao7 (done.length + 1) c7)).heap[w.heap.size + 1]? = some (.cells Y 83 (0, 0)) ∧ (w7.setCell ⟨w.heap.size, 2, none⟩ (Value.slice ao7 (done.length + 1) c7)).heap[w.heap.size + 1 + 1]? = some (.cells X 36 (0, 0)) ∧ Lie (w7.setCell ⟨w.heap.size, 2, none⟩ (Value.slice ao7 (done.length + 1) c7)) 83 4 (Value.slice xo (done.length + 1) xc) (done ++ [u]).length (cellsU (done ++ [u])) ∧ Adds w (w7.setCell ⟨w.heap.size, 2, none⟩ (Value.slice ao7 (done.length + 1) c7)) := by
  have hgs := grown_set w7 w.heap.size 2 (Value.slice ao7 (done.length + 1) c7)
  have hA7 : Adds Wb w7 := OwnU.added h7
  have b1 := hA7.at h1
  have b2 := hA7.at h2
  have b3 := hA7.at h3
  have el : ([] ++ done ++ [u]).length = done.length + 1 := by simp
  refine ⟨ao7, c7, ?_, ?_, ?_, ?_, adds_of_grown (hA.trans hA7) hgs (fun i hi => by cases hi; exact Nat.le_refl _)⟩
  · rw [heap_setCell_at _ b1 (by simp)]
    rfl
  · rw [hgs.block _ (Array.getElem?_eq_some_iff.1 b2).1 (by simp)]
    exact b2
  · rw [hgs.block _ (Array.getElem?_eq_some_iff.1 b3).1 (by simp; omega)]
    exact b3
  · have hl := lie_of_row h7.1
    rw [el, List.nil_append] at hl
    have el2 : (done ++ [u]).length = done.length + 1 := by simp
    rw [el2]
    refine hl.keep fun b C hb => hgs.block b (Array.getElem?_eq_some_iff.1 hb).1 fun e => ?_
    have e' : b = w.heap.size := by simpa using e
    rw [e', b1] at hb
    simp at hb

set_option maxHeartbeats 4000000 in
theorem refDo_any {w : World} {R : Rw} {kv dv : Value} {kept : List Fl} {r : Rf} (h : RefV w R kv dv kept r.done) (hd : r.done.length ≤ 800000) (ha : -1 ≤ r.armed) (ha' : r.armed ≤ 9223372036854775807) (u : Un) :
    Calls Tryz.prog 76 #[.agg #[.int .i64 r.room, kv, dv, .int .i64 (r.live : Int), .bool r.gone, .int .i64 r.armed], .agg #[.int .i64 u.n, .int .u8 (u.c.toNat : Int), .bool u.drop, .bool u.empty]] w fun e w' => ∃ dv', e = .returned (.agg #[.int .i64 r.room, kv, dv', .int .i64 ((r.put u).live : Int), .bool (r.put u).gone, .int .i64 (r.put u).armed]) ∧ RefV w' R kv dv' kept (r.put u).done ∧ Adds w w' := by
  have HR : Hid (RefV w R kv dv kept r.done) := h
  obtain ⟨ko, kc, rfl, _⟩ := h.kept.slice
  obtain ⟨dO, dc, rfl, _, _, _⟩ := h.done
  clear h
  obtain ⟨room, rkept, done, live, gone, armed⟩ := r
  simp only at *
  go_enter Tryz.func76, Tryz.ntmps76
  go_wp2
  obtain ⟨Wb, hWb⟩ : ∃ Wb, Wb = (((w.alloc (.cells #[.int .i64 room, Value.slice ko kept.length kc, Value.slice dO done.length dc, .int .i64 (live : Int), .bool gone, .int .i64 armed] 36)).alloc (.cells #[.int .i64 u.n, .int .u8 (u.c.toNat : Int), .bool u.drop, .bool u.empty] 83)).alloc (.cells #[.int .i64 0, .slice none 0 0, .slice none 0 0, .int .i64 0, .bool false, .int .i64 0] 36)) := ⟨_, rfl⟩
  have HAb : Hid (Adds w Wb) := by
    show Adds w Wb
    rw [hWb]
    repeat (first | with_reducible exact Adds.refl _ | with_reducible refine Adds.alloc ?_ _ | with_reducible refine Adds.more ?_ _ _ | with_reducible refine Adds.drew ?_ | with_reducible refine Adds.drewN ?_ _)
  have hb1 : Wb.heap[w.heap.size]? = some (.cells #[.int .i64 room, Value.slice ko kept.length kc, Value.slice dO done.length dc, .int .i64 (live : Int), .bool gone, .int .i64 armed] 36 (0, 0)) := by
    rw [hWb]
    exact ((Adds.refl _).alloc _).at (((Adds.refl _).alloc _).at (new_block _ _))
  have hb2 : Wb.heap[w.heap.size + 1]? = some (.cells #[.int .i64 u.n, .int .u8 (u.c.toNat : Int), .bool u.drop, .bool u.empty] 83 (0, 0)) := by
    rw [hWb]
    exact ((Adds.refl _).alloc _).at blk_new
  have hb3 : Wb.heap[w.heap.size + 1 + 1]? = some (.cells #[.int .i64 0, .slice none 0 0, .slice none 0 0, .int .i64 0, .bool false, .int .i64 0] 36 (0, 0)) := by
    rw [hWb]
    have := new_block ((w.alloc (.cells #[.int .i64 room, Value.slice ko kept.length kc, Value.slice dO done.length dc, .int .i64 (live : Int), .bool gone, .int .i64 armed] 36)).alloc (.cells #[.int .i64 u.n, .int .u8 (u.c.toNat : Int), .bool u.drop, .bool u.empty] 83)) (.cells #[.int .i64 0, .slice none 0 0, .slice none 0 0, .int .i64 0, .bool false, .int .i64 0] 36)
    simpa using this
  have HB1 : Hid (Wb.heap[w.heap.size]? = some (.cells #[.int .i64 room, Value.slice ko kept.length kc, Value.slice dO done.length dc, .int .i64 (live : Int), .bool gone, .int .i64 armed] 36 (0, 0))) := hb1
  have HB2 : Hid (Wb.heap[w.heap.size + 1]? = some (.cells #[.int .i64 u.n, .int .u8 (u.c.toNat : Int), .bool u.drop, .bool u.empty] 83 (0, 0))) := hb2
  have HB3 : Hid (Wb.heap[w.heap.size + 1 + 1]? = some (.cells #[.int .i64 0, .slice none 0 0, .slice none 0 0, .int .i64 0, .bool false, .int .i64 0] 36 (0, 0))) := hb3
  have hq0 : Wb.cell? ⟨w.heap.size + 1, 0, none⟩ = some (.int .i64 u.n) := cell_of_row Wb _ 0 _ _ _ hb2
  have hq1 : Wb.cell? ⟨w.heap.size + 1, 1, none⟩ = some (.int .u8 (u.c.toNat : Int)) := cell_of_row Wb _ 1 _ _ _ hb2
  have hq2 : Wb.cell? ⟨w.heap.size + 1, 2, none⟩ = some (.bool u.drop) := cell_of_row Wb _ 2 _ _ _ hb2
  have hq3 : Wb.cell? ⟨w.heap.size + 1, 3, none⟩ = some (.bool u.empty) := cell_of_row Wb _ 3 _ _ _ hb2
  have hy1 : Wb.cell? ⟨w.heap.size, 2, none⟩ = some (.slice dO done.length dc) := cell_of_row Wb _ 2 _ _ _ hb1
  have hw1 : w.heap.size + 1 < Wb.heap.size := (Array.getElem?_eq_some_iff.1 hb2).1
  have hw2 : w.heap.size < Wb.heap.size := (Array.getElem?_eq_some_iff.1 hb1).1
  have HLb : Hid (Lie Wb 83 4 (.slice dO done.length dc) done.length (cellsU done)) := (RefV.done HR.out).adds HAb.out
  rw [← hWb]
  clear hb1 hb2 hb3 hWb
  go_cut [5] from 5 to 12 (fun _ wc => ∃ xo xc, wc.heap[w.heap.size]? = some (.cells #[.int .i64 room, Value.slice ko kept.length kc, Value.slice xo (done.length + 1) xc, .int .i64 (live : Int), .bool gone, .int .i64 armed] 36 (0, 0)) ∧ wc.heap[w.heap.size + 1]? = some (.cells #[.int .i64 u.n, .int .u8 (u.c.toNat : Int), .bool u.drop, .bool u.empty] 83 (0, 0)) ∧ wc.heap[w.heap.size + 1 + 1]? = some (.cells #[.int .i64 0, .slice none 0 0, .slice none 0 0, .int .i64 0, .bool false, .int .i64 0] 36 (0, 0)) ∧ Lie wc 83 4 (Value.slice xo (done.length + 1) xc) (done ++ [u]).length (cellsU (done ++ [u])) ∧ Adds w wc)
  case first =>
    go_region_law (first
      | (refine unitRow_step (v := .slice (some ⟨_, 0, none⟩) 0 0) (l := []) (m := done) rfl (.tmp 5) (.tmp 7) rfl (by first | exact own93_at (by repeat (first | with_reducible exact Adds.refl _ | with_reducible refine Adds.alloc ?_ _ | with_reducible refine Adds.more ?_ _ _ | with_reducible refine Adds.drew ?_ | with_reducible refine Adds.drewN ?_ _)) (Nat.le_refl _) (new_block _ _) | exact own93_at (by repeat (first | with_reducible exact Adds.refl _ | with_reducible refine Adds.alloc ?_ _ | with_reducible refine Adds.more ?_ _ _ | with_reducible refine Adds.drew ?_ | with_reducible refine Adds.drewN ?_ _)) (Nat.le_refl _) blk_old | exact own93_at (by repeat (first | with_reducible exact Adds.refl _ | with_reducible refine Adds.alloc ?_ _ | with_reducible refine Adds.more ?_ _ _ | with_reducible refine Adds.drew ?_ | with_reducible refine Adds.drewN ?_ _)) (Nat.le_succ _) blk_new) rfl (HLb.out.adds (by repeat (first | with_reducible exact Adds.refl _ | with_reducible refine Adds.alloc ?_ _ | with_reducible refine Adds.more ?_ _ _ | with_reducible refine Adds.drew ?_ | with_reducible refine Adds.drewN ?_ _))) rfl (by simp; omega) ?_; intro v6 w6 h6 g6; have x60 : w6.cell? ⟨w.heap.size + 1, 0, none⟩ = some (.int .i64 u.n) := (World.cell?_of_block ((OwnU.added h6).below.block _ hw1)).trans hq0; have x61 : w6.cell? ⟨w.heap.size + 1, 1, none⟩ = some (.int .u8 (u.c.toNat : Int)) := (World.cell?_of_block ((OwnU.added h6).below.block _ hw1)).trans hq1; have x62 : w6.cell? ⟨w.heap.size + 1, 2, none⟩ = some (.bool u.drop) := (World.cell?_of_block ((OwnU.added h6).below.block _ hw1)).trans hq2; have x63 : w6.cell? ⟨w.heap.size + 1, 3, none⟩ = some (.bool u.empty) := (World.cell?_of_block ((OwnU.added h6).below.block _ hw1)).trans hq3; have HQ6 : Hid _ := g6.block; clear g6)
      | (refine unitRow_step (l := [] ++ done) (m := [u]) rfl (.tmp 8) (.tmp 10) rfl (h6.adds (by repeat (first | with_reducible exact Adds.refl _ | with_reducible refine Adds.alloc ?_ _ | with_reducible refine Adds.more ?_ _ _ | with_reducible refine Adds.drew ?_ | with_reducible refine Adds.drewN ?_ _))) rfl (by first | exact lie_at (new_block _ _) | exact lie_at ((HQ6.out _ (by first | (simp; done) | (simp; omega)) (by simp [Value.ownBlock])).trans blk_new) | exact lie_at ((HQ6.out _ (by first | (simp; done) | (simp; omega)) (by simp [Value.ownBlock])).trans blk_old)) rfl (by simp; omega) ?_; intro v7 w7 h7 g7; obtain ⟨ao7, c7, rfl, hc7⟩ := row_slice_any h7.1; have hb7 := (OwnU.added h7).at HB1.out; have y7 : w7.cell? ⟨w.heap.size, 2, none⟩ = some (.slice dO done.length dc) := cell_of_row w7 _ 2 _ _ _ hb7; have z7 : w7.frozen? ⟨w.heap.size, 2, none⟩ = false := frozen_of hb7))
    all_goals
      go_wp2
      go_meet
      case rel => exact do_rel HAb.out HB1.out HB2.out HB3.out h7
  case rest =>
    obtain ⟨xo, xc, hc1, hc2, hc3, hlc, hAc⟩ := hcut
    have HC : Hid (Lie wc 83 4 (Value.slice xo (done.length + 1) xc) (done ++ [u]).length (cellsU (done ++ [u])) ∧ Adds w wc) := ⟨hlc, hAc⟩
    have c0 : wc.cell? ⟨w.heap.size, 0, none⟩ = some (.int .i64 room) := cell_of_row wc _ 0 _ _ _ hc1
    have c1 : wc.cell? ⟨w.heap.size, 1, none⟩ = some (.slice ko kept.length kc) := cell_of_row wc _ 1 _ _ _ hc1
    have c2 : wc.cell? ⟨w.heap.size, 2, none⟩ = some (.slice xo (done.length + 1) xc) := cell_of_row wc _ 2 _ _ _ hc1
    have c3 : wc.cell? ⟨w.heap.size, 3, none⟩ = some (.int .i64 (live : Int)) := cell_of_row wc _ 3 _ _ _ hc1
    have c4 : wc.cell? ⟨w.heap.size, 4, none⟩ = some (.bool gone) := cell_of_row wc _ 4 _ _ _ hc1
    have c5 : wc.cell? ⟨w.heap.size, 5, none⟩ = some (.int .i64 armed) := cell_of_row wc _ 5 _ _ _ hc1
    have hu3 : wc.cell? ⟨w.heap.size + 1, 3, none⟩ = some (.bool u.empty) := cell_of_row wc _ 3 _ _ _ hc2
    have f1 : ∀ i, wc.frozen? ⟨w.heap.size, i, none⟩ = false := fun i => frozen_of hc1
    have f3 : ∀ i, wc.frozen? ⟨w.heap.size + 1 + 1, i, none⟩ = false := fun i => frozen_of hc3
    have d0 : wc.cell? ⟨w.heap.size + 1 + 1, 0, none⟩ = some (.int .i64 0) := cell_of_row wc _ 0 _ _ _ hc3
    have d1 : wc.cell? ⟨w.heap.size + 1 + 1, 1, none⟩ = some (.slice none 0 0) := cell_of_row wc _ 1 _ _ _ hc3
    have d2 : wc.cell? ⟨w.heap.size + 1 + 1, 2, none⟩ = some (.slice none 0 0) := cell_of_row wc _ 2 _ _ _ hc3
    have d3 : wc.cell? ⟨w.heap.size + 1 + 1, 3, none⟩ = some (.int .i64 0) := cell_of_row wc _ 3 _ _ _ hc3
    have d4 : wc.cell? ⟨w.heap.size + 1 + 1, 4, none⟩ = some (.bool false) := cell_of_row wc _ 4 _ _ _ hc3
    have d5 : wc.cell? ⟨w.heap.size + 1 + 1, 5, none⟩ = some (.int .i64 0) := cell_of_row wc _ 5 _ _ _ hc3
    have HK : Hid ((∃ C, wc.heap[w.heap.size]? = some (.cells C 36 (0, 0))) ∧ ∃ C, wc.heap[w.heap.size + 1 + 1]? = some (.cells C 36 (0, 0))) := ⟨⟨_, hc1⟩, ⟨_, hc3⟩⟩
    clear hq0 hq1 hq2 hq3 hy1 hlc hAc hc1 hc2 hc3
    cases gone
    · cases hue : u.empty
      · rw [hue] at hu3
        by_cases h0 : armed = 0
        · subst h0
          go_wp2
          refine bodyPost_ret (v := .agg #[.int .i64 room, .slice ko kept.length kc, .slice xo (done.length + 1) xc, .int .i64 (live : Int), .bool true, .int .i64 0]) (by simp [results, Tryz.results76, go_sem, d0, d1, d2, d3, d4, d5]) rfl ⟨.slice xo (done.length + 1) xc, by simp [Rf.put, hue], ?_⟩
          rw [put_done]
          exact turn_end HR.out HC.out.1 HC.out.2 HK.out.1 HK.out.2 (by repeat (first | with_reducible exact Turn2.refl _ _ _ | with_reducible refine Turn2.set1 ?_ _ _ | with_reducible refine Turn2.set2 ?_ _ _))
        · by_cases hp : 0 < armed
          · go_wp2
            refine bodyPost_ret (v := .agg #[.int .i64 room, .slice ko kept.length kc, .slice xo (done.length + 1) xc, .int .i64 ((done.length + 1 : Nat) : Int), .bool false, .int .i64 (armed - 1)]) (by simp [results, Tryz.results76, go_sem, d0, d1, d2, d3, d4, d5]) rfl ⟨.slice xo (done.length + 1) xc, by simp [Rf.put, hue, h0, hp], ?_⟩
            rw [put_done]
            exact turn_end HR.out HC.out.1 HC.out.2 HK.out.1 HK.out.2 (by repeat (first | with_reducible exact Turn2.refl _ _ _ | with_reducible refine Turn2.set1 ?_ _ _ | with_reducible refine Turn2.set2 ?_ _ _))
          · go_wp2
            refine bodyPost_ret (v := .agg #[.int .i64 room, .slice ko kept.length kc, .slice xo (done.length + 1) xc, .int .i64 ((done.length + 1 : Nat) : Int), .bool false, .int .i64 armed]) (by simp [results, Tryz.results76, go_sem, d0, d1, d2, d3, d4, d5]) rfl ⟨.slice xo (done.length + 1) xc, by simp [Rf.put, hue, h0]; omega, ?_⟩
            rw [put_done]
            exact turn_end HR.out HC.out.1 HC.out.2 HK.out.1 HK.out.2 (by repeat (first | with_reducible exact Turn2.refl _ _ _ | with_reducible refine Turn2.set1 ?_ _ _ | with_reducible refine Turn2.set2 ?_ _ _))
      · rw [hue] at hu3
        go_wp2
        refine bodyPost_ret (v := .agg #[.int .i64 room, .slice ko kept.length kc, .slice xo (done.length + 1) xc, .int .i64 ((done.length + 1 : Nat) : Int), .bool false, .int .i64 armed]) (by simp [results, Tryz.results76, go_sem, d0, d1, d2, d3, d4, d5]) rfl ⟨.slice xo (done.length + 1) xc, by simp [Rf.put, hue], ?_⟩
        rw [put_done]
        exact turn_end HR.out HC.out.1 HC.out.2 HK.out.1 HK.out.2 (by repeat (first | with_reducible exact Turn2.refl _ _ _ | with_reducible refine Turn2.set1 ?_ _ _ | with_reducible refine Turn2.set2 ?_ _ _))
    · go_wp2
      refine bodyPost_ret (v := .agg #[.int .i64 room, .slice ko kept.length kc, .slice xo (done.length + 1) xc, .int .i64 (live : Int), .bool true, .int .i64 armed]) (by simp [results, Tryz.results76, go_sem, d0, d1, d2, d3, d4, d5]) rfl ⟨.slice xo (done.length + 1) xc, by simp [Rf.put], ?_⟩
      rw [put_done]
      exact turn_end HR.out HC.out.1 HC.out.2 HK.out.1 HK.out.2 (by repeat (first | with_reducible exact Turn2.refl _ _ _ | with_reducible refine Turn2.set1 ?_ _ _ | with_reducible refine Turn2.set2 ?_ _ _))

end Go.Proofs.YtelkkpomehgcjaaGreat
