/-
  The function Delete of package slices, of one subscription, by contract. Close of package feed, by contract.
-/
import Derived.Test.YtpjhohmbifpogaaMopg
import Derived.Lib.SliceRun
import Derived.Test.YtpjhohmbifpogaaMaca
namespace Go.Proofs.Ytpjhohmbifpogaa
open Go.RowKit
attribute [local go_sem] cell?_more frozen?_more setCell_more size_more tape_more drew_more drewN_more more_drew more_drewN one_out plus_out plus_end lt_one le_p2 le_p3 le_p4 le_p5 le_p6 le_p7 le_p8 le_p9 le_p10 le_p11 le_p12 le_p13 le_p14 le_p15 le_p16 le_p17 le_p18 le_p19 le_p20 le_p21 le_p22 le_p23 le_p24 le_q0 le_q1 lt_q1 le_q2 lt_q2 le_q3 lt_q3 le_q4 lt_q4 le_q5 lt_q5 le_q6 lt_q6 le_q7 lt_q7 le_q8 lt_q8 le_q9 lt_q9 le_q10 lt_q10 le_q11 lt_q11 le_q12 lt_q12 le_q13 lt_q13 le_q14 lt_q14 le_q15 lt_q15 le_q16 lt_q16 le_q17 lt_q17 le_q18 lt_q18 le_q19 lt_q19 le_q20 lt_q20 le_q21 lt_q21 le_q22 lt_q22 le_q23 lt_q23 le_q24 lt_q24

theorem run_append_in (w : World) (ty : TypeId) (g i cap : Nat) (a : Addr) (m c : Nat) (cur : Array Value) (cs : List Value)
    (hg : w.heap[g]? = some (.cells cur 43 (0, 0))) (hroom : i + m ≤ cap) (hn : cs.length = m * 2)
    (hsrc : ∀ j v, cs[j]? = some v → w.cell? (a.add j) = some v) (hfit : i * 2 + cs.length ≤ cur.size) (h1 : ∀ v ∈ cs, v.oneCell' = true) :
    (Builtin.append_ #[23, 23] ty #[.slice (some ⟨g, 0, none⟩) i cap, .slice (some a) m c]).run Try.prog w =
      .ok (.slice (some ⟨g, 0, none⟩) (i + m) cap) (w.setRow g (over cur.toList (i * 2) cs).toArray) := by
  have hl := run_loadCells_list (P := Try.prog) w a cs hsrc
  have hst := run_storeCells_at Try.prog g (i * 2) 43 cs 0 cur w hg (by simpa using hfit) h1
  obtain ⟨i0, hi, hz0, hz1, hz2⟩ := info_parts Try.info43
  rw [hn] at hl
  have ha : (⟨g, 0, none⟩ : Addr).add (i * 2) = ⟨g, i * 2, none⟩ := by rw [Addr.add_lit]; simp
  simp [Builtin.append_, run_underlying Try.underlying23, Builtin.lenOf, Builtin.firstCells, sizeOf, typeInfo, hi, hz1, hl, hroom, over]
  rw [ha, hst]
  simp

theorem run_clear_one (w : World) (ty : TypeId) (g o c : Nat) (cur : Array Value) (hg : w.heap[g]? = some (.cells cur 43 (0, 0))) (hfit : o + 2 ≤ cur.size) :
    (Builtin.clear_ #[23] ty #[.slice (some ⟨g, o, none⟩) 1 c]).run Try.prog w = .ok (.tuple #[]) (w.setRow g (over cur.toList o [.string ⟨#[]⟩, .int .i64 0]).toArray) := by
  have hst := run_storeCells_at Try.prog g o 43 [.string ⟨#[]⟩, .int .i64 0] 0 cur w hg (by simpa using hfit) (by simp [Value.oneCell'])
  obtain ⟨i0, hi, hz0, hz1, hz2⟩ := info_parts Try.info43
  have hzc : (Builtin.zeroCells (Value.agg #[.string ⟨#[]⟩, .int .i64 0]).cells 1).toList = [.string ⟨#[]⟩, .int .i64 0] := by simp [Builtin.zeroCells, Value.cells, List.range_succ]
  simp [Builtin.clear_, run_underlying Try.underlying23, zeroValue, typeInfo, hi, hz0, hzc, hst, over]

theorem over_cut (C Y V : List Value) (a : Nat) (hr : a + Y.length + V.length ≤ C.length) : (over (over C a Y) (a + Y.length) V).take (a + Y.length) = C.take a ++ Y := by
  have h1 : (over C a Y).take (a + Y.length) = C.take a ++ Y := by
    unfold over
    rw [List.take_append_of_le_length (by simp; omega), List.take_of_length_le (by simp; omega)]
  show (List.take (a + Y.length) (over C a Y) ++ V ++ _).take _ = _
  rw [h1, List.append_assoc, List.take_append_of_le_length (by simp; omega), List.take_of_length_le (by simp; omega)]

theorem step_append_run {ops : Array Oper} {o : Oper} {a : Act} {w : World} {K : Act → World → Prop} {Q : Exit → Act → World → Prop} {E : Prop}
    (hg : o.guard = none) (d x : Operand) (hop : o.op = Op.call { callee := Callee.builtin Builtin.append, args := #[d, x], argTypes := #[23, 23] })
    (v u : Value) (hd : a.eval d = v) (hx : a.eval x = u) {v' : Value} {w' : World} (hr : (Builtin.append_ #[23, 23] o.type #[v, u]).run Try.prog w = .ok v' w') (hK : K (a.put o.dst v') w') :
    if Region.wanted o (yielded ops a.tmps) = true then Oper.wp Try.prog o a w K Q else E := by
  rw [if_pos (by simp [Region.wanted, hg])]
  exact Lib.wp_append_run w d x 23 23 hop v u hd hx _ _ hr hK

set_option maxHeartbeats 2000000 in
set_option maxRecDepth 20000 in
theorem delete_walk (g cap n i : Nat) (w W1 W2 : World) (hnc : n ≤ cap) (hl : i + 1 < n) (_hcm : cap ≤ 9223372036854775807)
    (ha : ∀ ty c, (Builtin.append_ #[23, 23] ty #[.slice (some ⟨g, 0, none⟩) i cap, .slice (some ⟨g, (i + 1) * 2, none⟩) (n - (i + 1)) c]).run Try.prog w.drew = .ok (.slice (some ⟨g, 0, none⟩) (n - 1) cap) W1)
    (hcl : ∀ ty c, (Builtin.clear_ #[23] ty #[.slice (some ⟨g, (n - 1) * 2, none⟩) (n - (n - 1)) c]).run Try.prog W1 = .ok (.tuple #[]) W2) :
    Calls Try.prog 43 #[.slice (some ⟨g, 0, none⟩) n cap, .int .i64 (i : Nat), .int .i64 ((i : Int) + 1)] w fun e w' => e = .returned (.slice (some ⟨g, 0, none⟩) (n - 1) cap) ∧ w' = W2 := by
  have hq1 : (i : Int) ≤ (n : Int) := by omega
  have hq2 : (i : Int) + 1 ≤ (n : Int) := by omega
  have hq3 : (n : Int) ≤ (cap : Int) := by omega
  have hq4 : (0 : Int) ≤ (i : Int) + 1 := by omega
  have htn : ((i : Int) + 1).toNat = i + 1 := by omega
  have hne : ¬ (i : Int) = (i : Int) + 1 := by omega
  have hc1 : ¬ cap = i + 1 := by omega
  have hz : i ≤ cap := by omega
  have hz2 : n - 1 ≤ cap := by omega
  have hz3 : ¬ cap = n - 1 := by omega
  go_enter Try.func43, Try.ntmps43
  go_wp2_with fail
  go_region_law (refine step_append_run rfl (.tmp 22) (.tmp 25) rfl (.slice (some ⟨g, 0, none⟩) i cap) (.slice (some ⟨g, (i + 1) * 2, none⟩) (n - (i + 1)) (cap - (i + 1))) (by simp [Act.eval, Act.put]) (by simp [Act.eval, Act.put]) (ha _ _) ?_)
  go_wp2
  go_ret
  exact ⟨rfl, rfl⟩

theorem run_append_none (w : World) (ty : TypeId) (g i cap c : Nat) (a : Addr) (hroom : i ≤ cap) : (Builtin.append_ #[23, 23] ty #[.slice (some ⟨g, 0, none⟩) i cap, .slice (some a) 0 c]).run Try.prog w = .ok (.slice (some ⟨g, 0, none⟩) i cap) w := by
  obtain ⟨i0, hi, hz0, hz1, hz2⟩ := info_parts Try.info43
  simp [Builtin.append_, run_underlying Try.underlying23, sizeOf, typeInfo, hi, Builtin.lenOf, Builtin.firstCells, loadCells, loadCellsFrom, hroom, storeCells]

set_option maxHeartbeats 2000000 in
set_option maxRecDepth 20000 in
theorem delete_last (g cap i : Nat) (w W2 : World) (hnc : i + 1 ≤ cap) (hcm : cap ≤ 9223372036854775807)
    (hcl : ∀ ty c, (Builtin.clear_ #[23] ty #[.slice (some ⟨g, i * 2, none⟩) 1 c]).run Try.prog w.drew = .ok (.tuple #[]) W2) :
    Calls Try.prog 43 #[.slice (some ⟨g, 0, none⟩) (i + 1) cap, .int .i64 (i : Nat), .int .i64 ((i : Int) + 1)] w fun e w' => e = .returned (.slice (some ⟨g, 0, none⟩) i cap) ∧ w' = W2 := by
  have hq3 : ((i : Int) + 1) ≤ (cap : Int) := by omega
  have hq5 : (i : Int) ≤ (i : Int) + 1 := by omega
  have hq4 : (0 : Int) ≤ (i : Int) + 1 := by omega
  have htn : ((i : Int) + 1).toNat = i + 1 := by omega
  have hne : ¬ (i : Int) = (i : Int) + 1 := by omega
  have hz : i ≤ cap := by omega
  have hz3 : ¬ cap = i := by omega
  by_cases hc1 : cap = i + 1
  · subst hc1
    go_enter Try.func43, Try.ntmps43
    go_wp2_with fail
    go_region_law (refine step_append_run rfl (.tmp 22) (.tmp 25) rfl (.slice (some ⟨g, 0, none⟩) i (i + 1)) (.slice (some ⟨g, 0, none⟩) 0 0) (by simp [Act.eval, Act.put]) (by simp [Act.eval, Act.put]) (run_append_none _ _ g i (i + 1) 0 ⟨g, 0, none⟩ hz) ?_)
    go_wp2
    go_ret
    exact ⟨rfl, rfl⟩
  · go_enter Try.func43, Try.ntmps43
    go_wp2_with fail
    go_region_law (refine step_append_run rfl (.tmp 22) (.tmp 25) rfl (.slice (some ⟨g, 0, none⟩) i cap) (.slice (some ⟨g, (i + 1) * 2, none⟩) 0 (cap - (i + 1))) (by simp [Act.eval, Act.put]) (by simp [Act.eval, Act.put]) (run_append_none _ _ g i cap _ _ hz) ?_)
    go_wp2
    go_ret
    exact ⟨rfl, rfl⟩

theorem cells_del (ss : List Sb) (i : Nat) (hi : i < ss.length) (cur : Array Value) (htk : cur.toList.take (ss.length * 2) = cellsS ss) : cur.toList.take (i * 2) = cellsS (ss.take i) := by
  have h1 : cellsS ss = cellsS (ss.take i) ++ cellsS (ss.drop i) := by rw [← cellsS_append, List.take_append_drop]
  have h2 : (cur.toList.take (ss.length * 2)).take (i * 2) = cur.toList.take (i * 2) := by rw [List.take_take, Nat.min_eq_left (by omega)]
  rw [← h2, htk, h1, List.take_append_of_le_length (by rw [cellsS_length, List.length_take]; omega), List.take_of_length_le (by rw [cellsS_length, List.length_take]; omega)]

theorem delete_one (B : Nat) (v : Value) (ss : List Sb) (W0 w : World) (h : OwnS B v ss W0 w) (i : Nat) (hi : i < ss.length) :
    Calls Try.prog 43 #[v, .int .i64 (i : Nat), .int .i64 ((i : Int) + 1)] w fun e w' => ∃ v', e = .returned v' ∧ OwnS B v' (ss.take i ++ ss.drop (i + 1)) W0 w' ∧ w.grownBy w' v.ownBlock := by
  rcases h.1.2 with ⟨_, h0⟩ | ⟨g, cap, cur, rfl, hB, hg, hnc, hcm, hcs, htk⟩
  · omega
  have hcl : cur.toList.length = cap * 2 := by rw [← hcs]; simp
  have hcm' : cap ≤ 9223372036854775807 := by unfold maxLen at hcm; omega
  have hlen : (ss.take i ++ ss.drop (i + 1)).length = ss.length - 1 := by
    rw [List.length_append, List.length_take, List.length_drop]
    omega
  have hgd : w.drew.heap[g]? = some (.cells cur 43 (0, 0)) := hg
  have fin : ∀ (W2 : World) (C2 : Array Value), W2.heap[g]? = some (.cells C2 43 (0, 0)) → w.grownBy W2 (some g) → C2.size = cap * 2 → C2.toList.take ((ss.length - 1) * 2) = cellsS (ss.take i ++ ss.drop (i + 1)) → OwnS B (.slice (some ⟨g, 0, none⟩) (ss.length - 1) cap) (ss.take i ++ ss.drop (i + 1)) W0 W2 := by
    intro W2 C2 h1 h2 h3 h4
    refine ⟨⟨by rw [cellsS_length], .inr ⟨g, cap, C2, by rw [hlen], hB, h1, by omega, hcm, h3, by rw [hlen]; exact h4⟩⟩, ?_, Nat.le_trans h.2.2 h2.size⟩
    refine h.2.1.trans ⟨h2.os, h2.tape, h2.output, h2.size, fun t ht => ?_⟩
    have hw : B ≤ w.heap.size := h.2.2
    exact h2.block t (by omega) (by simp; omega)
  by_cases hl : i + 1 < ss.length
  · have hdl : (cellsS (ss.drop (i + 1))).length = (ss.length - (i + 1)) * 2 := by rw [cellsS_length, List.length_drop]
    have hsrc : ∀ j v, (cellsS (ss.drop (i + 1)))[j]? = some v → w.drew.cell? ((⟨g, (i + 1) * 2, none⟩ : Addr).add j) = some v := by
      intro j v hj
      rw [Addr.add_lit]
      show w.cell? _ = _
      rw [cell_of_row w g _ _ _ _ hg, ← Array.getElem?_toList]
      have e : (cellsS ss)[(i + 1) * 2 + j]? = some v := by
        rw [← List.take_append_drop (i + 1) ss, cellsS_append, List.getElem?_append_right (by rw [cellsS_length, List.length_take]; omega), cellsS_length, List.length_take, Nat.min_eq_left (by omega)]
        rw [show (i + 1) * 2 + j - (i + 1) * 2 = j by omega]
        exact hj
      rw [← htk, List.getElem?_take] at e
      split at e
      · exact e
      · cases e
    obtain ⟨C1, hC1⟩ : ∃ C1 : Array Value, C1 = (over cur.toList (i * 2) (cellsS (ss.drop (i + 1)))).toArray := ⟨_, rfl⟩
    have ha : ∀ ty c, (Builtin.append_ #[23, 23] ty #[.slice (some ⟨g, 0, none⟩) i cap, .slice (some ⟨g, (i + 1) * 2, none⟩) (ss.length - (i + 1)) c]).run Try.prog w.drew = .ok (.slice (some ⟨g, 0, none⟩) (ss.length - 1) cap) (w.drew.setRow g C1) := fun ty c => by
      rw [run_append_in w.drew ty g i cap ⟨g, (i + 1) * 2, none⟩ _ c cur _ hgd (by omega) hdl hsrc (by rw [hdl, hcs]; omega) (cellsS_one _), hC1, show i + (ss.length - (i + 1)) = ss.length - 1 by omega]
    have hg1 : (w.drew.setRow g C1).heap[g]? = some (.cells C1 43 (0, 0)) := setRow_heap w.drew g cur _ 43 _ hgd
    have hl1 : C1.size = cap * 2 := by rw [hC1, List.size_toArray, over_length _ _ _ (by rw [hdl, hcl]; omega), hcl]
    have hcl1 : C1.toList.length = cap * 2 := by rw [← hl1]; simp
    obtain ⟨C2, hC2⟩ : ∃ C2 : Array Value, C2 = (over C1.toList ((ss.length - 1) * 2) [.string ⟨#[]⟩, .int .i64 0]).toArray := ⟨_, rfl⟩
    have hcr : ∀ ty c, (Builtin.clear_ #[23] ty #[.slice (some ⟨g, (ss.length - 1) * 2, none⟩) (ss.length - (ss.length - 1)) c]).run Try.prog (w.drew.setRow g C1) = .ok (.tuple #[]) ((w.drew.setRow g C1).setRow g C2) := fun ty c => by
      rw [show ss.length - (ss.length - 1) = 1 by omega, run_clear_one _ ty g _ c C1 hg1 (by omega), hC2]
    have hG : w.grownBy ((w.drew.setRow g C1).setRow g C2) (some g) := by
      have k1 := setRow_grown w.drew g C1
      have k2 := setRow_grown (w.drew.setRow g C1) g C2
      exact ⟨k2.os.trans k1.os, k2.tape.trans k1.tape, k2.output.trans k1.output, Nat.le_trans k1.size k2.size, fun t ht hne => (k2.block t (Nat.lt_of_lt_of_le ht k1.size) hne).trans (k1.block t ht hne)⟩
    have hg2 : ((w.drew.setRow g C1).setRow g C2).heap[g]? = some (.cells C2 43 (0, 0)) := setRow_heap _ g C1 _ 43 _ hg1
    refine (delete_walk g cap ss.length i w _ _ hnc hl hcm' ha hcr).mono ?_
    rintro e w' ⟨rfl, rfl⟩
    refine ⟨_, rfl, fin _ C2 hg2 hG ?_ ?_, hG⟩
    · rw [hC2, List.size_toArray, over_length _ _ _ (by rw [hcl1]; simp; omega), hcl1]
    · have := over_cut cur.toList (cellsS (ss.drop (i + 1))) [.string ⟨#[]⟩, .int .i64 0] (i * 2) (by rw [hdl, hcl]; simp; omega)
      rw [hdl, show i * 2 + (ss.length - (i + 1)) * 2 = (ss.length - 1) * 2 by omega] at this
      rw [cellsS_append, ← cells_del ss i hi cur htk, hC2, hC1]
      exact this
  · have hn : ss.length = i + 1 := by omega
    obtain ⟨C2, hC2⟩ : ∃ C2 : Array Value, C2 = (over cur.toList (i * 2) [.string ⟨#[]⟩, .int .i64 0]).toArray := ⟨_, rfl⟩
    have hcr : ∀ ty c, (Builtin.clear_ #[23] ty #[.slice (some ⟨g, i * 2, none⟩) 1 c]).run Try.prog w.drew = .ok (.tuple #[]) (w.drew.setRow g C2) := fun ty c => by
      rw [run_clear_one _ ty g _ c cur hgd (by omega), hC2]
    have k1 := setRow_grown w.drew g C2
    have hG : w.grownBy (w.drew.setRow g C2) (some g) := ⟨k1.os, k1.tape, k1.output, k1.size, k1.block⟩
    have hg2 : (w.drew.setRow g C2).heap[g]? = some (.cells C2 43 (0, 0)) := setRow_heap _ g cur _ 43 _ hgd
    have hk := fin (w.drew.setRow g C2) C2 hg2 hG (by rw [hC2, List.size_toArray, over_length _ _ _ (by rw [hcl]; simp; omega), hcl]) (by
      rw [show ss.length - 1 = i by omega, List.drop_of_length_le (by omega), List.append_nil, ← cells_del ss i hi cur htk, hC2]
      show (List.take (i * 2) cur.toList ++ _ ++ _).take _ = _
      rw [List.append_assoc, List.take_append_of_le_length (by simp; omega), List.take_of_length_le (by simp; omega)])
    rw [show ss.length - 1 = i by omega] at hk
    rw [hn]
    refine (delete_last g cap i w _ (by omega) hcm' hcr).mono ?_
    rintro e w' ⟨rfl, rfl⟩
    exact ⟨_, rfl, hk, hG⟩

end Go.Proofs.Ytpjhohmbifpogaa

namespace Go.Proofs.Ytpjhohmbifpogaa
open Go.RowKit
attribute [local go_sem] cell?_more frozen?_more setCell_more size_more tape_more drew_more drewN_more more_drew more_drewN one_out plus_out plus_end lt_one le_p2 le_p3 le_p4 le_p5 le_p6 le_p7 le_p8 le_p9 le_p10 le_p11 le_p12 le_p13 le_p14 le_p15 le_p16 le_p17 le_p18 le_p19 le_p20 le_p21 le_p22 le_p23 le_p24 le_q0 le_q1 lt_q1 le_q2 lt_q2 le_q3 lt_q3 le_q4 lt_q4 le_q5 lt_q5 le_q6 lt_q6 le_q7 lt_q7 le_q8 lt_q8 le_q9 lt_q9 le_q10 lt_q10 le_q11 lt_q11 le_q12 lt_q12 le_q13 lt_q13 le_q14 lt_q14 le_q15 lt_q15 le_q16 lt_q16 le_q17 lt_q17 le_q18 lt_q18 le_q19 lt_q19 le_q20 lt_q20 le_q21 lt_q21 le_q22 lt_q22 le_q23 lt_q23 le_q24 lt_q24

theorem delete_box {Y : World} {os2 : Array Obj} {n2 : Nat} {w : World} (c : Array Value) {B : Nat} {s : Value} {rs : List Rh} {W0 W1 : World} (hH : OwnH B s rs W0 (more Y os2 n2)) {uo : Option Addr} {n uc : Nat} {ss : List Sb} (hS : OwnS B (.slice uo n uc) ss W1 (more Y os2 n2)) (hn : ss.length = n) (hw : Adds ((more Y os2 n2).alloc (.cells c 25)) w) (hYB : Y.heap.size ≤ B) (i : Nat) (hi : i < n) :
    Calls Try.prog 43 #[.slice uo n uc, .int .i64 (i : Nat), .int .i64 ((i : Int) + 1)] w fun e w' => ∃ vo vc os2' os d, e = .returned (.slice vo (n - 1) vc) ∧ os2'.size = os2.size ∧ Hid (∀ c', OwnH B s rs (more ((more Y os2' n2).alloc (.cells c' 25)) os d) (more ((more Y os2' n2).alloc (.cells c' 25)) os d) ∧ OwnS B (.slice vo (n - 1) vc) (ss.take i ++ ss.drop (i + 1)) (more ((more Y os2' n2).alloc (.cells c' 25)) os d) (more ((more Y os2' n2).alloc (.cells c' 25)) os d)) ∧ w' = more ((more Y os2' n2).alloc (.cells c 25)) os d := by
  subst hn
  have hlt := hS.1.lt
  have hA0 : Adds (more Y os2 n2) w := ((Adds.refl _).alloc _).trans hw
  have hS' := hS.adds hA0
  have hH' := hH.adds hA0
  refine (delete_one B _ ss W1 w hS' i hi).mono ?_
  rintro e w' ⟨v', rfl, h1, h2⟩
  have hH2 := hH'.grown hS'.1 h2
  obtain ⟨os2', os, d, hz, rfl⟩ := grown_split hw h2 hlt hYB
  obtain ⟨vo, vc, rfl, _, _⟩ := h1.lst
  have hl : (ss.take i ++ ss.drop (i + 1)).length = ss.length - 1 := by
    rw [List.length_append, List.length_take, List.length_drop]
    omega
  rw [hl] at h1 ⊢
  exact ⟨vo, vc, os2', os, d, rfl, hz, fun c' => ⟨hH2.box c', h1.box c'⟩, rfl⟩

set_option maxHeartbeats 4000000 in
set_option maxRecDepth 20000 in
theorem close_ok (v : Value) (f : Fd) (name : ByteArray) (w : World) (h : LstF w v f) (hM : MayF f) (hc : f.ch.length ≤ 1000) (hd : ∀ d ∈ f.ch, d.doc.length ≤ 1000) (hn : hasAt name f.sb = true) (at_ : Nat) (hcc : cutAt name f.sb = at_) (hlt : at_ < f.sb.length) :
    Calls Try.prog 20 #[v, .string name] w fun e w' => (∃ vo vc uo uc, e = .returned (.tuple #[.agg #[.int .i64 f.base, .int .i64 f.total, .slice vo f.ch.length vc, .slice uo (f.sb.length - 1) uc], .int .i64 0]) ∧ Hid (LstH w' (.slice vo f.ch.length vc) f.ch ∧ LstS w' (.slice uo (f.sb.length - 1) uc) (f.sb.take at_ ++ f.sb.drop (at_ + 1)))) ∧ Adds w w' := by
  have kC := fun w' (hA : Adds w w') => checkF_any v f w' (h.adds hA) hc
  rw [err_ok hM] at kC
  obtain ⟨s, t, rfl, hs, ht⟩ := h
  obtain ⟨base, total, ch, sb⟩ := f
  simp only at *
  have hs6 : sb.length ≤ 1000 := Nat.le_trans hM.2.2.2.2.2.1 (by omega)
  have kO := fun w' (hA : Adds w w') => copyOf_row base total s t ch sb w' (hs.adds hA) (ht.adds hA) hc hd hs6
  have kF := fun u w' (hu : LstS w' u sb) => find_any u sb name w' hu hs6 (subsc_climbs hM.2.2.2.2.2)
  rw [hn, hcc] at kF
  have hw1 : IntKind.i64.wrap ((at_ : Int) + 1) = (at_ : Int) + 1 := by rw [IntKind.wrap_i64]; omega
  clear hcc hd hM hs ht hn
  go_enter Try.func20, Try.ntmps20
  go_wp2_with (first
    | (go_at_call 13; refine (kC _ (by repeat (first | with_reducible exact Adds.refl _ | with_reducible refine Adds.alloc ?_ _ | with_reducible refine Adds.more ?_ _ _ | with_reducible refine Adds.drew ?_ | with_reducible refine Adds.drewN ?_ _))).mono ?_; rintro e w1 ⟨rfl, os1, n1, rfl⟩)
    | (go_at_call 31; refine (kO _ (by repeat (first | with_reducible exact Adds.refl _ | with_reducible refine Adds.alloc ?_ _ | with_reducible refine Adds.more ?_ _ _ | with_reducible refine Adds.drew ?_ | with_reducible refine Adds.drewN ?_ _))).mono ?_; rintro e w2 ⟨⟨v2, c2, u2, d2, rs, rfl, H2⟩, os2, n2, rfl⟩)
    | (go_at_call 40; refine (kF _ _ (OwnS.far H2.out.2.2 (by repeat (first | with_reducible exact Far.refl _ _ | with_reducible refine Far.mores ?_ (by simp [go_sem]) _ _ _ | with_reducible refine Far.allocs ?_ (by simp [go_sem]) _ | with_reducible refine Far.low ?_ (by simp [go_sem]) (by simp [go_sem] <;> omega) _ _ | with_reducible refine Far.more ?_ _ _ | with_reducible refine Far.alloc ?_ _)) (Nat.le_refl _)).lst).mono ?_; rintro e w3 ⟨rfl, os3, n3, rfl⟩)
    | (go_at_call 43; refine (delete_box #[.int .i64 base, .int .i64 total, .slice v2 ch.length c2, .slice u2 sb.length d2] H2.out.1 H2.out.2.2 rfl (by repeat (first | with_reducible exact Adds.refl _ | with_reducible refine Adds.alloc ?_ _ | with_reducible refine Adds.more ?_ _ _ | with_reducible refine Adds.drew ?_ | with_reducible refine Adds.drewN ?_ _)) (by simp [go_sem] <;> omega) at_ hlt).mono ?_; rintro e w5 ⟨v5, c5, os5, os6, d5, rfl, hz5, H5, rfl⟩))
  refine bodyPost_ret (v := .tuple #[.agg #[.int .i64 base, .int .i64 total, .slice v2 ch.length c2, .slice v5 (sb.length - 1) c5], .int .i64 0]) (by simp [results, Try.results20, go_sem]) rfl ⟨⟨v2, c2, v5, c5, rfl, ?_⟩, (by repeat (first | with_reducible exact Adds.refl _ | with_reducible refine Adds.alloc ?_ _ | with_reducible refine Adds.more ?_ _ _ | with_reducible refine Adds.drew ?_ | with_reducible refine Adds.drewN ?_ _))⟩
  have H7 := H5.out #[.int .i64 base, .int .i64 total, .slice v2 ch.length c2, .slice v5 (sb.length - 1) c5]
  exact lstG_far H7.1 H2.out.2.1 H7.2 (by repeat (first | with_reducible exact Far.refl _ _ | with_reducible refine Far.mores ?_ (by simp [go_sem]) _ _ _ | with_reducible refine Far.allocs ?_ (by simp [go_sem]) _ | with_reducible refine Far.low ?_ (by simp [go_sem]) (by simp [go_sem] <;> omega) _ _ | with_reducible refine Far.more ?_ _ _ | with_reducible refine Far.alloc ?_ _))

end Go.Proofs.Ytpjhohmbifpogaa
