/-
  The function without of package index, by a contract.
  The function Insert of package slices, of one entry, by a contract.
  The function Insert of package slices, of one entry in between, where there is room.
  The function Insert of package slices, of one entry in between, where there is no room; and whatever the place.
-/
import Derived.Test.YtiacnmcdfpmcfaaGreatDoorT07
import Derived.Lib.SlBuf
import Derived.Lib.Overlaps
import Derived.Deep.RegionLaw
import Derived.Laws.CopyRow
namespace Go.Proofs.YtiacnmcdfpmcfaaGreatDoor.Sh
open Go.RowKit
attribute [local go_sem] cell?_more frozen?_more setCell_more size_more tape_more drew_more drewN_more more_drew more_drewN one_out plus_out plus_end lt_one le_p2 le_p3 le_p4 le_p5 le_p6 le_p7 le_p8 le_p9 le_p10 le_p11 le_p12 le_p13 le_p14 le_p15 le_p16 le_p17 le_p18 le_p19 le_p20 le_p21 le_p22 le_p23 le_p24 le_q0 le_q1 lt_q1 le_q2 lt_q2 le_q3 lt_q3 le_q4 lt_q4 le_q5 lt_q5 le_q6 lt_q6 le_q7 lt_q7 le_q8 lt_q8 le_q9 lt_q9 le_q10 lt_q10 le_q11 lt_q11 le_q12 lt_q12 le_q13 lt_q13 le_q14 lt_q14 le_q15 lt_q15 le_q16 lt_q16 le_q17 lt_q17 le_q18 lt_q18 le_q19 lt_q19 le_q20 lt_q20 le_q21 lt_q21 le_q22 lt_q22 le_q23 lt_q23 le_q24 lt_q24

/-- Is an entry not a document's? -/
def isNot (k : ByteArray) (f : F) : Bool := !decide (f.val.toList = k.toList)

set_option maxHeartbeats 2000000 in
set_option maxRecDepth 20000 in
theorem without_any (s : Value) (fs : List F) (k : ByteArray) (w : World) (h : Lst w s fs) (hle : fs.length ≤ 1000) :
    Calls Tryz.prog 81 #[s, .string k] w fun e w' => ∃ v, e = .returned v ∧ Own w.heap.size v (fs.filter (isNot k)) w w' := by
  obtain ⟨ao, cap, rfl, hcap, hlo⟩ := h
  go_enter Tryz.func81, Tryz.ntmps81
  go_wp2
  go_loopw [5, 10] (fun nv i w2 => ∃ j : Nat, j ≤ fs.length ∧ i = .int .i64 j ∧ Own w.heap.size nv ((fs.take j).filter (isNot k)) w w2) (fun _ i _ => fs.length - (intOf i).toNat)
  case atStart => exact ⟨0, Nat.zero_le _, rfl, by simpa using Own.nil _ w (Nat.le_refl _)⟩
  case round =>
    obtain ⟨j, hj, rfl, hown⟩ := hrel
    have hB := hown.2.2
    by_cases hlt : j < fs.length
    · rcases hlo with rfl | ⟨b, off, rfl, hbb, hl⟩
      · simp at hlt
      obtain ⟨c0, c1⟩ := hl.below hown.2.1 hbb j hlt
      have hbl : b < wr.heap.size := by omega
      have HJ : Hid _ := filter_next hlt (isNot k)
      have hla : ((fs.take j).filter (isNot k)).length ≤ fs.length := Nat.le_trans (List.length_filter_le _ _) (by rw [List.length_take]; omega)
      have hlt' : (j : Int) < (fs.length : Int) := by omega
      generalize fs[j] = x at *
      generalize (fs.take j).filter (isNot k) = A at *
      have HI : Hid (isNot k x = !decide (x.val.toList = k.toList)) := rfl
      obtain ⟨uo, uc, rfl⟩ := hown.lst.slice
      by_cases he : x.val.toList = k.toList
      · have hin : Hid (isNot k x = false) := by
          show _ = _
          rw [HI.out, decide_eq_true he]
          rfl
        have he1 : (x.val.toList == k.toList) = true := by simpa using he
        have he2 : (x.val.toList != k.toList) = false := by simpa using he
        go_wp2
        go_roundw
        case rel => exact ⟨j + 1, by omega, by go_num, by rw [HJ.out, hin.out]; simp only [Bool.false_eq_true, if_false, List.append_nil]; exact hown.alloc _⟩
        case measure => simp [intOf]; omega
      · have hin : Hid (isNot k x = true) := by
          show _ = _
          rw [HI.out, decide_eq_false he]
          rfl
        have he1 : (x.val.toList == k.toList) = false := by simpa using he
        have he2 : (x.val.toList != k.toList) = true := by simpa using he
        go_wp2_with (at_builtin; refine own_app rfl (.tmp 18) (.tmp 20) rfl ((hown.alloc _).alloc _) rfl (lst_new (f := x) (by simp [go_sem])) rfl (by simp only [List.length_singleton]; omega) ?_; intro v2 w2 hown2)
        go_roundw
        case rel => exact ⟨j + 1, by omega, by go_num, by rw [HJ.out, hin.out]; simp only [if_true]; exact hown2⟩
        case measure => simp [intOf]; omega
    · have hj' : j = fs.length := by omega
      subst hj'
      rw [List.take_length] at hown
      go_wp2
      go_ret
      exact ⟨_, rfl, hown⟩

theorem run_copy2 (w : World) (ty : TypeId) (g o dLen dCap : Nat) (a : Addr) (sLen sCap : Nat) (cur : Array Value) (t : TypeId) (cs : List Value) (k : Nat)
    (hg : w.heap[g]? = some (.cells cur t (0, 0))) (hk : Nat.min sLen dLen = k) (hn : cs.length = k * 2)
    (hsrc : ∀ j v, cs[j]? = some v → w.cell? (a.add j) = some v) (hfit : o + cs.length ≤ cur.size) (h1 : ∀ v ∈ cs, v.oneCell' = true) :
    (Builtin.copy_ #[22, 22] ty #[.slice (some ⟨g, o, none⟩) dLen dCap, .slice (some a) sLen sCap]).run Tryz.prog w =
      .ok (goInt k) (w.setRow g (cur.toList.take o ++ cs ++ cur.toList.drop (o + cs.length)).toArray) := by
  have hl := run_loadCells_list (P := Tryz.prog) w a cs hsrc
  have hst := run_storeCells_at Tryz.prog g o t cs 0 cur w hg (by simpa using hfit) h1
  obtain ⟨i0, hi, hz0, hz1, hz2⟩ := info_parts Tryz.info70
  rw [hn] at hl
  simp [Builtin.copy_, run_underlying Tryz.underlying22, Builtin.lenOf, Builtin.firstCells, sizeOf, typeInfo, hi, hz1, hk, hl, hst]

/-- A piece laid over a row. -/
def over (C : List Value) (o : Nat) (vs : List Value) : List Value := C.take o ++ vs ++ C.drop (o + vs.length)

theorem over_length (C : List Value) (o : Nat) (vs : List Value) (h : o + vs.length ≤ C.length) : (over C o vs).length = C.length := by
  simp [over]
  omega

/-- What is put in between, where the row has room. -/
theorem over_shift (C X Y V : List Value) (a b : Nat) (hX : X.length = a) (hV : V.length = b) (hC : C.take (a + Y.length) = X ++ Y) (hr : a + b + Y.length ≤ C.length) :
    (over (over C (a + b) Y) a V).take (a + b + Y.length) = X ++ V ++ Y := by
  subst hX hV
  have h1 : C.take X.length = X := by
    have := congrArg (List.take X.length) hC
    rw [List.take_take, Nat.min_eq_left (by omega)] at this
    rw [this]
    simp
  have h2 : (C.take (X.length + V.length)).length = X.length + V.length := by rw [List.length_take]; omega
  have h3 : (over C (X.length + V.length) Y).take X.length = X := by
    unfold over
    rw [List.append_assoc, List.take_append_of_le_length (by omega), List.take_take, Nat.min_eq_left (by omega), h1]
  have h4 : (over C (X.length + V.length) Y).drop (X.length + V.length) = Y ++ C.drop (X.length + V.length + Y.length) := by
    unfold over
    rw [List.append_assoc, List.drop_append_of_le_length (by omega), List.drop_of_length_le (by omega)]
    simp
  show (List.take X.length (over C (X.length + V.length) Y) ++ V ++ List.drop (X.length + V.length) (over C (X.length + V.length) Y)).take _ = _
  rw [h3, h4, ← List.append_assoc, List.take_append_of_le_length (by simp; omega), List.take_of_length_le (by simp; omega)]

/-- What is laid behind a beginning, into a new row. -/
theorem over_grow (C X Y V : List Value) (a b : Nat) (hX : X.length = a) (hV : V.length = b) (hC : C.take a = X) (hr : a + b + Y.length ≤ C.length) :
    (over (over C a V) (a + b) Y).take (a + b + Y.length) = X ++ V ++ Y := by
  subst hX hV
  have h3 : (over C X.length V).take (X.length + V.length) = X ++ V := by
    unfold over
    rw [hC, List.take_append_of_le_length (by simp), List.take_of_length_le (by simp)]
  show (List.take (X.length + V.length) (over C X.length V) ++ Y ++ List.drop (X.length + V.length + Y.length) (over C X.length V)).take _ = _
  rw [h3, List.take_append_of_le_length (by simp; omega), List.take_of_length_le (by simp; omega)]

theorem setRow_grown (w : World) (g : Nat) (C : Array Value) : w.grownBy (w.setRow g C) (some g) := by
  refine ⟨rfl, rfl, rfl, by simp [World.setRow], fun k hk hne => ?_⟩
  have : g ≠ k := fun e => hne (by rw [e])
  simp [World.setRow, Array.getElem?_modify, this]

theorem step_copy {ops : Array Oper} {o : Oper} {a : Act} {w : World} {K : Act → World → Prop} {Q : Exit → Act → World → Prop} {E : Prop}
    (hg : o.guard = none) (d x : Operand) (dT sT : TypeId) (hop : o.op = Op.call { callee := Callee.builtin Builtin.copy, args := #[d, x], argTypes := #[dT, sT] })
    (v u : Value) (hd : a.eval d = v) (hx : a.eval x = u) {v' : Value} {w' : World} (hr : (Builtin.copy_ #[dT, sT] o.type #[v, u]).run Tryz.prog w = .ok v' w') (hK : K (a.put o.dst v') w') :
    if Region.wanted o (yielded ops a.tmps) = true then Oper.wp Tryz.prog o a w K Q else E := by
  rw [if_pos (by simp [Region.wanted, hg])]
  exact Lib.wp_copy_run w d x dT sT hop v u hd hx hr hK

theorem ownsRow_cases {w : World} {B : Nat} {v : Value} {n : Nat} {xs : List Value} (h : w.ownsRow B 70 2 v n xs) : (v = .slice none 0 0 ∧ n = 0) ∨ ∃ g cap, v = .slice (some ⟨g, 0, none⟩) n cap ∧ n ≤ cap ∧ cap ≤ maxLen := by
  rcases h.2 with h | ⟨g, cap, cur, rfl, _, _, h1, h2, _, _⟩
  · exact .inl h
  · exact .inr ⟨g, cap, rfl, h1, h2⟩

set_option maxHeartbeats 1000000 in
set_option maxRecDepth 20000 in
theorem insert_end (B : Nat) (v : Value) (fs : List F) (W0 w : World) (h : Own B v fs W0 w) (f : F) (x : Value) (hx : Lst w x [f]) (hle : fs.length ≤ 1000) :
    Calls Tryz.prog 83 #[v, .int .i64 (fs.length : Nat), x] w fun e w' => ∃ v', e = .returned v' ∧ Own B v' (fs ++ [f]) W0 w' := by
  rcases ownsRow_cases h.1 with ⟨rfl, h0⟩ | ⟨g, cap, rfl, hnc, hcm⟩
  · have h00 : fs = [] := List.eq_nil_of_length_eq_zero h0
    subst h00
    obtain ⟨xo, xc, rfl, hxc, hxo⟩ := id hx
    go_enter Tryz.func83, Tryz.ntmps83
    go_wp2_with (at_builtin; refine own_app rfl (.tmp 23) (.tmp 24) rfl h rfl hx rfl (by simp) ?_; intro v2 w2 hown2)
    go_ret
    exact ⟨_, rfl, hown2⟩
  · obtain ⟨xo, xc, rfl, hxc, hxo⟩ := id hx
    have hl1 : (fs.length : Int) ≤ (cap : Int) := by omega
    have hcm' : cap ≤ 9223372036854775807 := by unfold maxLen at hcm; omega
    clear hcm
    by_cases hc : cap = fs.length
    all_goals
      go_enter Tryz.func83, Tryz.ntmps83
      go_wp2_with (at_builtin; refine own_app rfl (.tmp 23) (.tmp 24) rfl h rfl hx rfl (by simp only [List.length_singleton]; omega) ?_; intro v2 w2 hown2)
      go_ret
      exact ⟨_, rfl, hown2⟩

/-- One entry alone in its block. -/
def Alone1 (w : World) (k : Nat) (f : F) : Prop := w.heap[k]? = some (.cells #[.string f.path, .string f.val] 70 (0, 0))

theorem Alone1.cells {w : World} {k : Nat} {f : F} (h : Alone1 w k f) : ∀ j v, (F.cells f)[j]? = some v → w.cell? ((⟨k, 0, none⟩ : Addr).add j) = some v := by
  intro j v hj
  rw [Addr.add_lit]
  have : w.cell? ⟨k, 0 + j, none⟩ = (#[.string f.path, .string f.val] : Array Value)[0 + j]? := cell_of_row w k _ _ _ _ h
  rw [this]
  simpa [F.cells] using hj

theorem Alone1.shape {w : World} {k : Nat} {f : F} (h : Alone1 w k f) : w.shape? k = some (70, 2) := by
  unfold Alone1 at h
  simp [World.shape?, h]

theorem Alone1.frozen {w : World} {k : Nat} {f : F} (h : Alone1 w k f) (j : Nat) : w.frozen? ⟨k, j, none⟩ = false := by
  unfold Alone1 at h
  simp [World.frozen?, h]

theorem F.cells_one (f : F) : ∀ u ∈ F.cells f, u.oneCell' = true := by
  intro u hu
  simp only [F.cells, List.mem_cons, List.mem_nil_iff, or_false] at hu
  rcases hu with rfl | rfl <;> rfl

theorem cells_cut {f : F} (fs : List F) (i : Nat) : cellsF (fs.take i ++ f :: fs.drop i) = cellsF (fs.take i) ++ F.cells f ++ cellsF (fs.drop i) := by
  rw [cellsF_append]
  simp [cellsF]

theorem size52 (w : World) : (Go.sizeOf 70).run Tryz.prog w = .ok 2 w := by
  obtain ⟨i0, hi, hz0, hz1, hz2⟩ := info_parts Tryz.info70
  simp [Go.sizeOf, typeInfo, hi, hz1]

set_option maxHeartbeats 1000000 in
set_option maxRecDepth 20000 in
theorem insert_shift (B g cap : Nat) (fs : List F) (W0 w : World) (h : Own B (.slice (some ⟨g, 0, none⟩) fs.length cap) fs W0 w) (f : F) (k : Nat) (hk : Alone1 w k f) (hkg : k ≠ g) (i : Nat) (hi : i < fs.length) (hroom : fs.length + 1 ≤ cap) (hle : fs.length ≤ 1000) :
    Calls Tryz.prog 83 #[.slice (some ⟨g, 0, none⟩) fs.length cap, .int .i64 (i : Nat), .slice (some ⟨k, 0, none⟩) 1 1] w fun e w' => ∃ v', e = .returned v' ∧ Own B v' (fs.take i ++ f :: fs.drop i) W0 w' := by
  have hz2 : ¬ ((i : Int) = (fs.length : Int)) := by omega
  have hb1 : (i : Int) ≤ (fs.length : Int) := by omega
  have hb2 : ¬ cap = i := by omega
  have hb3 : ¬ cap = i + 1 := by omega
  obtain ⟨cur, hB, hg, hcm, hcs, htk⟩ : ∃ cur : Array Value, B ≤ g ∧ w.heap[g]? = some (.cells cur 70 (0, 0)) ∧ cap ≤ maxLen ∧ cur.size = cap * 2 ∧ cur.toList.take (fs.length * 2) = cellsF fs := by
    rcases h.1.2 with ⟨h0, _⟩ | ⟨g', cap', cur, h0, hB, hg, _, hcm, hcs, htk⟩
    · cases h0
    · cases h0
      exact ⟨cur, hB, hg, hcm, hcs, htk⟩
  have hcl : cur.toList.length = cap * 2 := by rw [← hcs]; simp
  have hcm' : cap ≤ 9223372036854775807 := by unfold maxLen at hcm; omega
  have hwc : ∀ j v, (cellsF (fs.drop i))[j]? = some v → w.drew.cell? ((⟨g, i * 2, none⟩ : Addr).add j) = some v := by
    intro j v hj
    rw [Addr.add_lit]
    show w.cell? _ = _
    rw [cell_of_row w g _ _ _ _ hg, ← Array.getElem?_toList]
    have e : (cellsF fs)[i * 2 + j]? = some v := by
      rw [← List.take_append_drop i fs, cellsF_append, List.getElem?_append_right (by rw [cellsF_length, List.length_take]; omega), cellsF_length, List.length_take, Nat.min_eq_left (by omega)]
      rw [show i * 2 + j - i * 2 = j by omega]
      exact hj
    rw [← htk, List.getElem?_take] at e
    split at e
    · exact e
    · cases e
  have hdl : (cellsF (fs.drop i)).length = (fs.length - i) * 2 := by rw [cellsF_length, List.length_drop]
  have hov : (callFunc 109 #[.slice (some ⟨k, 0, none⟩) 1 1, .slice (some ⟨g, (i + 1) * 2, none⟩) (fs.length - i) (cap - (i + 1))]).run Tryz.prog w = .ok (.value (.bool false)) w := by
    rw [run_callFunc_extern Tryz.func109 (by kernel_rfl) (by kernel_rfl) (by kernel_rfl) (e := Extern.SlicesOverlaps.overlaps #[22, 22] #[4]) (by kernel_rfl),
      Lib.run_overlaps_apart w 22 4 70 Tryz.underlying22 2 size52 ⟨k, 0, none⟩ ⟨g, (i + 1) * 2, none⟩ 1 1 _ _ hkg 70 70 2 (cap * 2) hk.shape (by simp [World.shape?, hg, hcs]) (by omega) (hk.frozen _) (hk.frozen _)]
    rfl
  obtain ⟨C1, hC1⟩ : ∃ C1 : Array Value, C1 = (over cur.toList ((i + 1) * 2) (cellsF (fs.drop i))).toArray := ⟨_, rfl⟩
  have hcp1 : ∀ ty, (Builtin.copy_ #[22, 22] ty #[.slice (some ⟨g, (i + 1) * 2, none⟩) (fs.length - i) (cap - (i + 1)), .slice (some ⟨g, i * 2, none⟩) (fs.length + 1 - i) (cap - i)]).run Tryz.prog w.drew = .ok (goInt ((fs.length - i : Nat) : Int)) (w.drew.setRow g C1) := fun ty => by
    rw [run_copy2 w.drew ty g ((i + 1) * 2) _ _ ⟨g, i * 2, none⟩ _ _ cur 70 (cellsF (fs.drop i)) (fs.length - i) hg (by simp only [Nat.min_def]; split <;> omega) hdl hwc (by rw [hdl, hcs]; omega) (cellsF_one _), hC1]
    rfl
  have hg1 : (w.drew.setRow g C1).heap[g]? = some (.cells C1 70 (0, 0)) := setRow_heap w.drew g cur _ 70 _ hg
  have hl1 : C1.size = cap * 2 := by rw [hC1, List.size_toArray, over_length _ _ _ (by rw [hdl, hcl]; omega), hcl]
  have hcl1 : C1.toList.length = cap * 2 := by rw [← hl1]; simp
  obtain ⟨C2, hC2⟩ : ∃ C2 : Array Value, C2 = (over C1.toList (i * 2) (F.cells f)).toArray := ⟨_, rfl⟩
  have hcp2 : ∀ ty, (Builtin.copy_ #[22, 22] ty #[.slice (some ⟨g, i * 2, none⟩) (fs.length + 1 - i) (cap - i), .slice (some ⟨k, 0, none⟩) 1 1]).run Tryz.prog (w.drew.setRow g C1) = .ok (goInt 1) ((w.drew.setRow g C1).setRow g C2) := fun ty => by
    have hk1 : Alone1 (w.drew.setRow g C1) k f := by
      unfold Alone1 at *
      rw [(setRow_grown w.drew g C1).block k (by exact (Array.getElem?_eq_some_iff.1 hk).1) (by simpa using hkg)]
      exact hk
    rw [run_copy2 _ ty g (i * 2) _ _ ⟨k, 0, none⟩ _ _ C1 70 (F.cells f) 1 hg1 (by simp only [Nat.min_def]; split <;> omega) rfl hk1.cells (by simp only [F.cells, List.length_cons, List.length_nil]; omega) (F.cells_one f), hC2]
    rfl
  have HP : Hid (Own B (.slice (some ⟨g, 0, none⟩) (fs.length + 1) cap) (fs.take i ++ f :: fs.drop i) W0 ((w.drew.setRow g C1).setRow g C2)) := by
    have hg2 : ((w.drew.setRow g C1).setRow g C2).heap[g]? = some (.cells C2 70 (0, 0)) := setRow_heap _ g C1 _ 70 _ hg1
    have hlen : (fs.take i ++ f :: fs.drop i).length = fs.length + 1 := by
      rw [List.length_append, List.length_cons, List.length_take, List.length_drop]
      omega
    refine ⟨⟨by rw [cellsF_length], .inr ⟨g, cap, C2, by rw [hlen], hB, hg2, by omega, hcm, ?_, ?_⟩⟩, ?_, ?_⟩
    · rw [hC2, List.size_toArray, over_length _ _ _ (by rw [hcl1]; simp only [F.cells, List.length_cons, List.length_nil]; omega), hcl1]
    · rw [hlen, cells_cut, hC2, hC1]
      have := over_shift cur.toList (cellsF (fs.take i)) (cellsF (fs.drop i)) (F.cells f) (i * 2) 2 (by rw [cellsF_length, List.length_take]; omega) rfl (by rw [hdl, show i * 2 + (fs.length - i) * 2 = fs.length * 2 by omega, htk, ← cellsF_append, List.take_append_drop]) (by rw [hdl, hcl]; omega)
      rw [hdl] at this
      rw [show i * 2 + 2 + (fs.length - i) * 2 = (fs.length + 1) * 2 by omega, show i * 2 + 2 = (i + 1) * 2 by omega] at this
      exact this
    · refine h.2.1.trans ?_
      have k1 := setRow_grown w.drew g C1
      have k2 := setRow_grown (w.drew.setRow g C1) g C2
      refine ⟨k2.os.trans k1.os, k2.tape.trans k1.tape, k2.output.trans k1.output, Nat.le_trans k1.size k2.size, fun t ht => ?_⟩
      have hw : B ≤ w.heap.size := h.2.2
      rw [k2.block t (Nat.lt_of_lt_of_le (Nat.lt_of_lt_of_le ht hw) k1.size) (by simp; omega), k1.block t (Nat.lt_of_lt_of_le ht hw) (by simp; omega)]
      rfl
    · exact Nat.le_trans h.2.2 (Nat.le_trans (setRow_grown w.drew g C1).size (setRow_grown (w.drew.setRow g C1) g C2).size)
  clear hcl1 hcl hC1 hC2 hg1 hl1 hwc hdl hcs htk hg h hk hcm
  have hw1 : IntKind.i64.wrap ((i : Int) + 1) = (i : Int) + 1 := by rw [IntKind.wrap_i64]; omega
  have hq1 : (0 : Int) ≤ (i : Int) + 1 := by omega
  have htn : ((i : Int) + 1).toNat = i + 1 := by omega
  have hq4 : (i : Int) ≤ (fs.length : Int) + 1 := by omega
  have hin : i ≤ fs.length := by omega
  generalize fs.length = n at *
  go_enter Tryz.func83, Tryz.ntmps83
  go_wp2_with (simp only [hov])
  go_region_law (refine step_copy rfl _ _ 25 25 rfl _ _ (by simp [Act.eval, Act.put]) (by simp [Act.eval, Act.put]) (hcp1 _) ?_)
  go_wp2_with (at_builtin; refine Lib.wpList_copy_run _ rfl _ _ 25 25 rfl _ _ rfl rfl (hcp2 _) ?_)
  go_ret
  exact ⟨_, rfl, HP.out⟩

set_option maxHeartbeats 1000000 in
set_option maxRecDepth 20000 in
theorem insert_grow (B g cap : Nat) (fs : List F) (W0 w : World) (h : Own B (.slice (some ⟨g, 0, none⟩) fs.length cap) fs W0 w) (f : F) (k : Nat) (hk : Alone1 w k f) (i : Nat) (hi : i < fs.length) (hroom : cap < fs.length + 1) (hle : fs.length ≤ 1000) :
    Calls Tryz.prog 83 #[.slice (some ⟨g, 0, none⟩) fs.length cap, .int .i64 (i : Nat), .slice (some ⟨k, 0, none⟩) 1 1] w fun e w' => ∃ v', e = .returned v' ∧ Own B v' (fs.take i ++ f :: fs.drop i) W0 w' := by
  obtain ⟨i0, hi0, hz0, hzs, hzb⟩ := info_parts Tryz.info70
  obtain ⟨cur, hB, hg, hcm, hcs, htk, hnc⟩ : ∃ cur : Array Value, B ≤ g ∧ w.heap[g]? = some (.cells cur 70 (0, 0)) ∧ cap ≤ maxLen ∧ cur.size = cap * 2 ∧ cur.toList.take (fs.length * 2) = cellsF fs ∧ fs.length ≤ cap := by
    rcases h.1.2 with ⟨h0, _⟩ | ⟨g', cap', cur, h0, hB, hg, hnc, hcm, hcs, htk⟩
    · cases h0
    · cases h0
      exact ⟨cur, hB, hg, hcm, hcs, htk, hnc⟩
  have hgl : g < w.heap.size := (Array.getElem?_eq_some_iff.1 hg).1
  have hkl : k < w.heap.size := (Array.getElem?_eq_some_iff.1 hk).1
  have hrow : ∀ j v, (cellsF fs)[j]? = some v → w.cell? ⟨g, j, none⟩ = some v := by
    intro j v e
    rw [cell_of_row w g _ _ _ _ hg, ← Array.getElem?_toList]
    rw [← htk, List.getElem?_take] at e
    split at e
    · exact e
    · cases e
  have hwc : ∀ j v, (cellsF (fs.drop i))[j]? = some v → w.cell? ((⟨g, i * 2, none⟩ : Addr).add j) = some v := by
    intro j v hj
    rw [Addr.add_lit]
    refine hrow _ _ ?_
    rw [← List.take_append_drop i fs, cellsF_append, List.getElem?_append_right (by rw [cellsF_length, List.length_take]; omega), cellsF_length, List.length_take, Nat.min_eq_left (by omega)]
    rw [show i * 2 + j - i * 2 = j by omega]
    exact hj
  have hdl : (cellsF (fs.drop i)).length = (fs.length - i) * 2 := by rw [cellsF_length, List.length_drop]
  have htl : (cellsF (fs.take i)).length = i * 2 := by rw [cellsF_length, List.length_take]; omega
  have hold : (Builtin.firstCells i0.size i (.slice (some ⟨g, 0, none⟩) i cap)).run Tryz.prog w.drew = .ok (cellsF (fs.take i)).toArray w.drew := by
    rw [hzs]
    refine run_firstCells_some w.drew 2 i ⟨g, 0, none⟩ i cap (cellsF (fs.take i)) (by rw [htl]) (fun j v hj => ?_)
    rw [Addr.add_lit, Nat.zero_add]
    refine hrow j v ?_
    rw [← List.take_append_drop i fs, cellsF_append]
    have hjl : j < (cellsF (fs.take i)).length := by
      by_cases e : j < (cellsF (fs.take i)).length
      · exact e
      · rw [List.getElem?_eq_none (by omega)] at hj
        cases hj
    rw [List.getElem?_append_left hjl]
    exact hj
  have hik : i + (fs.length + 1 - i) = fs.length + 1 := by omega
  have hkk : (fs.length : Int) + 1 - (i : Int) = ((fs.length + 1 - i : Nat) : Int) := by omega
  obtain ⟨G, hG⟩ : ∃ G, G = grownCap w (fs.length + 1) cap 70 := ⟨_, rfl⟩
  obtain ⟨ROW, hROW⟩ : ∃ ROW : Array Value, ROW = (cellsF (fs.take i)).toArray ++ Builtin.zeroCells (Value.agg #[.string ⟨#[]⟩, .string ⟨#[]⟩]).cells (fs.length + 1 - i) ++ Builtin.zeroCells (Value.agg #[.string ⟨#[]⟩, .string ⟨#[]⟩]).cells (G - (fs.length + 1)) := ⟨_, rfl⟩
  obtain ⟨W1, hW1⟩ : ∃ W1, W1 = w.drew.alloc (.cells ROW 70) := ⟨_, rfl⟩
  have hrz : ∀ ty, (Builtin.append_ #[22, 3] ty #[.slice (some ⟨g, 0, none⟩) i cap, .int .i64 ((fs.length : Int) + 1 - (i : Int))]).run Tryz.prog w = .ok (.slice (some ⟨w.heap.size, 0, none⟩) (fs.length + 1) G) W1 := fun ty => by
    have h := Lib.run_append_grow_zeros (P := Tryz.prog) w 22 3 ty 70 i0 _ .i64 .i64 Tryz.underlying22 Tryz.underlying3 hi0 hz0 (some ⟨g, 0, none⟩) i cap (cellsF (fs.take i)) hold (fs.length + 1 - i) (by omega) (by rw [hzs]; omega) (by omega) (by omega) (by rw [hzb]; omega) (by rw [hzb, hik]; exact growslice_fits hroom (by omega))
    rw [hik, ← hG] at h
    rw [hkk, h, hW1, hROW]
  have hGn : fs.length + 1 ≤ G := by rw [hG]; exact grownCap_ge w _ _ _
  have hGm : G ≤ maxLen := by
    rw [hG]
    exact grownCap_le_maxLen w (fs.length + 1) cap 70 (by unfold maxLen; omega)
  have hRl : ROW.toList.length = G * 2 := by
    rw [Array.length_toList, hROW, Array.size_append, Array.size_append, size_zeroCells, size_zeroCells, List.size_toArray, htl]
    simp [Value.cells]
    omega
  have hRt : ROW.toList.take (i * 2) = cellsF (fs.take i) := by
    rw [hROW]
    simp only [Array.toList_append]
    rw [List.append_assoc, List.take_append_of_le_length (by rw [htl]; omega), List.take_of_length_le (by rw [htl]; omega)]
  have hs1 : W1.heap.size = w.heap.size + 1 := by rw [hW1]; simp
  have hN1 : W1.heap[w.heap.size]? = some (.cells ROW 70 (0, 0)) := by rw [hW1]; exact new_block2 w.drew _
  have hO1 : ∀ t, t < w.heap.size → W1.heap[t]? = w.heap[t]? := fun t ht => by
    rw [hW1]
    show (w.heap.push _)[t]? = _
    rw [Array.getElem?_push, if_neg (by omega)]
  obtain ⟨C1, hC1⟩ : ∃ C1 : Array Value, C1 = (over ROW.toList (i * 2) (F.cells f)).toArray := ⟨_, rfl⟩
  obtain ⟨W2, hW2⟩ : ∃ W2, W2 = W1.setRow w.heap.size C1 := ⟨_, rfl⟩
  have hk1 : Alone1 W1 k f := by
    unfold Alone1 at *
    rw [hO1 k hkl]
    exact hk
  have hcp1 : ∀ ty, (Builtin.copy_ #[22, 22] ty #[.slice (some ⟨w.heap.size, i * 2, none⟩) (fs.length + 1 - i) (G - i), .slice (some ⟨k, 0, none⟩) 1 1]).run Tryz.prog W1 = .ok (goInt 1) W2 := fun ty => by
    rw [run_copy2 W1 ty w.heap.size (i * 2) _ _ ⟨k, 0, none⟩ _ _ ROW 70 (F.cells f) 1 hN1 (by simp only [Nat.min_def]; split <;> omega) rfl hk1.cells (by rw [← Array.length_toList, hRl]; simp only [F.cells, List.length_cons, List.length_nil]; omega) (F.cells_one f), hW2, hC1]
    rfl
  have hN2 : W2.heap[w.heap.size]? = some (.cells C1 70 (0, 0)) := by rw [hW2]; exact setRow_heap W1 _ ROW _ 70 _ hN1
  have hC1l : C1.toList.length = G * 2 := by
    rw [hC1]
    show (over _ _ _).length = _
    rw [over_length _ _ _ (by rw [hRl]; simp only [F.cells, List.length_cons, List.length_nil]; omega), hRl]
  have hg2 := setRow_grown W1 w.heap.size C1
  rw [← hW2] at hg2
  have hO2 : ∀ t, t < w.heap.size → W2.heap[t]? = w.heap[t]? := fun t ht => by
    rw [hg2.block t (by omega) (by simp; omega), hO1 t ht]
  obtain ⟨C2, hC2⟩ : ∃ C2 : Array Value, C2 = (over C1.toList ((i + 1) * 2) (cellsF (fs.drop i))).toArray := ⟨_, rfl⟩
  have hcp2 : ∀ ty, (Builtin.copy_ #[22, 22] ty #[.slice (some ⟨w.heap.size, (i + 1) * 2, none⟩) (fs.length - i) (G - (i + 1)), .slice (some ⟨g, i * 2, none⟩) (fs.length - i) (cap - i)]).run Tryz.prog W2.drew = .ok (goInt ((fs.length - i : Nat) : Int)) (W2.drew.setRow w.heap.size C2) := fun ty => by
    rw [run_copy2 W2.drew ty w.heap.size ((i + 1) * 2) _ _ ⟨g, i * 2, none⟩ _ _ C1 70 (cellsF (fs.drop i)) (fs.length - i) hN2 (by simp only [Nat.min_def]; split <;> omega) hdl (fun j v hj => by
      rw [← hwc j v hj]
      show W2.cell? _ = _
      rw [Addr.add_lit]
      exact World.cell?_of_block (hO2 g hgl)) (by rw [← Array.length_toList, hC1l, hdl]; omega) (cellsF_one _), hC2]
    rfl
  have HP : Hid (Own B (.slice (some ⟨w.heap.size, 0, none⟩) (fs.length + 1) G) (fs.take i ++ f :: fs.drop i) W0 (W2.drew.setRow w.heap.size C2)) := by
    have hN3 : (W2.drew.setRow w.heap.size C2).heap[w.heap.size]? = some (.cells C2 70 (0, 0)) := setRow_heap W2.drew _ C1 _ 70 _ hN2
    have hlen : (fs.take i ++ f :: fs.drop i).length = fs.length + 1 := by
      rw [List.length_append, List.length_cons, List.length_take, List.length_drop]
      omega
    have k3 := setRow_grown W2.drew w.heap.size C2
    have e1 : W1.os = w.os ∧ W1.tape = w.tape ∧ W1.output = w.output := by rw [hW1]; exact ⟨rfl, rfl, rfl⟩
    refine ⟨⟨by rw [cellsF_length], .inr ⟨w.heap.size, G, C2, by rw [hlen], h.2.2, hN3, by omega, hGm, ?_, ?_⟩⟩, ?_, ?_⟩
    · rw [← Array.length_toList, hC2]
      show (over _ _ _).length = _
      rw [over_length _ _ _ (by rw [hC1l, hdl]; omega), hC1l]
    · rw [hlen, cells_cut, hC2, hC1]
      have := over_grow ROW.toList (cellsF (fs.take i)) (cellsF (fs.drop i)) (F.cells f) (i * 2) 2 htl rfl hRt (by rw [hdl, hRl]; omega)
      rw [hdl] at this
      rw [show i * 2 + 2 + (fs.length - i) * 2 = (fs.length + 1) * 2 by omega, show i * 2 + 2 = (i + 1) * 2 by omega] at this
      exact this
    · refine h.2.1.trans ?_
      refine ⟨k3.os.trans (hg2.os.trans e1.1), k3.tape.trans (hg2.tape.trans e1.2.1), k3.output.trans (hg2.output.trans e1.2.2), ?_, fun t ht => ?_⟩
      · refine Nat.le_trans ?_ k3.size
        show _ ≤ W2.heap.size
        exact Nat.le_trans (by omega) hg2.size
      · have hw : B ≤ w.heap.size := h.2.2
        rw [k3.block t (by show t < W2.heap.size; exact Nat.lt_of_lt_of_le (by omega) hg2.size) (by simp; omega)]
        exact hO2 t (by omega)
    · refine Nat.le_trans h.2.2 (Nat.le_trans ?_ k3.size)
      show _ ≤ W2.heap.size
      exact Nat.le_trans (by omega) hg2.size
  have hz2 : ¬ ((i : Int) = (fs.length : Int)) := by omega
  have hz3 : (cap : Int) < (fs.length : Int) + 1 := by omega
  have hb1 : (i : Int) ≤ (fs.length : Int) := by omega
  have hb2 : ¬ cap = i := by omega
  have hG63 : G ≤ 9223372036854775807 := by unfold maxLen at hGm; omega
  have hGi : ¬ (G = i) := by omega
  have hGim : ¬ (G = i + 1) := by omega
  have hcm' : cap ≤ 9223372036854775807 := by unfold maxLen at hcm; omega
  have hw1 : IntKind.i64.wrap ((i : Int) + 1) = (i : Int) + 1 := by rw [IntKind.wrap_i64]; omega
  have hq1 : (0 : Int) ≤ (i : Int) + 1 := by omega
  have htn : ((i : Int) + 1).toNat = i + 1 := by omega
  have hin : i ≤ fs.length := by omega
  clear hROW hW1 hC1 hW2 hC2 hk1 hN2 hC1l hg2 hO2 hN1 hO1 hs1 hRt hRl hkk hik hold htl hdl hwc hrow hg hk hcs htk hcm hGm hG h hB hzs hzb hz0 hi0
  generalize fs.length = n at *
  go_enter Tryz.func83, Tryz.ntmps83
  go_wp2_with (first
    | (at_builtin; refine Lib.wpList_append_run _ rfl _ _ _ _ rfl _ _ rfl rfl _ _ (hrz _) ?_)
    | (at_builtin; refine Lib.wpList_copy_run _ rfl _ _ 25 25 rfl _ _ rfl rfl (hcp1 _) ?_))
  go_region_law (refine step_copy rfl _ _ 25 25 rfl _ _ (by simp [Act.eval, Act.put]) (by simp [Act.eval, Act.put]) (hcp2 _) ?_)
  go_wp2
  go_ret
  exact ⟨_, rfl, HP.out⟩

theorem insert_any (B : Nat) (v : Value) (fs : List F) (W0 w : World) (h : Own B v fs W0 w) (f : F) (k : Nat) (hk : Alone1 w k f) (hv : v.ownBlock ≠ some k) (i : Nat) (hi : i ≤ fs.length) (hle : fs.length ≤ 1000) :
    Calls Tryz.prog 83 #[v, .int .i64 (i : Nat), .slice (some ⟨k, 0, none⟩) 1 1] w fun e w' => ∃ v', e = .returned v' ∧ Own B v' (fs.take i ++ f :: fs.drop i) W0 w' := by
  by_cases hE : i = fs.length
  · subst hE
    rw [List.take_length, List.drop_length]
    refine insert_end B v fs W0 w h f _ ?_ hle
    refine ⟨_, 1, rfl, Nat.le_refl _, .inr ⟨k, 0, rfl, (Array.getElem?_eq_some_iff.1 hk).1, ?_⟩⟩
    refine lies_of (fun j u hu => hk.cells j u ?_)
    simpa [cellsF] using hu
  · rcases ownsRow_cases h.1 with ⟨rfl, h0⟩ | ⟨g, cap, rfl, hnc, hcm⟩
    · omega
    · have hkg : k ≠ g := fun e => hv (by rw [e]; rfl)
      by_cases hr : fs.length + 1 ≤ cap
      · exact insert_shift B g cap fs W0 w h f k hk hkg i (by omega) hr hle
      · exact insert_grow B g cap fs W0 w h f k hk i (by omega) (by omega) hle

end Go.Proofs.YtiacnmcdfpmcfaaGreatDoor.Sh
