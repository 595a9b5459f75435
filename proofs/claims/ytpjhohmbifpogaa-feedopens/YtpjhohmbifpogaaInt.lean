/-
  The function Insert of package slices, of one entry in between, where there is room.
-/
import Derived.Test.YtpjhohmbifpogaaIns
namespace Go.Proofs.Ytpjhohmbifpogaa
open Go.RowKit
attribute [local go_sem] cell?_more frozen?_more setCell_more size_more tape_more drew_more drewN_more more_drew more_drewN one_out plus_out plus_end lt_one le_p2 le_p3 le_p4 le_p5 le_p6 le_p7 le_p8 le_p9 le_p10 le_p11 le_p12 le_p13 le_p14 le_p15 le_p16 le_p17 le_p18 le_p19 le_p20 le_p21 le_p22 le_p23 le_p24 le_q0 le_q1 lt_q1 le_q2 lt_q2 le_q3 lt_q3 le_q4 lt_q4 le_q5 lt_q5 le_q6 lt_q6 le_q7 lt_q7 le_q8 lt_q8 le_q9 lt_q9 le_q10 lt_q10 le_q11 lt_q11 le_q12 lt_q12 le_q13 lt_q13 le_q14 lt_q14 le_q15 lt_q15 le_q16 lt_q16 le_q17 lt_q17 le_q18 lt_q18 le_q19 lt_q19 le_q20 lt_q20 le_q21 lt_q21 le_q22 lt_q22 le_q23 lt_q23 le_q24 lt_q24

/-- One entry alone in its block. -/
def Alone1 (w : World) (k : Nat) (f : Sb) : Prop := w.heap[k]? = some (.cells #[.string f.name, .int .i64 f.pos] 43 (0, 0))

theorem Alone1.cells {w : World} {k : Nat} {f : Sb} (h : Alone1 w k f) : ∀ j v, (Sb.cells f)[j]? = some v → w.cell? ((⟨k, 0, none⟩ : Addr).add j) = some v := by
  intro j v hj
  rw [Addr.add_lit]
  have : w.cell? ⟨k, 0 + j, none⟩ = (#[.string f.name, .int .i64 f.pos] : Array Value)[0 + j]? := cell_of_row w k _ _ _ _ h
  rw [this]
  simpa [Sb.cells] using hj

theorem Alone1.shape {w : World} {k : Nat} {f : Sb} (h : Alone1 w k f) : w.shape? k = some (43, 2) := by
  unfold Alone1 at h
  simp [World.shape?, h]

theorem Alone1.frozen {w : World} {k : Nat} {f : Sb} (h : Alone1 w k f) (j : Nat) : w.frozen? ⟨k, j, none⟩ = false := by
  unfold Alone1 at h
  simp [World.frozen?, h]

theorem Sb.cells_one (f : Sb) : ∀ u ∈ Sb.cells f, u.oneCell' = true := by
  intro u hu
  simp only [Sb.cells, List.mem_cons, List.mem_nil_iff, or_false] at hu
  rcases hu with rfl | rfl <;> rfl

theorem cells_cut {f : Sb} (fs : List Sb) (i : Nat) : cellsS (fs.take i ++ f :: fs.drop i) = cellsS (fs.take i) ++ Sb.cells f ++ cellsS (fs.drop i) := by
  rw [cellsS_append]
  simp [cellsS]

theorem size43 (w : World) : (Go.sizeOf 43).run Try.prog w = .ok 2 w := by
  obtain ⟨i0, hi, hz0, hz1, hz2⟩ := info_parts Try.info43
  simp [Go.sizeOf, typeInfo, hi, hz1]

set_option maxHeartbeats 1000000 in
set_option maxRecDepth 20000 in
theorem insert_shift (B g cap : Nat) (fs : List Sb) (W0 w : World) (h : OwnS B (.slice (some ⟨g, 0, none⟩) fs.length cap) fs W0 w) (f : Sb) (k : Nat) (hk : Alone1 w k f) (hkg : k ≠ g) (i : Nat) (hi : i < fs.length) (hroom : fs.length + 1 ≤ cap) (hle : fs.length ≤ 1000) :
    Calls Try.prog 42 #[.slice (some ⟨g, 0, none⟩) fs.length cap, .int .i64 (i : Nat), .slice (some ⟨k, 0, none⟩) 1 1] w fun e w' => ∃ v', e = .returned v' ∧ OwnS B v' (fs.take i ++ f :: fs.drop i) W0 w' ∧ w.grownBy w' (some g) := by
  have hz2 : ¬ ((i : Int) = (fs.length : Int)) := by omega
  have hb1 : (i : Int) ≤ (fs.length : Int) := by omega
  have hb2 : ¬ cap = i := by omega
  have hb3 : ¬ cap = i + 1 := by omega
  obtain ⟨cur, hB, hg, hcm, hcs, htk⟩ : ∃ cur : Array Value, B ≤ g ∧ w.heap[g]? = some (.cells cur 43 (0, 0)) ∧ cap ≤ maxLen ∧ cur.size = cap * 2 ∧ cur.toList.take (fs.length * 2) = cellsS fs := by
    rcases h.1.2 with ⟨h0, _⟩ | ⟨g', cap', cur, h0, hB, hg, _, hcm, hcs, htk⟩
    · cases h0
    · cases h0
      exact ⟨cur, hB, hg, hcm, hcs, htk⟩
  have hcl : cur.toList.length = cap * 2 := by rw [← hcs]; simp
  have hcm' : cap ≤ 9223372036854775807 := by unfold maxLen at hcm; omega
  have hwc : ∀ j v, (cellsS (fs.drop i))[j]? = some v → w.drew.cell? ((⟨g, i * 2, none⟩ : Addr).add j) = some v := by
    intro j v hj
    rw [Addr.add_lit]
    show w.cell? _ = _
    rw [cell_of_row w g _ _ _ _ hg, ← Array.getElem?_toList]
    have e : (cellsS fs)[i * 2 + j]? = some v := by
      rw [← List.take_append_drop i fs, cellsS_append, List.getElem?_append_right (by rw [cellsS_length, List.length_take]; omega), cellsS_length, List.length_take, Nat.min_eq_left (by omega)]
      rw [show i * 2 + j - i * 2 = j by omega]
      exact hj
    rw [← htk, List.getElem?_take] at e
    split at e
    · exact e
    · cases e
  have hdl : (cellsS (fs.drop i)).length = (fs.length - i) * 2 := by rw [cellsS_length, List.length_drop]
  have hov : (callFunc 57 #[.slice (some ⟨k, 0, none⟩) 1 1, .slice (some ⟨g, (i + 1) * 2, none⟩) (fs.length - i) (cap - (i + 1))]).run Try.prog w = .ok (.value (.bool false)) w := by
    rw [run_callFunc_extern Try.func57 (by kernel_rfl) (by kernel_rfl) (by kernel_rfl) (e := Extern.SlicesOverlaps.overlaps #[23, 23] #[4]) (by kernel_rfl),
      Lib.run_overlaps_apart w 23 4 43 Try.underlying23 2 size43 ⟨k, 0, none⟩ ⟨g, (i + 1) * 2, none⟩ 1 1 _ _ hkg 43 43 2 (cap * 2) hk.shape (by simp [World.shape?, hg, hcs]) (by omega) (hk.frozen _) (hk.frozen _)]
    rfl
  obtain ⟨C1, hC1⟩ : ∃ C1 : Array Value, C1 = (over cur.toList ((i + 1) * 2) (cellsS (fs.drop i))).toArray := ⟨_, rfl⟩
  have hcp1 : ∀ ty, (Builtin.copy_ #[23, 23] ty #[.slice (some ⟨g, (i + 1) * 2, none⟩) (fs.length - i) (cap - (i + 1)), .slice (some ⟨g, i * 2, none⟩) (fs.length + 1 - i) (cap - i)]).run Try.prog w.drew = .ok (goInt ((fs.length - i : Nat) : Int)) (w.drew.setRow g C1) := fun ty => by
    rw [run_copy2 w.drew ty g ((i + 1) * 2) _ _ ⟨g, i * 2, none⟩ _ _ cur 43 (cellsS (fs.drop i)) (fs.length - i) hg (by simp only [Nat.min_def]; split <;> omega) hdl hwc (by rw [hdl, hcs]; omega) (cellsS_one _), hC1]
    rfl
  have hg1 : (w.drew.setRow g C1).heap[g]? = some (.cells C1 43 (0, 0)) := setRow_heap w.drew g cur _ 43 _ hg
  have hl1 : C1.size = cap * 2 := by rw [hC1, List.size_toArray, over_length _ _ _ (by rw [hdl, hcl]; omega), hcl]
  have hcl1 : C1.toList.length = cap * 2 := by rw [← hl1]; simp
  obtain ⟨C2, hC2⟩ : ∃ C2 : Array Value, C2 = (over C1.toList (i * 2) (Sb.cells f)).toArray := ⟨_, rfl⟩
  have hcp2 : ∀ ty, (Builtin.copy_ #[23, 23] ty #[.slice (some ⟨g, i * 2, none⟩) (fs.length + 1 - i) (cap - i), .slice (some ⟨k, 0, none⟩) 1 1]).run Try.prog (w.drew.setRow g C1) = .ok (goInt 1) ((w.drew.setRow g C1).setRow g C2) := fun ty => by
    have hk1 : Alone1 (w.drew.setRow g C1) k f := by
      unfold Alone1 at *
      rw [(setRow_grown w.drew g C1).block k (by exact (Array.getElem?_eq_some_iff.1 hk).1) (by simpa using hkg)]
      exact hk
    rw [run_copy2 _ ty g (i * 2) _ _ ⟨k, 0, none⟩ _ _ C1 43 (Sb.cells f) 1 hg1 (by simp only [Nat.min_def]; split <;> omega) rfl hk1.cells (by simp only [Sb.cells, List.length_cons, List.length_nil]; omega) (Sb.cells_one f), hC2]
    rfl
  have HP : Hid (OwnS B (.slice (some ⟨g, 0, none⟩) (fs.length + 1) cap) (fs.take i ++ f :: fs.drop i) W0 ((w.drew.setRow g C1).setRow g C2)) := by
    have hg2 : ((w.drew.setRow g C1).setRow g C2).heap[g]? = some (.cells C2 43 (0, 0)) := setRow_heap _ g C1 _ 43 _ hg1
    have hlen : (fs.take i ++ f :: fs.drop i).length = fs.length + 1 := by
      rw [List.length_append, List.length_cons, List.length_take, List.length_drop]
      omega
    refine ⟨⟨by rw [cellsS_length], .inr ⟨g, cap, C2, by rw [hlen], hB, hg2, by omega, hcm, ?_, ?_⟩⟩, ?_, ?_⟩
    · rw [hC2, List.size_toArray, over_length _ _ _ (by rw [hcl1]; simp only [Sb.cells, List.length_cons, List.length_nil]; omega), hcl1]
    · rw [hlen, cells_cut, hC2, hC1]
      have := over_shift cur.toList (cellsS (fs.take i)) (cellsS (fs.drop i)) (Sb.cells f) (i * 2) 2 (by rw [cellsS_length, List.length_take]; omega) rfl (by rw [hdl, show i * 2 + (fs.length - i) * 2 = fs.length * 2 by omega, htk, ← cellsS_append, List.take_append_drop]) (by rw [hdl, hcl]; omega)
      rw [hdl] at this
      rw [show i * 2 + 2 + (fs.length - i) * 2 = (fs.length + 1) * 2 by omega, show i * 2 + 2 = (i + 1) * 2 by omega] at this
      exact this
    · refine h.2.1.trans ?_
      have k1 := setRow_grown w.drew g C1
      have k2 := setRow_grown (w.drew.setRow g C1) g C2
      refine ⟨k2.os.trans k1.os, k2.tape.trans k1.tape, k2.output.trans k1.output, Nat.le_trans k1.size k2.size, fun t ht => ?_⟩
      have hw : B ≤ w.heap.size := h.2.2
      rw [k2.block t (Nat.lt_of_lt_of_le (Nat.lt_of_lt_of_le ht hw) k1.size) (by simp; omega), k1.block t (Nat.lt_of_lt_of_le ht hw) (by simp; omega)]
      rfl
    · exact Nat.le_trans h.2.2 (Nat.le_trans (setRow_grown w.drew g C1).size (setRow_grown (w.drew.setRow g C1) g C2).size)
  have HG : Hid (w.grownBy ((w.drew.setRow g C1).setRow g C2) (some g)) := by
    have k1 := setRow_grown w.drew g C1
    have k2 := setRow_grown (w.drew.setRow g C1) g C2
    exact ⟨k2.os.trans k1.os, k2.tape.trans k1.tape, k2.output.trans k1.output, Nat.le_trans k1.size k2.size, fun t ht hne => (k2.block t (Nat.lt_of_lt_of_le ht k1.size) hne).trans (k1.block t ht hne)⟩
  clear hcl1 hcl hC1 hC2 hg1 hl1 hwc hdl hcs htk hg h hk hcm
  have hw1 : IntKind.i64.wrap ((i : Int) + 1) = (i : Int) + 1 := by rw [IntKind.wrap_i64]; omega
  have hq1 : (0 : Int) ≤ (i : Int) + 1 := by omega
  have htn : ((i : Int) + 1).toNat = i + 1 := by omega
  have hq4 : (i : Int) ≤ (fs.length : Int) + 1 := by omega
  have hin : i ≤ fs.length := by omega
  generalize fs.length = n at *
  go_enter Try.func42, Try.ntmps42
  go_wp2_with (simp only [hov])
  go_region_law (refine step_copy rfl _ _ 23 23 rfl _ _ (by simp [Act.eval, Act.put]) (by simp [Act.eval, Act.put]) (hcp1 _) ?_)
  go_wp2_with (at_builtin; refine Lib.wpList_copy_run _ rfl _ _ 23 23 rfl _ _ rfl rfl (hcp2 _) ?_)
  go_ret
  exact ⟨_, rfl, HP.out, HG.out⟩

end Go.Proofs.Ytpjhohmbifpogaa
