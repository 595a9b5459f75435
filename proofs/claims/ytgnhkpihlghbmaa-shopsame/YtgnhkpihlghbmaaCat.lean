/-
  slices.Concat of documents, by contract.
-/
import Derived.Test.YtgnhkpihlghbmaaSst
namespace Go.Proofs.Ytgnhkpihlghbmaa
open Go.RowKit
attribute [local go_sem] cell?_more frozen?_more setCell_more size_more tape_more drew_more drewN_more more_drew more_drewN one_out plus_out plus_end lt_one le_p2 le_p3 le_p4 le_p5 le_p6 le_p7 le_p8 le_p9 le_p10 le_p11 le_p12 le_p13 le_p14 le_p15 le_p16 le_p17 le_p18 le_p19 le_p20 le_p21 le_p22 le_p23 le_p24 le_q0 le_q1 lt_q1 le_q2 lt_q2 le_q3 lt_q3 le_q4 lt_q4 le_q5 lt_q5 le_q6 lt_q6 le_q7 lt_q7 le_q8 lt_q8 le_q9 lt_q9 le_q10 lt_q10 le_q11 lt_q11 le_q12 lt_q12 le_q13 lt_q13 le_q14 lt_q14 le_q15 lt_q15 le_q16 lt_q16 le_q17 lt_q17 le_q18 lt_q18 le_q19 lt_q19 le_q20 lt_q20 le_q21 lt_q21 le_q22 lt_q22 le_q23 lt_q23 le_q24 lt_q24

def LiesR (w : World) (b off : Nat) (rs : List Rn) : Prop := ∀ j (h : j < rs.length), w.cell? ⟨b, off + j * 2, none⟩ = some (.string rs[j].1.key) ∧ w.cell? ⟨b, off + j * 2 + 1, none⟩ = some rs[j].2

/-- The slice s reads as documents, each with its own slice. -/
def LstR (w : World) (s : Value) (rs : List Rn) : Prop :=
  (∃ ao cap, s = .slice ao rs.length cap ∧ rs.length ≤ cap ∧ (rs = [] ∨ ∃ b off, ao = some ⟨b, off, none⟩ ∧ b < w.heap.size ∧ LiesR w b off rs)) ∧ ∀ r ∈ rs, Lst w r.2 r.1.doc

theorem LstD.rows {w : World} {s : Value} {ds : List Dn} (h : LstD w s ds) : ∃ rs : List Rn, rs.map (·.1) = ds ∧ LstR w s rs := by
  obtain ⟨ao, cap, rfl, hc, rfl | ⟨b, off, rfl, hb, hl⟩⟩ := h
  · exact ⟨[], rfl, ⟨ao, cap, rfl, hc, .inl rfl⟩, fun r h => by cases h⟩
  · have hv := fun j (h : j < ds.length) => Classical.choose_spec (hl j h)
    generalize hf : (fun j (h : j < ds.length) => Classical.choose (hl j h)) = f at *
    have hv : ∀ j (h : j < ds.length), w.cell? ⟨b, off + j * 2, none⟩ = some (.string ds[j].key) ∧ w.cell? ⟨b, off + j * 2 + 1, none⟩ = some (f j h) ∧ Lst w (f j h) ds[j].doc := by
      intro j h
      rw [← hf]
      exact hv j h
    refine ⟨List.ofFn (fun i : Fin ds.length => (ds[i], f i.1 i.2)), ?_, ⟨_, cap, by simp, by simpa using hc, .inr ⟨b, off, rfl, hb, fun j hj => ?_⟩⟩, fun r hr => ?_⟩
    · apply List.ext_getElem
      · simp
      · intro i h1 h2
        simp
    · have hj' : j < ds.length := by simpa using hj
      simpa using ⟨(hv j hj').1, (hv j hj').2.1⟩
    · obtain ⟨i, rfl⟩ := List.mem_ofFn.1 hr
      exact (hv i.1 i.2).2.2

theorem LiesR.below {w w' : World} {b off : Nat} {rs : List Rn} (h : LiesR w b off rs) {B : Nat} (hb : Below B w w') (hB : b < B) : LiesR w' b off rs := fun j hj =>
  ⟨(hb.cell (p := ⟨b, off + j * 2, none⟩) hB).trans (h j hj).1, (hb.cell (p := ⟨b, off + j * 2 + 1, none⟩) hB).trans (h j hj).2⟩

theorem LiesR.cells {w : World} {b off : Nat} {fs : List Rn} (h : LiesR w b off fs) : ∀ j u, (cellsRn fs)[j]? = some u → w.cell? ((⟨b, off, none⟩ : Addr).add j) = some u := by
  intro j u hu
  have hj : j < fs.length * 2 := by
    by_cases hj : j < fs.length * 2
    · exact hj
    · rw [List.getElem?_eq_none (by rw [cellsRn_length]; omega)] at hu
      cases hu
  have hi : j / 2 < fs.length := by omega
  have he : j / 2 * 2 + j % 2 = j := by omega
  rw [← he, cellsRn_get fs (j / 2) hi (j % 2) (by omega)] at hu
  obtain ⟨h0, h1⟩ := h (j / 2) hi
  have ha : ((⟨b, off, none⟩ : Addr).add j) = ⟨b, off + j / 2 * 2 + j % 2, none⟩ := by
    rw [Addr.add_lit]
    congr 1
    omega
  rw [ha]
  have h6 : j % 2 = 0 ∨ j % 2 = 1 := by omega
  rcases h6 with h | h <;> rw [h] at hu ⊢ <;> simp at hu <;> subst hu <;> assumption

theorem cellsRn_one {w : World} (fs : List Rn) (hf : ∀ r ∈ fs, Lst w r.2 r.1.doc) : ∀ u ∈ cellsRn fs, u.oneCell' = true := by
  intro u hu
  simp only [cellsRn, List.mem_flatMap] at hu
  obtain ⟨r, hr, hu⟩ := hu
  simp only [List.mem_cons, List.mem_nil_iff, or_false] at hu
  rcases hu with rfl | rfl
  · rfl
  · obtain ⟨ao, cap, e, _⟩ := hf r hr
    rw [e]
    rfl

/-- append to such a row, of documents that lie in the world ahead. -/
theorem ownRn_more (w : World) (B : Nat) (ty : TypeId) (v : Value) (fs : List Rn) (W0 : World) (h : OwnRn B v fs W0 w) (hBW : B = W0.heap.size) (x : Value) (gs : List Rn) (hx : LstR W0 x gs) (hlen : fs.length + gs.length ≤ 100000) :
    ∃ v' w', (Builtin.append_ #[22, 22] ty #[v, x]).run Try.prog w = .ok v' w' ∧ OwnRn B v' (fs ++ gs) W0 w' := by
  obtain ⟨i0, hi, hz0, hz1, hz2⟩ := info_parts Try.info48
  obtain ⟨⟨ao, cap, rfl, hcap, hxs⟩, hdocs⟩ := hx
  have hmem : ∀ r ∈ fs ++ gs, Lst W0 r.2 r.1.doc := fun r hr => by
    rcases List.mem_append.1 hr with hr | hr
    · exact h.2.2.2 r hr
    · exact hdocs r hr
  have key : ∀ v' w', w'.ownsRow B 48 2 v' (fs.length + gs.length) (cellsRn fs ++ cellsRn gs) → w.grownBy w' v.ownBlock → OwnRn B v' (fs ++ gs) W0 w' := by
    intro v' w' h2 h3
    refine ⟨by rw [List.length_append, cellsRn_append]; exact h2, ?_, Nat.le_trans h.2.2.1 h3.size, hmem⟩
    refine ⟨h3.os.trans h.2.1.os, h3.tape.trans h.2.1.tape, h3.output.trans h.2.1.output, Nat.le_trans h.2.1.size h3.size, fun k hk => ?_⟩
    rw [h3.block k (Nat.lt_of_lt_of_le hk h.2.2.1) ?_]
    · exact h.2.1.block k hk
    · intro e
      have := h.1.lt k e.symm
      omega
  rcases hxs with rfl | ⟨b, off, rfl, hb, hl⟩
  · have hrun : (Builtin.append_ #[22, 22] ty #[v, .slice ao 0 cap]).run Try.prog w = .ok v w := by
      rcases h.1.2 with ⟨rfl, hn⟩ | ⟨g, cp, cur, rfl, hbb, hg, hnc, hcm, hcs, htk⟩
      · cases ao <;> simp [Builtin.append_, run_underlying Try.underlying22, sizeOf, typeInfo, hi, Builtin.lenOf, Builtin.firstCells, loadCells, loadCellsFrom]
      · cases ao <;> simp [Builtin.append_, run_underlying Try.underlying22, sizeOf, typeInfo, hi, Builtin.lenOf, Builtin.firstCells, loadCells, loadCellsFrom, hnc, storeCells]
    refine ⟨v, w, by simpa using hrun, ?_⟩
    rw [List.append_nil]
    exact h
  · have hl' := hl.below h.2.1 (by rw [hBW]; exact hb)
    obtain ⟨v', w', h1, h2, h3, _⟩ := run_append_own (P := Try.prog) w B 22 ty 48 i0 _ 2 40 Try.underlying22 hi hz0 hz1 hz2 rfl (by decide) v fs.length (cellsRn fs) h.1 ⟨b, off, none⟩ gs.length cap (cellsRn gs) (cellsRn_length gs) hl'.cells (cellsRn_one gs hdocs) (by unfold maxLen; omega) (by omega) h.2.2.1
    exact ⟨v', w', h1, key v' w' h2 h3⟩

end Go.Proofs.Ytgnhkpihlghbmaa
