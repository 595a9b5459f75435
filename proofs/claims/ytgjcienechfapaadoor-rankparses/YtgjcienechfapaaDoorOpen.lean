/-
  Arguments opened: a value of package api, and a slice of such, as they lie in memory.
-/
import Derived.Test.YtgjcienechfapaaDoorParse
import Derived.Test.YtgjcienechfapaaDoorRow
namespace Go.Proofs.YtgjcienechfapaaDoor
open Go.ChangeShapes Go.WideShapes Go.ChangeAt Go.RowKit Go.Joins Go.ChangeMaps

theorem Tryd.cells31 : Tryd.prog.cellsOf 31 = 5 := by kernel_rfl
theorem Tryd.cells29 : Tryd.prog.cellsOf 29 = 2 := by kernel_rfl
theorem Tryd.cells3 : Tryd.prog.cellsOf 3 = 1 := by kernel_rfl
theorem Tryd.cells9 : Tryd.prog.cellsOf 9 = 1 := by kernel_rfl

theorem trod_V {H : Type} {enc : TypeId × Value → H} {w : World} {base : Nat} {sp : Nat → Bool} {held : Bool} {fuel : Nat} {cs : List Value} {x : DataW H × List MemPlace}
    (h : DataW.trod enc Tryd.prog w base sp held fuel 31 cs = some x) : ∃ v : V, cs = v.cellList := by
  obtain ⟨y0, y1, y2, y3, n, _, hl, h0, h1, h2, h3⟩ := trod_struct4 Tryd.underlying31 h
  rw [Tryd.cells31] at hl
  match cs, hl with
  | [c0, c1, c2, c3, c4], _ =>
    simp only [Tryd.cells3, Tryd.cells9, Tryd.cells29, List.drop_zero, List.take_succ_cons, List.take_zero, List.drop_succ_cons] at h0 h1 h2 h3
    obtain ⟨k, e0, _, _⟩ := DataW.trod_int Tryd.underlying3 h0
    obtain ⟨m, e1, _, _⟩ := DataW.trod_int Tryd.underlying3 h1
    obtain ⟨s, e2, _⟩ := DataW.trod_string Tryd.underlying9 h2
    obtain ⟨z0, z1, n', _, _, g0, g1⟩ := trod_struct2 Tryd.underlying29 h3
    simp only [Tryd.cells3, List.drop_zero, List.take_succ_cons, List.take_zero, List.drop_succ_cons] at g0 g1
    obtain ⟨re, e3, _, _⟩ := DataW.trod_int Tryd.underlying3 g0
    obtain ⟨im, e4, _, _⟩ := DataW.trod_int Tryd.underlying3 g1
    simp at e0 e1 e2 e3 e4
    subst e0 e1 e2 e3 e4
    exact ⟨⟨k, m, s, re, im⟩, rfl⟩

theorem open_V {H : Type} {enc : TypeId × Value → H} {w : World} {base b0 : Nat} {r : Reach} {sp : Nat → Bool} {held : Bool} {v : Value} {d : DataW H} {ps : List MemPlace}
    (hv : Value.okWide Tryd.prog w r b0 31 v) (h : DataW.Trod enc Tryd.prog w base sp held 31 v d ps) : ∃ x : V, v = x.val := by
  obtain ⟨cs, rfl, hsz⟩ := okWide_struct Tryd.underlying31 hv
  obtain ⟨fuel, hf⟩ := h
  obtain ⟨x, hx⟩ := trod_V hf
  refine ⟨x, ?_⟩
  simp only [Value.cells] at hx
  unfold V.val
  congr 1
  apply Array.toList_inj.1
  exact hx

theorem open_Lst {H : Type} {enc : TypeId × Value → H} {w : World} {b0 : Nat} {r : Reach} {v : Value} {d : DataW H} {ps : List MemPlace}
    (hv : Value.okWide Tryd.prog w r b0 22 v) (h : DataW.Trod enc Tryd.prog w 0 (fun _ => true) true 22 v d ps) (hlt : ∀ x ∈ ps, x.block < w.heap.size) :
    ∃ vs, Lst w v vs ∧ vs.length ≤ 9223372036854775807 := by
  obtain ⟨a0, len, cap, rfl⟩ := okWide_slice Tryd.underlying22 hv
  obtain ⟨fuel, hf⟩ := h
  rcases Deep.open_slice Tryd.underlying22 hf with ⟨hcs, hx⟩ | ⟨a, len', cap', m, n, D, Pl, hcs, _, hl, hm, hmm, hx, hcell⟩
  · simp [Value.cells] at hcs
    obtain ⟨rfl, rfl, rfl⟩ := hcs
    exact ⟨[], ⟨none, 0, rfl, .inl rfl⟩, by simp⟩
  · simp [Value.cells] at hcs
    obtain ⟨rfl, rfl, rfl⟩ := hcs
    simp only [if_true] at hmm
    subst hmm
    have each : ∀ i, i < len → ∃ x : V, ∀ j (hj : j < 5), w.cell? (a.add (i * 5 + j)) = some (x.cellList[j]'(by simpa [V.cellList] using hj)) := by
      intro i hi
      obtain ⟨cs', h1, h2⟩ := hcell i (by omega)
      rw [Tryd.cells31] at h1
      obtain ⟨_, hlen, hc⟩ := World.cells?_some h1
      obtain ⟨x, rfl⟩ := trod_V h2
      refine ⟨x, fun j hj => ?_⟩
      have := hc j (by omega)
      rw [Deep.add_add] at this
      rw [this]
      simp [V.cellList, hj]
    by_cases hl0 : len = 0
    · subst hl0
      exact ⟨[], ⟨some a, _, rfl, .inl rfl⟩, by simp⟩
    obtain ⟨b, off, spot⟩ := a
    have hspot : spot = none := by
      obtain ⟨x, hx⟩ := each 0 (by omega)
      simpa [Addr.add] using World.cell?_spot (hx 0 (by omega))
    subst hspot
    have hbW : b < w.heap.size := by
      simp only [Prod.mk.injEq] at hx
      refine hlt (.cell b off) ?_
      rw [hx.2]
      refine List.mem_append.2 (.inl (MemPlace.mem_row.2 ⟨0, ?_, by simp⟩))
      rw [Tryd.cells31]
      omega
    have : Nonempty V := ⟨⟨0, 0, ⟨#[]⟩, 0, 0⟩⟩
    obtain ⟨X, hX⟩ : ∃ X : Nat → V, ∀ i, i < len → ∀ j (hj : j < 5), w.cell? ((⟨b, off, none⟩ : Addr).add (i * 5 + j)) = some ((X i).cellList[j]'(by simpa [V.cellList] using hj)) :=
      ⟨fun i => if h : i < len then (each i h).choose else Classical.choice this, fun i hi => by simp only [hi, dif_pos]; exact (each i hi).choose_spec⟩
    refine ⟨(List.range len).map X, ⟨some ⟨b, off, none⟩, m, by simp, .inr ⟨b, off, rfl, hbW, ?_⟩⟩, by unfold maxLen at hm; simp; omega⟩
    intro i hi
    have hi' : i < len := by simpa using hi
    have hq := hX i hi'
    have c0 := hq 0 (by omega)
    have c1 := hq 1 (by omega)
    have c2 := hq 2 (by omega)
    have c3 := hq 3 (by omega)
    have c4 := hq 4 (by omega)
    simp only [add_plain] at c0 c1 c2 c3 c4
    simp only [List.getElem_map, List.getElem_range]
    exact ⟨c0, c1, c2, c3, c4⟩

end Go.Proofs.YtgjcienechfapaaDoor
