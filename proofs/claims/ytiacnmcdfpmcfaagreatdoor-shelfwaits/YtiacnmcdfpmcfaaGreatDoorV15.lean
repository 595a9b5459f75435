/-
  Arguments opened: a list of pairs, as it lies in memory; two strings.
-/
import Derived.Test.YtiacnmcdfpmcfaaGreatDoorQ05
import Derived.Test.YtiacnmcdfpmcfaaGreatDoorV12
import Derived.OpenShut
namespace Go.Proofs.YtiacnmcdfpmcfaaGreatDoor.Sh
open Go.ChangeShapes Go.WideShapes Go.ChangeAt Go.RowKit Go.Joins Go.ChangeMaps

theorem Tryz.cells70 : Tryz.prog.cellsOf 70 = 2 := by kernel_rfl
theorem Tryz.cells9 : Tryz.prog.cellsOf 9 = 1 := by kernel_rfl

def F.cellList (f : F) : List Value := [.string f.path, .string f.val]

set_option maxRecDepth 20000 in
theorem trod_F {H : Type} {enc : TypeId × Value → H} {w : World} {base : Nat} {sp : Nat → Bool} {held : Bool} {fuel : Nat} {cs : List Value} {x : DataW H × List MemPlace}
    (h : DataW.trod enc Tryz.prog w base sp held fuel 70 cs = some x) : ∃ f : F, cs = f.cellList := by
  obtain ⟨y0, y1, n, _, hl, h0, h1⟩ := trod_struct2 Tryz.underlying70 h
  rw [Tryz.cells70] at hl
  match cs, hl with
  | [c0, c1], _ =>
    simp only [Tryz.cells9, List.drop_zero, List.take_succ_cons, List.take_zero, List.drop_succ_cons] at h0 h1
    obtain ⟨p, e0, _, hp⟩ := DataW.trod_string Tryz.underlying9 h0
    obtain ⟨v, e1, _, hv⟩ := DataW.trod_string Tryz.underlying9 h1
    simp at e0 e1
    subst e0 e1
    exact ⟨⟨p, v⟩, rfl⟩

set_option maxRecDepth 20000 in
theorem open_Lst {H : Type} {enc : TypeId × Value → H} {w : World} {b0 : Nat} {r : Reach} {v : Value} {d : DataW H} {ps : List MemPlace}
    (hv : Value.okWide Tryz.prog w r b0 22 v) (h : DataW.Trod enc Tryz.prog w 0 (fun _ => true) true 22 v d ps) (hlt : ∀ x ∈ ps, x.block < w.heap.size) :
    ∃ fs, Lst w v fs := by
  obtain ⟨a0, len, cap, rfl⟩ := okWide_slice Tryz.underlying22 hv
  obtain ⟨fuel, hf⟩ := h
  rcases Deep.open_slice Tryz.underlying22 hf with ⟨hcs, hx⟩ | ⟨a, len', cap', m, n, D, Pl, hcs, _, hl, hm, hmm, hx, hcell⟩
  · simp [Value.cells] at hcs
    obtain ⟨rfl, rfl, rfl⟩ := hcs
    exact ⟨[], none, 0, rfl, Nat.le_refl _, .inl rfl⟩
  · simp [Value.cells] at hcs
    obtain ⟨rfl, rfl, rfl⟩ := hcs
    simp only [if_true] at hmm
    subst hmm
    have each : ∀ i, i < len → ∃ x : F, ∀ j (hj : j < 2), w.cell? (a.add (i * 2 + j)) = some (x.cellList[j]'(by simpa [F.cellList] using hj)) := by
      intro i hi
      obtain ⟨cs', h1, h2⟩ := hcell i (by omega)
      rw [Tryz.cells70] at h1
      obtain ⟨_, hlen, hc⟩ := World.cells?_some h1
      obtain ⟨x, rfl⟩ := trod_F h2
      refine ⟨x, fun j hj => ?_⟩
      have := hc j (by omega)
      rw [Deep.add_add] at this
      rw [this]
      simp [F.cellList, hj]
    by_cases hl0 : len = 0
    · subst hl0
      exact ⟨[], some a, _, rfl, Nat.zero_le _, .inl rfl⟩
    obtain ⟨b, off, spot⟩ := a
    have hspot : spot = none := by
      obtain ⟨x, hx⟩ := each 0 (by omega)
      simpa [Addr.add] using World.cell?_spot (hx 0 (by omega))
    subst hspot
    have hbW : b < w.heap.size := by
      simp only [Prod.mk.injEq] at hx
      refine hlt (.cell b off) ?_
      rw [hx.2]
      refine List.mem_append.2 (.inl (MemPlace.mem_row.2 ⟨0, ?_, by simp⟩))
      rw [Tryz.cells70]
      omega
    have : Nonempty F := ⟨⟨⟨#[]⟩, ⟨#[]⟩⟩⟩
    obtain ⟨X, hX⟩ : ∃ X : Nat → F, ∀ i, i < len → ∀ j (hj : j < 2), w.cell? ((⟨b, off, none⟩ : Addr).add (i * 2 + j)) = some ((X i).cellList[j]'(by simpa [F.cellList] using hj)) :=
      ⟨fun i => if h : i < len then (each i h).choose else Classical.choice this, fun i hi => by simp only [hi, dif_pos]; exact (each i hi).choose_spec⟩
    refine ⟨(List.range len).map X, some ⟨b, off, none⟩, m, by simp, by simp; omega, .inr ⟨b, off, rfl, hbW, ?_⟩⟩
    intro i hi
    have hi' : i < len := by simpa using hi
    have hq := hX i hi'
    have c0 := hq 0 (by omega)
    have c1 := hq 1 (by omega)
    simp only [Addr.add_lit] at c0 c1
    simp only [List.getElem_map, List.getElem_range]
    refine ⟨?_, ?_⟩
    · simpa [F.cellList] using c0
    · simpa [F.cellList, Nat.add_assoc] using c1

end Go.Proofs.YtiacnmcdfpmcfaaGreatDoor.Sh
