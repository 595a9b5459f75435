/-
  Arguments opened: a value of package api, and a document, as they lie in memory.
-/
import Derived.Test.YtgnhkpihlghbmaaDocs
import Derived.Test.YtgnhkpihlghbmaaRow
namespace Go.Proofs.Ytgnhkpihlghbmaa
open Go.ChangeShapes Go.WideShapes Go.ChangeAt Go.RowKit Go.Joins Go.ChangeMaps

theorem Try.cells54 : Try.prog.cellsOf 54 = 6 := by kernel_rfl
theorem Try.cells52 : Try.prog.cellsOf 52 = 5 := by kernel_rfl
theorem Try.cells50 : Try.prog.cellsOf 50 = 2 := by kernel_rfl
theorem Try.cells3 : Try.prog.cellsOf 3 = 1 := by kernel_rfl
theorem Try.cells9 : Try.prog.cellsOf 9 = 1 := by kernel_rfl

def V.cellList (v : V) : List Value := [.int .i64 v.kind, .int .i64 v.num, .string v.text, .int .i64 v.re, .int .i64 v.im]
def F.cellList (f : F) : List Value := [.string f.path, .int .i64 f.val.kind, .int .i64 f.val.num, .string f.val.text, .int .i64 f.val.re, .int .i64 f.val.im]

set_option maxRecDepth 20000 in
theorem trod_V {H : Type} {enc : TypeId × Value → H} {w : World} {base : Nat} {sp : Nat → Bool} {held : Bool} {fuel : Nat} {cs : List Value} {x : DataW H × List MemPlace}
    (h : DataW.trod enc Try.prog w base sp held fuel 52 cs = some x) : ∃ v : V, cs = v.cellList := by
  obtain ⟨y0, y1, y2, y3, n, _, hl, h0, h1, h2, h3⟩ := trod_struct4 Try.underlying52 h
  rw [Try.cells52] at hl
  match cs, hl with
  | [c0, c1, c2, c3, c4], _ =>
    simp only [Try.cells3, Try.cells9, Try.cells50, List.drop_zero, List.take_succ_cons, List.take_zero, List.drop_succ_cons] at h0 h1 h2 h3
    obtain ⟨k, e0, _, _⟩ := DataW.trod_int Try.underlying3 h0
    obtain ⟨m, e1, _, _⟩ := DataW.trod_int Try.underlying3 h1
    obtain ⟨s, e2, _⟩ := DataW.trod_string Try.underlying9 h2
    obtain ⟨z0, z1, n', _, _, g0, g1⟩ := trod_struct2 Try.underlying50 h3
    simp only [Try.cells3, List.drop_zero, List.take_succ_cons, List.take_zero, List.drop_succ_cons] at g0 g1
    obtain ⟨re, e3, _, _⟩ := DataW.trod_int Try.underlying3 g0
    obtain ⟨im, e4, _, _⟩ := DataW.trod_int Try.underlying3 g1
    simp at e0 e1 e2 e3 e4
    subst e0 e1 e2 e3 e4
    exact ⟨⟨k, m, s, re, im⟩, rfl⟩

set_option maxRecDepth 20000 in
theorem open_V {H : Type} {enc : TypeId × Value → H} {w : World} {base b0 : Nat} {r : Reach} {sp : Nat → Bool} {held : Bool} {v : Value} {d : DataW H} {ps : List MemPlace}
    (hv : Value.okWide Try.prog w r b0 52 v) (h : DataW.Trod enc Try.prog w base sp held 52 v d ps) : ∃ x : V, v = x.val := by
  obtain ⟨cs, rfl, hsz⟩ := okWide_struct Try.underlying52 hv
  obtain ⟨fuel, hf⟩ := h
  obtain ⟨x, hx⟩ := trod_V hf
  refine ⟨x, ?_⟩
  simp only [Value.cells] at hx
  unfold V.val
  congr 1
  apply Array.toList_inj.1
  exact hx

set_option maxRecDepth 20000 in
theorem trod_F {H : Type} {enc : TypeId × Value → H} {w : World} {base : Nat} {sp : Nat → Bool} {held : Bool} {fuel : Nat} {cs : List Value} {x : DataW H × List MemPlace}
    (h : DataW.trod enc Try.prog w base sp held fuel 54 cs = some x) : ∃ f : F, cs = f.cellList := by
  obtain ⟨y0, y1, n, _, hl, h0, h1⟩ := trod_struct2 Try.underlying54 h
  rw [Try.cells54] at hl
  match cs, hl with
  | [c0, c1, c2, c3, c4, c5], _ =>
    simp only [Try.cells9, Try.cells52, List.drop_zero, List.take_succ_cons, List.take_zero, List.drop_succ_cons] at h0 h1
    obtain ⟨p, e0, _, hp⟩ := DataW.trod_string Try.underlying9 h0
    obtain ⟨v, hv⟩ := trod_V h1
    simp [V.cellList] at e0 hv
    obtain ⟨rfl, rfl, rfl, rfl, rfl⟩ := hv
    subst e0
    exact ⟨⟨p, v, hp⟩, rfl⟩

set_option maxRecDepth 20000 in
theorem open_Lst {H : Type} {enc : TypeId × Value → H} {w : World} {b0 : Nat} {r : Reach} {v : Value} {d : DataW H} {ps : List MemPlace}
    (hv : Value.okWide Try.prog w r b0 29 v) (h : DataW.Trod enc Try.prog w 0 (fun _ => true) true 29 v d ps) (hlt : ∀ x ∈ ps, x.block < w.heap.size) :
    ∃ fs, Lst w v fs := by
  obtain ⟨a0, len, cap, rfl⟩ := okWide_slice Try.underlying29 hv
  obtain ⟨fuel, hf⟩ := h
  rcases Deep.open_slice Try.underlying29 hf with ⟨hcs, hx⟩ | ⟨a, len', cap', m, n, D, Pl, hcs, _, hl, hm, hmm, hx, hcell⟩
  · simp [Value.cells] at hcs
    obtain ⟨rfl, rfl, rfl⟩ := hcs
    exact ⟨[], none, 0, rfl, Nat.le_refl _, .inl rfl⟩
  · simp [Value.cells] at hcs
    obtain ⟨rfl, rfl, rfl⟩ := hcs
    simp only [if_true] at hmm
    subst hmm
    have each : ∀ i, i < len → ∃ x : F, ∀ j (hj : j < 6), w.cell? (a.add (i * 6 + j)) = some (x.cellList[j]'(by simpa [F.cellList] using hj)) := by
      intro i hi
      obtain ⟨cs', h1, h2⟩ := hcell i (by omega)
      rw [Try.cells54] at h1
      obtain ⟨_, hlen, hc⟩ := World.cells?_some h1
      obtain ⟨x, rfl⟩ := trod_F h2
      refine ⟨x, fun j hj => ?_⟩
      have := hc j (by omega)
      rw [Deep.add_add] at this
      rw [this]
      simp [F.cellList, hj]
    by_cases hl0 : len = 0
    · subst hl0
      exact ⟨[], some a, _, rfl, Nat.zero_le _, .inl rfl⟩
    obtain ⟨b, off, spot⟩ := a
    have hspot : spot = none := by
      obtain ⟨x, hx⟩ := each 0 (by omega)
      simpa [Addr.add] using World.cell?_spot (hx 0 (by omega))
    subst hspot
    have hbW : b < w.heap.size := by
      simp only [Prod.mk.injEq] at hx
      refine hlt (.cell b off) ?_
      rw [hx.2]
      refine List.mem_append.2 (.inl (MemPlace.mem_row.2 ⟨0, ?_, by simp⟩))
      rw [Try.cells54]
      omega
    have : Nonempty F := ⟨⟨⟨#[]⟩, ⟨0, 0, ⟨#[]⟩, 0, 0⟩, by decide⟩⟩
    obtain ⟨X, hX⟩ : ∃ X : Nat → F, ∀ i, i < len → ∀ j (hj : j < 6), w.cell? ((⟨b, off, none⟩ : Addr).add (i * 6 + j)) = some ((X i).cellList[j]'(by simpa [F.cellList] using hj)) :=
      ⟨fun i => if h : i < len then (each i h).choose else Classical.choice this, fun i hi => by simp only [hi, dif_pos]; exact (each i hi).choose_spec⟩
    refine ⟨(List.range len).map X, some ⟨b, off, none⟩, m, by simp, by simp; omega, .inr ⟨b, off, rfl, hbW, ?_⟩⟩
    intro i hi
    have hi' : i < len := by simpa using hi
    have hq := hX i hi'
    have c0 := hq 0 (by omega)
    have c1 := hq 1 (by omega)
    have c2 := hq 2 (by omega)
    have c3 := hq 3 (by omega)
    have c4 := hq 4 (by omega)
    have c5 := hq 5 (by omega)
    simp only [Addr.add_lit] at c0 c1 c2 c3 c4 c5
    simp only [List.getElem_map, List.getElem_range]
    refine ⟨?_, ?_, ?_, ?_, ?_, ?_⟩
    · simpa [F.cellList] using c0
    · simpa [F.cellList, Nat.add_assoc] using c1
    · simpa [F.cellList, Nat.add_assoc] using c2
    · simpa [F.cellList, Nat.add_assoc] using c3
    · simpa [F.cellList, Nat.add_assoc] using c4
    · simpa [F.cellList, Nat.add_assoc] using c5

end Go.Proofs.Ytgnhkpihlghbmaa
