/-
  Small laws of blocks and rows, for the reference's functions.
-/
import Derived.Test.YtinfoblgojnjfaaUnit
import Derived.Deep.RegionHeld3
namespace Go.Proofs.Ytinfoblgojnjfaa
open Go.RowKit Go.Maps

theorem blk_old {w : World} {A B : Obj} : ((w.alloc A).alloc B).heap[w.heap.size]? = some A := by
  have h1 := new_block w A
  have h2 : Adds (w.alloc A) ((w.alloc A).alloc B) := (Adds.refl _).alloc _
  exact h2.at h1

theorem blk_new {w : World} {A B : Obj} : ((w.alloc A).alloc B).heap[w.heap.size + 1]? = some B := by
  have := new_block (w.alloc A) B
  simpa using this

def Fr (B : Nat) (w : World) (v : Value) (l : List UInt8) : Prop :=
  ∃ ao cap, v = .slice ao l.length cap ∧ l.length ≤ cap ∧ (l = [] ∨ ∃ b off C, ao = some ⟨b, off, none⟩ ∧ B ≤ b ∧ w.heap[b]? = some (.cells C 5 (0, 0)) ∧ LiesB w b off l)

theorem fr_row {B : Nat} {w : World} {v : Value} {l : List UInt8} (h : w.ownsRow B 5 1 v l.length (cellsB l)) : Fr B w v l := by
  obtain ⟨ao, cap, rfl, hc, hl⟩ := (row_byt h).open
  refine ⟨ao, cap, rfl, hc, ?_⟩
  rcases hl with hl | ⟨b, off, rfl, hb, hl⟩
  · exact .inl hl
  · rcases h.2 with ⟨e, _⟩ | ⟨g, cap', cur, e, hB, hg, _⟩
    · cases e
    · simp only [Value.slice.injEq, Option.some.injEq, Addr.mk.injEq] at e
      obtain ⟨⟨rfl, rfl, _⟩, _, _⟩ := e
      exact .inr ⟨b, 0, cur, rfl, hB, hg, hl⟩

theorem Adds.size_le {w w' : World} (h : Adds w w') : w.heap.size ≤ w'.heap.size := h.below.size

theorem OwnV.byt {B : Nat} {e : TypeId} {v : Value} {l : List UInt8} {W0 w : World} (h : OwnV B e v (cellsB l) W0 w) : Byt w v l := h.lst

theorem OwnV.added {e : TypeId} {v : Value} {xs : List Value} {W0 w : World} (h : OwnV W0.heap.size e v xs W0 w) : Adds W0 w := Adds.of h.2.1

end Go.Proofs.Ytinfoblgojnjfaa
