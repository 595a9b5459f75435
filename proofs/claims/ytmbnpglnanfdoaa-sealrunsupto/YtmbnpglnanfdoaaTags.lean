/-
  Slices of bytes whose blocks lie below a bound, or are blocks of bytes: a row of slices that grows leaves them.
-/
import Derived.Test.YtmbnpglnanfdoaaSealed
namespace Go.Proofs.Ytmbnpglnanfdoaa
open Go.RowKit

theorem ownV_empty (w : World) (e : TypeId) : OwnV w.heap.size e (.slice (some ⟨w.heap.size, 0, none⟩) 0 0) [] w (w.alloc (.cells #[] e)) := by
  refine ⟨⟨rfl, .inr ⟨w.heap.size, 0, #[], rfl, Nat.le_refl _, new_block _ _, Nat.le_refl _, by decide, rfl, rfl⟩⟩, (Adds.refl w).alloc _ |>.below, by simp⟩

theorem OwnV.byt {B : Nat} {e : TypeId} {v : Value} {l : List UInt8} {W0 w : World} (h : OwnV B e v (cellsB l) W0 w) : Byt w v l := h.lst

theorem OwnV.added {e : TypeId} {v : Value} {xs : List Value} {W0 w : World} (h : OwnV W0.heap.size e v xs W0 w) : Adds W0 w := Adds.of h.2.1

/-- Block b lies below B, or is one of bytes. -/
def Ok (B : Nat) (w : World) (b : Nat) : Prop := b < B ∨ ∃ C fr, w.heap[b]? = some (.cells C 5 fr)

def BytO (B : Nat) (w : World) (v : Value) (l : List UInt8) : Prop :=
  ∃ ao cap, v = .slice ao l.length cap ∧ l.length ≤ cap ∧ (l = [] ∨ ∃ b off, ao = some ⟨b, off, none⟩ ∧ b < w.heap.size ∧ Ok B w b ∧ LiesB w b off l)

theorem byt_of {w : World} {ao : Option Addr} {cap : Nat} {l : List UInt8} (hc : l.length ≤ cap) (h : l = [] ∨ ∃ b off, ao = some ⟨b, off, none⟩ ∧ b < w.heap.size ∧ LiesB w b off l) : Byt w (.slice ao l.length cap) l := by
  refine ⟨ao, cap, by rw [cellsB_length], by rw [cellsB_length]; exact hc, ?_⟩
  rcases h with rfl | ⟨b, off, rfl, hb, hl⟩
  · exact .inl rfl
  · refine .inr ⟨b, off, rfl, hb, fun j hj => ?_⟩
    rw [cellsB_length] at hj
    rw [hl j hj]
    simp [cellsB]

theorem BytO.byt {B : Nat} {w : World} {v : Value} {l : List UInt8} (h : BytO B w v l) : Byt w v l := by
  obtain ⟨ao, cap, rfl, hc, h⟩ := h
  refine byt_of hc ?_
  rcases h with h | ⟨b, off, rfl, hb, _, hl⟩
  · exact .inl h
  · exact .inr ⟨b, off, rfl, hb, hl⟩

theorem BytO.mono {B B' : Nat} {w : World} {v : Value} {l : List UInt8} (h : BytO B w v l) (hB : B ≤ B') : BytO B' w v l := by
  obtain ⟨ao, cap, rfl, hc, h⟩ := h
  refine ⟨ao, cap, rfl, hc, ?_⟩
  rcases h with h | ⟨b, off, rfl, hb, hk, hl⟩
  · exact .inl h
  · exact .inr ⟨b, off, rfl, hb, hk.imp (fun h => Nat.lt_of_lt_of_le h hB) id, hl⟩

/-- What lay ahead of the heap's end. -/
theorem Byt.old {w : World} {v : Value} {l : List UInt8} (h : Byt w v l) : BytO w.heap.size w v l := by
  obtain ⟨ao, cap, rfl, hc, h⟩ := h.open
  refine ⟨ao, cap, rfl, hc, ?_⟩
  rcases h with h | ⟨b, off, rfl, hb, hl⟩
  · exact .inl h
  · exact .inr ⟨b, off, rfl, hb, .inl hb, hl⟩

theorem OwnV.tagged {B : Nat} {v : Value} {l : List UInt8} {W0 w : World} (h : OwnV B 5 v (cellsB l) W0 w) : BytO 0 w v l := by
  obtain ⟨ao, cap, rfl, hc, hl⟩ := h.byt.open
  refine ⟨ao, cap, rfl, hc, ?_⟩
  rcases hl with hl | ⟨b, off, rfl, hb, hl⟩
  · exact .inl hl
  · rcases h.1.2 with ⟨e, _⟩ | ⟨g, cap', cur, e, _, hg, _⟩
    · cases e
    · simp only [Value.slice.injEq, Option.some.injEq, Addr.mk.injEq] at e
      obtain ⟨⟨rfl, rfl, _⟩, _, _⟩ := e
      exact .inr ⟨b, 0, rfl, hb, .inr ⟨cur, _, hg⟩, hl⟩

theorem Ok.adds {B : Nat} {w w' : World} {b : Nat} (h : Ok B w b) (hb : b < w.heap.size) (ha : Adds w w') : Ok B w' b := by
  refine h.imp id ?_
  rintro ⟨C, fr, h⟩
  exact ⟨C, fr, by rw [ha.below.block b hb]; exact h⟩

theorem BytO.adds {B : Nat} {w w' : World} {v : Value} {l : List UInt8} (h : BytO B w v l) (ha : Adds w w') : BytO B w' v l := by
  obtain ⟨ao, cap, rfl, hc, h⟩ := h
  refine ⟨ao, cap, rfl, hc, ?_⟩
  rcases h with h | ⟨b, off, rfl, hb, hk, hl⟩
  · exact .inl h
  · refine .inr ⟨b, off, rfl, Nat.lt_of_lt_of_le hb ha.below.size, hk.adds hb ha, ?_⟩
    obtain ⟨os, k, rfl⟩ := ha
    intro j hj
    rw [cell?_more _ _ _ _ hb]
    exact hl j hj

/-- A row of slices grows: the bytes stay. -/
theorem BytO.keep {B B' : Nat} {w w' W0 : World} {v x : Value} {l : List UInt8} {xs : List Value} (h : BytO B w x l) (ho : OwnV B' 22 v xs W0 w) (hB : B ≤ B') (hg : w.grownBy w' v.ownBlock) : BytO B w' x l := by
  obtain ⟨ao, cap, rfl, hc, h⟩ := h
  refine ⟨ao, cap, rfl, hc, ?_⟩
  rcases h with h | ⟨b, off, rfl, hb, hk, hl⟩
  · exact .inl h
  · have hne : some b ≠ v.ownBlock := by
      intro e
      have hlt := ho.1.lt b e.symm
      rcases hk with hk | ⟨C, fr, hk⟩
      · omega
      · rcases ho.1.2 with ⟨rfl, _⟩ | ⟨g, cap', cur, rfl, _, hg', _⟩
        · cases e
        · simp only [Value.ownBlock, Option.some.injEq] at e
          subst e
          rw [hk] at hg'
          simp at hg'
    have hblk := hg.block b hb hne
    refine .inr ⟨b, off, rfl, Nat.lt_of_lt_of_le hb hg.size, ?_, ?_⟩
    · refine hk.imp id ?_
      rintro ⟨C, fr, h⟩
      exact ⟨C, fr, by rw [hblk]; exact h⟩
    · intro j hj
      rw [World.cell?_of_block hblk]
      exact hl j hj

theorem BytO.cut {B : Nat} {w : World} {ao : Option Addr} {cap lo hi n : Nat} {l : List UInt8} (h : BytO B w (.slice ao n cap) l) (h1 : lo ≤ hi) (h2 : hi ≤ l.length) :
    BytO B w (.slice (if cap = lo then ao else ao.map (·.add lo)) (hi - lo) (cap - lo)) ((l.take hi).drop lo) := by
  have hb := h.byt.cut h1 h2
  obtain ⟨ao1, cap1, e1, hc1, hl1⟩ := hb.open
  obtain ⟨ao2, cap2, e2, hc2, hl2⟩ := h
  simp only [Value.slice.injEq] at e1 e2
  obtain ⟨e11, e12, e13⟩ := e1
  obtain ⟨rfl, rfl, rfl⟩ := e2
  refine ⟨ao1, cap1, by rw [e11, e12, e13], hc1, ?_⟩
  rcases hl1 with hl1 | ⟨b, off, rfl, hb1, hl1⟩
  · exact .inl hl1
  · rcases hl2 with hl2 | ⟨b', off', rfl, hb2, hk, _⟩
    · subst hl2
      exact .inl (by simp)
    · have hbb : b = b' := by
        by_cases hcl : cap = lo
        · rw [if_pos hcl] at e11
          simp only [Option.some.injEq, Addr.mk.injEq] at e11
          exact e11.1.symm
        · rw [if_neg hcl, Option.map_some, add_at] at e11
          simp only [Option.some.injEq, Addr.mk.injEq] at e11
          exact e11.1.symm
      subst hbb
      exact .inr ⟨b, off, rfl, hb1, hk, hl1⟩

theorem bytO_none (B : Nat) (w : World) : BytO B w (.slice none 0 0) [] := ⟨none, 0, rfl, Nat.le_refl _, .inl rfl⟩

theorem bytO_nil (w : World) : BytO 0 w (.slice none 0 0) [] := ⟨none, 0, rfl, Nat.le_refl _, .inl rfl⟩

end Go.Proofs.Ytmbnpglnanfdoaa
