/-
  A keep's own blocks beside foreign ones.
-/
import Derived.Test.YtelkkpomehgcjaaTwrite
import Derived.Test.YtelkkpomehgcjaaKread
import Derived.Test.YtelkkpomehgcjaaKpure
import Derived.Test.YtelkkpomehgcjaaKdel
namespace Go.Proofs.Ytelkkpomehgcjaa
open Go.RowKit Go.Maps

def Kw.own (K : Kw) (i : Nat) : Prop := i = K.p ∨ K.ev.ownBlock = some i

/-- A keep whose entries' row is its own; F: blocks of others. -/
structure Ke (w : World) (B : Nat) (F : Nat → Prop) (K : Kw) : Prop where
  hp : w.heap[K.p]? = some (.cells #[ptr K.tp, K.nv, K.ev] 29 (0, 0))
  bp : B ≤ K.p
  note : BytA w F K.nv K.nt
  row : ∃ xs, w.ownsRow B 22 1 K.ev xs.length xs ∧ EachA w F xs K.es
  out : ¬ F K.p
  apart : ∀ i, K.ev.ownBlock = some i → ¬ F i

theorem Ke.low {w : World} {B : Nat} {F : Nat → Prop} {K : Kw} (h : Ke w B F K) : ∀ i, K.own i → B ≤ i ∧ i < w.heap.size := by
  obtain ⟨xs, ho, _⟩ := h.row
  rintro i (rfl | hi)
  · exact ⟨h.bp, (Array.getElem?_eq_some_iff.1 h.hp).1⟩
  · exact ho.lt i hi

theorem Ke.size {w : World} {B : Nat} {F : Nat → Prop} {K : Kw} (h : Ke w B F K) : B ≤ w.heap.size := by
  have := h.low K.p (.inl rfl)
  omega

/-- No block of a keep's own is one of bytes. -/
theorem Ke.tags {w : World} {B : Nat} {F : Nat → Prop} {K : Kw} (h : Ke w B F K) : ∀ i, K.own i → ∃ C e z, w.heap[i]? = some (.cells C e z) ∧ e ≠ 5 := by
  obtain ⟨xs, ho, _⟩ := h.row
  rintro i (rfl | hi)
  · exact ⟨_, _, _, h.hp, by decide⟩
  · obtain ⟨C, hC⟩ := row_block ho hi
    exact ⟨_, _, _, hC, by decide⟩

theorem Ke.rows {w : World} {B : Nat} {F : Nat → Prop} {K : Kw} (h : Ke w B F K) : RwsA w F K.ev K.es := by
  obtain ⟨xs, ho, he⟩ := h.row
  exact rwsA_own ho he h.apart

theorem Ke.kr {w : World} {B : Nat} {F : Nat → Prop} {K : Kw} (h : Ke w B F K) : Kr w K := ⟨h.hp, h.note.byt, h.rows.rws⟩

/-- Others turn their blocks. -/
theorem Ke.mv {w w' : World} {B : Nat} {F F' : Nat → Prop} {K : Kw} (h : Ke w B F K) (m : Mv w F w' F') : Ke w' B F' K := by
  obtain ⟨xs, ho, he⟩ := h.row
  have h1 := m.block K.p (Array.getElem?_eq_some_iff.1 h.hp).1 h.out
  refine ⟨h1.1.trans h.hp, h.bp, h.note.mv m, ⟨xs, row_keep ho fun i hi => (m.block i (ho.lt i hi).2 (h.apart i hi)).1, he.imp fun _ _ hx => hx.mv m⟩, h1.2, fun i hi => (m.block i (ho.lt i hi).2 (h.apart i hi)).2⟩

theorem Ke.adds {w w' : World} {B : Nat} {F : Nat → Prop} {K : Kw} (h : Ke w B F K) (ha : Adds w w') : Ke w' B F K := h.mv (Mv.adds F ha)

theorem Ke.sub {w : World} {B : Nat} {F F' : Nat → Prop} {K : Kw} (h : Ke w B F K) (hF : ∀ i, F' i → F i) : Ke w B F' K := by
  obtain ⟨xs, ho, he⟩ := h.row
  have hn : ∀ b, b < w.heap.size → ¬ F b → ¬ F' b := fun b _ hf hc => hf (hF b hc)
  exact ⟨h.hp, h.bp, h.note.sub hn, ⟨xs, ho, he.imp fun _ _ hx => hx.sub hn⟩, fun hc => h.out (hF _ hc), fun i hi hc => h.apart i hi (hF i hc)⟩

theorem set_cell29 {w : World} {p : Nat} {a b c : Value} (x : Value) (h : w.heap[p]? = some (.cells #[a, b, c] 29 (0, 0))) :
    (w.setCell ⟨p, 2, none⟩ x).heap[p]? = some (.cells #[a, b, x] 29 (0, 0)) ∧ (w.setCell ⟨p, 1, none⟩ x).heap[p]? = some (.cells #[a, x, c] 29 (0, 0)) := by
  constructor
  · rw [heap_setCell_at x h (by simp)]
    rfl
  · rw [heap_setCell_at x h (by simp)]
    rfl

/-- The entries' row has turned to another. -/
theorem Ke.turned {W w7 : World} {B : Nat} {F : Nat → Prop} {K : Kw} (h : Ke W B F K) (hF : ∀ i, F i → i < W.heap.size) {ys : List Value} {v' : Value} {es' : List (List UInt8)} (hy : EachA W F ys es')
    (h7 : w7.ownsRow B 22 1 v' ys.length ys) (hg : W.grownBy w7 K.ev.ownBlock) (hv : v'.ownBlock = K.ev.ownBlock ∨ v'.ownBlock = some W.heap.size ∨ v'.ownBlock = none) :
    Ke (w7.setCell ⟨K.p, 2, none⟩ v') B F { K with ev := v', es := es' } ∧ Mv W K.own (w7.setCell ⟨K.p, 2, none⟩ v') ({ K with ev := v', es := es' } : Kw).own := by
  obtain ⟨xs, ho, _⟩ := h.row
  have hvp : K.ev.ownBlock ≠ some K.p := fun e => by
    obtain ⟨C, hC⟩ := row_block ho e
    rw [h.hp] at hC
    simp at hC
  have hpl := (Array.getElem?_eq_some_iff.1 h.hp).1
  have hp7 : w7.heap[K.p]? = some (.cells #[ptr K.tp, K.nv, K.ev] 29 (0, 0)) := (hg.block K.p hpl (fun e => hvp e.symm)).trans h.hp
  have hs := grown_set w7 K.p 2 v'
  have hblk : ∀ i, i < W.heap.size → ¬ K.own i → (w7.setCell ⟨K.p, 2, none⟩ v').heap[i]? = W.heap[i]? := fun i hi hn =>
    (hs.block i (Nat.lt_of_lt_of_le hi hg.size) fun e => hn (.inl (by simpa using e))).trans (hg.block i hi fun e => hn (.inr e.symm))
  have hown : ∀ i, i < W.heap.size → ¬ K.own i → ¬ ({ K with ev := v', es := es' } : Kw).own i := by
    rintro i hi hn (hc | hc)
    · exact hn (.inl hc)
    · have hc' : v'.ownBlock = some i := hc
      rcases hv with e | e | e
      · exact hn (.inr (e.symm.trans hc'))
      · rw [e] at hc'
        simp at hc'
        omega
      · rw [e] at hc'
        cases hc'
  have htag := h.tags
  have hb5 : ∀ b C z, W.heap[b]? = some (.cells C 5 z) → ¬ F b → (w7.setCell ⟨K.p, 2, none⟩ v').heap[b]? = W.heap[b]? ∧ ¬ F b := fun b C z hb hf => by
    refine ⟨hblk b (Array.getElem?_eq_some_iff.1 hb).1 fun hc => ?_, hf⟩
    obtain ⟨C', e, z', h1, h2⟩ := htag b hc
    rw [hb] at h1
    simp only [Option.some.injEq, Obj.cells.injEq] at h1
    exact h2 h1.2.1.symm
  refine ⟨⟨(set_cell29 v' hp7).1, h.bp, h.note.keep hb5, ⟨ys, ?_, hy.imp fun _ _ hx => hx.keep hb5⟩, h.out, ?_⟩, ⟨hs.os.trans hg.os, hs.tape.trans hg.tape, hs.output.trans hg.output, Nat.le_trans hg.size hs.size, fun i hi hn => ⟨hblk i hi hn, hown i hi hn⟩⟩⟩
  · refine row_keep h7 fun i hi => hs.block i (h7.lt i hi).2 fun e => ?_
    have e' : i = K.p := by simpa using e
    subst e'
    rcases hv with e1 | e1 | e1
    · exact hvp (e1.symm.trans hi)
    · rw [e1] at hi
      simp at hi
      omega
    · rw [e1] at hi
      cases hi
  · intro i hi hf
    have hi' : v'.ownBlock = some i := hi
    rcases hv with e1 | e1 | e1
    · exact h.apart i (e1.symm.trans hi') hf
    · rw [e1] at hi'
      simp at hi'
      have := hF i hf
      omega
    · rw [e1] at hi'
      cases hi'

/-- The note has turned to another. -/
theorem Ke.noted {W : World} {B : Nat} {F : Nat → Prop} {K : Kw} (h : Ke W B F K) {x : Value} {r : List UInt8} (hx : BytA W F x r) :
    Ke (W.setCell ⟨K.p, 1, none⟩ x) B F { K with nv := x, nt := r } ∧ Mv W K.own (W.setCell ⟨K.p, 1, none⟩ x) ({ K with nv := x, nt := r } : Kw).own := by
  obtain ⟨xs, ho, he⟩ := h.row
  have hvp : K.ev.ownBlock ≠ some K.p := fun e => by
    obtain ⟨C, hC⟩ := row_block ho e
    rw [h.hp] at hC
    simp at hC
  have hs := grown_set W K.p 1 x
  have hblk : ∀ i, i < W.heap.size → i ≠ K.p → (W.setCell ⟨K.p, 1, none⟩ x).heap[i]? = W.heap[i]? := fun i hi hn => hs.block i hi fun e => hn (by simpa using e)
  have hb5 : ∀ b C z, W.heap[b]? = some (.cells C 5 z) → ¬ F b → (W.setCell ⟨K.p, 1, none⟩ x).heap[b]? = W.heap[b]? ∧ ¬ F b := fun b C z hb hf => by
    refine ⟨hblk b (Array.getElem?_eq_some_iff.1 hb).1 fun hc => ?_, hf⟩
    subst hc
    rw [h.hp] at hb
    simp at hb
  refine ⟨⟨(set_cell29 x h.hp).2, h.bp, hx.keep hb5, ⟨xs, row_keep ho fun i hi => hblk i (ho.lt i hi).2 fun e => hvp (e ▸ hi), he.imp fun _ _ hx => hx.keep hb5⟩, h.out, h.apart⟩, ⟨hs.os, hs.tape, hs.output, hs.size, fun i hi hn => ⟨hblk i hi fun e => hn (.inl e), hn⟩⟩⟩

theorem Kr.cells {w : World} {K : Kw} (h : w.heap[K.p]? = some (.cells #[ptr K.tp, K.nv, K.ev] 29 (0, 0))) : w.cell? ⟨K.p, 0, none⟩ = some (ptr K.tp) ∧ w.cell? ⟨K.p, 1, none⟩ = some K.nv ∧ w.cell? ⟨K.p, 2, none⟩ = some K.ev ∧ w.frozen? ⟨K.p, 1, none⟩ = false ∧ w.frozen? ⟨K.p, 2, none⟩ = false :=
  ⟨cell_of_row w K.p 0 _ _ _ h, cell_of_row w K.p 1 _ _ _ h, cell_of_row w K.p 2 _ _ _ h, frozen_of h, frozen_of h⟩

end Go.Proofs.Ytelkkpomehgcjaa
