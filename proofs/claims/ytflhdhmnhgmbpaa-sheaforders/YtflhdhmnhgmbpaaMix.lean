/-
  Lists whose keys rise, and their permutations; a row of pairs that is written in place; a slice of bytes.
-/
import Derived.Test.YtflhdhmnhgmbpaaTurns
import Derived.Deep.MidRow
namespace Go.Proofs.Ytflhdhmnhgmbpaa
open Go.RowKit

theorem rises_pairwise (l : List F) : Rises l ↔ l.Pairwise (fun a b => lessP a.path b.path = true) := by
  induction l with
  | nil => exact ⟨fun _ => List.Pairwise.nil, fun _ i _ hi => absurd hi (by simp)⟩
  | cons x r ih => rw [rises_cons, List.pairwise_cons, ih]

theorem Rises.filter {l : List F} (h : Rises l) (q : F → Bool) : Rises (l.filter q) := (rises_pairwise _).2 (((rises_pairwise _).1 h).filter q)

/-- Two rising lists of the same pairs are one. -/
theorem rises_eq {l t : List F} (h : Rises l) (k : Rises t) (p : l.Perm t) : l = t := by
  induction l generalizing t with
  | nil => exact p.nil_eq
  | cons x r ih =>
    cases t with
    | nil => exact absurd p.length_eq (by simp)
    | cons y u =>
      obtain ⟨h1, h2⟩ := rises_cons.1 h
      obtain ⟨k1, k2⟩ := rises_cons.1 k
      have hx : x ∈ y :: u := p.mem_iff.1 (by simp)
      have hy : y ∈ x :: r := p.mem_iff.2 (by simp)
      have hxy : x = y := by
        rcases List.mem_cons.1 hx with e | hx
        · exact e
        · rcases List.mem_cons.1 hy with e | hy
          · exact e.symm
          · have a := k1 x hx
            rw [lessP_asymm (h1 y hy)] at a
            cases a
      subst hxy
      rw [ih h2 k2 p.cons_inv]

/-- No two pairs bear one key. -/
def Apart (l : List F) : Prop := l.Pairwise (fun a b => ¬ a.path.toList = b.path.toList)

theorem Rises.apart {l : List F} (h : Rises l) : Apart l := ((rises_pairwise _).1 h).imp fun h => ne_of_less h

theorem Apart.perm {l t : List F} (h : Apart l) (p : l.Perm t) : Apart t := (p.pairwise_iff (fun hab hba => hab hba.symm)).1 h

theorem Apart.same {l : List F} (h : Apart l) {a b : F} (ha : a ∈ l) (hb : b ∈ l) (e : a.path.toList = b.path.toList) : a = b := by
  induction l with
  | nil => simp at ha
  | cons x r ih =>
    obtain ⟨h1, h2⟩ := List.pairwise_cons.1 h
    rcases List.mem_cons.1 ha with ea | ha'
    · rcases List.mem_cons.1 hb with eb | hb'
      · rw [ea, eb]
      · exact absurd (ea ▸ e) (h1 b hb')
    · rcases List.mem_cons.1 hb with eb | hb'
      · exact absurd (eb ▸ e.symm) (h1 a ha')
      · exact ih h2 ha' hb'

theorem hasAt_mem {l : List F} {p : ByteArray} (h : Rises l) : hasAt p l = true ↔ ∃ x ∈ l, x.path.toList = p.toList := by
  rw [hasAt_first p h, decide_eq_true_eq]
  constructor
  · intro hlt
    exact ⟨_, List.getElem_mem hlt, firstAt_at hlt⟩
  · rintro ⟨x, hx, e⟩
    by_cases hlt : firstAt p l < l.length
    · exact hlt
    · exfalso
      obtain ⟨k, hk, rfl⟩ := List.getElem_of_mem hx
      have : ∀ (l : List F) k (hk : k < l.length), l[k].path.toList = p.toList → firstAt p l < l.length := by
        intro l
        induction l with
        | nil => intro k hk; simp at hk
        | cons y r ih =>
          intro k hk he
          by_cases hy : y.path.toList = p.toList
          · simp [firstAt, hy]
          · cases k with
            | zero => exact absurd he hy
            | succ k =>
              have := ih k (by simpa using hk) (by simpa using he)
              simp [firstAt, hy, this]
      exact hlt (this l k hk e)

theorem setDoc_perm {l : List F} {f : F} (h : hasAt f.path l = false) : (setDoc l f).Perm (f :: l) := by
  unfold setDoc
  rw [h, if_neg (by simp)]
  have := List.perm_middle (a := f) (l₁ := l.take (cutAt f.path l)) (l₂ := l.drop (cutAt f.path l))
  rwa [List.take_append_drop] at this

/-- The pairs ms lie in the block g from its beginning, and may be written. -/
def Mine (g : Nat) (ms : List F) (W : World) : Prop := g < W.heap.size ∧ Lies W g 0 ms ∧ ∀ j, j < ms.length * 2 → W.frozen? ⟨g, j, none⟩ = false

theorem Mine.adds {g : Nat} {ms : List F} {W W' : World} (h : Mine g ms W) (hA : Adds W W') : Mine g ms W' := by
  have hb := hA.below
  refine ⟨Nat.lt_of_lt_of_le h.1 hb.size, h.2.1.below hb h.1, fun j hj => ?_⟩
  rw [World.frozen?_of_block (w := W) (hb.block g h.1)]
  exact h.2.2 j hj

theorem Lies.at {w : World} {b off : Nat} {fs : List F} (h : Lies w b off fs) (j r : Nat) (hj : j < fs.length) (hr : r < 2) : w.cell? ⟨b, off + j * 2 + r, none⟩ = fs[j].cells[r]? := by
  have := h.cells (j * 2 + r) (fs[j].cells[r]'(by simpa [F.cells] using hr)) (by rw [cellsF_get fs j hj r hr]; simp)
  rw [Addr.add_lit, ← Nat.add_assoc] at this
  rw [this]
  simp

theorem size_setCells (g : Nat) : ∀ (vs : List Value) (o : Nat) (w : World), (w.setCells g o vs).heap.size = w.heap.size
  | [], _, _ => rfl
  | v :: r, o, w => by
    show ((w.setCell ⟨g, o, none⟩ v).setCells g (o + 1) r).heap.size = _
    rw [size_setCells g r (o + 1)]
    simp

theorem Mine.set {g : Nat} {ms : List F} {W : World} (h : Mine g ms W) {i : Nat} (hi : i < ms.length) (y : F) : Mine g (ms.set i y) (W.setCells g (i * 2) y.cells) := by
  have hlen : y.cells.length = 2 := by simp [F.cells]
  refine ⟨by rw [size_setCells]; exact h.1, lies_of fun j u hu => ?_, fun j hj => by rw [World.frozen?_setCells]; exact h.2.2 j (by simpa using hj)⟩
  rw [Addr.add_lit, Nat.zero_add]
  have hj : j < ms.length * 2 := by
    by_cases hj : j < ms.length * 2
    · exact hj
    · rw [List.getElem?_eq_none (by rw [cellsF_length]; simp; omega)] at hu
      cases hu
  have hq : j / 2 < (ms.set i y).length := by simp; omega
  rw [show j = j / 2 * 2 + j % 2 by omega, cellsF_get _ _ hq _ (by omega)] at hu
  by_cases e : j / 2 = i
  · rw [List.getElem_set, if_pos e.symm] at hu
    have hs : ∀ k, k < y.cells.length → (W.cell? ⟨g, i * 2 + k, none⟩).isSome = true := by
      intro k hk
      have := h.2.1.at i k hi (by omega)
      rw [Nat.zero_add] at this
      rw [this]
      simp [F.cells] at hk ⊢
      omega
    have := World.cell?_setCells_in g y.cells (i * 2) W hs (j % 2) (by omega)
    rw [show i * 2 + j % 2 = j by omega] at this
    rw [this, ← hu]
    simp
  · rw [List.getElem_set, if_neg (fun h => e h.symm)] at hu
    rw [World.cell?_setCells_out g y.cells (i * 2) W ⟨g, j, none⟩ (fun _ _ => by simp only; omega)]
    have := h.2.1.at (j / 2) (j % 2) (by omega) (by omega)
    rw [Nat.zero_add, show j / 2 * 2 + j % 2 = j by omega] at this
    rw [this, ← hu]

theorem below_setCells {B : Nat} {a w : World} (h : Below B a w) {g : Nat} (hg : B ≤ g) : ∀ (vs : List Value) (o : Nat), Below B a (w.setCells g o vs) := by
  intro vs o
  induction vs generalizing w o with
  | nil => exact h
  | cons v r ih =>
    show Below B a ((w.setCell ⟨g, o, none⟩ v).setCells g (o + 1) r)
    refine ih (w := w.setCell ⟨g, o, none⟩ v) ⟨h.os, h.tape, h.output, ?_, fun k hk => ?_⟩ (o + 1)
    · have := h.size
      simpa using this
    · rw [Below.heap_setCell w ⟨g, o, none⟩ v k (by show k ≠ g; omega)]
      exact h.block k hk

theorem own_new {w : World} {k : Nat} (hk : k = w.heap.size) : Own w.heap.size (.slice (some ⟨k, 0, none⟩) 0 0) [] w (w.alloc (.cells #[] 35)) := by
  subst hk
  exact own_empty w

theorem own_mine {B : Nat} {v : Value} {fs : List F} {W0 w : World} (h : Own B v fs W0 w) : ∃ ao cap, v = .slice ao fs.length cap ∧ (fs = [] ∨ ∃ g, ao = some ⟨g, 0, none⟩ ∧ B ≤ g ∧ Mine g fs w) := by
  have hl := h.lst
  have hlt := h.1.lt
  rcases h.1.2 with ⟨rfl, hn⟩ | ⟨g, cap, cur, rfl, hb, hg, hnc, hcm, hcs, htk⟩
  · have : fs = [] := List.eq_nil_of_length_eq_zero hn
    subst this
    exact ⟨none, 0, rfl, .inl rfl⟩
  · refine ⟨_, cap, rfl, ?_⟩
    obtain ⟨ao, cp, he, _, h0 | ⟨b, off, hb', hlt', hl'⟩⟩ := hl
    · exact .inl h0
    · simp only [Value.slice.injEq] at he
      rw [← he.1] at hb'
      simp only [Option.some.injEq, Addr.mk.injEq] at hb'
      obtain ⟨rfl, rfl, _⟩ := hb'
      refine .inr ⟨g, rfl, hb, hlt', hl', fun j hj => ?_⟩
      have hj' : j < cur.size := by
        rw [hcs]
        exact Nat.lt_of_lt_of_le hj (Nat.mul_le_mul_right _ hnc)
      simp [World.frozen?, hg]

theorem info35_size : (Try.prog.info? 35).map (·.size) = some 2 := by kernel_rfl

/-- A pair stored into such a row. -/
theorem row_store {ops : Array Oper} {rest : List Oper} {o : Oper} {a : Act} {w : World} {Q : Exit → Act → World → Prop} (hgd : o.guard = none) (x y : Operand) (ho : o.op = .store 35 x y)
    {g : Nat} {ms : List F} (h : Mine g ms w) {i : Nat} (hi : i < ms.length) (f : F) (hx : a.eval x = .pointer (some ⟨g, i * 2, none⟩))
    (hy : a.eval y = .agg #[.string f.path, .string f.val])
    (hk : ∀ w', Mine g (ms.set i f) w' → w' = w.setCells g (i * 2) f.cells → wpList Try.prog ops Q rest (a.put o.dst undef) w') : wpList Try.prog ops Q (o :: rest) a w := by
  refine wpList_store_mid hgd 35 x y ho g (i * 2) _ hx hy ?_ info35_size (all_oneCell_toArray (cs := [.string f.path, .string f.val]) (by intro u hu; simp only [List.mem_cons, List.mem_nil_iff, or_false] at hu; rcases hu with rfl | rfl <;> rfl)) ?_
  · intro j hj
    have hj6 : j < 2 := hj
    refine ⟨?_, h.2.2 _ (by omega)⟩
    have := h.2.1.at i j hi hj6
    rw [Nat.zero_add] at this
    rw [this]
    simp [F.cells]
    omega
  · exact hk _ (h.set hi f) rfl

theorem box_kept {w w2 : World} {c : List Value} {a0 a1 : Value} {T : TypeId} {g o : Nat} (hg : g < w.heap.size) (h : w2 = (w.alloc (.cells #[a0, a1] T)).setCells g o c) :
    w2.cell? ⟨w.heap.size, 0, none⟩ = some a0 ∧ w2.cell? ⟨w.heap.size, 1, none⟩ = some a1 := by
  have hk : ∀ i, w2.cell? ⟨w.heap.size, i, none⟩ = (w.alloc (.cells #[a0, a1] T)).cell? ⟨w.heap.size, i, none⟩ := by
    intro i
    rw [h]
    exact World.cell?_setCells_out g c o _ _ (fun e => by simp only at e; omega)
  refine ⟨?_, ?_⟩ <;> (rw [hk]; simp)

/-- The slice value s has the bytes bs. -/
def Byt (w : World) (s : Value) (bs : List UInt8) : Prop :=
  ∃ ao cap, s = .slice ao bs.length cap ∧ (bs = [] ∨ ∃ b off, ao = some ⟨b, off, none⟩ ∧ b < w.heap.size ∧ ∀ j (h : j < bs.length), w.cell? ⟨b, off + j, none⟩ = some (.int .u8 bs[j].toNat))

end Go.Proofs.Ytflhdhmnhgmbpaa
