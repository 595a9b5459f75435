/-
  The reference's rows in memory: files and units; the function fresh by contract.
-/
import Derived.Test.YtelkkpomehgcjaaGreatMods
import Derived.Test.YtelkkpomehgcjaaGreatSafe
namespace Go.Proofs.YtelkkpomehgcjaaGreat
open Go.RowKit Go.Maps

theorem Tryz.info62 : (Tryz.prog.info? 62).map (fun i => (i.zero, i.size, i.bytes)) = some (some (.agg #[.int .i64 0, .slice none 0 0]), 2, 32) := by kernel_rfl
theorem Tryz.info83 : (Tryz.prog.info? 83).map (fun i => (i.zero, i.size, i.bytes)) = some (some (.agg #[.int .i64 0, .int .u8 0, .bool false, .bool false]), 4, 16) := by kernel_rfl

/-- The cells of the reference's files. -/
def cellsK (l : List Fl) : List Value := l.flatMap fun p => [.int .i64 p.1, p.2.1]
def Un.cells (u : Un) : List Value := [.int .i64 u.n, .int .u8 (u.c.toNat : Int), .bool u.drop, .bool u.empty]
def cellsU (l : List Un) : List Value := l.flatMap Un.cells

/-- Cells that lie in a block of elements e. -/
def Lie (w : World) (e : TypeId) (k : Nat) (v : Value) (n : Nat) (xs : List Value) : Prop :=
  ∃ ao cap, v = .slice ao n cap ∧ n ≤ cap ∧ xs.length = n * k ∧ (n = 0 ∨ ∃ b off C, ao = some ⟨b, off, none⟩ ∧ w.heap[b]? = some (.cells C e (0, 0)) ∧ ∀ j u, xs[j]? = some u → w.cell? ⟨b, off + j, none⟩ = some u)

theorem Lie.keep {w w' : World} {e : TypeId} {k n : Nat} {v : Value} {xs : List Value} (h : Lie w e k v n xs) (hk : ∀ (b : Nat) (C : Array Value), w.heap[b]? = some (Obj.cells C e (0, 0)) → w'.heap[b]? = w.heap[b]?) : Lie w' e k v n xs := by
  obtain ⟨ao, cap, rfl, hc, hl, h⟩ := h
  refine ⟨ao, cap, rfl, hc, hl, ?_⟩
  rcases h with h | ⟨b, off, C, rfl, hb, hx⟩
  · exact .inl h
  · have e1 := hk b C hb
    refine .inr ⟨b, off, C, rfl, e1.trans hb, fun j u hu => ?_⟩
    rw [World.cell?_of_block e1]
    exact hx j u hu

theorem Lie.adds {w w' : World} {e : TypeId} {k n : Nat} {v : Value} {xs : List Value} (h : Lie w e k v n xs) (ha : Adds w w') : Lie w' e k v n xs :=
  h.keep fun b _ hb => ha.below.block b (Array.getElem?_eq_some_iff.1 hb).1

theorem Lie.moves {w w' : World} {B : Nat} {R R' : Rw} (m : Mem w B R) (mv : Moves w R w' R') {e : TypeId} (he : Odd e) {k n : Nat} {v : Value} {xs : List Value} (h : Lie w e k v n xs) : Lie w' e k v n xs :=
  h.keep fun b C hb => (mv.block b (Array.getElem?_eq_some_iff.1 hb).1 (fun hf => by
    rcases foot_tag m hf with ⟨es, clock, hx⟩ | ⟨C', T, hx, hT⟩
    · rw [hb] at hx
      cases hx
    · rw [hb] at hx
      simp only [Option.some.injEq, Obj.cells.injEq] at hx
      obtain ⟨_, rfl, _⟩ := hx
      rcases hT with e1 | e1 | e1
      · exact he.1 e1
      · exact he.2.1 e1
      · exact he.2.2 e1)).1

theorem lie_of_row {w : World} {B : Nat} {e : TypeId} {k n : Nat} {v : Value} {xs : List Value} (h : w.ownsRow B e k v n xs) : Lie w e k v n xs := by
  have hc := fun g => h.cells (g := g)
  rcases h.2 with ⟨rfl, rfl⟩ | ⟨g, cap, cur, rfl, _, hg, hnc, _⟩
  · exact ⟨none, 0, rfl, Nat.le_refl _, h.1, .inl rfl⟩
  · refine ⟨_, cap, rfl, hnc, h.1, .inr ⟨g, 0, cur, rfl, hg, fun j u hu => ?_⟩⟩
    have := hc g rfl j u hu
    rw [add_at] at this
    exact this

/-- The reference's files: a row, and bytes that the reel does not turn. -/
structure FilesV (w : World) (R : Rw) (v : Value) (l : List Fl) : Prop where
  row : Lie w 62 2 v l.length (cellsK l)
  bytes : ∀ p ∈ l, Safe w R p.2.1 p.2.2

theorem FilesV.adds {w w' : World} {R : Rw} {v : Value} {l : List Fl} (h : FilesV w R v l) (ha : Adds w w') : FilesV w' R v l := ⟨h.row.adds ha, fun p hp => (h.bytes p hp).adds ha⟩

theorem FilesV.moves {w w' : World} {B : Nat} {R R' : Rw} {v : Value} {l : List Fl} (h : FilesV w R v l) (m : Mem w B R) (mv : Moves w R w' R') : FilesV w' R' v l := ⟨h.row.moves m mv ⟨by decide, by decide, by decide⟩, fun p hp => (h.bytes p hp).moves mv⟩

theorem cellsK_length (l : List Fl) : (cellsK l).length = l.length * 2 := by
  induction l with
  | nil => rfl
  | cons f r ih =>
    simp only [cellsK, List.flatMap_cons, List.length_append, List.length_cons] at *
    rw [ih]
    simp
    omega

theorem cellsK_append (l t : List Fl) : cellsK (l ++ t) = cellsK l ++ cellsK t := by simp [cellsK]

theorem cellsK_get : ∀ (l : List Fl) (i : Nat) (hi : i < l.length), (cellsK l)[i * 2]? = some (.int .i64 l[i].1) ∧ (cellsK l)[i * 2 + 1]? = some l[i].2.1
  | f :: t, 0, _ => by simp [cellsK]
  | f :: t, i + 1, hi => by
    have hi' : i < t.length := by simpa using hi
    have := cellsK_get t i hi'
    simp only [cellsK, List.flatMap_cons, List.getElem_cons_succ] at this ⊢
    rw [show (i + 1) * 2 = i * 2 + 2 by omega, show i * 2 + 2 + 1 = i * 2 + 1 + 2 by omega]
    exact this

/-- File i of a row. -/
theorem FilesV.at {w : World} {R : Rw} {v : Value} {l : List Fl} (h : FilesV w R v l) {i : Nat} (hi : i < l.length) :
    ∃ b off cap, v = .slice (some ⟨b, off, none⟩) l.length cap ∧ l.length ≤ cap ∧ b < w.heap.size ∧ w.cell? ⟨b, off + i * 2, none⟩ = some (.int .i64 l[i].1) ∧ w.cell? ⟨b, off + i * 2 + 1, none⟩ = some l[i].2.1 ∧ Safe w R l[i].2.1 l[i].2.2 := by
  obtain ⟨ao, cap, rfl, hc, _, hx⟩ := h.row
  rcases hx with hx | ⟨b, off, C, rfl, hb, hx⟩
  · omega
  · obtain ⟨e1, e2⟩ := cellsK_get l i hi
    exact ⟨b, off, cap, rfl, hc, (Array.getElem?_eq_some_iff.1 hb).1, hx _ _ e1, hx _ _ e2, h.bytes _ (List.getElem_mem hi)⟩

end Go.Proofs.YtelkkpomehgcjaaGreat
