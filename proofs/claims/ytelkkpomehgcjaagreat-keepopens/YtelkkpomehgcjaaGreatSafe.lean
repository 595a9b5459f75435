/-
  Rows of the law's own, and bytes of its own, beside a reel: what the one does leaves the other.
-/
import Derived.Test.YtelkkpomehgcjaaGreatFiles
namespace Go.Proofs.YtelkkpomehgcjaaGreat
open Go.RowKit Go.Maps

theorem Tryz.info4 : (Tryz.prog.info? 4).map (fun i => (i.zero, i.size, i.bytes)) = some (some (.bool false), 1, 1) := by kernel_rfl

/-- What a block of the reel is. -/
theorem foot_tag {w : World} {B : Nat} {R : Rw} (h : Mem w B R) {i : Nat} (hi : R.foot i) : (∃ es clock, w.heap[i]? = some (.map es clock)) ∨ ∃ C T, w.heap[i]? = some (.cells C T (0, 0)) ∧ (T = 67 ∨ T = 101 ∨ T = 5) := by
  rcases hi with rfl | rfl | hi | hi
  · exact .inr ⟨_, _, h.hp, .inl rfl⟩
  · obtain ⟨es, clock, hb, _⟩ := h.hm
    exact .inl ⟨es, clock, hb⟩
  · obtain ⟨C, hC⟩ := row_block h.hd hi
    exact .inr ⟨C, _, hC, .inr (.inl rfl)⟩
  · obtain ⟨x, hx, he⟩ := mem_blocks.1 hi
    obtain ⟨C, hC⟩ := row_block (h.hr x hx) he
    exact .inr ⟨C, _, hC, .inr (.inr rfl)⟩

/-- An element type that no row of a reel has. -/
def Odd (e : TypeId) : Prop := e ≠ 67 ∧ e ≠ 101 ∧ e ≠ 5

theorem odd_foot {w : World} {B B' : Nat} {R : Rw} (h : Mem w B R) {e : TypeId} (he : Odd e) {k n : Nat} {v : Value} {xs : List Value} (ho : w.ownsRow B' e k v n xs) {i : Nat} (hi : v.ownBlock = some i) : ¬ R.foot i := by
  intro hf
  obtain ⟨C, hC⟩ := row_block ho hi
  rcases foot_tag h hf with ⟨es, clock, hb⟩ | ⟨C', T, hb, hT⟩
  · rw [hC] at hb
    cases hb
  · rw [hC] at hb
    simp only [Option.some.injEq, Obj.cells.injEq] at hb
    obtain ⟨_, rfl, _⟩ := hb
    rcases hT with e1 | e1 | e1
    · exact he.1 e1
    · exact he.2.1 e1
    · exact he.2.2 e1

theorem row_moves {w w' : World} {B B' : Nat} {R R' : Rw} (h : Mem w B R) (mv : Moves w R w' R') {e : TypeId} (he : Odd e) {k n : Nat} {v : Value} {xs : List Value} (ho : w.ownsRow B' e k v n xs) : w'.ownsRow B' e k v n xs :=
  row_keep ho fun i hi => (mv.block i (ho.lt i hi).2 (odd_foot h he ho hi)).1

theorem row_adds {w w' : World} {B' : Nat} {e : TypeId} {k n : Nat} {v : Value} {xs : List Value} (ho : w.ownsRow B' e k v n xs) (ha : Adds w w') : w'.ownsRow B' e k v n xs :=
  row_keep ho fun i hi => ha.below.block i (ho.lt i hi).2

theorem live_grown {w w' : World} {B B' : Nat} {f : Fs} {R : Rw} (h : Live w B f R) {e : TypeId} (he : Odd e) {k n : Nat} {v : Value} {xs : List Value} (ho : w.ownsRow B' e k v n xs) (hg : w.grownBy w' v.ownBlock) : Live w' B f R :=
  h.keep hg.size fun i hi => hg.block i (h.mem.lt hi).2 fun e1 => odd_foot h.mem he ho e1.symm hi

/-- Two rows of unlike types. -/
theorem row_other {w w' : World} {B B' : Nat} {e e' : TypeId} {k k' n n' : Nat} {v v' : Value} {xs ys : List Value} (h : w.ownsRow B e k v n xs) (h' : w.ownsRow B' e' k' v' n' ys) (hne : e ≠ e') (hg : w.grownBy w' v'.ownBlock) : w'.ownsRow B e k v n xs := by
  refine row_keep h fun i hi => hg.block i (h.lt i hi).2 fun e1 => ?_
  obtain ⟨C, hC⟩ := row_block h hi
  obtain ⟨C', hC'⟩ := row_block h' e1.symm
  rw [hC] at hC'
  simp at hC'
  exact hne hC'.2

/-- Bytes that the reel does not turn. -/
def Safe (w : World) (R : Rw) (v : Value) (l : List UInt8) : Prop :=
  ∃ ao cap, v = .slice ao l.length cap ∧ l.length ≤ cap ∧ (l = [] ∨ ∃ b off C, ao = some ⟨b, off, none⟩ ∧ w.heap[b]? = some (.cells C 5 (0, 0)) ∧ ¬ R.foot b ∧ LiesB w b off l)

theorem Safe.byt {w : World} {R : Rw} {v : Value} {l : List UInt8} (h : Safe w R v l) : Byt w v l := by
  obtain ⟨ao, cap, rfl, hc, h⟩ := h
  refine byt_of hc ?_
  rcases h with h | ⟨b, off, C, rfl, hb, _, hl⟩
  · exact .inl h
  · exact .inr ⟨b, off, rfl, (Array.getElem?_eq_some_iff.1 hb).1, hl⟩

theorem Safe.keep {w w' : World} {R R' : Rw} {v : Value} {l : List UInt8} (h : Safe w R v l) (hk : ∀ b C, w.heap[b]? = some (.cells C 5 (0, 0)) → ¬ R.foot b → w'.heap[b]? = w.heap[b]? ∧ ¬ R'.foot b) : Safe w' R' v l := by
  obtain ⟨ao, cap, rfl, hc, h⟩ := h
  refine ⟨ao, cap, rfl, hc, ?_⟩
  rcases h with h | ⟨b, off, C, rfl, hb, hf, hl⟩
  · exact .inl h
  · obtain ⟨h1, h2⟩ := hk b C hb hf
    refine .inr ⟨b, off, C, rfl, h1.trans hb, h2, fun j hj => ?_⟩
    rw [World.cell?_of_block h1]
    exact hl j hj

theorem Safe.moves {w w' : World} {R R' : Rw} {v : Value} {l : List UInt8} (h : Safe w R v l) (mv : Moves w R w' R') : Safe w' R' v l :=
  h.keep fun b _ hb hf => mv.block b (Array.getElem?_eq_some_iff.1 hb).1 hf

theorem Safe.adds {w w' : World} {R : Rw} {v : Value} {l : List UInt8} (h : Safe w R v l) (ha : Adds w w') : Safe w' R v l := h.moves (Moves.adds R ha)

theorem Safe.grown {w w' : World} {R : Rw} {v : Value} {l : List UInt8} (h : Safe w R v l) {B' : Nat} {e : TypeId} (he : Odd e) {k n : Nat} {v' : Value} {xs : List Value} (ho : w.ownsRow B' e k v' n xs) (hg : w.grownBy w' v'.ownBlock) : Safe w' R v l :=
  h.keep fun b C hb hf => ⟨hg.block b (Array.getElem?_eq_some_iff.1 hb).1 fun e1 => by
    obtain ⟨C', hC'⟩ := row_block ho e1.symm
    rw [hb] at hC'
    simp at hC'
    exact he.2.2 hC'.2.symm, hf⟩

theorem safe_read {w w' : World} {B : Nat} {f : Fs} {R : Rw} (h : Live w B f R) {r : Value} {b : List UInt8} (ho : w'.ownsRow w.heap.size 5 1 r b.length (cellsB b)) : Safe w' R r b := by
  obtain ⟨ao, cap, rfl, hc, hl⟩ := (row_byt ho).open
  refine ⟨ao, cap, rfl, hc, ?_⟩
  rcases hl with hl | ⟨g, off, rfl, hg, hl⟩
  · exact .inl hl
  · obtain ⟨C, hC⟩ := row_block ho (i := g) rfl
    refine .inr ⟨g, off, C, rfl, hC, fun hf => ?_, hl⟩
    have h1 := (ho.lt g rfl).1
    have h2 := (h.mem.lt hf).2
    omega

theorem safe_nil (w : World) (R : Rw) : Safe w R (.slice none 0 0) [] := ⟨none, 0, rfl, Nat.le_refl _, .inl rfl⟩

/-- Slices that are safe, one by one. -/
def Eachs (w : World) (R : Rw) (xs : List Value) (ls : List (List UInt8)) : Prop := xs.length = ls.length ∧ ∀ i (h : i < xs.length) (h' : i < ls.length), Safe w R xs[i] ls[i]

theorem Eachs.imp {w w' : World} {R R' : Rw} {xs : List Value} {ls : List (List UInt8)} (h : Eachs w R xs ls) (f : ∀ v l, Safe w R v l → Safe w' R' v l) : Eachs w' R' xs ls := ⟨h.1, fun i h1 h2 => f _ _ (h.2 i h1 h2)⟩

theorem Eachs.snoc {w : World} {R : Rw} {xs : List Value} {ls : List (List UInt8)} {v : Value} {l : List UInt8} (h : Eachs w R xs ls) (hv : Safe w R v l) : Eachs w R (xs ++ [v]) (ls ++ [l]) := by
  refine ⟨by simp [h.1], fun i h1 h2 => ?_⟩
  by_cases hi : i < xs.length
  · rw [List.getElem_append_left hi, List.getElem_append_left (by rw [← h.1]; exact hi)]
    exact h.2 i hi (by rw [← h.1]; exact hi)
  · have e : i = xs.length := by
      simp at h1
      omega
    have e1 : (xs ++ [v])[i] = v := by
      subst e
      simp
    have e2 : (ls ++ [l])[i] = l := by
      have : i = ls.length := by rw [← h.1]; exact e
      subst this
      simp
    rw [e1, e2]
    exact hv

theorem eachs_one {w : World} {R : Rw} {xs : List Value} {ls : List (List UInt8)} (h : Eachs w R xs ls) : ∀ u ∈ xs, u.oneCell' = true := by
  intro u hu
  obtain ⟨i, hi, rfl⟩ := List.getElem_of_mem hu
  obtain ⟨ao, cap, e, _⟩ := h.2 i hi (by rw [← h.1]; exact hi)
  rw [e]
  rfl

/-- append of one element of one cell. -/
theorem one_append {t e : TypeId} {z : Value} {nb : Nat} (hu : Tryz.prog.underlying t = some (.slice e)) (hinfo : (Tryz.prog.info? e).map (fun i => (i.zero, i.size, i.bytes)) = some (some z, 1, nb)) (hz1 : z.oneCell' = true) (hnb : nb ≤ 64)
    (w : World) (B : Nat) (ty : TypeId) (v : Value) (xs : List Value) (h : w.ownsRow B e 1 v xs.length xs) (hB : B ≤ w.heap.size) (x : Value) (hx : x.oneCell' = true) (g c : Nat) (hg : w.cell? ⟨g, 0, none⟩ = some x) (hlen : xs.length ≤ 1000000000) :
    ∃ v' w', (Builtin.append_ #[t, t] ty #[v, .slice (some ⟨g, 0, none⟩) 1 c]).run Tryz.prog w = .ok v' w' ∧ w'.ownsRow B e 1 v' (xs ++ [x]).length (xs ++ [x]) ∧ w.grownBy w' v.ownBlock := by
  obtain ⟨i0, hi, hz0, hzs, hzb⟩ := info_parts hinfo
  have hsz : (xs.length + 1) * nb ≤ 140737488355328 := Nat.le_trans (Nat.mul_le_mul (Nat.add_le_add_right hlen 1) hnb) (by decide)
  obtain ⟨v', w', h1, h2, h3, _⟩ := run_append_own_at (P := Tryz.prog) w B t ty e i0 z 1 nb hu hi hz0 hzs hzb (by cases z <;> first | rfl | cases hz1) (by decide) v xs.length xs h ⟨g, 0, none⟩ 1 c [x] (by simp)
    (fun j u hu => by
      have : j = 0 := by
        have := (List.getElem?_eq_some_iff.1 hu).1
        simpa using this
      subst this
      simp at hu
      subst hu
      simpa [Addr.add] using hg) (by intro u hu; simp at hu; subst hu; exact hx) (by unfold maxLen; omega) hsz hB
  refine ⟨v', w', h1, ?_, h3⟩
  rw [List.length_append]
  exact h2

theorem sl_app {ops : Array Oper} {rest : List Oper} {o : Oper} {a : Act} {w : World} {Q : Exit → Act → World → Prop} (hgd : o.guard = none) (s x : Operand) (ho : o.op = .call { callee := .builtin .append, args := #[s, x], argTypes := #[37, 37] })
    {B : Nat} {v : Value} {xs : List Value} (h : w.ownsRow B 40 1 v xs.length xs) (hB : B ≤ w.heap.size) (hs : a.eval s = v) (y : Value) (hy : y.oneCell' = true) (g c : Nat) (hx : a.eval x = .slice (some ⟨g, 0, none⟩) 1 c) (hg : w.cell? ⟨g, 0, none⟩ = some y) (hlen : xs.length ≤ 1000000000)
    (hk : ∀ v' w', w'.ownsRow B 40 1 v' (xs ++ [y]).length (xs ++ [y]) → w.grownBy w' v.ownBlock → wpList Tryz.prog ops Q rest (a.put o.dst v') w') : wpList Tryz.prog ops Q (o :: rest) a w := by
  obtain ⟨v', w', hr, h2, h3⟩ := one_append Tryz.underlying37 Tryz.info40 rfl (by decide) w B o.type v xs h hB y hy g c hg hlen
  exact Lib.wpList_append_run w hgd s x 37 37 ho v _ hs hx v' w' hr (hk v' w' h2 h3)

/-- A row's element. -/
theorem row_at {w : World} {B : Nat} {e : TypeId} {v : Value} {xs : List Value} (h : w.ownsRow B e 1 v xs.length xs) {j : Nat} (hj : j < xs.length) : ∃ g cap, v = .slice (some ⟨g, 0, none⟩) xs.length cap ∧ xs.length ≤ cap ∧ B ≤ g ∧ g < w.heap.size ∧ w.cell? ⟨g, j, none⟩ = some xs[j] ∧ w.frozen? ⟨g, j, none⟩ = false := by
  have hc := fun g => h.cells (g := g)
  have hlt := h.lt
  rcases h.2 with ⟨rfl, hn⟩ | ⟨g, cap, cur, rfl, hb, hg, hnc, _⟩
  · omega
  · refine ⟨g, cap, rfl, hnc, hb, (hlt g rfl).2, ?_, frozen_of hg⟩
    have := hc g rfl j xs[j] (by simp [hj])
    rw [add_at, Nat.zero_add] at this
    exact this

theorem row_len {w : World} {B : Nat} {e : TypeId} {v : Value} {xs : List Value} (h : w.ownsRow B e 1 v xs.length xs) : ∃ ao cap, v = .slice ao xs.length cap := by
  rcases h.2 with ⟨rfl, hn⟩ | ⟨g, cap, cur, rfl, _⟩
  · exact ⟨none, 0, by rw [hn]⟩
  · exact ⟨_, _, rfl⟩

/-- A store into a row. -/
theorem row_set {w : World} {B : Nat} {e : TypeId} {g cap : Nat} {xs : List Value} (h : w.ownsRow B e 1 (.slice (some ⟨g, 0, none⟩) xs.length cap) xs.length xs) (j : Nat) (hj : j < xs.length) (x : Value) : (w.setCell ⟨g, j, none⟩ x).ownsRow B e 1 (.slice (some ⟨g, 0, none⟩) xs.length cap) xs.length (xs.set j x) := by
  rcases h.2 with ⟨e1, _⟩ | ⟨g', cap', cur, e1, hb, hg, hnc, hcm, hcs, htk⟩
  · cases e1
  · simp only [Value.slice.injEq, Option.some.injEq, Addr.mk.injEq, and_true, true_and] at e1
    obtain ⟨rfl, rfl⟩ := e1
    have hjc : j < cur.size := by rw [hcs]; omega
    refine ⟨by simp, .inr ⟨g, cap, cur.set j x, rfl, hb, heap_setCell_at x hg hjc, hnc, hcm, by simpa using hcs, ?_⟩⟩
    rw [Array.toList_set, List.take_set, htk]

end Go.Proofs.YtelkkpomehgcjaaGreat
