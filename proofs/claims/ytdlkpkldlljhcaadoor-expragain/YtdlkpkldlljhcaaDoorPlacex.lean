/-
  Maps keyed by where a list lies, of lists in blocks that bear no mark: what is found is there.
-/
import Derived.Test.YtdlkpkldlljhcaaDoorPlace
import Derived.Test.YtdlkpkldlljhcaaDoorDeep
namespace Go.Proofs.YtdlkpkldlljhcaaDoor
open Go.RowKit


theorem stringish_no {P : Program} {w : World} {b off : Nat} {cs : Array Value} {t : TypeId} {fr : Nat × Nat} (h : w.heap[b]? = some (.cells cs t fr)) (hf : ∀ o, w.frozen? ⟨b, o, none⟩ = false) : (stringish ⟨b, off, none⟩).run P w = .ok false w := by
  have h1 := hf off
  have h2 := hf cs.size
  simp [stringish, h1, World.shape?, h, h2]

theorem sameAddr_x {P : Program} {w : World} {b off b' off' : Nat} {cs cs' : Array Value} {t t' : TypeId} {fr fr' : Nat × Nat} (h : w.heap[b]? = some (.cells cs t fr)) (h' : w.heap[b']? = some (.cells cs' t' fr')) (hf : ∀ o, w.frozen? ⟨b, o, none⟩ = false) (hf' : ∀ o, w.frozen? ⟨b', o, none⟩ = false) :
    ∃ q, (sameAddr ⟨b, off, none⟩ ⟨b', off', none⟩).run P w = .ok q w ∧ (q = true ↔ (⟨b, off, none⟩ : Addr) = ⟨b', off', none⟩) := by
  by_cases hbl : b = b'
  · subst hbl
    exact ⟨(⟨b, off, none⟩ : Addr) == ⟨b, off', none⟩, by simp [sameAddr], by simp⟩
  · have hm : (mayBeOne ⟨b, off, none⟩ ⟨b', off', none⟩).run P w = .ok false w := by simp [mayBeOne, stringish_no h hf, stringish_no h' hf']
    exact ⟨false, by simp [sameAddr, hbl, hf off, noView, viewAt, World.shape?, h, h', hm], by simp⟩

/-- A place in a block that bears no mark. -/
def PX (B : Nat) (w : World) (k : Value) : Prop := ∃ b off n cs t fr, k = .agg #[.pointer (some ⟨b, off, none⟩), .int .i64 n] ∧ w.heap[b]? = some (.cells cs t fr) ∧ (∀ o, w.frozen? ⟨b, o, none⟩ = false) ∧ b < B

theorem PX.pk {B : Nat} {w : World} {k : Value} (h : PX B w k) : PK B w k := by
  obtain ⟨b, off, n, cs, t, fr, rfl, h1, h2, h4⟩ := h
  exact ⟨b, off, n, cs, t, fr, rfl, h1, h2 off, h4⟩

theorem PX.keep {B : Nat} {w w' : World} {k : Value} (h : PX B w k) (hw : ∀ (b : Nat) (cs : Array Value) (t : TypeId) (fr : Nat × Nat), b < B → w.heap[b]? = some (Obj.cells cs t fr) → w'.heap[b]? = w.heap[b]?) : PX B w' k := by
  obtain ⟨b, off, n, cs, t, fr, rfl, h1, h2, h4⟩ := h
  have h3 := hw b cs t fr h4 h1
  exact ⟨b, off, n, cs, t, fr, rfl, h3.trans h1, fun o => by rw [World.frozen?_of_block (w := w) (a := ⟨b, o, none⟩) h3]; exact h2 o, h4⟩

theorem PX.same {B : Nat} {w : World} {x y : Value} (hx : PX B w x) (hy : PX B w y) : ∃ q, (Op.equal 82 x y).run Tryd.prog w = .ok q w ∧ (q = true ↔ x = y) := by
  obtain ⟨b, off, n, cs, t, fr, rfl, h1, h2, _⟩ := hx
  obtain ⟨b', off', n', cs', t', fr', rfl, h1', h2', _⟩ := hy
  obtain ⟨q, h, hq⟩ := sameAddr_x (P := Tryd.prog) (off := off) (off' := off') h1 h1' h2 h2'
  refine ⟨_, eq_place 9998 _ _ n n' w _ q h, ?_⟩
  rw [Bool.and_eq_true, hq]
  simp

theorem asking_x {B : Nat} {k : Value} : ∀ (es : List MapEntry) (i : Nat) (w : World), PX B w k → (∀ e ∈ es, PX B w e.key) → ∃ o, (Instr.findAsking 82 k es i).run Tryd.prog w = .ok o w ∧ ((o = none ∧ ∀ e ∈ es, e.key ≠ k) ∨ ∃ j e, o = some (j, e.val) ∧ e ∈ es ∧ e.key = k) := by
  intro es
  induction es with
  | nil => intro i w _ _; exact ⟨none, by simp [Instr.findAsking], .inl ⟨rfl, fun e h => by cases h⟩⟩
  | cons e es ih =>
    intro i w hk hes
    obtain ⟨q, h, hq⟩ := hk.same (hes e (by simp))
    cases q with
    | true => exact ⟨some (i, e.val), by simp [Instr.findAsking, h], .inr ⟨i, e, rfl, by simp, (hq.1 rfl).symm⟩⟩
    | false =>
      obtain ⟨o, h', hv⟩ := ih (i + 1) w hk (fun x hx => hes x (by simp [hx]))
      refine ⟨o, by simp [Instr.findAsking, h, h'], ?_⟩
      rcases hv with ⟨rfl, hv⟩ | ⟨j, e', rfl, hm, he⟩
      · refine .inl ⟨rfl, fun x hx => ?_⟩
        rcases List.mem_cons.1 hx with rfl | hx
        · intro hxe
          have := hq.2 hxe.symm
          cases this
        · exact hv x hx
      · exact .inr ⟨j, e', rfl, by simp [hm], he⟩

theorem find_x {B : Nat} {k : Value} (es : List MapEntry) (w : World) (hk : PX B w k) (hes : ∀ e ∈ es, PX B w e.key) : ∃ o, (Instr.findKey 82 k es).run Tryd.prog w = .ok o w ∧ ((o = none ∧ ∀ e ∈ es, e.key ≠ k) ∨ ∃ j e, o = some (j, e.val) ∧ e ∈ es ∧ e.key = k) := by
  cases es with
  | nil => exact ⟨none, by simp [Instr.findKey, run_underlying Tryd.underlying82, Instr.findNow], .inl ⟨rfl, fun e h => by cases h⟩⟩
  | cons e es =>
    rw [find_asks hk.pk (hes e (by simp)).pk]
    exact asking_x (e :: es) 0 w hk hes

/-- The map of the places ks at r. -/
def SeenX (B r : Nat) (w : World) (ks : List Value) : Prop := ∃ es clock, w.heap[r]? = some (.map es clock) ∧ es.toList.map (·.key) = ks ∧ ∀ e ∈ es.toList, PX B w e.key ∧ ∃ z, e.val = .int .i64 z

theorem seenx_look {B r : Nat} {w : World} {k : Value} {ks : List Value} (h : SeenX B r w ks) (hk : PX B w k) : ∃ z q, (Instr.lookup 79 (.map (some r)) k true).run Tryd.prog w = .ok (.tuple #[.int .i64 z, .bool q]) w ∧ (q = true ↔ k ∈ ks) := by
  obtain ⟨es, clock, hm, hks, hes⟩ := h
  obtain ⟨o, hf, hv⟩ := find_x es.toList w hk (fun e he => (hes e he).1)
  rcases hv with ⟨rfl, hv⟩ | ⟨j, e, rfl, he, hke⟩
  · refine ⟨0, false, by simp [Instr.lookup, run_underlying Tryd.underlying79, MapKept.run_getObj_map hm, check_place _ hk.pk, hf, Result.andThen], ?_⟩
    rw [← hks]
    simp only [Bool.false_eq_true, List.mem_map, false_iff, not_exists, not_and]
    exact hv
  · obtain ⟨z, hz⟩ := (hes e he).2
    refine ⟨z, true, by simp [Instr.lookup, run_underlying Tryd.underlying79, MapKept.run_getObj_map hm, check_place _ hk.pk, hf, hz, Result.andThen], ?_⟩
    rw [← hks]
    simp only [true_iff, List.mem_map]
    exact ⟨e, he, hke⟩

theorem seenx_set {B r : Nat} {w : World} {k : Value} {ks : List Value} (h : SeenX B r w ks) (hk : PX B w k) (hn : k ∉ ks) (v : Int) : ∃ w', (Instr.mapUpdate 79 (.map (some r)) k (.int .i64 v)).run Tryd.prog w = .ok () w' ∧ SeenX B r w' (ks ++ [k]) ∧ w.grownBy w' (some r) ∧ w'.heap.size = w.heap.size := by
  obtain ⟨es, clock, hm, hks, hes⟩ := h
  obtain ⟨o, hf, hv⟩ := find_x es.toList w hk (fun e he => (hes e he).1)
  have hr : r < w.heap.size := lt_of_some hm
  rcases hv with ⟨rfl, hv⟩ | ⟨j, e, rfl, he, hke⟩
  · refine ⟨{ w with heap := w.heap.setIfInBounds r (.map (es.push { key := k, val := .int .i64 v, born := clock }) (clock + 1)) }, by simp [Instr.mapUpdate, run_underlying Tryd.underlying79, MapKept.run_getObj_map hm, check_place _ hk.pk, hf, MapKept.run_setObj_map _ hm, Result.andThen], ⟨_, _, by simp [hr]; exact ⟨rfl, rfl⟩, by simp [hks], fun e he => ?_⟩, ⟨rfl, rfl, rfl, by simp, fun b hb hne => ?_⟩, by simp⟩
    · have hkeep : ∀ (b : Nat) (cs : Array Value) (t : TypeId) (fr : Nat × Nat), b < B → w.heap[b]? = some (Obj.cells cs t fr) → ({ w with heap := w.heap.setIfInBounds r (.map (es.push { key := k, val := .int .i64 v, born := clock }) (clock + 1)) } : World).heap[b]? = w.heap[b]? := by
        intro b cs t fr _ hb
        have hne : b ≠ r := by
          rintro rfl
          rw [hm] at hb
          cases hb
        simp only [Array.getElem?_setIfInBounds]
        rw [if_neg (fun e => hne e.symm)]
      simp only [Array.toList_push, List.mem_append, List.mem_singleton] at he
      rcases he with he | rfl
      · exact ⟨(hes e he).1.keep hkeep, (hes e he).2⟩
      · exact ⟨hk.keep hkeep, v, rfl⟩
    · simp only [Array.getElem?_setIfInBounds]
      rw [if_neg (fun e => hne (by rw [e]))]
  · exact absurd (by rw [← hks]; exact List.mem_map.2 ⟨e, he, hke⟩) hn

/-- 'v, ok := m[k]' at the operation. -/
theorem placex_look {ops : Array Oper} {rest : List Oper} {o : Oper} {a : Act} {w : World} {Q : Exit → Act → World → Prop} (hg : o.guard = none) (m x : Operand) (hop : o.op = Op.lookup 79 m x true) {B r : Nat} {ks : List Value} (hm : a.eval m = .map (some r)) (h : SeenX B r w ks) {k : Value} (hx : a.eval x = k) (hk : PX B w k)
    (hK : ∀ z q, (q = true ↔ k ∈ ks) → wpList Tryd.prog ops Q rest (a.put o.dst (.tuple #[.int .i64 z, .bool q])) w) : wpList Tryd.prog ops Q (o :: rest) a w := by
  refine wpList_plain hg fun K' hK' => ?_
  obtain ⟨z, q, hr, hq⟩ := seenx_look h hk
  unfold Oper.wp
  simp [execOp, hop, hm, hx, hr, Result.andThen]
  exact hK' _ _ (hK z q hq)

/-- 'm[k] = v' at the operation. -/
theorem placex_set {ops : Array Oper} {rest : List Oper} {o : Oper} {a : Act} {w : World} {Q : Exit → Act → World → Prop} (hg : o.guard = none) (m x v : Operand) (hop : o.op = Op.mapUpdate 79 m x v) {B r : Nat} {ks : List Value} (hm : a.eval m = .map (some r)) (h : SeenX B r w ks) {k : Value} (hx : a.eval x = k) (hk : PX B w k) (hn : k ∉ ks) {n : Int} (hv : a.eval v = .int .i64 n)
    (hK : ∀ w', SeenX B r w' (ks ++ [k]) → w.grownBy w' (some r) → w'.heap.size = w.heap.size → wpList Tryd.prog ops Q rest (a.put o.dst undef) w') : wpList Tryd.prog ops Q (o :: rest) a w := by
  refine wpList_plain hg fun K' hK' => ?_
  obtain ⟨w', hr, h1, h2, h3⟩ := seenx_set h hk hn n
  unfold Oper.wp
  simp [execOp, hop, hm, hx, hv, hr, Result.andThen]
  exact hK' _ _ (hK w' h1 h2 h3)

end Go.Proofs.YtdlkpkldlljhcaaDoor
