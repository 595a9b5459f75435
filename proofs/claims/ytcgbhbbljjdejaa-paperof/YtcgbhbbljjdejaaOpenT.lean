/-
  An argument opened: a cell, as it lies in memory.
-/
import Derived.Test.YtcgbhbbljjdejaaTree
import Derived.Test.YtcgbhbbljjdejaaOpen
namespace Go.Proofs.Ytcgbhbbljjdejaa
open Go.ChangeShapes Go.WideShapes Go.ChangeAt Go.RowKit Go.Joins Go.ChangeMaps

theorem Try.cells50 : Try.prog.cellsOf 50 = 4 := by kernel_rfl
theorem Try.cells48 : Try.prog.cellsOf 48 = 1 := by kernel_rfl

theorem Tr.up {ok : Nat → Prop} {d d' : Nat} {w : World} {s : Value} {ts : List T} (h : Tr ok d w s ts) (hd : d ≤ d') : Tr ok d' w s ts := by
  obtain ⟨k, rfl⟩ := Nat.le.dest hd
  induction k with
  | zero => exact h
  | succ k ih => exact (ih (by omega)).deeper

theorem bound_of (f : Nat → Nat) (n : Nat) : ∃ m, ∀ i, i < n → f i ≤ m := by
  induction n with
  | zero => exact ⟨0, fun i hi => absurd hi (by omega)⟩
  | succ n ih =>
    obtain ⟨m, hm⟩ := ih
    refine ⟨m + f n, fun i hi => ?_⟩
    by_cases e : i = n
    · subst e
      omega
    · have := hm i (by omega)
      omega

def T.nilT : T := .mk 0 0 ⟨#[]⟩ []

theorem trod_cell {H : Type} {enc : TypeId × Value → H} {w : World} : ∀ (n : Nat) (d : DataW H), SizeOf.sizeOf d ≤ n → ∀ (fuel : Nat) (cs : List Value) (ps : List MemPlace), DataW.trod enc Try.prog w 0 (fun _ => true) true fuel 50 cs = some (d, ps) →
    (∀ p ∈ ps, p.block < w.heap.size) → ∃ (t : T) (sv : Value) (D : Nat), cs = [.int .i64 t.kind, .int .i64 t.num, .string t.text, sv] ∧ t.text.size ≤ 9223372036854775807 ∧ Tr (fun _ => True) D w sv t.list := by
  intro n
  induction n with
  | zero =>
    intro d hd
    cases d <;> simp at hd
  | succ n ih =>
    intro d hd fuel cs ps h hlt
    obtain ⟨y0, y1, y2, y3, n', hx, hl, h0, h1, h2, h3⟩ := trod_struct4 Try.underlying50 h
    rw [Try.cells50] at hl
    match cs, hl with
    | [c0, c1, c2, c3], _ =>
      simp only [Try.cells3, Try.cells9, Try.cells48, List.drop_zero, List.take_succ_cons, List.take_zero, List.drop_succ_cons] at h0 h1 h2 h3
      obtain ⟨k, e0, _, _⟩ := DataW.trod_int Try.underlying3 h0
      obtain ⟨m, e1, _, _⟩ := DataW.trod_int Try.underlying3 h1
      obtain ⟨s, e2, _, hs⟩ := DataW.trod_string Try.underlying9 h2
      simp at e0 e1 e2
      subst e0 e1 e2
      simp only [Prod.mk.injEq] at hx
      obtain ⟨hx1, hx2⟩ := hx
      obtain ⟨y3a, y3b⟩ := y3
      rcases Deep.open_slice Try.underlying48 h3 with ⟨hcs, hx⟩ | ⟨a, len, cap, mm, nn, D, Pl, hcs, _, hl, hm, hmm, hx, hcell⟩
      · simp at hcs
        subst hcs
        exact ⟨.mk k m s [], _, 0, rfl, hs, rfl, none, 0, rfl⟩
      · simp only [List.cons.injEq, and_true] at hcs
        subst hcs
        simp only [if_true] at hmm
        subst hmm
        simp only [Prod.mk.injEq] at hx
        have each : ∀ i, i < len → ∃ (t : T) (sv : Value) (D : Nat), (w.cell? (a.add (i * 4)) = some (.int .i64 t.kind) ∧ w.cell? (a.add (i * 4 + 1)) = some (.int .i64 t.num) ∧ w.cell? (a.add (i * 4 + 2)) = some (.string t.text) ∧ w.cell? (a.add (i * 4 + 3)) = some sv) ∧ t.text.size ≤ 9223372036854775807 ∧ Tr (fun _ => True) D w sv t.list := by
          intro i hi
          obtain ⟨cs', g1, g2⟩ := hcell i (by omega)
          rw [Try.cells50] at g1
          obtain ⟨_, hlen, hc⟩ := World.cells?_some g1
          have hsz : SizeOf.sizeOf (D i) ≤ n := by
            have hmem : D i ∈ (List.range len).map D := List.mem_map.2 ⟨i, by simpa using hi, rfl⟩
            have q1 := List.sizeOf_lt_of_mem hmem
            rw [hx1, hx.1] at hd
            simp at hd
            omega
          obtain ⟨t, sv, Dd, rfl, ht, hT⟩ := ih (D i) hsz nn cs' (Pl i) g2 (fun p hp => hlt p (by
            rw [hx2, hx.2]
            simp only [List.mem_append, List.mem_flatMap]
            exact .inr (.inr (.inr (.inr ⟨i, by simp; omega, hp⟩)))))
          refine ⟨t, sv, Dd, ⟨?_, ?_, ?_, ?_⟩, ht, hT⟩
          · have := hc 0 (by omega); rw [Deep.add_add] at this; simpa using this
          · have := hc 1 (by omega); rw [Deep.add_add] at this; simpa using this
          · have := hc 2 (by omega); rw [Deep.add_add] at this; simpa using this
          · have := hc 3 (by omega); rw [Deep.add_add] at this; simpa using this
        by_cases hl0 : len = 0
        · subst hl0
          exact ⟨.mk k m s [], _, 0, rfl, hs, rfl, _, _, rfl⟩
        obtain ⟨b, off, spot⟩ := a
        have hspot : spot = none := by
          obtain ⟨t, sv, Dd, ⟨g, _⟩, _⟩ := each 0 (by omega)
          simpa [Addr.add] using World.cell?_spot g
        subst hspot
        have hbW : b < w.heap.size := by
          refine hlt (.cell b off) ?_
          rw [hx2, hx.2]
          simp only [List.mem_append]
          refine .inr (.inr (.inr (.inl (MemPlace.mem_row.2 ⟨0, ?_, by simp⟩))))
          rw [Try.cells50]
          omega
        obtain ⟨X, hX⟩ : ∃ X : Nat → T × Value × Nat, ∀ i, i < len → (w.cell? ((⟨b, off, none⟩ : Addr).add (i * 4)) = some (.int .i64 (X i).1.kind) ∧ w.cell? ((⟨b, off, none⟩ : Addr).add (i * 4 + 1)) = some (.int .i64 (X i).1.num) ∧ w.cell? ((⟨b, off, none⟩ : Addr).add (i * 4 + 2)) = some (.string (X i).1.text) ∧ w.cell? ((⟨b, off, none⟩ : Addr).add (i * 4 + 3)) = some (X i).2.1) ∧ (X i).1.text.size ≤ 9223372036854775807 ∧ Tr (fun _ => True) (X i).2.2 w (X i).2.1 (X i).1.list :=
          ⟨fun i => if h : i < len then ((each i h).choose, (each i h).choose_spec.choose, (each i h).choose_spec.choose_spec.choose) else (T.nilT, .nilIface, 0), fun i hi => by simp only [hi, dif_pos]; exact (each i hi).choose_spec.choose_spec.choose_spec⟩
        obtain ⟨Dm, hDm⟩ := bound_of (fun i => (X i).2.2) len
        refine ⟨.mk k m s ((List.range len).map fun i => (X i).1), _, Dm + 1, rfl, hs, ?_⟩
        refine ⟨some ⟨b, off, none⟩, mm, by simp [T.list], by simp [T.list]; omega, .inr ⟨b, off, rfl, hbW, trivial, fun j hj => ?_⟩⟩
        have hj' : j < len := by simpa [T.list] using hj
        obtain ⟨⟨g0, g1, g2, g3⟩, gt, gT⟩ := hX j hj'
        simp only [Addr.add_lit] at g0 g1 g2 g3
        refine ⟨(X j).2.1, ⟨?_, ?_, ?_, ?_⟩, ?_, ?_⟩
        · simpa [T.list] using g0
        · simpa [T.list, Nat.add_assoc] using g1
        · simpa [T.list, Nat.add_assoc] using g2
        · simpa [T.list, Nat.add_assoc] using g3
        · simpa [T.list] using gt
        · simpa [T.list] using gT.up (hDm j hj')

theorem open_T {H : Type} {enc : TypeId × Value → H} {w : World} {b0 : Nat} {r : Reach} {v : Value} {d : DataW H} {ps : List MemPlace}
    (hv : Value.okWide Try.prog w r b0 50 v) (h : DataW.Trod enc Try.prog w 0 (fun _ => true) true 50 v d ps) (hlt : ∀ x ∈ ps, x.block < w.heap.size) :
    ∃ (t : T) (sv : Value) (D : Nat), v = cellV t sv ∧ t.text.size ≤ 9223372036854775807 ∧ Tr (fun _ => True) D w sv t.list := by
  obtain ⟨cs, rfl, hsz⟩ := okWide_struct Try.underlying50 hv
  obtain ⟨fuel, hf⟩ := h
  obtain ⟨t, sv, D, hcs, ht, hT⟩ := trod_cell _ d (Nat.le_refl _) fuel _ ps hf hlt
  refine ⟨t, sv, D, ?_, ht, hT⟩
  simp only [Value.cells] at hcs
  unfold cellV
  congr 1
  apply Array.toList_inj.1
  exact hcs

end Go.Proofs.Ytcgbhbbljjdejaa
