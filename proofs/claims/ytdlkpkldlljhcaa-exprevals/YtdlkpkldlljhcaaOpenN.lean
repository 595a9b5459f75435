/-
  An argument opened: a node, as it lies in memory.
-/
import Derived.Test.YtdlkpkldlljhcaaNode
import Derived.Test.YtdlkpkldlljhcaaOpen
namespace Go.Proofs.Ytdlkpkldlljhcaa
open Go.ChangeShapes Go.WideShapes Go.ChangeAt Go.RowKit Go.Joins Go.ChangeMaps

theorem Try.cells25 : Try.prog.cellsOf 25 = 4 := by kernel_rfl
theorem Try.cells23 : Try.prog.cellsOf 23 = 1 := by kernel_rfl

theorem bound_of (f : Nat → Nat) (n : Nat) : ∃ m, ∀ i, i < n → f i ≤ m := by
  induction n with
  | zero => exact ⟨0, fun i hi => absurd hi (by omega)⟩
  | succ n ih =>
    obtain ⟨m, hm⟩ := ih
    refine ⟨m + f n, fun i hi => ?_⟩
    by_cases e : i = n
    · subst e
      omega
    · have := hm i (by omega)
      omega


set_option maxRecDepth 100000 in
theorem trod_node {H : Type} {enc : TypeId × Value → H} {w : World} : ∀ (n : Nat) (d : DataW H), SizeOf.sizeOf d ≤ n → ∀ (fuel : Nat) (cs : List Value) (ps : List MemPlace), DataW.trod enc Try.prog w 0 (fun _ => true) true fuel 25 cs = some (d, ps) →
    (∀ p ∈ ps, p.block < w.heap.size) → w.noneFrozen ps → ∃ (t : N) (sv : Value) (D : Nat), cs = [.int .i64 t.kind, .string t.text, .int .i64 t.num, sv] ∧ t.text.size ≤ 9223372036854775807 ∧ Tn (fun _ => True) D w sv t.args := by
  intro n
  induction n with
  | zero =>
    intro d hd
    cases d <;> simp at hd
  | succ n ih =>
    intro d hd fuel cs ps h hlt hfz
    obtain ⟨y0, y1, y2, y3, n', hx, hl, h0, h1, h2, h3⟩ := trod_struct4 Try.underlying25 h
    rw [Try.cells25] at hl
    match cs, hl with
    | [c0, c1, c2, c3], _ =>
      simp only [Try.cells3, Try.cells9, Try.cells23, List.drop_zero, List.take_succ_cons, List.take_zero, List.drop_succ_cons] at h0 h1 h2 h3
      obtain ⟨k, e0, _, _⟩ := DataW.trod_int Try.underlying3 h0
      obtain ⟨s, e1, _, hs⟩ := DataW.trod_string Try.underlying9 h1
      obtain ⟨m, e2, _, _⟩ := DataW.trod_int Try.underlying3 h2
      simp at e0 e1 e2
      subst e0 e1 e2
      simp only [Prod.mk.injEq] at hx
      obtain ⟨hx1, hx2⟩ := hx
      obtain ⟨y3a, y3b⟩ := y3
      rcases Deep.open_slice Try.underlying23 h3 with ⟨hcs, hx⟩ | ⟨a, len, cap, mm, nn, D, Pl, hcs, _, hl, hm, hmm, hx, hcell⟩
      · simp at hcs
        subst hcs
        exact ⟨.mk k s m [], _, 0, rfl, hs, rfl, none, 0, rfl⟩
      · simp only [List.cons.injEq, and_true] at hcs
        subst hcs
        simp only [if_true] at hmm
        subst hmm
        simp only [Prod.mk.injEq] at hx
        have each : ∀ i, i < len → ∃ (t : N) (sv : Value) (D : Nat), (w.cell? (a.add (i * 4)) = some (.int .i64 t.kind) ∧ w.cell? (a.add (i * 4 + 1)) = some (.string t.text) ∧ w.cell? (a.add (i * 4 + 2)) = some (.int .i64 t.num) ∧ w.cell? (a.add (i * 4 + 3)) = some sv) ∧ t.text.size ≤ 9223372036854775807 ∧ Tn (fun _ => True) D w sv t.args := by
          intro i hi
          obtain ⟨cs', g1, g2⟩ := hcell i (by omega)
          rw [Try.cells25] at g1
          obtain ⟨_, hlen, hc⟩ := World.cells?_some g1
          have hsz : SizeOf.sizeOf (D i) ≤ n := by
            have hmem : D i ∈ (List.range len).map D := List.mem_map.2 ⟨i, by simpa using hi, rfl⟩
            have q1 := List.sizeOf_lt_of_mem hmem
            rw [hx1, hx.1] at hd
            simp at hd
            omega
          obtain ⟨t, sv, Dd, rfl, ht, hT⟩ := ih (D i) hsz nn cs' (Pl i) g2 (fun p hp => hlt p (by
            rw [hx2, hx.2]
            simp only [List.mem_append, List.mem_flatMap]
            exact .inr (.inr (.inr (.inr ⟨i, by simp; omega, hp⟩))))) (fun b' o' hp => hfz b' o' (by
            rw [hx2, hx.2]
            simp only [List.mem_append, List.mem_flatMap]
            exact .inr (.inr (.inr (.inr ⟨i, by simp; omega, hp⟩)))))
          refine ⟨t, sv, Dd, ⟨?_, ?_, ?_, ?_⟩, ht, hT⟩
          · have := hc 0 (by omega); rw [Deep.add_add] at this; simpa using this
          · have := hc 1 (by omega); rw [Deep.add_add] at this; simpa using this
          · have := hc 2 (by omega); rw [Deep.add_add] at this; simpa using this
          · have := hc 3 (by omega); rw [Deep.add_add] at this; simpa using this
        by_cases hl0 : len = 0
        · subst hl0
          exact ⟨.mk k s m [], _, 0, rfl, hs, rfl, _, _, rfl⟩
        obtain ⟨b, off, spot⟩ := a
        have hspot : spot = none := by
          obtain ⟨t, sv, Dd, ⟨g, _⟩, _⟩ := each 0 (by omega)
          simpa [Addr.add] using World.cell?_spot g
        subst hspot
        have hmem0 : MemPlace.cell b off ∈ ps := by
          rw [hx2, hx.2]
          simp only [List.mem_append]
          refine .inr (.inr (.inr (.inl (MemPlace.mem_row.2 ⟨0, ?_, by simp⟩))))
          rw [Try.cells25]
          omega
        have hbW : b < w.heap.size := hlt (.cell b off) hmem0
        have hz0 := hfz b off hmem0
        obtain ⟨X, hX⟩ : ∃ X : Nat → N × Value × Nat, ∀ i, i < len → (w.cell? ((⟨b, off, none⟩ : Addr).add (i * 4)) = some (.int .i64 (X i).1.kind) ∧ w.cell? ((⟨b, off, none⟩ : Addr).add (i * 4 + 1)) = some (.string (X i).1.text) ∧ w.cell? ((⟨b, off, none⟩ : Addr).add (i * 4 + 2)) = some (.int .i64 (X i).1.num) ∧ w.cell? ((⟨b, off, none⟩ : Addr).add (i * 4 + 3)) = some (X i).2.1) ∧ (X i).1.text.size ≤ 9223372036854775807 ∧ Tn (fun _ => True) (X i).2.2 w (X i).2.1 (X i).1.args :=
          ⟨fun i => if h : i < len then ((each i h).choose, (each i h).choose_spec.choose, (each i h).choose_spec.choose_spec.choose) else (N.zero, .nilIface, 0), fun i hi => by simp only [hi, dif_pos]; exact (each i hi).choose_spec.choose_spec.choose_spec⟩
        obtain ⟨Dm, hDm⟩ := bound_of (fun i => (X i).2.2) len
        refine ⟨.mk k s m ((List.range len).map fun i => (X i).1), _, Dm + 1, rfl, hs, ?_⟩
        refine ⟨some ⟨b, off, none⟩, mm, by simp [N.args], by simp [N.args]; omega, .inr ⟨b, off, rfl, hbW, trivial, hz0, fun j hj => ?_⟩⟩
        have hj' : j < len := by simpa [N.args] using hj
        obtain ⟨⟨g0, g1, g2, g3⟩, gt, gT⟩ := hX j hj'
        simp only [Addr.add_lit] at g0 g1 g2 g3
        refine ⟨(X j).2.1, ⟨?_, ?_, ?_, ?_⟩, ?_, ?_⟩
        · simpa [N.args] using g0
        · simpa [N.args, Nat.add_assoc] using g1
        · simpa [N.args, Nat.add_assoc] using g2
        · simpa [N.args, Nat.add_assoc] using g3
        · simpa [N.args] using gt
        · simpa [N.args] using gT.up (hDm j hj')

set_option maxRecDepth 100000 in
theorem open_N {H : Type} {enc : TypeId × Value → H} {w : World} {b0 : Nat} {r : Reach} {v : Value} {d : DataW H} {ps : List MemPlace}
    (hv : Value.okWide Try.prog w r b0 25 v) (h : DataW.Trod enc Try.prog w 0 (fun _ => true) true 25 v d ps) (hlt : ∀ x ∈ ps, x.block < w.heap.size) (hfz : w.noneFrozen ps) :
    ∃ (t : N) (sv : Value) (D : Nat), v = nodeV t sv ∧ t.text.size ≤ 9223372036854775807 ∧ Tn (fun _ => True) D w sv t.args := by
  obtain ⟨cs, rfl, hsz⟩ := okWide_struct Try.underlying25 hv
  obtain ⟨fuel, hf⟩ := h
  obtain ⟨t, sv, D, hcs, ht, hT⟩ := trod_node _ d (Nat.le_refl _) fuel _ ps hf hlt hfz
  refine ⟨t, sv, D, ?_, ht, hT⟩
  simp only [Value.cells] at hcs
  unfold nodeV
  congr 1
  apply Array.toList_inj.1
  exact hcs

end Go.Proofs.Ytdlkpkldlljhcaa
