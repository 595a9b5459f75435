/-
  Arguments opened: acts, as they lie in memory.
-/
import Derived.Test.YtinfoblgojnjfaaActs
import Derived.Test.YtinfoblgojnjfaaRow
namespace Go.Proofs.Ytinfoblgojnjfaa
open Go.ChangeShapes Go.WideShapes Go.ChangeAt Go.RowKit Go.Joins Go.ChangeMaps

theorem Try.cells5 : Try.prog.cellsOf 5 = 1 := by kernel_rfl
theorem Try.cells36 : Try.prog.cellsOf 36 = 1 := by kernel_rfl
theorem Try.cells3 : Try.prog.cellsOf 3 = 1 := by kernel_rfl
theorem Try.cellsA : Try.prog.cellsOf 38 = 4 := by kernel_rfl

theorem trod_byte {H : Type} {enc : TypeId × Value → H} {w : World} {base : Nat} {sp : Nat → Bool} {held : Bool} {fuel : Nat} {cs : List Value} {x : DataW H × List MemPlace}
    (h : DataW.trod enc Try.prog w base sp held fuel 5 cs = some x) : ∃ b : UInt8, cs = [.int .u8 (b.toNat : Int)] := by
  obtain ⟨k, rfl, _, h2⟩ := DataW.trod_int Try.underlying5 h
  have hk : 0 ≤ k ∧ k < 256 := by
    simp only [Lit.wf, Bool.and_eq_true, decide_eq_true_eq] at h2
    have h3 : IntKind.u8.min = 0 := by decide
    have h4 : IntKind.u8.max = 255 := by decide
    rw [h3, h4] at h2
    omega
  refine ⟨UInt8.ofNat k.toNat, ?_⟩
  have : (UInt8.ofNat k.toNat).toNat = k.toNat := by simp; omega
  rw [this]
  congr 2
  omega

theorem trod_bytes {H : Type} {enc : TypeId × Value → H} {w : World} {fuel : Nat} {cs : List Value} {x : DataW H × List MemPlace}
    (hf : DataW.trod enc Try.prog w 0 (fun _ => true) true fuel 36 cs = some x) (hlt : ∀ p ∈ x.2, p.block < w.heap.size) : ∃ v l, cs = [v] ∧ Byt w v l := by
  rcases Deep.open_slice Try.underlying36 hf with ⟨rfl, hx⟩ | ⟨a, len, cap, m, n, D, Pl, rfl, _, hl, hm, hmm, hx, hcell⟩
  · exact ⟨_, [], rfl, none, 0, rfl, Nat.le_refl _, .inl rfl⟩
  · simp only [if_true] at hmm
    subst hmm
    have each : ∀ i, i < len → ∃ x : UInt8, w.cell? (a.add i) = some (.int .u8 (x.toNat : Int)) := by
      intro i hi
      obtain ⟨cs', h1, h2⟩ := hcell i (by omega)
      rw [Try.cells5, Nat.mul_one] at h1
      obtain ⟨_, hlen, hc⟩ := World.cells?_some h1
      obtain ⟨x, rfl⟩ := trod_byte h2
      refine ⟨x, ?_⟩
      have := hc 0 (by omega)
      rw [Deep.add_add, Nat.add_zero] at this
      rw [this]
      rfl
    by_cases hl0 : len = 0
    · subst hl0
      exact ⟨_, [], rfl, some a, _, rfl, Nat.zero_le _, .inl rfl⟩
    obtain ⟨b, off, spot⟩ := a
    have hspot : spot = none := by
      obtain ⟨x, hx⟩ := each 0 (by omega)
      simpa [Addr.add] using World.cell?_spot hx
    subst hspot
    have hbW : b < w.heap.size := by
      refine hlt (.cell b off) ?_
      rw [hx]
      refine List.mem_append.2 (.inl (MemPlace.mem_row.2 ⟨0, ?_, by simp⟩))
      rw [Try.cells5]
      omega
    obtain ⟨X, hX⟩ : ∃ X : Nat → UInt8, ∀ i, i < len → w.cell? ((⟨b, off, none⟩ : Addr).add i) = some (.int .u8 ((X i).toNat : Int)) :=
      ⟨fun i => if h : i < len then (each i h).choose else 0, fun i hi => by simp only [hi, dif_pos]; exact (each i hi).choose_spec⟩
    have hlen : ((List.range len).map X).length = len := by simp
    refine ⟨_, (List.range len).map X, rfl, ?_⟩
    have := byt_of (w := w) (ao := some ⟨b, off, none⟩) (cap := m) (l := (List.range len).map X) (by rw [hlen]; exact hl) (.inr ⟨b, off, rfl, hbW, fun j hj => ?_⟩)
    · rw [hlen] at this
      exact this
    · rw [hlen] at hj
      have := hX j hj
      rw [add_at] at this
      rw [this]
      simp

set_option maxRecDepth 20000 in
/-- The cells of one act. -/
theorem trod_act {H : Type} {enc : TypeId × Value → H} {w : World} {fuel : Nat} {cs : List Value} {x : DataW H × List MemPlace}
    (hf : DataW.trod enc Try.prog w 0 (fun _ => true) true fuel 38 cs = some x) (hlt : ∀ p ∈ x.2, p.block < w.heap.size) :
    ∃ a : A, cs = [.int .i64 a.act, .int .i64 a.file, a.val, .int .i64 a.n] ∧ Byt w a.val a.b ∧ (Lit.int .i64 a.file).wf = true ∧ (Lit.int .i64 a.n).wf = true := by
  obtain ⟨y0, y1, y2, y3, n, hx, hl, h0, h1, h2, h3⟩ := trod_struct4 Try.underlying38 hf
  rw [Try.cellsA] at hl
  match cs, hl with
  | [c0, c1, c2, c3], _ =>
    simp only [Try.cells3, Try.cells36, List.drop_zero, List.drop_succ_cons, List.take_succ_cons, List.take_zero] at h0 h1 h2 h3
    obtain ⟨k0, e0, _, _⟩ := DataW.trod_int Try.underlying3 h0
    obtain ⟨k1, e1, _, w1⟩ := DataW.trod_int Try.underlying3 h1
    obtain ⟨k3, e3, _, w3⟩ := DataW.trod_int Try.underlying3 h3
    obtain ⟨v, l, e2, hb⟩ := trod_bytes h2 (fun p hp => hlt p (by rw [hx]; simp [hp]))
    simp only [List.cons.injEq, and_true] at e0 e1 e2 e3
    subst e0 e1 e2 e3
    exact ⟨⟨k0, k1, c2, l, k3⟩, rfl, hb, w1, w3⟩

set_option maxRecDepth 20000 in
theorem open_Acts {H : Type} {enc : TypeId × Value → H} {w : World} {b0 : Nat} {r : Reach} {v : Value} {d : DataW H} {ps : List MemPlace}
    (hv : Value.okWide Try.prog w r b0 22 v) (h : DataW.Trod enc Try.prog w 0 (fun _ => true) true 22 v d ps) (hlt : ∀ x ∈ ps, x.block < w.heap.size) : ∃ l, LstA w v l := by
  obtain ⟨a0, len, cap, rfl⟩ := okWide_slice Try.underlying22 hv
  obtain ⟨fuel, hf⟩ := h
  rcases Deep.open_slice Try.underlying22 hf with ⟨hcs, hx⟩ | ⟨a, len', cap', m, n, D, Pl, hcs, _, hl, hm, hmm, hx, hcell⟩
  · simp [Value.cells] at hcs
    obtain ⟨rfl, rfl, rfl⟩ := hcs
    exact ⟨[], ⟨none, 0, rfl, Nat.le_refl _, by simp, .inl rfl⟩, by simp⟩
  · simp [Value.cells] at hcs
    obtain ⟨rfl, rfl, rfl⟩ := hcs
    simp only [if_true] at hmm
    subst hmm
    simp only [Prod.mk.injEq] at hx
    have each : ∀ i, i < len → ∃ c : A, (∀ k, k < 4 → w.cell? ((a.add (i * 4)).add k) = ([Value.int .i64 c.act, .int .i64 c.file, c.val, .int .i64 c.n] : List Value)[k]?) ∧ Byt w c.val c.b ∧ (Lit.int .i64 c.file).wf = true ∧ (Lit.int .i64 c.n).wf = true := by
      intro i hi
      obtain ⟨cs', h1, h2⟩ := hcell i (by omega)
      rw [Try.cellsA] at h1
      obtain ⟨_, hlen, hc⟩ := World.cells?_some h1
      obtain ⟨c, rfl, hb⟩ := trod_act h2 (fun p hp => hlt p (by
        rw [hx.2]
        refine List.mem_append.2 (.inr (List.mem_flatMap.2 ⟨i, by simp; omega, hp⟩))))
      exact ⟨c, hc, hb⟩
    by_cases hl0 : len = 0
    · subst hl0
      exact ⟨[], ⟨some a, _, rfl, Nat.zero_le _, by simp, .inl rfl⟩, by simp⟩
    obtain ⟨b, off, spot⟩ := a
    have hspot : spot = none := by
      obtain ⟨c, hc, _⟩ := each 0 (by omega)
      have := hc 0 (by omega)
      simp only [Nat.zero_mul, List.getElem?_cons_zero] at this
      simpa [Addr.add] using World.cell?_spot this
    subst hspot
    have hbW : b < w.heap.size := by
      refine hlt (.cell b off) ?_
      rw [hx.2]
      refine List.mem_append.2 (.inl (MemPlace.mem_row.2 ⟨0, ?_, by simp⟩))
      rw [Try.cellsA]
      omega
    obtain ⟨X, hX⟩ : ∃ X : Nat → A, ∀ i, i < len → (∀ k, k < 4 → w.cell? (((⟨b, off, none⟩ : Addr).add (i * 4)).add k) = ([Value.int .i64 (X i).act, .int .i64 (X i).file, (X i).val, .int .i64 (X i).n] : List Value)[k]?) ∧ Byt w (X i).val (X i).b ∧ (Lit.int .i64 (X i).file).wf = true ∧ (Lit.int .i64 (X i).n).wf = true :=
      ⟨fun i => if h : i < len then (each i h).choose else ⟨0, 0, .nilIface, [], 0⟩, fun i hi => by simp only [hi, dif_pos]; exact (each i hi).choose_spec⟩
    have hlen : ((List.range len).map X).length = len := by simp
    refine ⟨(List.range len).map X, ⟨some ⟨b, off, none⟩, m, by rw [hlen], by rw [hlen]; exact hl, by rw [hlen]; simp only [maxLen] at hm; omega, .inr ⟨b, off, rfl, hbW, fun j hj => ?_⟩⟩, fun c hc => ?_⟩
    · rw [hlen] at hj
      have h4 := (hX j hj).1
      simp only [add_at] at h4
      have e : ((List.range len).map X)[j]'(by rw [hlen]; exact hj) = X j := by simp
      rw [e]
      refine ⟨?_, ?_, ?_, ?_⟩
      · exact h4 0 (by omega)
      · exact h4 1 (by omega)
      · exact h4 2 (by omega)
      · exact h4 3 (by omega)
    · obtain ⟨i, hi, rfl⟩ := List.mem_map.1 hc
      exact (hX i (by simpa using hi)).2

end Go.Proofs.Ytinfoblgojnjfaa
