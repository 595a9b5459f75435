/-
  Arguments opened: acts, pairs of bytes, as they lie in memory.
-/
import Derived.Test.YtdcbepdghiafhaaWhole
import Derived.Test.YtdcbepdghiafhaaRow
import Derived.Lib.SmallJoins
namespace Go.Proofs.Ytdcbepdghiafhaa
open Go.ChangeShapes Go.WideShapes Go.ChangeAt Go.RowKit Go.Joins Go.ChangeMaps

theorem Try.cells3 : Try.prog.cellsOf 3 = 1 := by kernel_rfl
theorem Try.cells37 : Try.prog.cellsOf 37 = 1 := by kernel_rfl
theorem Try.cells46 : Try.prog.cellsOf 46 = 4 := by kernel_rfl
theorem Try.cells56 : Try.prog.cellsOf 56 = 2 := by kernel_rfl

set_option maxRecDepth 20000 in
theorem trod_rows {H : Type} {enc : TypeId × Value → H} {w : World} {fuel : Nat} {cs : List Value} {x : DataW H × List MemPlace}
    (hf : DataW.trod enc Try.prog w 0 (fun _ => true) true fuel 37 cs = some x) (hlt : ∀ p ∈ x.2, p.block < w.heap.size) : ∃ v ls, cs = [v] ∧ Rws w v ls := by
  rcases Deep.open_slice Try.underlying37 hf with ⟨rfl, _⟩ | ⟨a, len, cap', m, n, D, Pl, rfl, _, hl, hm, hmm, hx, hcell⟩
  · exact ⟨_, [], rfl, ⟨[], ⟨none, 0, rfl, Nat.le_refl _, .inl rfl⟩, trivial⟩⟩
  · simp only [if_true] at hmm
    subst hmm
    have each : ∀ i, i < len → ∃ x l, w.cell? (a.add i) = some x ∧ BytO w.heap.size w x l := by
      intro i hi
      obtain ⟨cs', h1, h2⟩ := hcell i (by omega)
      rw [Try.cells44, Nat.mul_one] at h1
      obtain ⟨_, hlen, hc⟩ := World.cells?_some h1
      obtain ⟨y, l, rfl, hb⟩ := trod_bytes h2 (fun p hp => hlt p (by
        rw [hx]
        refine List.mem_append.2 (.inr (List.mem_flatMap.2 ⟨i, by simp; omega, hp⟩))))
      refine ⟨y, l, ?_, hb.old⟩
      have := hc 0 (by omega)
      rw [Deep.add_add, Nat.add_zero] at this
      rw [this]
      rfl
    by_cases hl0 : len = 0
    · subst hl0
      exact ⟨_, [], rfl, ⟨[], ⟨some a, _, rfl, Nat.zero_le _, .inl rfl⟩, trivial⟩⟩
    obtain ⟨b, off, spot⟩ := a
    have hspot : spot = none := by
      obtain ⟨y, _, hy, _⟩ := each 0 (by omega)
      simpa [Addr.add] using World.cell?_spot hy
    subst hspot
    have hbW : b < w.heap.size := by
      refine hlt (.cell b off) ?_
      rw [hx]
      refine List.mem_append.2 (.inl (MemPlace.mem_row.2 ⟨0, ?_, by simp⟩))
      rw [Try.cells44]
      omega
    obtain ⟨X, hX⟩ : ∃ X : Nat → Value, ∀ i, i < len → w.cell? ((⟨b, off, none⟩ : Addr).add i) = some (X i) ∧ ∃ l, BytO w.heap.size w (X i) l :=
      ⟨fun i => if h : i < len then (each i h).choose else .nilIface, fun i hi => by simp only [hi, dif_pos]; exact ⟨(each i hi).choose_spec.choose_spec.1, (each i hi).choose_spec.choose, (each i hi).choose_spec.choose_spec.2⟩⟩
    have hlen : ((List.range len).map X).length = len := by simp
    obtain ⟨ls, hls⟩ := each_list (B := w.heap.size) (w := w) ((List.range len).map X) (by
      intro y hy
      obtain ⟨i, hi, rfl⟩ := List.mem_map.1 hy
      exact (hX i (by simpa using hi)).2)
    refine ⟨_, ls, rfl, ⟨(List.range len).map X, ⟨some ⟨b, off, none⟩, m, by rw [hlen], by rw [hlen]; exact hl, .inr ⟨b, off, rfl, hbW, fun j hj => ?_⟩⟩, hls⟩⟩
    rw [hlen] at hj
    have := (hX j hj).1
    rw [add_at] at this
    rw [this]
    simp

theorem Byt.outer {w : World} {v : Value} {l : List UInt8} {F : Nat → Prop} (h : Byt w v l) (hF : ∀ i, F i → w.heap.size ≤ i) : BytA w F v l := by
  obtain ⟨ao, cap, e, hc, h'⟩ := h.open
  refine ⟨ao, cap, e, hc, h'.imp id ?_⟩
  rintro ⟨b, off, rfl, hb, hl⟩
  exact ⟨b, off, rfl, hb, fun hf => by have := hF b hf; omega, hl⟩

def OkA (w : World) (a : A) : Prop := BytA w (fun i => w.heap.size ≤ i) a.bv a.b ∧ RwsA w (fun i => w.heap.size ≤ i) a.lv a.l

/-- The fields of one act. -/
theorem act_fields {H : Type} {enc : TypeId × Value → H} {w : World} {c0 c1 c2 c3 : Value} {y0 y1 y2 y3 : DataW H × List MemPlace} {n0 n1 n2 n3 : Nat} (h0 : DataW.trod enc Try.prog w 0 (fun _ => true) true n0 3 [c0] = some y0) (h1 : DataW.trod enc Try.prog w 0 (fun _ => true) true n1 44 [c1] = some y1) (h2 : DataW.trod enc Try.prog w 0 (fun _ => true) true n2 37 [c2] = some y2) (h3 : DataW.trod enc Try.prog w 0 (fun _ => true) true n3 3 [c3] = some y3)
    (l1 : ∀ p ∈ y1.2, p.block < w.heap.size) (l2 : ∀ p ∈ y2.2, p.block < w.heap.size) : ∃ a : A, c0 = .int .i64 a.act ∧ c1 = a.bv ∧ c2 = a.lv ∧ c3 = .int .i64 a.n ∧ OkA w a := by
  obtain ⟨k0, e0, _, _⟩ := DataW.trod_int Try.underlying3 h0
  obtain ⟨k3, e3, _, _⟩ := DataW.trod_int Try.underlying3 h3
  obtain ⟨v1, b, e1, hb⟩ := trod_bytes h1 l1
  obtain ⟨v2, ls, e2, hl⟩ := trod_rows h2 l2
  simp only [List.cons.injEq, and_true] at e0 e1 e2 e3
  exact ⟨⟨k0, c1, b, c2, ls, k3⟩, e0, rfl, rfl, e3, by rw [e1]; exact hb.outer fun _ h => h, by rw [e2]; exact hl.outer fun _ h => h⟩

set_option maxRecDepth 20000 in
/-- The cells of one act. -/
theorem trod_act {H : Type} {enc : TypeId × Value → H} {w : World} {fuel : Nat} {cs : List Value} {x : DataW H × List MemPlace}
    (hf : DataW.trod enc Try.prog w 0 (fun _ => true) true fuel 46 cs = some x) (hlt : ∀ p ∈ x.2, p.block < w.heap.size) :
    ∃ a : A, cs = [.int .i64 a.act, a.bv, a.lv, .int .i64 a.n] ∧ OkA w a := by
  obtain ⟨y0, y1, y2, y3, n, hx, hl, h0, h1, h2, h3⟩ := trod_struct4 Try.underlying46 hf
  rw [Try.cells46] at hl
  match cs, hl with
  | [c0, c1, c2, c3], _ =>
    simp only [Try.cells3, Try.cells44, Try.cells37, List.drop_zero, List.drop_succ_cons, List.take_succ_cons, List.take_zero] at h0 h1 h2 h3
    obtain ⟨a, e0, e1, e2, e3, hok⟩ := act_fields h0 h1 h2 h3 (fun p hp => hlt p (by rw [hx]; simp [hp])) (fun p hp => hlt p (by rw [hx]; simp [hp]))
    exact ⟨a, by rw [e0, e1, e2, e3], hok⟩

set_option maxRecDepth 20000 in
theorem open_Acts {H : Type} {enc : TypeId × Value → H} {w : World} {b0 : Nat} {r : Reach} {v : Value} {d : DataW H} {ps : List MemPlace}
    (hv : Value.okWide Try.prog w r b0 23 v) (h : DataW.Trod enc Try.prog w 0 (fun _ => true) true 23 v d ps) (hlt : ∀ x ∈ ps, x.block < w.heap.size) : ∃ l, LstA w v l := by
  obtain ⟨a0, len, cap, rfl⟩ := okWide_slice Try.underlying23 hv
  obtain ⟨fuel, hf⟩ := h
  rcases Deep.open_slice Try.underlying23 hf with ⟨hcs, hx⟩ | ⟨a, len', cap', m, n, D, Pl, hcs, _, hl, hm, hmm, hx, hcell⟩
  · simp [Value.cells] at hcs
    obtain ⟨rfl, rfl, rfl⟩ := hcs
    exact ⟨[], ⟨none, 0, rfl, Nat.le_refl _, by simp, .inl rfl⟩, by simp⟩
  · simp [Value.cells] at hcs
    obtain ⟨rfl, rfl, rfl⟩ := hcs
    simp only [if_true] at hmm
    subst hmm
    simp only [Prod.mk.injEq] at hx
    have each : ∀ i, i < len → ∃ c : A, (∀ k, k < 4 → w.cell? ((a.add (i * 4)).add k) = ([Value.int .i64 c.act, c.bv, c.lv, .int .i64 c.n] : List Value)[k]?) ∧ OkA w c := by
      intro i hi
      obtain ⟨cs', h1, h2⟩ := hcell i (by omega)
      rw [Try.cells46] at h1
      obtain ⟨_, hlen, hc⟩ := World.cells?_some h1
      obtain ⟨c, rfl, hb⟩ := trod_act h2 (fun p hp => hlt p (by
        rw [hx.2]
        refine List.mem_append.2 (.inr (List.mem_flatMap.2 ⟨i, by simp; omega, hp⟩))))
      exact ⟨c, hc, hb⟩
    by_cases hl0 : len = 0
    · subst hl0
      exact ⟨[], ⟨some a, _, rfl, Nat.zero_le _, by simp, .inl rfl⟩, by simp⟩
    obtain ⟨b, off, spot⟩ := a
    have hspot : spot = none := by
      obtain ⟨c, hc, _⟩ := each 0 (by omega)
      have := hc 0 (by omega)
      simp only [Nat.zero_mul, List.getElem?_cons_zero] at this
      simpa [Addr.add] using World.cell?_spot this
    subst hspot
    have hbW : b < w.heap.size := by
      refine hlt (.cell b off) ?_
      rw [hx.2]
      refine List.mem_append.2 (.inl (MemPlace.mem_row.2 ⟨0, ?_, by simp⟩))
      rw [Try.cells46]
      omega
    obtain ⟨X, hX⟩ : ∃ X : Nat → A, ∀ i, i < len → (∀ k, k < 4 → w.cell? (((⟨b, off, none⟩ : Addr).add (i * 4)).add k) = ([Value.int .i64 (X i).act, (X i).bv, (X i).lv, .int .i64 (X i).n] : List Value)[k]?) ∧ OkA w (X i) :=
      ⟨fun i => if h : i < len then (each i h).choose else ⟨0, .nilIface, [], .nilIface, [], 0⟩, fun i hi => by simp only [hi, dif_pos]; exact (each i hi).choose_spec⟩
    have hlen : ((List.range len).map X).length = len := by simp
    refine ⟨(List.range len).map X, ⟨some ⟨b, off, none⟩, m, by rw [hlen], by rw [hlen]; exact hl, by rw [hlen]; simp only [maxLen] at hm; omega, .inr ⟨b, off, rfl, hbW, fun j hj => ?_⟩⟩, fun c hc => ?_⟩
    · rw [hlen] at hj
      have h4 := (hX j hj).1
      simp only [add_at] at h4
      have e : ((List.range len).map X)[j]'(by rw [hlen]; exact hj) = X j := by simp
      rw [e]
      refine ⟨?_, ?_, ?_, ?_⟩
      · exact h4 0 (by omega)
      · exact h4 1 (by omega)
      · exact h4 2 (by omega)
      · exact h4 3 (by omega)
    · obtain ⟨i, hi, rfl⟩ := List.mem_map.1 hc
      exact (hX i (by simpa using hi)).2

set_option maxRecDepth 20000 in
theorem trod_pair {H : Type} {enc : TypeId × Value → H} {w : World} {fuel : Nat} {c0 c1 : Value} {x : DataW H × List MemPlace}
    (h : DataW.trod enc Try.prog w 0 (fun _ => true) true fuel 56 [c0, c1] = some x) : ∃ p : UInt8 × UInt8, c0 = .int .u8 (p.1.toNat : Int) ∧ c1 = .int .u8 (p.2.toNat : Int) := by
  cases fuel with
  | zero => simp [DataW.trod] at h
  | succ n =>
    unfold DataW.trod at h
    rw [Try.underlying56] at h
    have r2 : List.range 2 = [0, 1] := rfl
    simp [r2, Try.cells5] at h
    obtain ⟨_, h⟩ := h
    cases h0 : DataW.trod enc Try.prog w 0 (fun _ => true) true n 5 [c0] with
    | none => simp [h0] at h
    | some y0 =>
      cases h1 : DataW.trod enc Try.prog w 0 (fun _ => true) true n 5 [c1] with
      | none => simp [h0, h1] at h
      | some y1 =>
        obtain ⟨b0, e0⟩ := trod_byte h0
        obtain ⟨b1, e1⟩ := trod_byte h1
        simp only [List.cons.injEq, and_true] at e0 e1
        exact ⟨(b0, b1), e0, e1⟩

set_option maxRecDepth 20000 in
theorem open_Pairs {H : Type} {enc : TypeId × Value → H} {w : World} {b0 : Nat} {r : Reach} {v : Value} {d : DataW H} {ps : List MemPlace}
    (hv : Value.okWide Try.prog w r b0 54 v) (h : DataW.Trod enc Try.prog w 0 (fun _ => true) true 54 v d ps) (hlt : ∀ x ∈ ps, x.block < w.heap.size) : ∃ l, LstC w v l := by
  obtain ⟨a0, len, cap, rfl⟩ := okWide_slice Try.underlying54 hv
  obtain ⟨fuel, hf⟩ := h
  rcases Deep.open_slice Try.underlying54 hf with ⟨hcs, hx⟩ | ⟨a, len', cap', m, n, D, Pl, hcs, _, hl, hm, hmm, hx, hcell⟩
  · simp [Value.cells] at hcs
    obtain ⟨rfl, rfl, rfl⟩ := hcs
    exact ⟨[], none, 0, rfl, Nat.le_refl _, by simp, .inl rfl⟩
  · simp [Value.cells] at hcs
    obtain ⟨rfl, rfl, rfl⟩ := hcs
    simp only [if_true] at hmm
    subst hmm
    simp only [Prod.mk.injEq] at hx
    have each : ∀ i, i < len → ∃ c : UInt8 × UInt8, ∀ k, k < 2 → w.cell? ((a.add (i * 2)).add k) = ([Value.int .u8 (c.1.toNat : Int), .int .u8 (c.2.toNat : Int)] : List Value)[k]? := by
      intro i hi
      obtain ⟨cs', h1, h2⟩ := hcell i (by omega)
      rw [Try.cells56] at h1
      obtain ⟨_, hlen, hc⟩ := World.cells?_some h1
      match cs', hlen with
      | [c0, c1], _ =>
        obtain ⟨p, rfl, rfl⟩ := trod_pair h2
        exact ⟨p, hc⟩
    by_cases hl0 : len = 0
    · subst hl0
      exact ⟨[], some a, _, rfl, Nat.zero_le _, by simp, .inl rfl⟩
    obtain ⟨b, off, spot⟩ := a
    have hspot : spot = none := by
      obtain ⟨c, hc⟩ := each 0 (by omega)
      have := hc 0 (by omega)
      simp only [Nat.zero_mul, List.getElem?_cons_zero] at this
      simpa [Addr.add] using World.cell?_spot this
    subst hspot
    have hbW : b < w.heap.size := by
      refine hlt (.cell b off) ?_
      rw [hx.2]
      refine List.mem_append.2 (.inl (MemPlace.mem_row.2 ⟨0, ?_, by simp⟩))
      rw [Try.cells56]
      omega
    obtain ⟨X, hX⟩ : ∃ X : Nat → UInt8 × UInt8, ∀ i, i < len → ∀ k, k < 2 → w.cell? (((⟨b, off, none⟩ : Addr).add (i * 2)).add k) = ([Value.int .u8 ((X i).1.toNat : Int), .int .u8 ((X i).2.toNat : Int)] : List Value)[k]? :=
      ⟨fun i => if h : i < len then (each i h).choose else (0, 0), fun i hi => by simp only [hi, dif_pos]; exact (each i hi).choose_spec⟩
    have hlen : ((List.range len).map X).length = len := by simp
    refine ⟨(List.range len).map X, some ⟨b, off, none⟩, m, by rw [hlen], by rw [hlen]; exact hl, by rw [hlen]; simp only [maxLen] at hm; omega, .inr ⟨b, off, rfl, hbW, fun j hj => ?_⟩⟩
    rw [hlen] at hj
    have h4 := hX j hj
    simp only [add_at] at h4
    have e : ((List.range len).map X)[j]'(by rw [hlen]; exact hj) = X j := by simp
    rw [e]
    exact ⟨h4 0 (by omega), h4 1 (by omega)⟩

end Go.Proofs.Ytdcbepdghiafhaa
