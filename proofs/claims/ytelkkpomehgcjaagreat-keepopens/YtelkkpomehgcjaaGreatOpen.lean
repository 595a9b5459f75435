/-
  Arguments opened: bytes, and rows of bytes, as they lie in memory.
-/
import Derived.Test.YtelkkpomehgcjaaGreatTape
import Derived.Test.YtelkkpomehgcjaaGreatRow
namespace Go.Proofs.YtelkkpomehgcjaaGreat
open Go.ChangeShapes Go.WideShapes Go.ChangeAt Go.RowKit Go.Joins Go.ChangeMaps

theorem Tryz.cells5 : Tryz.prog.cellsOf 5 = 1 := by kernel_rfl
theorem Tryz.cells68 : Tryz.prog.cellsOf 40 = 1 := by kernel_rfl

theorem trod_byte {H : Type} {enc : TypeId × Value → H} {w : World} {base : Nat} {sp : Nat → Bool} {held : Bool} {fuel : Nat} {cs : List Value} {x : DataW H × List MemPlace}
    (h : DataW.trod enc Tryz.prog w base sp held fuel 5 cs = some x) : ∃ b : UInt8, cs = [.int .u8 (b.toNat : Int)] := by
  obtain ⟨k, rfl, _, h2⟩ := DataW.trod_int Tryz.underlying5 h
  have hk : 0 ≤ k ∧ k < 256 := by
    simp only [Lit.wf, Bool.and_eq_true, decide_eq_true_eq] at h2
    have h3 : IntKind.u8.min = 0 := by decide
    have h4 : IntKind.u8.max = 255 := by decide
    rw [h3, h4] at h2
    omega
  refine ⟨UInt8.ofNat k.toNat, ?_⟩
  have : (UInt8.ofNat k.toNat).toNat = k.toNat := by simp; omega
  rw [this]
  congr 2
  omega

theorem trod_bytes {H : Type} {enc : TypeId × Value → H} {w : World} {fuel : Nat} {cs : List Value} {x : DataW H × List MemPlace}
    (hf : DataW.trod enc Tryz.prog w 0 (fun _ => true) true fuel 40 cs = some x) (hlt : ∀ p ∈ x.2, p.block < w.heap.size) : ∃ v l, cs = [v] ∧ Byt w v l := by
  rcases Deep.open_slice Tryz.underlying40 hf with ⟨rfl, hx⟩ | ⟨a, len, cap, m, n, D, Pl, rfl, _, hl, hm, hmm, hx, hcell⟩
  · exact ⟨_, [], rfl, none, 0, rfl, Nat.le_refl _, .inl rfl⟩
  · simp only [if_true] at hmm
    subst hmm
    have each : ∀ i, i < len → ∃ x : UInt8, w.cell? (a.add i) = some (.int .u8 (x.toNat : Int)) := by
      intro i hi
      obtain ⟨cs', h1, h2⟩ := hcell i (by omega)
      rw [Tryz.cells5, Nat.mul_one] at h1
      obtain ⟨_, hlen, hc⟩ := World.cells?_some h1
      obtain ⟨x, rfl⟩ := trod_byte h2
      refine ⟨x, ?_⟩
      have := hc 0 (by omega)
      rw [Deep.add_add, Nat.add_zero] at this
      rw [this]
      rfl
    by_cases hl0 : len = 0
    · subst hl0
      exact ⟨_, [], rfl, some a, _, rfl, Nat.zero_le _, .inl rfl⟩
    obtain ⟨b, off, spot⟩ := a
    have hspot : spot = none := by
      obtain ⟨x, hx⟩ := each 0 (by omega)
      simpa [Addr.add] using World.cell?_spot hx
    subst hspot
    have hbW : b < w.heap.size := by
      refine hlt (.cell b off) ?_
      rw [hx]
      refine List.mem_append.2 (.inl (MemPlace.mem_row.2 ⟨0, ?_, by simp⟩))
      rw [Tryz.cells5]
      omega
    obtain ⟨X, hX⟩ : ∃ X : Nat → UInt8, ∀ i, i < len → w.cell? ((⟨b, off, none⟩ : Addr).add i) = some (.int .u8 ((X i).toNat : Int)) :=
      ⟨fun i => if h : i < len then (each i h).choose else 0, fun i hi => by simp only [hi, dif_pos]; exact (each i hi).choose_spec⟩
    have hlen : ((List.range len).map X).length = len := by simp
    refine ⟨_, (List.range len).map X, rfl, ?_⟩
    have := byt_of (w := w) (ao := some ⟨b, off, none⟩) (cap := m) (l := (List.range len).map X) (by rw [hlen]; exact hl) (.inr ⟨b, off, rfl, hbW, fun j hj => ?_⟩)
    · rw [hlen] at this
      exact this
    · rw [hlen] at hj
      have := hX j hj
      rw [add_at] at this
      rw [this]
      simp

set_option maxRecDepth 20000 in
theorem open_Byt {H : Type} {enc : TypeId × Value → H} {w : World} {b0 : Nat} {r : Reach} {v : Value} {d : DataW H} {ps : List MemPlace}
    (hv : Value.okWide Tryz.prog w r b0 40 v) (h : DataW.Trod enc Tryz.prog w 0 (fun _ => true) true 40 v d ps) (hlt : ∀ x ∈ ps, x.block < w.heap.size) :
    ∃ l, Byt w v l := by
  obtain ⟨a0, len, cap, rfl⟩ := okWide_slice Tryz.underlying40 hv
  obtain ⟨fuel, hf⟩ := h
  obtain ⟨v, l, hcs, hl⟩ := trod_bytes hf hlt
  simp [Value.cells] at hcs
  subst hcs
  exact ⟨l, hl⟩

theorem each_list {B : Nat} {w : World} : ∀ (xs : List Value), (∀ x ∈ xs, ∃ l, BytO B w x l) → ∃ ls, Each B w xs ls
  | [], _ => ⟨[], trivial⟩
  | x :: xs, h => by
    obtain ⟨l, hl⟩ := h x (by simp)
    obtain ⟨ls, hls⟩ := each_list xs (fun y hy => h y (by simp [hy]))
    exact ⟨l :: ls, hl, hls⟩

theorem many_le {H : Type} : ∀ l : List (DataW H), l.length ≤ Rows.uptoBulkAll l
  | [] => Nat.zero_le _
  | d :: r => by
    have hr := many_le r
    have hd : 0 < Rows.uptoBulk d := by
      cases d with
      | lit x => cases x <;> simp [Rows.uptoBulk]
      | _ => simp [Rows.uptoBulk]
    simp only [Rows.uptoBulkAll, List.length_cons]
    omega

set_option maxRecDepth 20000 in
theorem open_Rws {H : Type} {enc : TypeId × Value → H} {w : World} {b0 : Nat} {r : Reach} {v : Value} {d : DataW H} {ps : List MemPlace}
    (hv : Value.okWide Tryz.prog w r b0 37 v) (h : DataW.Trod enc Tryz.prog w 0 (fun _ => true) true 37 v d ps) (hlt : ∀ x ∈ ps, x.block < w.heap.size) :
    ∃ ls, Rws w v ls ∧ ls.length ≤ 9223372036854775807 ∧ ls.length ≤ Rows.uptoBulk d := by
  obtain ⟨a0, len, cap, rfl⟩ := okWide_slice Tryz.underlying37 hv
  obtain ⟨fuel, hf⟩ := h
  rcases Deep.open_slice Tryz.underlying37 hf with ⟨hcs, hx⟩ | ⟨a, len', cap', m, n, D, Pl, hcs, _, hl, hm, hmm, hx, hcell⟩
  · simp [Value.cells] at hcs
    obtain ⟨rfl, rfl, rfl⟩ := hcs
    exact ⟨[], ⟨[], ⟨none, 0, rfl, Nat.le_refl _, .inl rfl⟩, trivial⟩, by simp, by simp⟩
  · simp [Value.cells] at hcs
    obtain ⟨rfl, rfl, rfl⟩ := hcs
    simp only [if_true] at hmm
    subst hmm
    simp only [Prod.mk.injEq] at hx
    have each : ∀ i, i < len → ∃ x l, w.cell? (a.add i) = some x ∧ BytO w.heap.size w x l := by
      intro i hi
      obtain ⟨cs', h1, h2⟩ := hcell i (by omega)
      rw [Tryz.cells68, Nat.mul_one] at h1
      obtain ⟨_, hlen, hc⟩ := World.cells?_some h1
      obtain ⟨x, l, rfl, hb⟩ := trod_bytes h2 (fun p hp => hlt p (by
        rw [hx.2]
        refine List.mem_append.2 (.inr (List.mem_flatMap.2 ⟨i, by simp; omega, hp⟩))))
      refine ⟨x, l, ?_, hb.old⟩
      have := hc 0 (by omega)
      rw [Deep.add_add, Nat.add_zero] at this
      rw [this]
      rfl
    by_cases hl0 : len = 0
    · subst hl0
      exact ⟨[], ⟨[], ⟨some a, _, rfl, Nat.zero_le _, .inl rfl⟩, trivial⟩, by simp, by simp⟩
    obtain ⟨b, off, spot⟩ := a
    have hspot : spot = none := by
      obtain ⟨x, _, hx, _⟩ := each 0 (by omega)
      simpa [Addr.add] using World.cell?_spot hx
    subst hspot
    have hbW : b < w.heap.size := by
      refine hlt (.cell b off) ?_
      rw [hx.2]
      refine List.mem_append.2 (.inl (MemPlace.mem_row.2 ⟨0, ?_, by simp⟩))
      rw [Tryz.cells68]
      omega
    obtain ⟨X, hX⟩ : ∃ X : Nat → Value, ∀ i, i < len → w.cell? ((⟨b, off, none⟩ : Addr).add i) = some (X i) ∧ ∃ l, BytO w.heap.size w (X i) l :=
      ⟨fun i => if h : i < len then (each i h).choose else .nilIface, fun i hi => by simp only [hi, dif_pos]; exact ⟨(each i hi).choose_spec.choose_spec.1, (each i hi).choose_spec.choose, (each i hi).choose_spec.choose_spec.2⟩⟩
    have hlen : ((List.range len).map X).length = len := by simp
    obtain ⟨ls, hls⟩ := each_list (B := w.heap.size) (w := w) ((List.range len).map X) (by
      intro x hx
      obtain ⟨i, hi, rfl⟩ := List.mem_map.1 hx
      exact (hX i (by simpa using hi)).2)
    have hlm : ls.length ≤ 9223372036854775807 := by
      have h1 := hls.length
      rw [hlen] at h1
      have h2 := hm
      simp only [maxLen] at h2
      omega
    have hlb : ls.length ≤ Rows.uptoBulk d := by
      have h1 := hls.length
      rw [hlen] at h1
      have h2 := many_le ((List.range len).map D)
      rw [hx.1]
      simp only [Rows.uptoBulk, List.length_map, List.length_range] at h2 ⊢
      omega
    refine ⟨ls, ⟨(List.range len).map X, ⟨some ⟨b, off, none⟩, m, by rw [hlen], by rw [hlen]; exact hl, .inr ⟨b, off, rfl, hbW, fun j hj => ?_⟩⟩, hls⟩, hlm, hlb⟩
    rw [hlen] at hj
    have := (hX j hj).1
    rw [add_at] at this
    rw [this]
    simp

end Go.Proofs.YtelkkpomehgcjaaGreat
