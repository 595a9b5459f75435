/-
  Arguments opened: documents with their keys, a change, as they lie in memory.
-/
import Derived.Test.YtiacnmcdfpmcfaaGreatDoorV12
import Derived.Test.YtiacnmcdfpmcfaaGreatDoorV31
namespace Go.Proofs.YtiacnmcdfpmcfaaGreatDoor
open Go.RowKit
attribute [local go_sem] cell?_more frozen?_more setCell_more size_more tape_more drew_more drewN_more more_drew more_drewN one_out plus_out plus_end lt_one le_p2 le_p3 le_p4 le_p5 le_p6 le_p7 le_p8 le_p9 le_p10 le_p11 le_p12 le_p13 le_p14 le_p15 le_p16 le_p17 le_p18 le_p19 le_p20 le_p21 le_p22 le_p23 le_p24 le_q0 le_q1 lt_q1 le_q2 lt_q2 le_q3 lt_q3 le_q4 lt_q4 le_q5 lt_q5 le_q6 lt_q6 le_q7 lt_q7 le_q8 lt_q8 le_q9 lt_q9 le_q10 lt_q10 le_q11 lt_q11 le_q12 lt_q12 le_q13 lt_q13 le_q14 lt_q14 le_q15 lt_q15 le_q16 lt_q16 le_q17 lt_q17 le_q18 lt_q18 le_q19 lt_q19 le_q20 lt_q20 le_q21 lt_q21 le_q22 lt_q22 le_q23 lt_q23 le_q24 lt_q24

open Go.ChangeShapes Go.WideShapes Go.ChangeAt Go.RowKit Go.Joins Go.ChangeMaps

theorem Tryz.cells67 : Tryz.prog.cellsOf 67 = 2 := by kernel_rfl
theorem Tryz.cells36 : Tryz.prog.cellsOf 36 = 4 := by kernel_rfl
theorem Tryz.cells26 : Tryz.prog.cellsOf 26 = 1 := by kernel_rfl
theorem Tryz.cells4 : Tryz.prog.cellsOf 4 = 1 := by kernel_rfl

set_option maxRecDepth 20000 in
/-- A slice of rows of k cells opened, whatever its elements are. -/
theorem open_gen {H : Type} {enc : TypeId × Value → H} {w : World} {α : Type} [Nonempty α] {t e : TypeId} {k : Nat} (ht : Tryz.prog.underlying t = some (.slice e)) (hk : Tryz.prog.cellsOf e = k) (hk0 : 0 < k)
    {R : α → List Value → Prop} (hR : ∀ n cs y, DataW.trod enc Tryz.prog w 0 (fun _ => true) true n e cs = some y → cs.length = k → ∃ a, R a cs)
    {fuel : Nat} {c : Value} {x : DataW H × List MemPlace} (hf : DataW.trod enc Tryz.prog w 0 (fun _ => true) true fuel t [c] = some x) :
    ∃ (l : List α) (ao : Option Addr) (cap : Nat), c = .slice ao l.length cap ∧ l.length ≤ cap ∧ (l = [] ∨ ∃ b off, ao = some ⟨b, off, none⟩ ∧ b < w.heap.size ∧
      ∀ j (hj : j < l.length), ∃ cs, R l[j] cs ∧ cs.length = k ∧ ∀ q (hq : q < cs.length), w.cell? ⟨b, off + j * k + q, none⟩ = some cs[q]) := by
  rcases Deep.open_slice ht hf with ⟨hcs, hx⟩ | ⟨a, len, cap, m, n, D, Pl, hcs, _, hl, hm, hmm, hx, hcell⟩
  · obtain rfl : c = .slice none 0 0 := by simpa using hcs
    exact ⟨[], none, 0, rfl, Nat.le_refl _, .inl rfl⟩
  · obtain rfl : c = .slice (some a) len cap := by simpa using hcs
    simp only [if_true] at hmm
    subst hmm
    have each : ∀ i, i < len → ∃ (y : α) (cs : List Value), R y cs ∧ cs.length = k ∧ ∀ q (hq : q < cs.length), w.cell? (a.add (i * k + q)) = some cs[q] := by
      intro i hi
      obtain ⟨cs', h1, h2⟩ := hcell i (by omega)
      rw [hk] at h1
      obtain ⟨_, hlen, hc⟩ := World.cells?_some h1
      obtain ⟨y, hy⟩ := hR _ _ _ h2 hlen
      refine ⟨y, cs', hy, hlen, fun q hq => ?_⟩
      have := hc q (by omega)
      rw [Deep.add_add] at this
      rw [this, List.getElem?_eq_getElem hq]
    by_cases hl0 : len = 0
    · subst hl0
      exact ⟨[], some a, _, rfl, Nat.zero_le _, .inl rfl⟩
    obtain ⟨b, off, spot⟩ := a
    have hfirst : ∃ v, w.cell? (({ block := b, off := off, spot := spot } : Addr).add (0 * k + 0)) = some v := by
      obtain ⟨y, cs, hy, hlen, hx⟩ := each 0 (by omega)
      exact ⟨_, hx 0 (by omega)⟩
    have hspot : spot = none := by
      obtain ⟨v, hv⟩ := hfirst
      simpa [Addr.add] using World.cell?_spot hv
    subst hspot
    have hbW : b < w.heap.size := by
      obtain ⟨v, hv⟩ := hfirst
      rw [Addr.add_lit] at hv
      exact block_lt_of_cell hv
    obtain ⟨X, hX⟩ : ∃ X : Nat → α, ∀ i, i < len → ∃ cs : List Value, R (X i) cs ∧ cs.length = k ∧ ∀ q (hq : q < cs.length), w.cell? ((⟨b, off, none⟩ : Addr).add (i * k + q)) = some cs[q] :=
      ⟨fun i => if h : i < len then (each i h).choose else Classical.choice inferInstance, fun i hi => by simp only [hi, dif_pos]; exact (each i hi).choose_spec⟩
    refine ⟨(List.range len).map X, some ⟨b, off, none⟩, m, by simp, by simp; omega, .inr ⟨b, off, rfl, hbW, ?_⟩⟩
    intro i hi
    have hi' : i < len := by simpa using hi
    obtain ⟨cs, h1, h2, h3⟩ := hX i hi'
    refine ⟨cs, by simpa using h1, h2, fun q hq => ?_⟩
    have := h3 q hq
    rw [Addr.add_lit, ← Nat.add_assoc] at this
    exact this

instance : Nonempty F := ⟨⟨⟨#[]⟩, ⟨0, 0, ⟨#[]⟩, 0, 0⟩, by decide⟩⟩

theorem trod_doc {H : Type} {enc : TypeId × Value → H} {w : World} {fuel : Nat} {c : Value} {x : DataW H × List MemPlace} (hf : DataW.trod enc Tryz.prog w 0 (fun _ => true) true fuel 26 [c] = some x) : ∃ fs, Lst w c fs := by
  obtain ⟨l, ao, cap, rfl, hle, h⟩ := open_gen (α := F) (R := fun f cs => cs = f.cellList) Tryz.underlying26 Tryz.cells89 (by omega) (fun n cs y h _ => trod_F h) hf
  refine ⟨l, ao, cap, rfl, hle, ?_⟩
  rcases h with h | ⟨b, off, rfl, hb, hh⟩
  · exact .inl h
  · refine .inr ⟨b, off, rfl, hb, fun j hj => ?_⟩
    obtain ⟨cs, rfl, _, hc⟩ := hh j hj
    exact ⟨hc 0 (by simp [F.cellList]), hc 1 (by simp [F.cellList]), hc 2 (by simp [F.cellList]), hc 3 (by simp [F.cellList]), hc 4 (by simp [F.cellList]), hc 5 (by simp [F.cellList])⟩

instance : Nonempty Dn := ⟨⟨⟨#[]⟩, []⟩⟩

set_option maxRecDepth 20000 in
theorem trod_docs {H : Type} {enc : TypeId × Value → H} {w : World} {fuel : Nat} {c : Value} {x : DataW H × List MemPlace} (hf : DataW.trod enc Tryz.prog w 0 (fun _ => true) true fuel 28 [c] = some x) : ∃ ds, LstD w c ds := by
  obtain ⟨l, ao, cap, rfl, hle, h⟩ := open_gen (α := Dn) (R := fun d cs => ∃ v, cs = [.string d.key, v] ∧ Lst w v d.doc) Tryz.underlying28 Tryz.cells67 (by omega) (fun n cs y h hlen => by
    obtain ⟨y0, y1, n, _, hl, h0, h1⟩ := trod_struct2 Tryz.underlying67 h
    match cs, hlen with
    | [c0, c1], _ =>
      simp only [Tryz.cells9, Tryz.cells26, List.drop_zero, List.take_succ_cons, List.take_zero, List.drop_succ_cons] at h0 h1
      obtain ⟨p, e0, _, hp⟩ := DataW.trod_string Tryz.underlying9 h0
      obtain ⟨fs, hfs⟩ := trod_doc h1
      simp at e0
      subst e0
      exact ⟨⟨p, fs⟩, c1, rfl, hfs⟩) hf
  refine ⟨l, ao, cap, rfl, hle, ?_⟩
  rcases h with h | ⟨b, off, rfl, hb, hh⟩
  · exact .inl h
  · refine .inr ⟨b, off, rfl, hb, fun j hj => ?_⟩
    obtain ⟨cs, ⟨v, rfl, hv⟩, _, hc⟩ := hh j hj
    exact ⟨v, hc 0 (by simp), hc 1 (by simp), hv⟩

set_option maxRecDepth 20000 in
theorem open_docs {H : Type} {enc : TypeId × Value → H} {w : World} {b0 : Nat} {r : Reach} {v : Value} {d : DataW H} {ps : List MemPlace}
    (hv : Value.okWide Tryz.prog w r b0 28 v) (h : DataW.Trod enc Tryz.prog w 0 (fun _ => true) true 28 v d ps) : ∃ ds, LstD w v ds := by
  obtain ⟨a0, len, cap, rfl⟩ := okWide_slice Tryz.underlying28 hv
  obtain ⟨fuel, hf⟩ := h
  exact trod_docs hf

/-- A change, as it lies. -/
def ChV (w : World) (v : Value) (key : ByteArray) (has : Bool) (doc : List F) : Prop := ∃ pos dv, v = .agg #[.int .i64 pos, .string key, .bool has, dv] ∧ Lst w dv doc

set_option maxRecDepth 20000 in
theorem trod_change {H : Type} {enc : TypeId × Value → H} {w : World} {fuel : Nat} {cs : List Value} {x : DataW H × List MemPlace} (hlen : cs.length = 4)
    (h : DataW.trod enc Tryz.prog w 0 (fun _ => true) true fuel 36 cs = some x) : ∃ pos key has dv doc, cs = [.int .i64 pos, .string key, .bool has, dv] ∧ Lst w dv doc := by
  obtain ⟨y0, y1, y2, y3, n, _, hl, h0, h1, h2, h3⟩ := trod_struct4 Tryz.underlying36 h
  match cs, hlen with
  | [c0, c1, c2, c3], _ =>
    simp only [Tryz.cells3, Tryz.cells9, Tryz.cells4, Tryz.cells26, List.drop_zero, List.take_succ_cons, List.take_zero, List.drop_succ_cons] at h0 h1 h2 h3
    obtain ⟨m, e0, _, _⟩ := DataW.trod_int Tryz.underlying3 h0
    obtain ⟨s, e1, _⟩ := DataW.trod_string Tryz.underlying9 h1
    obtain ⟨b, e2, _⟩ := DataW.trod_bool Tryz.underlying4 h2
    obtain ⟨fs, hfs⟩ := trod_doc h3
    simp at e0 e1 e2
    subst e0 e1 e2
    exact ⟨m, s, b, c3, fs, rfl, hfs⟩

set_option maxRecDepth 20000 in
theorem open_change {H : Type} {enc : TypeId × Value → H} {w : World} {b0 : Nat} {r : Reach} {v : Value} {d : DataW H} {ps : List MemPlace}
    (hv : Value.okWide Tryz.prog w r b0 36 v) (h : DataW.Trod enc Tryz.prog w 0 (fun _ => true) true 36 v d ps) : ∃ key has doc, ChV w v key has doc := by
  obtain ⟨cs, rfl, hsz⟩ := okWide_struct Tryz.underlying36 hv
  obtain ⟨fuel, hf⟩ := h
  rw [Tryz.cells36] at hsz
  obtain ⟨pos, key, has, dv, doc, e, hd⟩ := trod_change (by simpa [Value.cells] using hsz) hf
  refine ⟨key, has, doc, pos, dv, ?_, hd⟩
  simp only [Value.cells] at e
  congr 1
  apply Array.toList_inj.1
  exact e

end Go.Proofs.YtiacnmcdfpmcfaaGreatDoor
