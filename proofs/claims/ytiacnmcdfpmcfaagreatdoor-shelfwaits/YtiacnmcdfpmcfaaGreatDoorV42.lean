/-
  Arguments of the laws of shelves opened: shelves, and what is asked.
-/
import Derived.Test.YtiacnmcdfpmcfaaGreatDoorQ29
import Derived.Test.YtiacnmcdfpmcfaaGreatDoorV33
import Derived.Test.YtiacnmcdfpmcfaaGreatDoorV15
import Derived.Lib.SmallJoins
namespace Go.Proofs.YtiacnmcdfpmcfaaGreatDoor
open Go.RowKit
attribute [local go_sem] cell?_more frozen?_more setCell_more size_more tape_more drew_more drewN_more more_drew more_drewN one_out plus_out plus_end lt_one le_p2 le_p3 le_p4 le_p5 le_p6 le_p7 le_p8 le_p9 le_p10 le_p11 le_p12 le_p13 le_p14 le_p15 le_p16 le_p17 le_p18 le_p19 le_p20 le_p21 le_p22 le_p23 le_p24 le_q0 le_q1 lt_q1 le_q2 lt_q2 le_q3 lt_q3 le_q4 lt_q4 le_q5 lt_q5 le_q6 lt_q6 le_q7 lt_q7 le_q8 lt_q8 le_q9 lt_q9 le_q10 lt_q10 le_q11 lt_q11 le_q12 lt_q12 le_q13 lt_q13 le_q14 lt_q14 le_q15 lt_q15 le_q16 lt_q16 le_q17 lt_q17 le_q18 lt_q18 le_q19 lt_q19 le_q20 lt_q20 le_q21 lt_q21 le_q22 lt_q22 le_q23 lt_q23 le_q24 lt_q24

open Go.ChangeShapes Go.WideShapes Go.ChangeAt Go.RowKit Go.Joins Go.ChangeMaps

/-- One that is asked. -/
structure Qs where
  kind : Int
  key : ByteArray
  to : ByteArray
  doc : List F
  want : List F
  has : Bool
  n : Int
  most : Int

/-- As it lies: its slices beside. -/
def opV (q : Qs) (dv wv lv sv nv : Value) : Value := .agg #[.int .i64 q.kind, .string q.key, .string q.to, dv, wv, .bool q.has, .int .i64 q.n, .int .i64 q.most, lv, sv, nv]

/-- One that is asked, its slices beside. -/
structure Qv where
  q : Qs
  dv : Value
  wv : Value
  lv : Value
  sv : Value
  nv : Value

def Qv.val (v : Qv) : Value := opV v.q v.dv v.wv v.lv v.sv v.nv

/-- What one that is asked lies upon, as it is handed in. -/
def QvRaw (w : World) (v : Qv) : Prop := Lst w v.dv v.q.doc ∧ Lst w v.wv v.q.want ∧ (∃ a n c, v.lv = .slice a n c) ∧ (∃ a n c, v.sv = .slice a n c) ∧ (∃ a n c, v.nv = .slice a n c)

theorem QvRaw.adds {w w' : World} {v : Qv} (h : QvRaw w v) (hA : Adds w w') : QvRaw w' v := ⟨h.1.adds hA, h.2.1.adds hA, h.2.2⟩

def LiesP (w : World) (b off : Nat) (os : List Qv) : Prop := ∀ j (h : j < os.length),
  (w.cell? ⟨b, off + j * 11, none⟩ = some (.int .i64 os[j].q.kind) ∧ w.cell? ⟨b, off + j * 11 + 1, none⟩ = some (.string os[j].q.key) ∧ w.cell? ⟨b, off + j * 11 + 2, none⟩ = some (.string os[j].q.to) ∧
   w.cell? ⟨b, off + j * 11 + 3, none⟩ = some os[j].dv ∧ w.cell? ⟨b, off + j * 11 + 4, none⟩ = some os[j].wv ∧ w.cell? ⟨b, off + j * 11 + 5, none⟩ = some (.bool os[j].q.has) ∧
   w.cell? ⟨b, off + j * 11 + 6, none⟩ = some (.int .i64 os[j].q.n) ∧ w.cell? ⟨b, off + j * 11 + 7, none⟩ = some (.int .i64 os[j].q.most) ∧ w.cell? ⟨b, off + j * 11 + 8, none⟩ = some os[j].lv ∧
   w.cell? ⟨b, off + j * 11 + 9, none⟩ = some os[j].sv ∧ w.cell? ⟨b, off + j * 11 + 10, none⟩ = some os[j].nv) ∧ QvRaw w os[j]

/-- The slice s has those that are asked, as they are handed in. -/
def LstP (w : World) (s : Value) (os : List Qv) : Prop :=
  ∃ ao cap, s = .slice ao os.length cap ∧ os.length ≤ cap ∧ (os = [] ∨ ∃ b off, ao = some ⟨b, off, none⟩ ∧ b < w.heap.size ∧ LiesP w b off os)

theorem LiesP.adds {w w' : World} {b off : Nat} {os : List Qv} (h : LiesP w b off os) (hA : Adds w w') (hb : b < w.heap.size) : LiesP w' b off os := by
  intro j hj
  obtain ⟨⟨h0, h1, h2, h3, h4, h5, h6, h7, h8, h9, h10⟩, hq⟩ := h j hj
  have q := hA.below
  exact ⟨⟨(q.cell (by exact hb)).trans h0, (q.cell (by exact hb)).trans h1, (q.cell (by exact hb)).trans h2, (q.cell (by exact hb)).trans h3, (q.cell (by exact hb)).trans h4, (q.cell (by exact hb)).trans h5, (q.cell (by exact hb)).trans h6, (q.cell (by exact hb)).trans h7, (q.cell (by exact hb)).trans h8, (q.cell (by exact hb)).trans h9, (q.cell (by exact hb)).trans h10⟩, hq.adds hA⟩

theorem LstP.adds {w w' : World} {s : Value} {os : List Qv} (h : LstP w s os) (hA : Adds w w') : LstP w' s os := by
  obtain ⟨ao, cap, rfl, hc, h⟩ := h
  refine ⟨ao, cap, rfl, hc, ?_⟩
  rcases h with h | ⟨b, off, rfl, hb, hl⟩
  · exact .inl h
  · exact .inr ⟨b, off, rfl, Nat.lt_of_lt_of_le hb hA.below.size, hl.adds hA hb⟩

theorem Tryz.cells31 : Tryz.prog.cellsOf 31 = 11 := by kernel_rfl
theorem Tryz.cells27 : Tryz.prog.cellsOf 27 = 1 := by kernel_rfl
theorem Tryz.cells28 : Tryz.prog.cellsOf 28 = 1 := by kernel_rfl
theorem Tryz.cells5 : Tryz.prog.cellsOf 5 = 1 := by kernel_rfl
theorem Tryz.cells59 : Tryz.prog.cellsOf 59 = 14 := by kernel_rfl
theorem Tryz.cells24 : Tryz.prog.cellsOf 24 = 4 := by kernel_rfl
theorem Tryz.cells22 : Tryz.prog.cellsOf 22 = 1 := by kernel_rfl
theorem Tryz.cells29 : Tryz.prog.cellsOf 29 = 1 := by kernel_rfl

def Qv.cells (v : Qv) : List Value := [.int .i64 v.q.kind, .string v.q.key, .string v.q.to, v.dv, v.wv, .bool v.q.has, .int .i64 v.q.n, .int .i64 v.q.most, v.lv, v.sv, v.nv]

theorem trod_shape {H : Type} {enc : TypeId × Value → H} {w : World} {t e : TypeId} {fuel : Nat} {c : Value} {x : DataW H × List MemPlace} (ht : Tryz.prog.underlying t = some (.slice e)) (hf : DataW.trod enc Tryz.prog w 0 (fun _ => true) true fuel t [c] = some x) : ∃ a n m, c = .slice a n m := by
  rcases Deep.open_slice ht hf with ⟨hcs, hx⟩ | ⟨a, len, cap, m, n, D, Pl, hcs, _⟩
  · exact ⟨none, 0, 0, by simpa using hcs⟩
  · exact ⟨_, _, _, by simpa using hcs⟩

set_option maxRecDepth 20000 in
theorem trod_op {H : Type} {enc : TypeId × Value → H} {w : World} {fuel : Nat} {cs : List Value} {x : DataW H × List MemPlace} (h : DataW.trod enc Tryz.prog w 0 (fun _ => true) true fuel 31 cs = some x) :
    ∃ v : Qv, cs = v.cells ∧ QvRaw w v ∧ ∃ n y, DataW.trod enc Tryz.prog w 0 (fun _ => true) true n 27 [v.lv] = some y := by
  obtain ⟨xs, n, _, _, hl, hlen, hf⟩ := DataW.trod_struct Tryz.underlying31 h
  rw [Tryz.cells31] at hl
  match cs, hl, xs, hlen with
  | [c0, c1, c2, c3, c4, c5, c6, c7, c8, c9, c10], _, [y0, y1, y2, y3, y4, y5, y6, y7, y8, y9, y10], _ =>
    have h0 : DataW.trod enc Tryz.prog w 0 (fun _ => true) true n 3 (([c0, c1, c2, c3, c4, c5, c6, c7, c8, c9, c10].drop 0).take (Tryz.prog.cellsOf 3)) = some y0 := hf 0 _ rfl
    have h1 : DataW.trod enc Tryz.prog w 0 (fun _ => true) true n 9 (([c0, c1, c2, c3, c4, c5, c6, c7, c8, c9, c10].drop 1).take (Tryz.prog.cellsOf 9)) = some y1 := hf 1 _ rfl
    have h2 : DataW.trod enc Tryz.prog w 0 (fun _ => true) true n 9 (([c0, c1, c2, c3, c4, c5, c6, c7, c8, c9, c10].drop 2).take (Tryz.prog.cellsOf 9)) = some y2 := hf 2 _ rfl
    have h3 : DataW.trod enc Tryz.prog w 0 (fun _ => true) true n 26 (([c0, c1, c2, c3, c4, c5, c6, c7, c8, c9, c10].drop 3).take (Tryz.prog.cellsOf 26)) = some y3 := hf 3 _ rfl
    have h4 : DataW.trod enc Tryz.prog w 0 (fun _ => true) true n 26 (([c0, c1, c2, c3, c4, c5, c6, c7, c8, c9, c10].drop 4).take (Tryz.prog.cellsOf 26)) = some y4 := hf 4 _ rfl
    have h5 : DataW.trod enc Tryz.prog w 0 (fun _ => true) true n 4 (([c0, c1, c2, c3, c4, c5, c6, c7, c8, c9, c10].drop 5).take (Tryz.prog.cellsOf 4)) = some y5 := hf 5 _ rfl
    have h6 : DataW.trod enc Tryz.prog w 0 (fun _ => true) true n 3 (([c0, c1, c2, c3, c4, c5, c6, c7, c8, c9, c10].drop 6).take (Tryz.prog.cellsOf 3)) = some y6 := hf 6 _ rfl
    have h7 : DataW.trod enc Tryz.prog w 0 (fun _ => true) true n 3 (([c0, c1, c2, c3, c4, c5, c6, c7, c8, c9, c10].drop 7).take (Tryz.prog.cellsOf 3)) = some y7 := hf 7 _ rfl
    have h8 : DataW.trod enc Tryz.prog w 0 (fun _ => true) true n 27 (([c0, c1, c2, c3, c4, c5, c6, c7, c8, c9, c10].drop 8).take (Tryz.prog.cellsOf 27)) = some y8 := hf 8 _ rfl
    have h9 : DataW.trod enc Tryz.prog w 0 (fun _ => true) true n 28 (([c0, c1, c2, c3, c4, c5, c6, c7, c8, c9, c10].drop 9).take (Tryz.prog.cellsOf 28)) = some y9 := hf 9 _ rfl
    have h10 : DataW.trod enc Tryz.prog w 0 (fun _ => true) true n 29 (([c0, c1, c2, c3, c4, c5, c6, c7, c8, c9, c10].drop 10).take (Tryz.prog.cellsOf 29)) = some y10 := hf 10 _ rfl
    simp only [Tryz.cells3, Tryz.cells9, Tryz.cells26, Tryz.cells4, Tryz.cells27, Tryz.cells28, Tryz.cells29, List.drop_zero, List.take_succ_cons, List.take_zero, List.drop_succ_cons] at h0 h1 h2 h3 h4 h5 h6 h7 h8 h9 h10
    obtain ⟨m0, e0, _, _⟩ := DataW.trod_int Tryz.underlying3 h0
    obtain ⟨s1, e1, _⟩ := DataW.trod_string Tryz.underlying9 h1
    obtain ⟨s2, e2, _⟩ := DataW.trod_string Tryz.underlying9 h2
    obtain ⟨f3, hf3⟩ := trod_doc h3
    obtain ⟨f4, hf4⟩ := trod_doc h4
    obtain ⟨b5, e5, _⟩ := DataW.trod_bool Tryz.underlying4 h5
    obtain ⟨m6, e6, _, _⟩ := DataW.trod_int Tryz.underlying3 h6
    obtain ⟨m7, e7, _, _⟩ := DataW.trod_int Tryz.underlying3 h7
    have g8 := trod_shape Tryz.underlying27 h8
    have g9 := trod_shape Tryz.underlying28 h9
    have g10 := trod_shape Tryz.underlying29 h10
    simp at e0 e1 e2 e5 e6 e7
    subst e0 e1 e2 e5 e6 e7
    exact ⟨⟨⟨m0, s1, s2, f3, f4, b5, m6, m7⟩, c3, c4, c8, c9, c10⟩, rfl, ⟨hf3, hf4, g8, g9, g10⟩, n, y8, h8⟩

instance : Nonempty Qv := ⟨⟨⟨0, ⟨#[]⟩, ⟨#[]⟩, [], [], false, 0, 0⟩, .slice none 0 0, .slice none 0 0, .slice none 0 0, .slice none 0 0, .slice none 0 0⟩⟩

set_option maxRecDepth 20000 in
theorem trod_ops {H : Type} {enc : TypeId × Value → H} {w : World} {fuel : Nat} {c : Value} {x : DataW H × List MemPlace} (hf : DataW.trod enc Tryz.prog w 0 (fun _ => true) true fuel 27 [c] = some x) : ∃ os, LstP w c os := by
  obtain ⟨l, ao, cap, rfl, hle, h⟩ := open_gen (α := Qv) (R := fun v cs => cs = v.cells ∧ QvRaw w v) Tryz.underlying27 Tryz.cells31 (by omega) (fun n cs y h _ => by
    obtain ⟨v, h1, h2, _⟩ := trod_op h
    exact ⟨v, h1, h2⟩) hf
  refine ⟨l, ao, cap, rfl, hle, ?_⟩
  rcases h with h | ⟨b, off, rfl, hb, hh⟩
  · exact .inl h
  · refine .inr ⟨b, off, rfl, hb, fun j hj => ?_⟩
    obtain ⟨cs, ⟨rfl, hr⟩, _, hc⟩ := hh j hj
    exact ⟨⟨hc 0 (by simp [Qv.cells]), hc 1 (by simp [Qv.cells]), hc 2 (by simp [Qv.cells]), hc 3 (by simp [Qv.cells]), hc 4 (by simp [Qv.cells]), hc 5 (by simp [Qv.cells]), hc 6 (by simp [Qv.cells]), hc 7 (by simp [Qv.cells]), hc 8 (by simp [Qv.cells]), hc 9 (by simp [Qv.cells]), hc 10 (by simp [Qv.cells])⟩, hr⟩

set_option maxRecDepth 20000 in
theorem open_op {H : Type} {enc : TypeId × Value → H} {w : World} {b0 : Nat} {r : Reach} {v : Value} {d : DataW H} {ps : List MemPlace}
    (hv : Value.okWide Tryz.prog w r b0 31 v) (h : DataW.Trod enc Tryz.prog w 0 (fun _ => true) true 31 v d ps) : ∃ (x : Qv) (os : List Qv), v = x.val ∧ QvRaw w x ∧ LstP w x.lv os := by
  obtain ⟨cs, rfl, hsz⟩ := okWide_struct Tryz.underlying31 hv
  obtain ⟨fuel, hf⟩ := h
  obtain ⟨x, hx, hr, n, y, hy⟩ := trod_op hf
  obtain ⟨os, ho⟩ := trod_ops hy
  refine ⟨x, os, ?_, hr, ho⟩
  have : cs = x.cells.toArray := by
    have hx' : cs.toList = x.cells := hx
    rw [← hx']
  rw [this]
  rfl

def ovOf (v : Qv) : Ov := ⟨v.q.kind, v.q.key, v.q.to, v.dv, v.wv, v.q.has, v.q.n, v.q.most, v.lv, v.sv, v.nv⟩

theorem ovOf_sl {w : World} {v : Qv} (h : QvRaw w v) : (ovOf v).Sl := by
  obtain ⟨⟨a, c, h1, _⟩, ⟨a', c', h2, _⟩, h3, h4, h5⟩ := h
  exact ⟨⟨_, _, _, h1⟩, ⟨_, _, _, h2⟩, h3, h4, h5⟩

instance : Nonempty Sh.F := ⟨⟨⟨#[]⟩, ⟨#[]⟩⟩⟩

set_option maxRecDepth 20000 in
theorem trod_pairs {H : Type} {enc : TypeId × Value → H} {w : World} {fuel : Nat} {c : Value} {x : DataW H × List MemPlace} (hf : DataW.trod enc Tryz.prog w 0 (fun _ => true) true fuel 22 [c] = some x) : ∃ fs, Sh.Lst w c fs := by
  obtain ⟨l, ao, cap, rfl, hle, h⟩ := open_gen (α := Sh.F) (R := fun f cs => cs = f.cellList) (k := 2) Tryz.underlying22 (by kernel_rfl) (by omega) (fun n cs y h _ => Sh.trod_F h) hf
  refine ⟨l, ao, cap, rfl, hle, ?_⟩
  rcases h with h | ⟨b, off, rfl, hb, hh⟩
  · exact .inl h
  · refine .inr ⟨b, off, rfl, hb, fun j hj => ?_⟩
    obtain ⟨cs, rfl, _, hc⟩ := hh j hj
    exact ⟨hc 0 (by simp [Sh.F.cellList]), hc 1 (by simp [Sh.F.cellList])⟩

set_option maxRecDepth 20000 in
theorem trod_shelf {H : Type} {enc : TypeId × Value → H} {w : World} {fuel : Nat} {cs : List Value} {x : DataW H × List MemPlace} (hlen : cs.length = 4)
    (h : DataW.trod enc Tryz.prog w 0 (fun _ => true) true fuel 24 cs = some x) : ∃ (s : Shl) (u : Value), cs = [.string s.df, .bool s.rdy, .int .i64 s.mark, u] ∧ Sh.Lst w u s.es := by
  obtain ⟨y0, y1, y2, y3, n, _, hl, h0, h1, h2, h3⟩ := trod_struct4 Tryz.underlying24 h
  match cs, hlen with
  | [c0, c1, c2, c3], _ =>
    simp only [Tryz.cells3, Tryz.cells9, Tryz.cells4, Tryz.cells22, List.drop_zero, List.take_succ_cons, List.take_zero, List.drop_succ_cons] at h0 h1 h2 h3
    obtain ⟨d, e0, _⟩ := DataW.trod_string Tryz.underlying9 h0
    obtain ⟨r, e1, _⟩ := DataW.trod_bool Tryz.underlying4 h1
    obtain ⟨m, e2, _, _⟩ := DataW.trod_int Tryz.underlying3 h2
    obtain ⟨fs, hfs⟩ := trod_pairs h3
    simp at e0 e1 e2
    subst e0 e1 e2
    exact ⟨⟨d, r, m, fs⟩, c3, rfl, hfs⟩

set_option maxRecDepth 20000 in
theorem open_shelf {H : Type} {enc : TypeId × Value → H} {w : World} {b0 : Nat} {r : Reach} {v : Value} {d : DataW H} {ps : List MemPlace}
    (hv : Value.okWide Tryz.prog w r b0 24 v) (h : DataW.Trod enc Tryz.prog w 0 (fun _ => true) true 24 v d ps) : ∃ (s : Shl) (u : Value), v = s.val u ∧ Sh.Lst w u s.es := by
  obtain ⟨cs, rfl, hsz⟩ := okWide_struct Tryz.underlying24 hv
  obtain ⟨fuel, hf⟩ := h
  rw [Tryz.cells24] at hsz
  obtain ⟨s, u, e, hu⟩ := trod_shelf (by simpa [Value.cells] using hsz) hf
  refine ⟨s, u, ?_, hu⟩
  simp only [Value.cells] at e
  unfold Shl.val
  congr 1
  apply Array.toList_inj.1
  exact e

end Go.Proofs.YtiacnmcdfpmcfaaGreatDoor
