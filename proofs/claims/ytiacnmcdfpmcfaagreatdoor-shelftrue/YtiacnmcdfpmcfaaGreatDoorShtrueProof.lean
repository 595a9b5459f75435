/-
  The statement ShelfTrue holds, as a tied card: whatever of a history is loaded and fed, the entries are those of its first changes, folded, of any definition, history and askings; no condition but that what the card lists lies as the text lays it.
  Arguments opened: a list of pairs, as it lies in memory; two strings.
  Apply of shelves, by contract: loaded, and fed.
  Arguments of the laws of shelves opened: shelves, and what is asked.
  Arguments of the law ShelfTrue opened: askings of a history, and the measure Light tells.
-/
import Derived.Test.YtiacnmcdfpmcfaaGreatDoorT05
import Derived.Test.YtiacnmcdfpmcfaaGreatDoorT13
import Derived.OpenShut
import Derived.Test.YtiacnmcdfpmcfaaGreatDoorT50
import Derived.Test.YtiacnmcdfpmcfaaGreatDoorT53
import Derived.Test.YtiacnmcdfpmcfaaGreatDoorT47
import Derived.Test.YtiacnmcdfpmcfaaGreatDoorT37
import Derived.Lib.SmallJoins
import Derived.Test.YtiacnmcdfpmcfaaGreatDoorT55
import Derived.Test.YtiacnmcdfpmcfaaGreatDoorTie
import Derived.Test.YtiacnmcdfpmcfaaGreatDoorCards
import Derived.ProofKit
import Derived.LaidMore
import Derived.Lay
import Derived.SevenTiedAt
import Derived.Stop.Joined
namespace Go.Proofs.YtiacnmcdfpmcfaaGreatDoor.Sh
open Go.ChangeShapes Go.WideShapes Go.ChangeAt Go.RowKit Go.Joins Go.ChangeMaps

theorem Tryz.cells70 : Tryz.prog.cellsOf 70 = 2 := by kernel_rfl
theorem Tryz.cells9 : Tryz.prog.cellsOf 9 = 1 := by kernel_rfl

def F.cellList (f : F) : List Value := [.string f.path, .string f.val]

set_option maxRecDepth 20000 in
theorem trod_F {H : Type} {enc : TypeId × Value → H} {w : World} {base : Nat} {sp : Nat → Bool} {held : Bool} {fuel : Nat} {cs : List Value} {x : DataW H × List MemPlace}
    (h : DataW.trod enc Tryz.prog w base sp held fuel 70 cs = some x) : ∃ f : F, cs = f.cellList := by
  obtain ⟨y0, y1, n, _, hl, h0, h1⟩ := trod_struct2 Tryz.underlying70 h
  rw [Tryz.cells70] at hl
  match cs, hl with
  | [c0, c1], _ =>
    simp only [Tryz.cells9, List.drop_zero, List.take_succ_cons, List.take_zero, List.drop_succ_cons] at h0 h1
    obtain ⟨p, e0, _, hp⟩ := DataW.trod_string Tryz.underlying9 h0
    obtain ⟨v, e1, _, hv⟩ := DataW.trod_string Tryz.underlying9 h1
    simp at e0 e1
    subst e0 e1
    exact ⟨⟨p, v⟩, rfl⟩

set_option maxRecDepth 20000 in
theorem open_Lst {H : Type} {enc : TypeId × Value → H} {w : World} {b0 : Nat} {r : Reach} {v : Value} {d : DataW H} {ps : List MemPlace}
    (hv : Value.okWide Tryz.prog w r b0 22 v) (h : DataW.Trod enc Tryz.prog w 0 (fun _ => true) true 22 v d ps) (hlt : ∀ x ∈ ps, x.block < w.heap.size) :
    ∃ fs, Lst w v fs := by
  obtain ⟨a0, len, cap, rfl⟩ := okWide_slice Tryz.underlying22 hv
  obtain ⟨fuel, hf⟩ := h
  rcases Deep.open_slice Tryz.underlying22 hf with ⟨hcs, hx⟩ | ⟨a, len', cap', m, n, D, Pl, hcs, _, hl, hm, hmm, hx, hcell⟩
  · simp [Value.cells] at hcs
    obtain ⟨rfl, rfl, rfl⟩ := hcs
    exact ⟨[], none, 0, rfl, Nat.le_refl _, .inl rfl⟩
  · simp [Value.cells] at hcs
    obtain ⟨rfl, rfl, rfl⟩ := hcs
    simp only [if_true] at hmm
    subst hmm
    have each : ∀ i, i < len → ∃ x : F, ∀ j (hj : j < 2), w.cell? (a.add (i * 2 + j)) = some (x.cellList[j]'(by simpa [F.cellList] using hj)) := by
      intro i hi
      obtain ⟨cs', h1, h2⟩ := hcell i (by omega)
      rw [Tryz.cells70] at h1
      obtain ⟨_, hlen, hc⟩ := World.cells?_some h1
      obtain ⟨x, rfl⟩ := trod_F h2
      refine ⟨x, fun j hj => ?_⟩
      have := hc j (by omega)
      rw [Deep.add_add] at this
      rw [this]
      simp [F.cellList, hj]
    by_cases hl0 : len = 0
    · subst hl0
      exact ⟨[], some a, _, rfl, Nat.zero_le _, .inl rfl⟩
    obtain ⟨b, off, spot⟩ := a
    have hspot : spot = none := by
      obtain ⟨x, hx⟩ := each 0 (by omega)
      simpa [Addr.add] using World.cell?_spot (hx 0 (by omega))
    subst hspot
    have hbW : b < w.heap.size := by
      simp only [Prod.mk.injEq] at hx
      refine hlt (.cell b off) ?_
      rw [hx.2]
      refine List.mem_append.2 (.inl (MemPlace.mem_row.2 ⟨0, ?_, by simp⟩))
      rw [Tryz.cells70]
      omega
    have : Nonempty F := ⟨⟨⟨#[]⟩, ⟨#[]⟩⟩⟩
    obtain ⟨X, hX⟩ : ∃ X : Nat → F, ∀ i, i < len → ∀ j (hj : j < 2), w.cell? ((⟨b, off, none⟩ : Addr).add (i * 2 + j)) = some ((X i).cellList[j]'(by simpa [F.cellList] using hj)) :=
      ⟨fun i => if h : i < len then (each i h).choose else Classical.choice this, fun i hi => by simp only [hi, dif_pos]; exact (each i hi).choose_spec⟩
    refine ⟨(List.range len).map X, some ⟨b, off, none⟩, m, by simp, by simp; omega, .inr ⟨b, off, rfl, hbW, ?_⟩⟩
    intro i hi
    have hi' : i < len := by simpa using hi
    have hq := hX i hi'
    have c0 := hq 0 (by omega)
    have c1 := hq 1 (by omega)
    simp only [Addr.add_lit] at c0 c1
    simp only [List.getElem_map, List.getElem_range]
    refine ⟨?_, ?_⟩
    · simpa [F.cellList] using c0
    · simpa [F.cellList, Nat.add_assoc] using c1

end Go.Proofs.YtiacnmcdfpmcfaaGreatDoor.Sh

namespace Go.Proofs.YtiacnmcdfpmcfaaGreatDoor
open Go.RowKit
attribute [local go_sem] cell?_more frozen?_more setCell_more size_more tape_more drew_more drewN_more more_drew more_drewN one_out plus_out plus_end lt_one le_p2 le_p3 le_p4 le_p5 le_p6 le_p7 le_p8 le_p9 le_p10 le_p11 le_p12 le_p13 le_p14 le_p15 le_p16 le_p17 le_p18 le_p19 le_p20 le_p21 le_p22 le_p23 le_p24 le_q0 le_q1 lt_q1 le_q2 lt_q2 le_q3 lt_q3 le_q4 lt_q4 le_q5 lt_q5 le_q6 lt_q6 le_q7 lt_q7 le_q8 lt_q8 le_q9 lt_q9 le_q10 lt_q10 le_q11 lt_q11 le_q12 lt_q12 le_q13 lt_q13 le_q14 lt_q14 le_q15 lt_q15 le_q16 lt_q16 le_q17 lt_q17 le_q18 lt_q18 le_q19 lt_q19 le_q20 lt_q20 le_q21 lt_q21 le_q22 lt_q22 le_q23 lt_q23 le_q24 lt_q24

theorem told_stays (t : Shl) (a : Value) : Stays (fun s' ans _ _ => s' = t ∧ ans = a) where
  adds := fun h _ => h
  oth := fun h _ _ => h

theorem apply_load : ApplyLoad := by
  intro s v o ds xs w h1 h2 hv ho hm hk hp hd hl hM hc
  refine (apply_gen s v o w _ (by omega) (by omega) hv ho hm (told_stays (loadS s o.n (Sh.sortE (ents xs ds))) (ansV (loadC s o.n) 0 (.slice none 0 0))) (fun W g u hA hg hb hu => ?_)).mono ?_
  · refine (ask_load s u g o ds xs W hb hu ho hk (by omega) hp (hd.adds hA) hl hM hc).mono ?_
    rintro e w' ⟨rfl, hB⟩
    exact ⟨_, _, _, _, _, _, rfl, ⟨rfl, rfl⟩, hB⟩
  · rintro e w' ⟨s', v', ans, W, hA, rfl, hl, ⟨rfl, rfl⟩, hA'⟩
    exact ⟨⟨v', rfl, hl⟩, hA'⟩

theorem apply_feed : ApplyFeed := by
  intro s v o cs xs ds w h1 h2 hv ho hm hk hp hes hM hdl hc hn h16 h0 h100
  refine (apply_gen s v o w _ (by omega) (by omega) hv ho hm (told_stays (feedS s o.n cs.length (Sh.sortE (ents xs (foldN ds cs)))) (ansV (feedC s o.n) 0 (.slice none 0 0))) (fun W g u hA hg hb hu => ?_)).mono ?_
  · refine (ask_feed s u g o cs xs ds W hb hu ho hk (by omega) hp hes hM hdl (hc.adds hA) hn h16 h0 h100).mono ?_
    rintro e w' ⟨rfl, hB⟩
    exact ⟨_, _, _, _, _, _, rfl, ⟨rfl, rfl⟩, hB⟩
  · rintro e w' ⟨s', v', ans, W, hA, rfl, hl, ⟨rfl, rfl⟩, hA'⟩
    exact ⟨⟨v', rfl, hl⟩, hA'⟩

open Go.ChangeShapes Go.WideShapes Go.ChangeAt Go.RowKit Go.Joins Go.ChangeMaps

/-- One that is asked. -/
structure Qs where
  kind : Int
  key : ByteArray
  dest : ByteArray
  doc : List F
  want : List F
  has : Bool
  n : Int
  most : Int

/-- As it lies: its slices beside. -/
def opV (q : Qs) (dv wv lv sv nv : Value) : Value := .agg #[.int .i64 q.kind, .string q.key, .string q.dest, dv, wv, .bool q.has, .int .i64 q.n, .int .i64 q.most, lv, sv, nv]

/-- One that is asked, its slices beside. -/
structure Qv where
  q : Qs
  dv : Value
  wv : Value
  lv : Value
  sv : Value
  nv : Value

def Qv.val (v : Qv) : Value := opV v.q v.dv v.wv v.lv v.sv v.nv

/-- What one that is asked lies upon, as it is handed in. -/
def QvRaw (w : World) (v : Qv) : Prop := Lst w v.dv v.q.doc ∧ Lst w v.wv v.q.want ∧ (∃ a n c, v.lv = .slice a n c) ∧ (∃ a n c, v.sv = .slice a n c) ∧ (∃ a n c, v.nv = .slice a n c)

theorem QvRaw.adds {w w' : World} {v : Qv} (h : QvRaw w v) (hA : Adds w w') : QvRaw w' v := ⟨h.1.adds hA, h.2.1.adds hA, h.2.2⟩

def LiesP (w : World) (b off : Nat) (os : List Qv) : Prop := ∀ j (h : j < os.length),
  (w.cell? ⟨b, off + j * 11, none⟩ = some (.int .i64 os[j].q.kind) ∧ w.cell? ⟨b, off + j * 11 + 1, none⟩ = some (.string os[j].q.key) ∧ w.cell? ⟨b, off + j * 11 + 2, none⟩ = some (.string os[j].q.dest) ∧
   w.cell? ⟨b, off + j * 11 + 3, none⟩ = some os[j].dv ∧ w.cell? ⟨b, off + j * 11 + 4, none⟩ = some os[j].wv ∧ w.cell? ⟨b, off + j * 11 + 5, none⟩ = some (.bool os[j].q.has) ∧
   w.cell? ⟨b, off + j * 11 + 6, none⟩ = some (.int .i64 os[j].q.n) ∧ w.cell? ⟨b, off + j * 11 + 7, none⟩ = some (.int .i64 os[j].q.most) ∧ w.cell? ⟨b, off + j * 11 + 8, none⟩ = some os[j].lv ∧
   w.cell? ⟨b, off + j * 11 + 9, none⟩ = some os[j].sv ∧ w.cell? ⟨b, off + j * 11 + 10, none⟩ = some os[j].nv) ∧ QvRaw w os[j]

/-- The slice s has those that are asked, as they are handed in. -/
def LstP (w : World) (s : Value) (os : List Qv) : Prop :=
  ∃ ao cap, s = .slice ao os.length cap ∧ os.length ≤ cap ∧ (os = [] ∨ ∃ b off, ao = some ⟨b, off, none⟩ ∧ b < w.heap.size ∧ LiesP w b off os)

theorem LiesP.adds {w w' : World} {b off : Nat} {os : List Qv} (h : LiesP w b off os) (hA : Adds w w') (hb : b < w.heap.size) : LiesP w' b off os := by
  intro j hj
  obtain ⟨⟨h0, h1, h2, h3, h4, h5, h6, h7, h8, h9, h10⟩, hq⟩ := h j hj
  have q := hA.below
  exact ⟨⟨(q.cell (by exact hb)).trans h0, (q.cell (by exact hb)).trans h1, (q.cell (by exact hb)).trans h2, (q.cell (by exact hb)).trans h3, (q.cell (by exact hb)).trans h4, (q.cell (by exact hb)).trans h5, (q.cell (by exact hb)).trans h6, (q.cell (by exact hb)).trans h7, (q.cell (by exact hb)).trans h8, (q.cell (by exact hb)).trans h9, (q.cell (by exact hb)).trans h10⟩, hq.adds hA⟩

theorem LstP.adds {w w' : World} {s : Value} {os : List Qv} (h : LstP w s os) (hA : Adds w w') : LstP w' s os := by
  obtain ⟨ao, cap, rfl, hc, h⟩ := h
  refine ⟨ao, cap, rfl, hc, ?_⟩
  rcases h with h | ⟨b, off, rfl, hb, hl⟩
  · exact .inl h
  · exact .inr ⟨b, off, rfl, Nat.lt_of_lt_of_le hb hA.below.size, hl.adds hA hb⟩

theorem Tryz.cells31 : Tryz.prog.cellsOf 31 = 11 := by kernel_rfl
theorem Tryz.cells27 : Tryz.prog.cellsOf 27 = 1 := by kernel_rfl
theorem Tryz.cells28 : Tryz.prog.cellsOf 28 = 1 := by kernel_rfl
theorem Tryz.cells5 : Tryz.prog.cellsOf 5 = 1 := by kernel_rfl
theorem Tryz.cells59 : Tryz.prog.cellsOf 59 = 14 := by kernel_rfl
theorem Tryz.cells24 : Tryz.prog.cellsOf 24 = 4 := by kernel_rfl
theorem Tryz.cells22 : Tryz.prog.cellsOf 22 = 1 := by kernel_rfl
theorem Tryz.cells29 : Tryz.prog.cellsOf 29 = 1 := by kernel_rfl

def Qv.cells (v : Qv) : List Value := [.int .i64 v.q.kind, .string v.q.key, .string v.q.dest, v.dv, v.wv, .bool v.q.has, .int .i64 v.q.n, .int .i64 v.q.most, v.lv, v.sv, v.nv]

theorem trod_shape {H : Type} {enc : TypeId × Value → H} {w : World} {t e : TypeId} {fuel : Nat} {c : Value} {x : DataW H × List MemPlace} (ht : Tryz.prog.underlying t = some (.slice e)) (hf : DataW.trod enc Tryz.prog w 0 (fun _ => true) true fuel t [c] = some x) : ∃ a n m, c = .slice a n m := by
  rcases Deep.open_slice ht hf with ⟨hcs, hx⟩ | ⟨a, len, cap, m, n, D, Pl, hcs, _⟩
  · exact ⟨none, 0, 0, by simpa using hcs⟩
  · exact ⟨_, _, _, by simpa using hcs⟩

set_option maxRecDepth 20000 in
theorem trod_op {H : Type} {enc : TypeId × Value → H} {w : World} {fuel : Nat} {cs : List Value} {x : DataW H × List MemPlace} (h : DataW.trod enc Tryz.prog w 0 (fun _ => true) true fuel 31 cs = some x) :
    ∃ v : Qv, cs = v.cells ∧ QvRaw w v ∧ ∃ n y, DataW.trod enc Tryz.prog w 0 (fun _ => true) true n 27 [v.lv] = some y := by
  obtain ⟨xs, n, _, _, hl, hlen, hf⟩ := DataW.trod_struct Tryz.underlying31 h
  rw [Tryz.cells31] at hl
  match cs, hl, xs, hlen with
  | [c0, c1, c2, c3, c4, c5, c6, c7, c8, c9, c10], _, [y0, y1, y2, y3, y4, y5, y6, y7, y8, y9, y10], _ =>
    have h0 : DataW.trod enc Tryz.prog w 0 (fun _ => true) true n 3 (([c0, c1, c2, c3, c4, c5, c6, c7, c8, c9, c10].drop 0).take (Tryz.prog.cellsOf 3)) = some y0 := hf 0 _ rfl
    have h1 : DataW.trod enc Tryz.prog w 0 (fun _ => true) true n 9 (([c0, c1, c2, c3, c4, c5, c6, c7, c8, c9, c10].drop 1).take (Tryz.prog.cellsOf 9)) = some y1 := hf 1 _ rfl
    have h2 : DataW.trod enc Tryz.prog w 0 (fun _ => true) true n 9 (([c0, c1, c2, c3, c4, c5, c6, c7, c8, c9, c10].drop 2).take (Tryz.prog.cellsOf 9)) = some y2 := hf 2 _ rfl
    have h3 : DataW.trod enc Tryz.prog w 0 (fun _ => true) true n 26 (([c0, c1, c2, c3, c4, c5, c6, c7, c8, c9, c10].drop 3).take (Tryz.prog.cellsOf 26)) = some y3 := hf 3 _ rfl
    have h4 : DataW.trod enc Tryz.prog w 0 (fun _ => true) true n 26 (([c0, c1, c2, c3, c4, c5, c6, c7, c8, c9, c10].drop 4).take (Tryz.prog.cellsOf 26)) = some y4 := hf 4 _ rfl
    have h5 : DataW.trod enc Tryz.prog w 0 (fun _ => true) true n 4 (([c0, c1, c2, c3, c4, c5, c6, c7, c8, c9, c10].drop 5).take (Tryz.prog.cellsOf 4)) = some y5 := hf 5 _ rfl
    have h6 : DataW.trod enc Tryz.prog w 0 (fun _ => true) true n 3 (([c0, c1, c2, c3, c4, c5, c6, c7, c8, c9, c10].drop 6).take (Tryz.prog.cellsOf 3)) = some y6 := hf 6 _ rfl
    have h7 : DataW.trod enc Tryz.prog w 0 (fun _ => true) true n 3 (([c0, c1, c2, c3, c4, c5, c6, c7, c8, c9, c10].drop 7).take (Tryz.prog.cellsOf 3)) = some y7 := hf 7 _ rfl
    have h8 : DataW.trod enc Tryz.prog w 0 (fun _ => true) true n 27 (([c0, c1, c2, c3, c4, c5, c6, c7, c8, c9, c10].drop 8).take (Tryz.prog.cellsOf 27)) = some y8 := hf 8 _ rfl
    have h9 : DataW.trod enc Tryz.prog w 0 (fun _ => true) true n 28 (([c0, c1, c2, c3, c4, c5, c6, c7, c8, c9, c10].drop 9).take (Tryz.prog.cellsOf 28)) = some y9 := hf 9 _ rfl
    have h10 : DataW.trod enc Tryz.prog w 0 (fun _ => true) true n 29 (([c0, c1, c2, c3, c4, c5, c6, c7, c8, c9, c10].drop 10).take (Tryz.prog.cellsOf 29)) = some y10 := hf 10 _ rfl
    simp only [Tryz.cells3, Tryz.cells9, Tryz.cells26, Tryz.cells4, Tryz.cells27, Tryz.cells28, Tryz.cells29, List.drop_zero, List.take_succ_cons, List.take_zero, List.drop_succ_cons] at h0 h1 h2 h3 h4 h5 h6 h7 h8 h9 h10
    obtain ⟨m0, e0, _, _⟩ := DataW.trod_int Tryz.underlying3 h0
    obtain ⟨s1, e1, _⟩ := DataW.trod_string Tryz.underlying9 h1
    obtain ⟨s2, e2, _⟩ := DataW.trod_string Tryz.underlying9 h2
    obtain ⟨f3, hf3⟩ := trod_doc h3
    obtain ⟨f4, hf4⟩ := trod_doc h4
    obtain ⟨b5, e5, _⟩ := DataW.trod_bool Tryz.underlying4 h5
    obtain ⟨m6, e6, _, _⟩ := DataW.trod_int Tryz.underlying3 h6
    obtain ⟨m7, e7, _, _⟩ := DataW.trod_int Tryz.underlying3 h7
    have g8 := trod_shape Tryz.underlying27 h8
    have g9 := trod_shape Tryz.underlying28 h9
    have g10 := trod_shape Tryz.underlying29 h10
    simp at e0 e1 e2 e5 e6 e7
    subst e0 e1 e2 e5 e6 e7
    exact ⟨⟨⟨m0, s1, s2, f3, f4, b5, m6, m7⟩, c3, c4, c8, c9, c10⟩, rfl, ⟨hf3, hf4, g8, g9, g10⟩, n, y8, h8⟩

instance : Nonempty Qv := ⟨⟨⟨0, ⟨#[]⟩, ⟨#[]⟩, [], [], false, 0, 0⟩, .slice none 0 0, .slice none 0 0, .slice none 0 0, .slice none 0 0, .slice none 0 0⟩⟩

set_option maxRecDepth 20000 in
theorem trod_ops {H : Type} {enc : TypeId × Value → H} {w : World} {fuel : Nat} {c : Value} {x : DataW H × List MemPlace} (hf : DataW.trod enc Tryz.prog w 0 (fun _ => true) true fuel 27 [c] = some x) : ∃ os, LstP w c os := by
  obtain ⟨l, ao, cap, rfl, hle, h⟩ := open_gen (α := Qv) (R := fun v cs => cs = v.cells ∧ QvRaw w v) Tryz.underlying27 Tryz.cells31 (by omega) (fun n cs y h _ => by
    obtain ⟨v, h1, h2, _⟩ := trod_op h
    exact ⟨v, h1, h2⟩) hf
  refine ⟨l, ao, cap, rfl, hle, ?_⟩
  rcases h with h | ⟨b, off, rfl, hb, hh⟩
  · exact .inl h
  · refine .inr ⟨b, off, rfl, hb, fun j hj => ?_⟩
    obtain ⟨cs, ⟨rfl, hr⟩, _, hc⟩ := hh j hj
    exact ⟨⟨hc 0 (by simp [Qv.cells]), hc 1 (by simp [Qv.cells]), hc 2 (by simp [Qv.cells]), hc 3 (by simp [Qv.cells]), hc 4 (by simp [Qv.cells]), hc 5 (by simp [Qv.cells]), hc 6 (by simp [Qv.cells]), hc 7 (by simp [Qv.cells]), hc 8 (by simp [Qv.cells]), hc 9 (by simp [Qv.cells]), hc 10 (by simp [Qv.cells])⟩, hr⟩

set_option maxRecDepth 20000 in
theorem open_op {H : Type} {enc : TypeId × Value → H} {w : World} {b0 : Nat} {r : Reach} {v : Value} {d : DataW H} {ps : List MemPlace}
    (hv : Value.okWide Tryz.prog w r b0 31 v) (h : DataW.Trod enc Tryz.prog w 0 (fun _ => true) true 31 v d ps) : ∃ (x : Qv) (os : List Qv), v = x.val ∧ QvRaw w x ∧ LstP w x.lv os := by
  obtain ⟨cs, rfl, hsz⟩ := okWide_struct Tryz.underlying31 hv
  obtain ⟨fuel, hf⟩ := h
  obtain ⟨x, hx, hr, n, y, hy⟩ := trod_op hf
  obtain ⟨os, ho⟩ := trod_ops hy
  refine ⟨x, os, ?_, hr, ho⟩
  have : cs = x.cells.toArray := by
    have hx' : cs.toList = x.cells := hx
    rw [← hx']
  rw [this]
  rfl

def ovOf (v : Qv) : Ov := ⟨v.q.kind, v.q.key, v.q.dest, v.dv, v.wv, v.q.has, v.q.n, v.q.most, v.lv, v.sv, v.nv⟩

theorem ovOf_sl {w : World} {v : Qv} (h : QvRaw w v) : (ovOf v).Sl := by
  obtain ⟨⟨a, c, h1, _⟩, ⟨a', c', h2, _⟩, h3, h4, h5⟩ := h
  exact ⟨⟨_, _, _, h1⟩, ⟨_, _, _, h2⟩, h3, h4, h5⟩

instance : Nonempty Sh.F := ⟨⟨⟨#[]⟩, ⟨#[]⟩⟩⟩

set_option maxRecDepth 20000 in
theorem trod_pairs {H : Type} {enc : TypeId × Value → H} {w : World} {fuel : Nat} {c : Value} {x : DataW H × List MemPlace} (hf : DataW.trod enc Tryz.prog w 0 (fun _ => true) true fuel 22 [c] = some x) : ∃ fs, Sh.Lst w c fs := by
  obtain ⟨l, ao, cap, rfl, hle, h⟩ := open_gen (α := Sh.F) (R := fun f cs => cs = f.cellList) (k := 2) Tryz.underlying22 (by kernel_rfl) (by omega) (fun n cs y h _ => Sh.trod_F h) hf
  refine ⟨l, ao, cap, rfl, hle, ?_⟩
  rcases h with h | ⟨b, off, rfl, hb, hh⟩
  · exact .inl h
  · refine .inr ⟨b, off, rfl, hb, fun j hj => ?_⟩
    obtain ⟨cs, rfl, _, hc⟩ := hh j hj
    exact ⟨hc 0 (by simp [Sh.F.cellList]), hc 1 (by simp [Sh.F.cellList])⟩

set_option maxRecDepth 20000 in
theorem trod_shelf {H : Type} {enc : TypeId × Value → H} {w : World} {fuel : Nat} {cs : List Value} {x : DataW H × List MemPlace} (hlen : cs.length = 4)
    (h : DataW.trod enc Tryz.prog w 0 (fun _ => true) true fuel 24 cs = some x) : ∃ (s : Shl) (u : Value), cs = [.string s.df, .bool s.rdy, .int .i64 s.mark, u] ∧ Sh.Lst w u s.es := by
  obtain ⟨y0, y1, y2, y3, n, _, hl, h0, h1, h2, h3⟩ := trod_struct4 Tryz.underlying24 h
  match cs, hlen with
  | [c0, c1, c2, c3], _ =>
    simp only [Tryz.cells3, Tryz.cells9, Tryz.cells4, Tryz.cells22, List.drop_zero, List.take_succ_cons, List.take_zero, List.drop_succ_cons] at h0 h1 h2 h3
    obtain ⟨d, e0, _⟩ := DataW.trod_string Tryz.underlying9 h0
    obtain ⟨r, e1, _⟩ := DataW.trod_bool Tryz.underlying4 h1
    obtain ⟨m, e2, _, _⟩ := DataW.trod_int Tryz.underlying3 h2
    obtain ⟨fs, hfs⟩ := trod_pairs h3
    simp at e0 e1 e2
    subst e0 e1 e2
    exact ⟨⟨d, r, m, fs⟩, c3, rfl, hfs⟩

set_option maxRecDepth 20000 in
theorem open_shelf {H : Type} {enc : TypeId × Value → H} {w : World} {b0 : Nat} {r : Reach} {v : Value} {d : DataW H} {ps : List MemPlace}
    (hv : Value.okWide Tryz.prog w r b0 24 v) (h : DataW.Trod enc Tryz.prog w 0 (fun _ => true) true 24 v d ps) : ∃ (s : Shl) (u : Value), v = s.val u ∧ Sh.Lst w u s.es := by
  obtain ⟨cs, rfl, hsz⟩ := okWide_struct Tryz.underlying24 hv
  obtain ⟨fuel, hf⟩ := h
  rw [Tryz.cells24] at hsz
  obtain ⟨s, u, e, hu⟩ := trod_shelf (by simpa [Value.cells] using hsz) hf
  refine ⟨s, u, ?_, hu⟩
  simp only [Value.cells] at e
  unfold Shl.val
  congr 1
  apply Array.toList_inj.1
  exact e

open Go.ChangeShapes Go.WideShapes Go.ChangeAt Go.RowKit Go.Joins Go.ChangeMaps

/-- What Light tells. -/
def LightTold (v : Qv) (os : List Qv) (w : World) (e : Ending) (w' : World) : Prop :=
  ∃ b : Bool, e = .returned (.bool b) ∧ Adds w w' ∧ Hid (b = true → v.q.doc.length ≤ 20 ∧ v.q.want.length ≤ 20 ∧ os.length ≤ 6 ∧ ∀ x ∈ os, x.q.doc.length ≤ 20 ∧ x.q.want.length ≤ 20)

theorem light_no {v : Qv} {os : List Qv} {w w' : World} (hA : Adds w w') : LightTold v os w (.returned (.bool false)) w' := ⟨false, rfl, hA, fun h => by cases h⟩

theorem light_end {v : Qv} {os : List Qv} {w w' : World} {b : Bool} (hA : Adds w w') (h : b = true → v.q.doc.length ≤ 20 ∧ v.q.want.length ≤ 20 ∧ os.length ≤ 6 ∧ ∀ x ∈ os, x.q.doc.length ≤ 20 ∧ x.q.want.length ≤ 20) : LightTold v os w (.returned (.bool b)) w' := ⟨b, rfl, hA, h⟩

set_option maxRecDepth 20000 in
set_option maxHeartbeats 2000000 in
theorem lightL_any (v : Qv) (os : List Qv) (w : World) (hv : QvRaw w v) (ho : LstP w v.lv os) :
    Calls Tryz.prog 7 #[v.val] w fun e w' => LightTold v os w e w' := by
  have HNO : Hid (∀ w', Adds w w' → LightTold v os w (.returned (.bool false)) w') := fun w' hA => light_no hA
  have HEND : Hid (∀ b w', Adds w w' → (b = true → v.q.doc.length ≤ 20 ∧ v.q.want.length ≤ 20 ∧ os.length ≤ 6 ∧ ∀ x ∈ os, x.q.doc.length ≤ 20 ∧ x.q.want.length ≤ 20) → LightTold v os w (.returned (.bool b)) w') := fun b w' hA h => light_end hA h
  obtain ⟨hd1, hw1, ⟨la, ln, lc, h51⟩, ⟨sa, sn, sc', h52⟩, ⟨na, nn, nc, h53⟩⟩ := hv
  obtain ⟨q, dv, wv, lv, sv, nv⟩ := v
  simp only at h51 h52 h53 hd1 hw1 ho HEND
  subst h51 h52 h53
  obtain ⟨da, dc, rfl, _, _⟩ := hd1
  obtain ⟨wa, wc, rfl, _, _⟩ := hw1
  have HO : Hid _ := ho
  obtain ⟨lo, lcc, he, hcap, hlo⟩ := ho
  simp only [Value.slice.injEq] at he
  obtain ⟨rfl, rfl, rfl⟩ := he
  simp only [Qv.val, opV]
  generalize q.doc.length = dn at *
  generalize q.want.length = wn at *
  go_enter Tryz.func7, Tryz.ntmps7
  go_wp2_with fail
  go_loopw [3] (fun i wr => ∃ k : Nat, k ≤ 6 ∧ i = .int .i64 k ∧ Hid (∀ j (hj : j < os.length), j < k → os[j].q.doc.length ≤ 20 ∧ os[j].q.want.length ≤ 20) ∧ Adds (w.alloc (.cells #[.int .i64 q.kind, .string q.key, .string q.dest, .slice da dn dc, .slice wa wn wc, .bool q.has, .int .i64 q.n, .int .i64 q.most, .slice la os.length lc, .slice sa sn sc', .slice na nn nc] 31)) wr) (fun i _ => (7 - intOf i).toNat)
  case atStart => exact ⟨0, by omega, rfl, fun j _ hj => absurd hj (by omega), Adds.refl _⟩
  case round =>
    obtain ⟨k, hk, rfl, hb, os1, n1, rfl⟩ := hrel
    by_cases hlt : k < os.length ∧ k < 6
    · obtain ⟨hlt, h6⟩ := hlt
      rcases hlo with rfl | ⟨b, off, rfl, hbb, hll⟩
      · simp at hlt
      obtain ⟨⟨_, _, _, c3, c4, _, _, _, c8, _, _⟩, hq1, hq2, hq3, _, _⟩ := hll k hlt
      have HN : Hid (os[k].q.doc.length ≤ 20 → os[k].q.want.length ≤ 20 → ∀ j (hj : j < os.length), j < k + 1 → os[j].q.doc.length ≤ 20 ∧ os[j].q.want.length ≤ 20) := by
        intro h h' j hj hjk
        by_cases e : j = k
        · subst e; exact ⟨h, h'⟩
        · exact hb.out j hj (by omega)
      obtain ⟨xo, xc, hx, _, _⟩ := hq1
      obtain ⟨yo, yc, hy, _, _⟩ := hq2
      obtain ⟨zo, zn, zc, hz⟩ := hq3
      rw [hx] at c3
      rw [hy] at c4
      rw [hz] at c8
      have hbs : b < w.heap.size := hbb
      clear hll hx hy hz
      generalize os[k].q.doc.length = n at *
      generalize os[k].q.want.length = m at *
      by_cases hn : n ≤ 20
      · have hn' : (n : Int) ≤ 20 := by omega
        by_cases hm : m ≤ 20
        · have hm' : (m : Int) ≤ 20 := by omega
          have HN' : Hid _ := HN.out hn hm
          clear HN
          by_cases hz5 : zn ≤ 5
          · have hz' : (zn : Int) ≤ 5 := by omega
            go_wp2
            go_roundw
            case rel => exact ⟨k + 1, by omega, by go_num, HN'.out, (by repeat (first | with_reducible exact Adds.refl _ | with_reducible refine Adds.alloc ?_ _ | with_reducible refine Adds.more ?_ _ _ | with_reducible refine Adds.drew ?_ | with_reducible refine Adds.drewN ?_ _))⟩
            case measure => simp [intOf]; omega
          · have hz' : ¬ (zn : Int) ≤ 5 := by omega
            go_wp2
            go_ret
            exact HNO.out _ (by repeat (first | with_reducible exact Adds.refl _ | with_reducible refine Adds.alloc ?_ _ | with_reducible refine Adds.more ?_ _ _ | with_reducible refine Adds.drew ?_ | with_reducible refine Adds.drewN ?_ _))
        · have hm' : ¬ (m : Int) ≤ 20 := by omega
          clear HN
          go_wp2
          go_ret
          exact HNO.out _ (by repeat (first | with_reducible exact Adds.refl _ | with_reducible refine Adds.alloc ?_ _ | with_reducible refine Adds.more ?_ _ _ | with_reducible refine Adds.drew ?_ | with_reducible refine Adds.drewN ?_ _))
      · have hn' : ¬ (n : Int) ≤ 20 := by omega
        clear HN
        go_wp2
        go_ret
        exact HNO.out _ (by repeat (first | with_reducible exact Adds.refl _ | with_reducible refine Adds.alloc ?_ _ | with_reducible refine Adds.more ?_ _ _ | with_reducible refine Adds.drew ?_ | with_reducible refine Adds.drewN ?_ _))
    · have HE : Hid (os.length ≤ 6 → ∀ x ∈ os, x.q.doc.length ≤ 20 ∧ x.q.want.length ≤ 20) := by
        intro h x hx
        obtain ⟨j, hj, rfl⟩ := List.mem_iff_getElem.1 hx
        exact hb.out j hj (by omega)
      have HF : Hid (¬ (k < os.length ∧ k < 6)) := hlt
      have hfin : ∀ (B : Bool) w', Adds w w' → (B = true → (dn : Int) ≤ 20 ∧ (wn : Int) ≤ 20 ∧ (os.length : Int) ≤ 6) → LightTold ⟨q, .slice da dn dc, .slice wa wn wc, .slice la os.length lc, .slice sa sn sc', .slice na nn nc⟩ os w (.returned (.bool B)) w' := fun B w' hA h => HEND.out B w' hA (fun hB => by
        obtain ⟨a1, a2, a3⟩ := h hB
        exact ⟨by omega, by omega, by omega, HE.out (by omega)⟩)
      have HFIN : Hid _ := hfin
      clear hfin
      by_cases h1 : k < os.length
      · have h2 : ¬ (k : Int) < 6 := by omega
        go_wp2
        all_goals
          go_ret
          refine HFIN.out _ _ (by repeat (first | with_reducible exact Adds.refl _ | with_reducible refine Adds.alloc ?_ _ | with_reducible refine Adds.more ?_ _ _ | with_reducible refine Adds.drew ?_ | with_reducible refine Adds.drewN ?_ _)) (fun hB => ?_)
          simp at hB <;> omega
      · have h2 : ¬ (k : Int) < (os.length : Int) := by omega
        go_wp2
        all_goals
          go_ret
          refine HFIN.out _ _ (by repeat (first | with_reducible exact Adds.refl _ | with_reducible refine Adds.alloc ?_ _ | with_reducible refine Adds.more ?_ _ _ | with_reducible refine Adds.drew ?_ | with_reducible refine Adds.drewN ?_ _)) (fun hB => ?_)
          simp at hB <;> omega

theorem lightOk_of {w : World} {v : Qv} {os : List Qv} (h : QvRaw w v) (ho : LstP w v.lv os) : LightOk w (ovOf v) := fun W hA =>
  (lightL_any v os W (h.adds hA) (ho.adds hA)).mono (by
    rintro e w' ⟨b, rfl, hB, _⟩
    exact ⟨⟨b, rfl⟩, hB⟩)

def Ac.cells (q : Ac) : List Value := [.int .i64 q.d, .int .u8 (q.n : Int), .int .u8 (q.many : Int), .int .i64 q.op.kind, .string q.op.key, .string q.op.to, q.op.dv, q.op.wv, .bool q.op.has, .int .i64 q.op.n, .int .i64 q.op.most, q.op.lv, q.op.sv, q.op.nv]

theorem u8_nat {n : Int} (h : (Lit.int .u8 n).wf = true) : ((n.toNat : Nat) : Int) = n ∧ n.toNat < 256 := by
  simp only [Lit.wf, Bool.and_eq_true, decide_eq_true_eq] at h
  have h1 : IntKind.min .u8 = 0 := by decide
  have h2 : IntKind.max .u8 = 255 := by decide
  omega

set_option maxRecDepth 20000 in
theorem trod_act {H : Type} {enc : TypeId × Value → H} {w : World} {fuel : Nat} {cs : List Value} {x : DataW H × List MemPlace} (hlen : cs.length = 14)
    (h : DataW.trod enc Tryz.prog w 0 (fun _ => true) true fuel 59 cs = some x) : ∃ q : Ac, cs = q.cells ∧ q.n < 256 ∧ q.many < 256 ∧ q.op.Sl ∧ LightOk w q.op := by
  obtain ⟨y0, y1, y2, y3, n, _, hl, h0, h1, h2, h3⟩ := trod_struct4 Tryz.underlying59 h
  match cs, hlen with
  | [c0, c1, c2, c3, c4, c5, c6, c7, c8, c9, c10, c11, c12, c13], _ =>
    simp only [Tryz.cells3, Tryz.cells5, Tryz.cells31, List.drop_zero, List.take_succ_cons, List.take_zero, List.drop_succ_cons] at h0 h1 h2 h3
    obtain ⟨m0, e0, _, _⟩ := DataW.trod_int Tryz.underlying3 h0
    obtain ⟨m1, e1, _, g1⟩ := DataW.trod_int Tryz.underlying5 h1
    obtain ⟨m2, e2, _, g2⟩ := DataW.trod_int Tryz.underlying5 h2
    obtain ⟨v, hv, hr, n', y, hy⟩ := trod_op h3
    obtain ⟨os, ho⟩ := trod_ops hy
    simp at e0 e1 e2
    subst e0 e1 e2
    obtain ⟨k1, k2⟩ := u8_nat g1
    obtain ⟨k3, k4⟩ := u8_nat g2
    refine ⟨⟨m0, m1.toNat, m2.toNat, ovOf v⟩, ?_, k2, k4, ovOf_sl hr, lightOk_of hr ho⟩
    simp only [Ac.cells, k1, k3, ovOf]
    rw [hv]
    rfl

instance : Nonempty Ch := ⟨⟨0, ⟨#[]⟩, false, []⟩⟩

instance : Nonempty Ac := ⟨⟨0, 0, 0, ⟨0, ⟨#[]⟩, ⟨#[]⟩, .slice none 0 0, .slice none 0 0, false, 0, 0, .slice none 0 0, .slice none 0 0, .slice none 0 0⟩⟩⟩

set_option maxRecDepth 20000 in
theorem okWide_len {w : World} {b0 : Nat} {r : Reach} {t e : TypeId} {a : Option Addr} {n c : Nat} (ht : Tryz.prog.underlying t = some (.slice e)) (hv : Value.okWide Tryz.prog w r b0 t (.slice a n c)) : n ≤ 9223372036854775807 := by
  simp only [Value.okWide, ht, Cell.okWide] at hv
  have hm : IntKind.max .i64 = 9223372036854775807 := by decide
  cases a with
  | none =>
    cases n with
    | zero => exact Nat.zero_le _
    | succ n => simp [Cell.ok, ht] at hv
  | some a =>
    simp only [Cell.ok, ht] at hv
    obtain ⟨h1, h2, _⟩ := hv
    rw [hm] at h2
    omega

set_option maxRecDepth 20000 in
theorem open_acts {H : Type} {enc : TypeId × Value → H} {w : World} {b0 : Nat} {r : Reach} {v : Value} {d : DataW H} {ps : List MemPlace}
    (hv : Value.okWide Tryz.prog w r b0 55 v) (h : DataW.Trod enc Tryz.prog w 0 (fun _ => true) true 55 v d ps) : ∃ qs, LstA w v qs := by
  obtain ⟨a0, len, cap0, rfl⟩ := okWide_slice Tryz.underlying55 hv
  have hl := okWide_len Tryz.underlying55 hv
  obtain ⟨fuel, hf⟩ := h
  obtain ⟨l, ao, cap, e, hle, h⟩ := open_gen (α := Ac) (R := fun q cs => cs = q.cells ∧ q.n < 256 ∧ q.many < 256 ∧ q.op.Sl ∧ LightOk w q.op) (k := 14) Tryz.underlying55 Tryz.cells59 (by omega) (fun n cs y h hlen => trod_act hlen h) hf
  simp only [Value.slice.injEq] at e
  obtain ⟨rfl, rfl, rfl⟩ := e
  refine ⟨l, a0, cap0, rfl, hle, hl, ?_⟩
  rcases h with h | ⟨b, off, rfl, hb, hh⟩
  · exact .inl h
  · refine .inr ⟨b, off, rfl, hb, fun j hj => ?_⟩
    obtain ⟨cs, ⟨rfl, h1, h2, h3, h4⟩, _, hc⟩ := hh j hj
    exact ⟨⟨hc 0 (by simp [Ac.cells]), hc 1 (by simp [Ac.cells]), hc 2 (by simp [Ac.cells]), hc 3 (by simp [Ac.cells]), hc 4 (by simp [Ac.cells]), hc 5 (by simp [Ac.cells]), hc 6 (by simp [Ac.cells]), hc 7 (by simp [Ac.cells]), hc 8 (by simp [Ac.cells]), hc 9 (by simp [Ac.cells]), hc 10 (by simp [Ac.cells]), hc 11 (by simp [Ac.cells]), hc 12 (by simp [Ac.cells]), hc 13 (by simp [Ac.cells])⟩, h1, h2, h3, h4⟩

set_option maxRecDepth 20000 in
theorem open_changes {H : Type} {enc : TypeId × Value → H} {w : World} {b0 : Nat} {r : Reach} {v : Value} {d : DataW H} {ps : List MemPlace}
    (hv : Value.okWide Tryz.prog w r b0 29 v) (h : DataW.Trod enc Tryz.prog w 0 (fun _ => true) true 29 v d ps) : ∃ cs, LstH w v cs := by
  obtain ⟨a0, len, cap0, rfl⟩ := okWide_slice Tryz.underlying29 hv
  obtain ⟨fuel, hf⟩ := h
  obtain ⟨l, ao, cap, e, hle, h⟩ := open_gen (α := Ch) (R := fun c cs => ∃ v, cs = [.int .i64 c.pos, .string c.key, .bool c.has, v] ∧ Lst w v c.doc) (k := 4) Tryz.underlying29 (by kernel_rfl) (by omega) (fun n cs y h hlen => by
    obtain ⟨pos, key, has, dv, doc, e, hd⟩ := trod_change hlen h
    exact ⟨⟨pos, key, has, doc⟩, dv, e, hd⟩) hf
  refine ⟨l, ao, cap, e, hle, ?_⟩
  rcases h with h | ⟨b, off, rfl, hb, hh⟩
  · exact .inl h
  · refine .inr ⟨b, off, rfl, hb, fun j hj => ?_⟩
    obtain ⟨cs, ⟨v, rfl, hv⟩, _, hc⟩ := hh j hj
    exact ⟨v, hc 0 (by simp), hc 1 (by simp), hc 2 (by simp), hc 3 (by simp), hv⟩

end Go.Proofs.YtiacnmcdfpmcfaaGreatDoor

namespace Go.Proofs.YtiacnmcdfpmcfaaGreatDoor
open Go.RowKit
attribute [local go_sem] cell?_more frozen?_more setCell_more size_more tape_more drew_more drewN_more more_drew more_drewN one_out plus_out plus_end lt_one le_p2 le_p3 le_p4 le_p5 le_p6 le_p7 le_p8 le_p9 le_p10 le_p11 le_p12 le_p13 le_p14 le_p15 le_p16 le_p17 le_p18 le_p19 le_p20 le_p21 le_p22 le_p23 le_p24 le_q0 le_q1 lt_q1 le_q2 lt_q2 le_q3 lt_q3 le_q4 lt_q4 le_q5 lt_q5 le_q6 lt_q6 le_q7 lt_q7 le_q8 lt_q8 le_q9 lt_q9 le_q10 lt_q10 le_q11 lt_q11 le_q12 lt_q12 le_q13 lt_q13 le_q14 lt_q14 le_q15 lt_q15 le_q16 lt_q16 le_q17 lt_q17 le_q18 lt_q18 le_q19 lt_q19 le_q20 lt_q20 le_q21 lt_q21 le_q22 lt_q22 le_q23 lt_q23 le_q24 lt_q24

open Go.ChangeShapes Go.WideShapes Go.ChangeAt Go.RowKit Go.Joins Go.ChangeMaps

set_option maxRecDepth 100000 in
theorem shelfTrue_lifted (os : Os) (started : os.Started) (H : Type) (enc : TypeId × Value → H) :
    ReturnsInHanded {} Tryz.checked os 5 .any (fun w args => (Rows.shelfTrueSpec.pre enc Tryz.prog Tryz.f5 Rows.shelfTrueRow.domain false w args ∧ laidMetH Tryz.prog Rows.shelfTrueRow.laid w) ∧ sizedMet enc Tryz.prog Tryz.f5 (OpenSpec.ofChange Rows.shelfTrueSpec) false w args)
      (Rows.shelfTrueSpec.post enc Tryz.prog Tryz.f5 false true false false) := by
  refine returnsInHanded_of_change_and (C := Tryz.checked) (X := fun w _ => laidMetH Tryz.prog Rows.shelfTrueRow.laid w) (fun _ _ _ hh h => h.of_heap hh) Tryz.own started (by kernel_rfl) Tryz.func5
    (ChangeSpec.witness_shaped (enc := enc) (C := Tryz.checked) (os := os) (X := fun w _ => laidMetH Tryz.prog Rows.shelfTrueRow.laid w) false (World.laidAll Tryz.prog os Rows.shelfTrueRow.laid) #[.string ⟨#[]⟩, .slice none 0 0, .slice none 0 0] 8 (World.laidAll_os _ _ _)
      (World.shaped_of_ZipB (by kernel_rfl) (by kernel_rfl)) (by kernel_rfl) (by kernel_rfl) (by kernel_rfl)
      (by rw [MakeChecks.laidMetH_plain _ _ _ (by kernel_rfl)]; exact laidMet_laidAll _ (by kernel_rfl) (by kernel_rfl))) ?_
  intro W base args ds gs before hval0 hW _ _ _ _
  have hval : ∀ (j : Nat) t v, Tryz.f5.params[j]? = some t → args[j]? = some v → Value.okWide Tryz.prog W .any base t v := hval0
  have hW' := hW
  obtain ⟨p, q, hA0, hV, rfl, _, _⟩ := hW
  have hA : DataW.TrodAll enc Tryz.prog W 0 (fun _ => true) true Tryz.f5.params.toList args.toList ds p := hA0
  rw [Tryz.params5] at hA hval
  obtain ⟨v0, v1, v2, d0, d1, d2, p0, p1, p2, rfl, rfl, rfl, h0, h1, h2⟩ := trodAll_three hA
  obtain ⟨rfl, rfl⟩ := trodVars_none hV
  obtain ⟨b, rfl, _, _⟩ := open_string Tryz.underlying9 (hval 0 9 v0 rfl rfl) h0
  obtain ⟨cs, hc⟩ := open_changes (hval 1 29 v1 rfl rfl) h1
  obtain ⟨qs, hq⟩ := open_acts (hval 2 55 v2 rfl rfl) h2
  clear hA0 hval0
  refine (true_any apply_ok b v1 v2 cs W qs apply_load apply_feed hc hq).mono fun e W' ⟨he, hb⟩ => ⟨_, he, ?_⟩
  exact law_post Tryz.laidOut rfl hW' (by kernel_rfl) Tryz.underlying4 (by rw [Tryz.params5]; intro t ht; simp at ht; rcases ht with rfl | rfl | rfl <;> exact ⟨by kernel_rfl, of_decide_eq_true (by kernel_rfl)⟩) rfl hb.below

theorem shelfTrue_row : Rows.ShelfTrueSaid :=
  OpenClaim.holds_of_wide 5 Tryz.f5 rfl rfl rfl rfl rfl rfl rfl ⟨rfl, rfl, rfl, rfl, rfl⟩ rfl rfl rfl rfl rfl (by kernel_rfl) Tryz.func5 (by kernel_rfl)
    (of_decide_eq_true (by kernel_rfl)) (by unfold Func.isWrapper; first | (rw [if_pos (by decide +kernel)]; kernel_rfl) | (rw [if_neg (by decide +kernel)]; exact ⟨rfl, rfl⟩))
    (fun os started H enc _ => shelfTrue_lifted os started H enc)

theorem shelfTrue_card : Rows.ShelfTrueCardSaid :=
  Claim7.holds_tied_plain_at .later [] [.data, .pinned] true Rows.shelfTrueCard.stood.harness false
    shelfTrue_row (fun _ h => by cases h) (by kernel_rfl) (fun _ h => by cases h) shelfTrue_row_tie rfl ⟨rfl, rfl⟩ (by kernel_rfl) rfl
    (fun f fn hf hfn => by
      obtain rfl : f = 5 := Option.some.inj ((show Tryz.prog.funcNamed Rows.shelfTrueRow.func = some 5 by kernel_rfl).symm.trans hf) |>.symm
      obtain rfl : fn = Tryz.f5 := (Option.some.inj (Tryz.func5.symm.trans hfn)).symm
      exact ⟨by kernel_rfl, fun j t ht => by
        rw [Tryz.params5] at ht
        have h3 : t = 9 ∨ t = 29 ∨ t = 55 := by
          rcases j with _ | _ | _ | j
          · left; simpa using ht.symm
          · right; left; simpa using ht.symm
          · right; right; simpa using ht.symm
          · simp at ht
        rcases h3 with rfl | rfl | rfl
        · exact (show Tryz.prog.wantsStandIn 9 = false by kernel_rfl)
        · exact (show Tryz.prog.wantsStandIn 29 = false by kernel_rfl)
        · exact (show Tryz.prog.wantsStandIn 55 = false by kernel_rfl)⟩)
    (by kernel_rfl)
#print axioms shelfTrue_card

end Go.Proofs.YtiacnmcdfpmcfaaGreatDoor
