/-
  A reel in memory: its struct, the map of its files, the row of its deeds, and the rows of bytes that these lead to.
-/
import Derived.Test.YtinfoblgojnjfaaFils
namespace Go.Proofs.Ytinfoblgojnjfaa
open Go.RowKit Go.Maps

theorem Try.info68 : (Try.prog.info? 68).map (fun i => (i.zero, i.size, i.bytes)) = some (some (.agg #[.int .i64 0, .int .i64 0, .bool false, .bool false, .slice none 0 0]), 5, 48) := by kernel_rfl

/-- A deed: bytes appended to a file, or a file dropped with what it had. -/
structure Dd where
  file : Int
  drop : Bool
  fresh : Bool
  data : List UInt8

def Dd.units (d : Dd) : Nat := if d.drop then 1 else d.data.length
/-- What its slice of lost bytes has. -/
def Dd.lost (d : Dd) : List UInt8 := if d.drop then d.data else []

def Dd.cells (d : Dd) (v : Value) : List Value := [.int .i64 d.file, .int .i64 (d.units : Int), .bool d.fresh, .bool d.drop, v]
def cellsD (ds : List (Dd × Value)) : List Value := ds.flatMap fun d => d.1.cells d.2

theorem cellsD_length (ds : List (Dd × Value)) : (cellsD ds).length = ds.length * 5 := by
  induction ds with
  | nil => rfl
  | cons f r ih =>
    simp only [cellsD, List.flatMap_cons, List.length_append, List.length_cons] at *
    rw [ih]
    simp [Dd.cells]
    omega

theorem cellsD_append (l t : List (Dd × Value)) : cellsD (l ++ t) = cellsD l ++ cellsD t := by simp [cellsD]

theorem cellsD_get (ds : List (Dd × Value)) (i : Nat) (hi : i < ds.length) (r : Nat) (hr : r < 5) : (cellsD ds)[i * 5 + r]? = (ds[i].1.cells ds[i].2)[r]? := by
  induction ds generalizing i with
  | nil => simp at hi
  | cons f t ih =>
    cases i with
    | zero =>
      simp only [cellsD, List.flatMap_cons, Nat.zero_mul, Nat.zero_add, List.getElem_cons_zero]
      rw [List.getElem?_append_left (by simp [Dd.cells]; omega)]
    | succ i =>
      have hi' : i < t.length := by simpa using hi
      simp only [cellsD, List.flatMap_cons, List.getElem_cons_succ]
      rw [List.getElem?_append_right (by simp [Dd.cells]; omega)]
      have := ih i hi'
      simp only [cellsD] at this
      rw [← this]
      congr 1
      simp [Dd.cells]
      omega

/-- A reel as it lies: ds: deeds that can be undone; dead: deeds behind them that are undone already. -/
structure Rw where
  p : Nat
  m : Nat
  room : Nat
  dn : Value
  fs : List Fl
  ds : List (Dd × Value)
  dead : List (Dd × Value)
  count : Nat
  armed : Bool
  left : Int
  gone : Bool

/-- The slices of bytes that it owns. -/
def Rw.rows (R : Rw) : List (Value × List UInt8) := R.fs.map (·.2) ++ R.ds.map fun d => (d.2, d.1.lost)
def blocks (l : List (Value × List UInt8)) : List Nat := l.filterMap fun x => x.1.ownBlock
def size (l : List (Value × List UInt8)) : Nat := (l.map fun x => x.2.length).sum
def Rw.bulk (R : Rw) : Nat := size R.rows + R.ds.length + R.dead.length + R.count

/-- Its blocks. -/
def Rw.foot (R : Rw) (i : Nat) : Prop := i = R.p ∨ i = R.m ∨ R.dn.ownBlock = some i ∨ i ∈ blocks R.rows

def Rw.cells (R : Rw) : Array Value := #[.int .i64 (R.room : Int), .int .i64 (total R.fs : Int), .map (some R.m), R.dn, .int .i64 (R.count : Int), .bool R.armed, .int .i64 R.left, .bool R.gone]

structure Mem (w : World) (B : Nat) (R : Rw) : Prop where
  hp : w.heap[R.p]? = some (.cells R.cells 55 (0, 0))
  hm : w.ownsMap Try.prog 3 raw R.m R.fs.length (dOf R.fs)
  hd : w.ownsRow B 68 5 R.dn (R.ds ++ R.dead).length (cellsD (R.ds ++ R.dead))
  hr : ∀ x ∈ R.rows, w.ownsRow B 5 1 x.1 x.2.length (cellsB x.2)
  nd : (blocks R.rows).Nodup
  bp : B ≤ R.p
  bm : B ≤ R.m
  srt : Srt R.fs
  keys : ∀ x ∈ R.fs, 0 ≤ x.1 ∧ x.1 ≤ 1048576
  files : ∀ d ∈ R.ds, 0 ≤ d.1.file ∧ d.1.file ≤ 1048576
  room : R.room ≤ 1048576
  arm : R.armed = true → 0 ≤ R.left
  wfl : (Lit.int .i64 R.left).wf = true

theorem mem_blocks {l : List (Value × List UInt8)} {i : Nat} : i ∈ blocks l ↔ ∃ x ∈ l, x.1.ownBlock = some i := by simp [blocks]

theorem Mem.few {w : World} {B : Nat} {R : Rw} (h : Mem w B R) : R.fs.length ≤ 1048577 := by
  have := few_of (N := 1048576) (a := 0) h.srt h.keys (by omega)
  omega

theorem Mem.lt {w : World} {B : Nat} {R : Rw} (h : Mem w B R) {i : Nat} (hi : R.foot i) : B ≤ i ∧ i < w.heap.size := by
  rcases hi with rfl | rfl | hi | hi
  · exact ⟨h.bp, (Array.getElem?_eq_some_iff.1 h.hp).1⟩
  · exact ⟨h.bm, h.hm.lt⟩
  · exact h.hd.lt i hi
  · obtain ⟨x, hx, he⟩ := mem_blocks.1 hi
    exact (h.hr x hx).lt i he

/-- A row's block is one of its element's type. -/
theorem row_block {w : World} {B : Nat} {e : TypeId} {n k : Nat} {v : Value} {xs : List Value} (h : w.ownsRow B e n v k xs) {i : Nat} (hi : v.ownBlock = some i) : ∃ C, w.heap[i]? = some (.cells C e (0, 0)) := by
  rcases h.2 with ⟨rfl, _⟩ | ⟨g, cap, cur, rfl, _, hg, _⟩
  · cases hi
  · simp only [Value.ownBlock, Option.some.injEq] at hi
    subst hi
    exact ⟨cur, hg⟩

theorem row_keep {w w' : World} {B : Nat} {e : TypeId} {n k : Nat} {v : Value} {xs : List Value} (h : w.ownsRow B e n v k xs) (hk : ∀ i, v.ownBlock = some i → w'.heap[i]? = w.heap[i]?) : w'.ownsRow B e n v k xs := by
  refine ⟨h.1, ?_⟩
  rcases h.2 with hn | ⟨g, cap, cur, rfl, hb, hg, rest⟩
  · exact .inl hn
  · exact .inr ⟨g, cap, cur, rfl, hb, (hk g rfl).trans hg, rest⟩

theorem map_keep {w w' : World} {b n : Nat} {D : DataW Value} (h : w.ownsMap Try.prog 3 raw b n D) (hk : w'.heap[b]? = w.heap[b]?) : w'.ownsMap Try.prog 3 raw b n D := by
  obtain ⟨es, clock, hb, r⟩ := h
  exact ⟨es, clock, hk.trans hb, r⟩

theorem map_tight {w : World} {b n : Nat} {D : DataW Value} (h : w.ownsMap Try.prog 3 raw b n D) : w.ownsMap Try.prog 3 raw b (Maps.size D) D := by
  obtain ⟨es, clock, hb, F, hs, rfl⟩ := h
  refine ⟨es, clock, hb, F, ?_, rfl⟩
  simp [Maps.size, length_sorted]

/-- Nothing of its own has turned. -/
theorem Mem.keep {w w' : World} {B : Nat} {R : Rw} (h : Mem w B R) (hk : ∀ i, R.foot i → w'.heap[i]? = w.heap[i]?) : Mem w' B R := by
  refine ⟨(hk _ (.inl rfl)).trans h.hp, map_keep h.hm (hk _ (.inr (.inl rfl))), row_keep h.hd (fun i hi => hk i (.inr (.inr (.inl hi)))), ?_, h.nd, h.bp, h.bm, h.srt, h.keys, h.files, h.room, h.arm, h.wfl⟩
  intro x hx
  exact row_keep (h.hr x hx) (fun i hi => hk i (.inr (.inr (.inr (mem_blocks.2 ⟨x, hx, hi⟩)))))

theorem Mem.adds {w w' : World} {B : Nat} {R : Rw} (h : Mem w B R) (ha : Adds w w') : Mem w' B R :=
  h.keep fun i hi => ha.below.block i (h.lt hi).2

/-- A call on the reel: of what was there it has turned the reel's own blocks alone. -/
structure Moves (w : World) (R : Rw) (w' : World) (R' : Rw) : Prop where
  os : w'.os = w.os
  tape : w'.tape = w.tape
  output : w'.output = w.output
  size : w.heap.size ≤ w'.heap.size
  block : ∀ i, i < w.heap.size → ¬ R.foot i → w'.heap[i]? = w.heap[i]? ∧ ¬ R'.foot i

theorem Moves.refl (w : World) (R : Rw) : Moves w R w R := ⟨rfl, rfl, rfl, Nat.le_refl _, fun _ _ h => ⟨rfl, h⟩⟩

theorem Moves.trans {w w' w'' : World} {R R' R'' : Rw} (h : Moves w R w' R') (k : Moves w' R' w'' R'') : Moves w R w'' R'' := by
  refine ⟨k.os.trans h.os, k.tape.trans h.tape, k.output.trans h.output, Nat.le_trans h.size k.size, fun i hi hn => ?_⟩
  obtain ⟨h1, h2⟩ := h.block i hi hn
  obtain ⟨k1, k2⟩ := k.block i (Nat.lt_of_lt_of_le hi h.size) h2
  exact ⟨k1.trans h1, k2⟩

theorem Moves.adds {w w' : World} (R : Rw) (h : Adds w w') : Moves w R w' R := by
  have hb := h.below
  exact ⟨hb.os, hb.tape, hb.output, hb.size, fun i hi hn => ⟨hb.block i hi, hn⟩⟩

theorem Moves.below {w w' : World} {B : Nat} {R R' : Rw} (h : Moves w R w' R') (hm : Mem w B R) (hB : B ≤ w.heap.size) : Below B w w' :=
  ⟨h.os, h.tape, h.output, h.size, fun i hi => (h.block i (Nat.lt_of_lt_of_le hi hB) (fun hf => by have := (hm.lt hf).1; omega)).1⟩

/-- The struct's cells, read and written. -/
theorem Mem.cell {w : World} {B : Nat} {R : Rw} (h : Mem w B R) (i : Nat) : w.cell? ⟨R.p, i, none⟩ = R.cells[i]? := cell_of_row w R.p i _ _ _ h.hp

theorem Mem.cells8 {w : World} {B : Nat} {R : Rw} (h : Mem w B R) :
    w.cell? ⟨R.p, 0, none⟩ = some (.int .i64 (R.room : Int)) ∧ w.cell? ⟨R.p, 1, none⟩ = some (.int .i64 (total R.fs : Int)) ∧ w.cell? ⟨R.p, 2, none⟩ = some (.map (some R.m)) ∧ w.cell? ⟨R.p, 3, none⟩ = some R.dn ∧
    w.cell? ⟨R.p, 4, none⟩ = some (.int .i64 (R.count : Int)) ∧ w.cell? ⟨R.p, 5, none⟩ = some (.bool R.armed) ∧ w.cell? ⟨R.p, 6, none⟩ = some (.int .i64 R.left) ∧ w.cell? ⟨R.p, 7, none⟩ = some (.bool R.gone) :=
  ⟨h.cell 0, h.cell 1, h.cell 2, h.cell 3, h.cell 4, h.cell 5, h.cell 6, h.cell 7⟩

theorem frozen_of {w : World} {b i : Nat} {C : Array Value} {T : TypeId} (h : w.heap[b]? = some (.cells C T (0, 0))) : w.frozen? ⟨b, i, none⟩ = false := by simp [World.frozen?, h]

theorem Mem.thaw {w : World} {B : Nat} {R : Rw} (h : Mem w B R) (i : Nat) : w.frozen? ⟨R.p, i, none⟩ = false := frozen_of h.hp

theorem heap_setCell_at {w : World} {b i : Nat} {C : Array Value} {T : TypeId} {fr : Nat × Nat} (v : Value) (h : w.heap[b]? = some (.cells C T fr)) (hi : i < C.size) : (w.setCell ⟨b, i, none⟩ v).heap[b]? = some (.cells (C.set i v) T fr) := by
  have hb := (Array.getElem?_eq_some_iff.1 h).1
  unfold World.setCell
  simp only [Array.getElem?_modify, if_true, h, Option.map_some]
  simp [Array.setIfInBounds, hi]

end Go.Proofs.Ytinfoblgojnjfaa
