/-
  A reel of layer 6 in memory, and its methods by contracts.
-/
import Derived.Test.YtelkkpomehgcjaaGreatByts
import Derived.Maps.RangeWalk
import Derived.Maps.AppendAt
import Derived.Deep.RegionLaw
import Derived.Deep.Cut
import Derived.Deep.CutRange
import Derived.BigRegion
import Derived.Deep.CutBlock
namespace Go.Proofs.YtelkkpomehgcjaaGreat
open Go.RowKit Go.Maps

/-- A file in memory: its number, its slice, its bytes. -/
abbrev Fl := Int × Value × List UInt8

def ins (x : Fl) : List Fl → List Fl
  | [] => [x]
  | y :: r => if x.1 < y.1 then x :: y :: r else y :: ins x r

def del (k : Int) (l : List Fl) : List Fl := l.filter fun p => !(p.1 == k)
def put (k : Int) (v : Value) (b : List UInt8) (l : List Fl) : List Fl := ins (k, v, b) (del k l)
def get (k : Int) (l : List Fl) : Option Fl := l.find? fun p => p.1 == k

/-- What an element of the map reads as: itself. -/
def raw : Value → Option (DataW Value × List MemPlace) := fun v => some (.held v, [])

def ent (p : Fl) : Lit × DataW Value := (.int .i64 p.1, .held p.2.1)
def dOf (l : List Fl) : DataW Value := .map (l.map ent)

theorem same_int (a b : Int) : (Lit.int .i64 a).sameKey (.int .i64 b) = (a == b) := by
  by_cases h : a = b <;> simp [Lit.sameKey, h]
theorem before_int (a b : Int) : (Lit.int .i64 a).before (.int .i64 b) = decide (a < b) := rfl

theorem map_del (k : Int) (l : List Fl) : (l.map ent).filter (fun p => !p.1.sameKey (.int .i64 k)) = (del k l).map ent := by
  unfold del
  rw [List.filter_map]
  congr 1
  apply List.filter_congr
  intro p _
  exact congrArg _ (same_int _ _)

theorem map_ins (x : Fl) : ∀ l : List Fl, DataW.insert (ent x) (l.map ent) = (ins x l).map ent
  | [] => rfl
  | y :: r => by
    unfold ins
    show DataW.insert (ent x) (ent y :: r.map ent) = _
    unfold DataW.insert
    have : (ent x).1.before (ent y).1 = decide (x.1 < y.1) := rfl
    rw [this]
    by_cases h : x.1 < y.1
    · simp [h]
    · simp [h, map_ins x r]

theorem dOf_del (k : Int) (l : List Fl) : (dOf l).del (.int .i64 k) = dOf (del k l) := by
  unfold dOf DataW.del
  simp only
  rw [map_del]

theorem dOf_put (k : Int) (v : Value) (b : List UInt8) (l : List Fl) : (dOf l).put (.int .i64 k) (.held v) = dOf (put k v b l) := by
  unfold dOf DataW.put put
  simp only
  rw [map_del, show ((Lit.int .i64 k, DataW.held v) : Lit × DataW Value) = ent (k, v, b) from rfl, map_ins]

theorem dOf_at (k : Int) (l : List Fl) (zd : DataW Value) : (dOf l).atKey (.int .i64 k) zd = match get k l with | some p => .held p.2.1 | none => zd := by
  unfold dOf DataW.atKey get
  simp only
  rw [List.find?_map]
  have : ((fun p : Lit × DataW Value => p.1.sameKey (.int .i64 k)) ∘ ent) = fun p : Fl => p.1 == k := by
    funext p
    exact same_int _ _
  rw [this]
  cases List.find? (fun p : Fl => p.1 == k) l <;> rfl

theorem dOf_has (k : Int) (l : List Fl) : Maps.has (dOf l) (.int .i64 k) = (get k l).isSome := by
  unfold dOf Maps.has get
  simp only [List.any_map]
  have : ((fun p : Lit × DataW Value => p.1.sameKey (.int .i64 k)) ∘ ent) = fun p : Fl => p.1 == k := by
    funext p
    exact same_int _ _
  rw [this]
  induction l with
  | nil => rfl
  | cons y r ih =>
    rw [List.any_cons, List.find?_cons]
    cases (y.1 == k)
    · simpa using ih
    · rfl

theorem dOf_size (l : List Fl) : Maps.size (dOf l) = l.length := by simp [dOf, Maps.size]

/-! ### lists of files, sorted -/
def Srt (l : List Fl) : Prop := l.Pairwise fun p q => p.1 < q.1

theorem mem_del_iff {k : Int} {l : List Fl} {p : Fl} : p ∈ del k l ↔ p ∈ l ∧ p.1 ≠ k := by simp [del]

theorem mem_ins {x p : Fl} : ∀ {l : List Fl}, p ∈ ins x l ↔ p = x ∨ p ∈ l
  | [] => by simp [ins]
  | y :: r => by
    unfold ins
    split
    · simp
    · simp [mem_ins (l := r)]
      constructor
      · rintro (h | h | h) <;> simp [h]
      · rintro (h | h | h) <;> simp [h]

theorem Srt.del {l : List Fl} (h : Srt l) (k : Int) : Srt (del k l) := h.filter _

theorem Srt.ins {x : Fl} : ∀ {l : List Fl}, Srt l → (∀ p ∈ l, p.1 ≠ x.1) → Srt (ins x l)
  | [], _, _ => by simp [Srt, YtelkkpomehgcjaaGreat.ins]
  | y :: r, h, hne => by
    obtain ⟨h1, h2⟩ := List.pairwise_cons.1 h
    unfold YtelkkpomehgcjaaGreat.ins
    split
    · rename_i hlt
      refine List.pairwise_cons.2 ⟨fun q hq => ?_, h⟩
      rcases List.mem_cons.1 hq with rfl | hq
      · exact hlt
      · exact Int.lt_trans hlt (h1 q hq)
    · rename_i hlt
      have hyx : y.1 < x.1 := by
        have := hne y (by simp)
        omega
      refine List.pairwise_cons.2 ⟨fun q hq => ?_, Srt.ins h2 (fun p hp => hne p (by simp [hp]))⟩
      rcases mem_ins.1 hq with rfl | hq
      · exact hyx
      · exact h1 q hq

theorem Srt.put {l : List Fl} (h : Srt l) (k : Int) (v : Value) (b : List UInt8) : Srt (put k v b l) :=
  Srt.ins (h.del k) (fun _ hp => (mem_del_iff.1 hp).2)

theorem mem_put_iff {k : Int} {v : Value} {b : List UInt8} {l : List Fl} {p : Fl} : p ∈ put k v b l ↔ p = (k, v, b) ∨ (p ∈ l ∧ p.1 ≠ k) := by
  unfold put
  rw [mem_ins, mem_del_iff]

theorem get_some {k : Int} {l : List Fl} {p : Fl} (h : get k l = some p) : p ∈ l ∧ p.1 = k :=
  ⟨List.mem_of_find?_eq_some h, by simpa using List.find?_some h⟩

theorem get_none {k : Int} {l : List Fl} (h : get k l = none) : ∀ p ∈ l, p.1 ≠ k := by
  intro p hp e
  have := List.find?_eq_none.1 h p hp
  simp [e] at this

theorem Srt.get_eq {l : List Fl} (h : Srt l) {p : Fl} (hp : p ∈ l) : get p.1 l = some p := by
  cases hg : get p.1 l with
  | none => exact absurd rfl (get_none hg p hp)
  | some q =>
    obtain ⟨hq, hk⟩ := get_some hg
    congr 1
    induction l with
    | nil => simp at hp
    | cons y r ih =>
      obtain ⟨h1, h2⟩ := List.pairwise_cons.1 h
      rcases List.mem_cons.1 hp with hpy | hp
      · rcases List.mem_cons.1 hq with hqy | hq
        · rw [hpy, hqy]
        · have := h1 q hq
          rw [hpy] at hk
          omega
      · rcases List.mem_cons.1 hq with hqy | hq
        · have := h1 p hp
          rw [hqy] at hk
          omega
        · refine ih h2 hp ?_ hq
          unfold get at hg ⊢
          rw [List.find?_cons] at hg
          have : (y.1 == p.1) = false := by
            have := h1 p hp
            simp
            omega
          rw [this] at hg
          exact hg

theorem get_iff {l : List Fl} (h : Srt l) {k : Int} {p : Fl} : get k l = some p ↔ p ∈ l ∧ p.1 = k :=
  ⟨get_some, fun ⟨h1, h2⟩ => by rw [← h2]; exact h.get_eq h1⟩

theorem get_put {l : List Fl} (h : Srt l) (k : Int) (v : Value) (b : List UInt8) (j : Int) : get j (put k v b l) = if j = k then some (k, v, b) else get j l := by
  split
  · rename_i e
    subst e
    exact (get_iff (h.put j v b)).2 ⟨mem_put_iff.2 (.inl rfl), rfl⟩
  · rename_i e
    apply Option.ext
    intro p
    rw [get_iff (h.put k v b), get_iff h, mem_put_iff]
    constructor
    · rintro ⟨rfl | ⟨h1, h2⟩, h3⟩
      · exact absurd h3.symm e
      · exact ⟨h1, h3⟩
    · rintro ⟨h1, h2⟩
      exact ⟨.inr ⟨h1, by rw [h2]; exact e⟩, h2⟩

theorem get_del {l : List Fl} (h : Srt l) (k j : Int) : get j (del k l) = if j = k then none else get j l := by
  split
  · rename_i e
    subst e
    apply Option.ext
    intro p
    rw [get_iff (h.del j), mem_del_iff]
    simp
  · rename_i e
    apply Option.ext
    intro p
    rw [get_iff (h.del k), get_iff h, mem_del_iff]
    constructor
    · rintro ⟨⟨h1, _⟩, h3⟩
      exact ⟨h1, h3⟩
    · rintro ⟨h1, h2⟩
      exact ⟨⟨h1, by rw [h2]; exact e⟩, h2⟩

/-- What lies beside file k. -/
theorem del_none {k : Int} {l : List Fl} (h : ∀ p ∈ l, p.1 ≠ k) : del k l = l := by
  unfold del
  rw [List.filter_eq_self]
  intro p hp
  simp [h p hp]

theorem perm_ins (x : Fl) : ∀ l : List Fl, (ins x l).Perm (x :: l)
  | [] => List.Perm.refl _
  | y :: r => by
    unfold ins
    split
    · exact List.Perm.refl _
    · exact ((perm_ins x r).cons y).trans (List.Perm.swap _ _ _)

theorem perm_get {l : List Fl} (h : Srt l) {k : Int} {p : Fl} (hg : get k l = some p) : l.Perm (p :: del k l) := by
  obtain ⟨hp, hk⟩ := get_some hg
  subst hk
  clear hg
  induction l with
  | nil => simp at hp
  | cons y r ih =>
    obtain ⟨h1, h2⟩ := List.pairwise_cons.1 h
    rcases List.mem_cons.1 hp with rfl | hp
    · have : del p.1 (p :: r) = r := by
        have e := del_none (k := p.1) (l := r) (fun q hq => by have := h1 q hq; omega)
        unfold del at e ⊢
        rw [List.filter_cons]
        simp [e]
      rw [this]
    · have : del p.1 (y :: r) = y :: del p.1 r := by
        have : (y.1 == p.1) = false := by
          have := h1 p hp
          simp
          omega
        unfold del
        rw [List.filter_cons]
        simp [this]
      rw [this]
      exact ((ih h2 hp).cons y).trans (List.Perm.swap _ _ _)

/-- How many bytes there are. -/
def total (l : List Fl) : Nat := (l.map fun p => p.2.2.length).sum

theorem total_perm {l l' : List Fl} (h : l.Perm l') : total l = total l' := (h.map _).sum_nat
theorem total_cons (p : Fl) (l : List Fl) : total (p :: l) = p.2.2.length + total l := by simp [total]

theorem total_put {l : List Fl} (k : Int) (v : Value) (b : List UInt8) : total (put k v b l) = b.length + total (del k l) := by
  unfold put
  rw [total_perm (perm_ins _ _), total_cons]

theorem total_get {l : List Fl} (h : Srt l) {k : Int} {p : Fl} (hg : get k l = some p) : total l = p.2.2.length + total (del k l) := by
  rw [total_perm (perm_get h hg), total_cons]

theorem total_none {l : List Fl} {k : Int} (hg : get k l = none) : total (del k l) = total l := by rw [del_none (get_none hg)]

theorem few_of {N : Int} : ∀ {l : List Fl} {a : Int}, Srt l → (∀ p ∈ l, a ≤ p.1 ∧ p.1 ≤ N) → a ≤ N + 1 → (l.length : Int) ≤ N + 1 - a
  | [], _, _, _, h => by simp; omega
  | y :: r, a, h, hk, ha => by
    obtain ⟨h1, h2⟩ := List.pairwise_cons.1 h
    have hy := hk y (by simp)
    have := few_of (N := N) (l := r) (a := y.1 + 1) h2 (fun p hp => ⟨by have := h1 p hp; omega, (hk p (by simp [hp])).2⟩) (by omega)
    simp only [List.length_cons]
    omega

end Go.Proofs.YtelkkpomehgcjaaGreat

namespace Go.Proofs.YtelkkpomehgcjaaGreat
open Go.RowKit Go.Maps

theorem Tryz.info101 : (Tryz.prog.info? 101).map (fun i => (i.zero, i.size, i.bytes)) = some (some (.agg #[.int .i64 0, .int .i64 0, .bool false, .bool false, .slice none 0 0]), 5, 48) := by kernel_rfl

/-- A deed: bytes appended to a file, or a file dropped with what it had. -/
structure Dd where
  file : Int
  drop : Bool
  fresh : Bool
  data : List UInt8

def Dd.units (d : Dd) : Nat := if d.drop then 1 else d.data.length
/-- What its slice of lost bytes has. -/
def Dd.lost (d : Dd) : List UInt8 := if d.drop then d.data else []

def Dd.cells (d : Dd) (v : Value) : List Value := [.int .i64 d.file, .int .i64 (d.units : Int), .bool d.fresh, .bool d.drop, v]
def cellsD (ds : List (Dd × Value)) : List Value := ds.flatMap fun d => d.1.cells d.2

theorem cellsD_length (ds : List (Dd × Value)) : (cellsD ds).length = ds.length * 5 := by
  induction ds with
  | nil => rfl
  | cons f r ih =>
    simp only [cellsD, List.flatMap_cons, List.length_append, List.length_cons] at *
    rw [ih]
    simp [Dd.cells]
    omega

theorem cellsD_append (l t : List (Dd × Value)) : cellsD (l ++ t) = cellsD l ++ cellsD t := by simp [cellsD]

theorem cellsD_get (ds : List (Dd × Value)) (i : Nat) (hi : i < ds.length) (r : Nat) (hr : r < 5) : (cellsD ds)[i * 5 + r]? = (ds[i].1.cells ds[i].2)[r]? := by
  induction ds generalizing i with
  | nil => simp at hi
  | cons f t ih =>
    cases i with
    | zero =>
      simp only [cellsD, List.flatMap_cons, Nat.zero_mul, Nat.zero_add, List.getElem_cons_zero]
      rw [List.getElem?_append_left (by simp [Dd.cells]; omega)]
    | succ i =>
      have hi' : i < t.length := by simpa using hi
      simp only [cellsD, List.flatMap_cons, List.getElem_cons_succ]
      rw [List.getElem?_append_right (by simp [Dd.cells]; omega)]
      have := ih i hi'
      simp only [cellsD] at this
      rw [← this]
      congr 1
      simp [Dd.cells]
      omega

/-- A reel as it lies: ds: deeds that can be undone; dead: deeds behind them that are undone already. -/
structure Rw where
  p : Nat
  m : Nat
  room : Nat
  dn : Value
  fs : List Fl
  ds : List (Dd × Value)
  dead : List (Dd × Value)
  count : Nat
  armed : Bool
  left : Int
  gone : Bool

/-- The slices of bytes that it owns. -/
def Rw.rows (R : Rw) : List (Value × List UInt8) := R.fs.map (·.2) ++ R.ds.map fun d => (d.2, d.1.lost)
def blocks (l : List (Value × List UInt8)) : List Nat := l.filterMap fun x => x.1.ownBlock
def size (l : List (Value × List UInt8)) : Nat := (l.map fun x => x.2.length).sum
def Rw.bulk (R : Rw) : Nat := size R.rows + R.ds.length + R.dead.length + R.count

/-- Its blocks. -/
def Rw.foot (R : Rw) (i : Nat) : Prop := i = R.p ∨ i = R.m ∨ R.dn.ownBlock = some i ∨ i ∈ blocks R.rows

def Rw.cells (R : Rw) : Array Value := #[.int .i64 (R.room : Int), .int .i64 (total R.fs : Int), .map (some R.m), R.dn, .int .i64 (R.count : Int), .bool R.armed, .int .i64 R.left, .bool R.gone]

structure Mem (w : World) (B : Nat) (R : Rw) : Prop where
  hp : w.heap[R.p]? = some (.cells R.cells 67 (0, 0))
  hm : w.ownsMap Tryz.prog 3 raw R.m R.fs.length (dOf R.fs)
  hd : w.ownsRow B 101 5 R.dn (R.ds ++ R.dead).length (cellsD (R.ds ++ R.dead))
  hr : ∀ x ∈ R.rows, w.ownsRow B 5 1 x.1 x.2.length (cellsB x.2)
  nd : (blocks R.rows).Nodup
  bp : B ≤ R.p
  bm : B ≤ R.m
  srt : Srt R.fs
  keys : ∀ x ∈ R.fs, 0 ≤ x.1 ∧ x.1 ≤ 1048576
  files : ∀ d ∈ R.ds, 0 ≤ d.1.file ∧ d.1.file ≤ 1048576
  room : R.room ≤ 1048576
  arm : R.armed = true → 0 ≤ R.left
  wfl : (Lit.int .i64 R.left).wf = true

theorem mem_blocks {l : List (Value × List UInt8)} {i : Nat} : i ∈ blocks l ↔ ∃ x ∈ l, x.1.ownBlock = some i := by simp [blocks]

theorem Mem.few {w : World} {B : Nat} {R : Rw} (h : Mem w B R) : R.fs.length ≤ 1048577 := by
  have := few_of (N := 1048576) (a := 0) h.srt h.keys (by omega)
  omega

theorem Mem.lt {w : World} {B : Nat} {R : Rw} (h : Mem w B R) {i : Nat} (hi : R.foot i) : B ≤ i ∧ i < w.heap.size := by
  rcases hi with rfl | rfl | hi | hi
  · exact ⟨h.bp, (Array.getElem?_eq_some_iff.1 h.hp).1⟩
  · exact ⟨h.bm, h.hm.lt⟩
  · exact h.hd.lt i hi
  · obtain ⟨x, hx, he⟩ := mem_blocks.1 hi
    exact (h.hr x hx).lt i he

/-- A row's block is one of its element's type. -/
theorem row_block {w : World} {B : Nat} {e : TypeId} {n k : Nat} {v : Value} {xs : List Value} (h : w.ownsRow B e n v k xs) {i : Nat} (hi : v.ownBlock = some i) : ∃ C, w.heap[i]? = some (.cells C e (0, 0)) := by
  rcases h.2 with ⟨rfl, _⟩ | ⟨g, cap, cur, rfl, _, hg, _⟩
  · cases hi
  · simp only [Value.ownBlock, Option.some.injEq] at hi
    subst hi
    exact ⟨cur, hg⟩

theorem row_keep {w w' : World} {B : Nat} {e : TypeId} {n k : Nat} {v : Value} {xs : List Value} (h : w.ownsRow B e n v k xs) (hk : ∀ i, v.ownBlock = some i → w'.heap[i]? = w.heap[i]?) : w'.ownsRow B e n v k xs := by
  refine ⟨h.1, ?_⟩
  rcases h.2 with hn | ⟨g, cap, cur, rfl, hb, hg, rest⟩
  · exact .inl hn
  · exact .inr ⟨g, cap, cur, rfl, hb, (hk g rfl).trans hg, rest⟩

theorem map_keep {w w' : World} {b n : Nat} {D : DataW Value} (h : w.ownsMap Tryz.prog 3 raw b n D) (hk : w'.heap[b]? = w.heap[b]?) : w'.ownsMap Tryz.prog 3 raw b n D := by
  obtain ⟨es, clock, hb, r⟩ := h
  exact ⟨es, clock, hk.trans hb, r⟩

theorem map_tight {w : World} {b n : Nat} {D : DataW Value} (h : w.ownsMap Tryz.prog 3 raw b n D) : w.ownsMap Tryz.prog 3 raw b (Maps.size D) D := by
  obtain ⟨es, clock, hb, F, hs, rfl⟩ := h
  refine ⟨es, clock, hb, F, ?_, rfl⟩
  simp [Maps.size, length_sorted]

/-- Nothing of its own has turned. -/
theorem Mem.keep {w w' : World} {B : Nat} {R : Rw} (h : Mem w B R) (hk : ∀ i, R.foot i → w'.heap[i]? = w.heap[i]?) : Mem w' B R := by
  refine ⟨(hk _ (.inl rfl)).trans h.hp, map_keep h.hm (hk _ (.inr (.inl rfl))), row_keep h.hd (fun i hi => hk i (.inr (.inr (.inl hi)))), ?_, h.nd, h.bp, h.bm, h.srt, h.keys, h.files, h.room, h.arm, h.wfl⟩
  intro x hx
  exact row_keep (h.hr x hx) (fun i hi => hk i (.inr (.inr (.inr (mem_blocks.2 ⟨x, hx, hi⟩)))))

theorem Mem.adds {w w' : World} {B : Nat} {R : Rw} (h : Mem w B R) (ha : Adds w w') : Mem w' B R :=
  h.keep fun i hi => ha.below.block i (h.lt hi).2

/-- A call on the reel: of what was there it has turned the reel's own blocks alone. -/
structure Moves (w : World) (R : Rw) (w' : World) (R' : Rw) : Prop where
  os : w'.os = w.os
  tape : w'.tape = w.tape
  output : w'.output = w.output
  size : w.heap.size ≤ w'.heap.size
  block : ∀ i, i < w.heap.size → ¬ R.foot i → w'.heap[i]? = w.heap[i]? ∧ ¬ R'.foot i

theorem Moves.refl (w : World) (R : Rw) : Moves w R w R := ⟨rfl, rfl, rfl, Nat.le_refl _, fun _ _ h => ⟨rfl, h⟩⟩

theorem Moves.trans {w w' w'' : World} {R R' R'' : Rw} (h : Moves w R w' R') (k : Moves w' R' w'' R'') : Moves w R w'' R'' := by
  refine ⟨k.os.trans h.os, k.tape.trans h.tape, k.output.trans h.output, Nat.le_trans h.size k.size, fun i hi hn => ?_⟩
  obtain ⟨h1, h2⟩ := h.block i hi hn
  obtain ⟨k1, k2⟩ := k.block i (Nat.lt_of_lt_of_le hi h.size) h2
  exact ⟨k1.trans h1, k2⟩

theorem Moves.adds {w w' : World} (R : Rw) (h : Adds w w') : Moves w R w' R := by
  have hb := h.below
  exact ⟨hb.os, hb.tape, hb.output, hb.size, fun i hi hn => ⟨hb.block i hi, hn⟩⟩

theorem Moves.below {w w' : World} {B : Nat} {R R' : Rw} (h : Moves w R w' R') (hm : Mem w B R) (hB : B ≤ w.heap.size) : Below B w w' :=
  ⟨h.os, h.tape, h.output, h.size, fun i hi => (h.block i (Nat.lt_of_lt_of_le hi hB) (fun hf => by have := (hm.lt hf).1; omega)).1⟩

/-- The struct's cells, read and written. -/
theorem Mem.cell {w : World} {B : Nat} {R : Rw} (h : Mem w B R) (i : Nat) : w.cell? ⟨R.p, i, none⟩ = R.cells[i]? := cell_of_row w R.p i _ _ _ h.hp

theorem Mem.cells8 {w : World} {B : Nat} {R : Rw} (h : Mem w B R) :
    w.cell? ⟨R.p, 0, none⟩ = some (.int .i64 (R.room : Int)) ∧ w.cell? ⟨R.p, 1, none⟩ = some (.int .i64 (total R.fs : Int)) ∧ w.cell? ⟨R.p, 2, none⟩ = some (.map (some R.m)) ∧ w.cell? ⟨R.p, 3, none⟩ = some R.dn ∧
    w.cell? ⟨R.p, 4, none⟩ = some (.int .i64 (R.count : Int)) ∧ w.cell? ⟨R.p, 5, none⟩ = some (.bool R.armed) ∧ w.cell? ⟨R.p, 6, none⟩ = some (.int .i64 R.left) ∧ w.cell? ⟨R.p, 7, none⟩ = some (.bool R.gone) :=
  ⟨h.cell 0, h.cell 1, h.cell 2, h.cell 3, h.cell 4, h.cell 5, h.cell 6, h.cell 7⟩

theorem frozen_of {w : World} {b i : Nat} {C : Array Value} {T : TypeId} (h : w.heap[b]? = some (.cells C T (0, 0))) : w.frozen? ⟨b, i, none⟩ = false := by simp [World.frozen?, h]

theorem Mem.thaw {w : World} {B : Nat} {R : Rw} (h : Mem w B R) (i : Nat) : w.frozen? ⟨R.p, i, none⟩ = false := frozen_of h.hp

theorem heap_setCell_at {w : World} {b i : Nat} {C : Array Value} {T : TypeId} {fr : Nat × Nat} (v : Value) (h : w.heap[b]? = some (.cells C T fr)) (hi : i < C.size) : (w.setCell ⟨b, i, none⟩ v).heap[b]? = some (.cells (C.set i v) T fr) := by
  have hb := (Array.getElem?_eq_some_iff.1 h).1
  unfold World.setCell
  simp only [Array.getElem?_modify, if_true, h, Option.map_some]
  simp [Array.setIfInBounds, hi]

end Go.Proofs.YtelkkpomehgcjaaGreat

namespace Go.Proofs.YtelkkpomehgcjaaGreat
open Go.RowKit Go.Maps

abbrev ptr (p : Nat) : Value := .pointer (some ⟨p, 0, none⟩)

theorem neq_map (m : Nat) (w : World) : (binOp .neq 64 (.map (some m)) (.map none)).run Tryz.prog w = .ok (.bool true) w := by kernel_rfl
theorem neq_map_none (w : World) : (binOp .neq 64 (.map none) (.map none)).run Tryz.prog w = .ok (.bool false) w := by kernel_rfl

theorem given_at {w : World} {p m : Nat} (c2 : w.cell? ⟨p, 2, none⟩ = some (.map (some m))) : Calls Tryz.prog 34 #[ptr p] w fun e w' => e = .returned (.bool true) ∧ w' = w := by
  have hb := neq_map m w
  go_enter Tryz.func34, Tryz.ntmps34
  go_wp2
  go_ret
  exact ⟨rfl, rfl⟩

theorem given_any {w : World} {B : Nat} {R : Rw} (h : Mem w B R) : Calls Tryz.prog 34 #[ptr R.p] w fun e w' => e = .returned (.bool true) ∧ w' = w := given_at (h.cell 2)

theorem grown_set (w : World) (p i : Nat) (v : Value) : w.grownBy (w.setCell ⟨p, i, none⟩ v) (some p) := by
  refine ⟨rfl, rfl, rfl, by simp [World.setCell], fun k _ hk => ?_⟩
  have : p ≠ k := fun e => hk (by rw [e])
  unfold World.setCell
  simp only [Array.getElem?_modify, this, if_false]

theorem grown_drew {w w' : World} {r : Option Nat} (h : w.grownBy w' r) : w.grownBy w'.drew r := ⟨h.os, h.tape, h.output, h.size, h.block⟩
theorem grown_drewN {w w' : World} {r : Option Nat} (h : w.grownBy w' r) (n : Nat) : w.grownBy (w'.drewN n) r := ⟨h.os, h.tape, h.output, h.size, h.block⟩
theorem grown_refl (w : World) (r : Option Nat) : w.grownBy w r := ⟨rfl, rfl, rfl, Nat.le_refl _, fun _ _ _ => rfl⟩

/-- The deeds are let go, and the struct's other cells set. -/
theorem Mem.reset {w w' : World} {B : Nat} {R : Rw} (h : Mem w B R) (a : Bool) (l : Int) (g : Bool) (ha : a = true → 0 ≤ l) (hl : (Lit.int .i64 l).wf = true)
    (hg : w.grownBy w' (some R.p)) (hp : w'.heap[R.p]? = some (.cells #[.int .i64 (R.room : Int), .int .i64 (total R.fs : Int), .map (some R.m), .slice none 0 0, .int .i64 0, .bool a, .int .i64 l, .bool g] 67 (0, 0))) :
    Mem w' B { R with dn := .slice none 0 0, ds := [], dead := [], count := 0, armed := a, left := l, gone := g } ∧ Moves w R w' { R with dn := .slice none 0 0, ds := [], dead := [], count := 0, armed := a, left := l, gone := g } := by
  have hne : ∀ i, i ≠ R.p → i < w.heap.size → w'.heap[i]? = w.heap[i]? := fun i hi hlt => hg.block i hlt (fun e => hi (by simpa using e))
  have hmp : R.m ≠ R.p := by
    intro e
    obtain ⟨es, clock, hb, _⟩ := h.hm
    rw [e, h.hp] at hb
    cases hb
  have hrp : ∀ x ∈ R.rows, ∀ i, x.1.ownBlock = some i → i ≠ R.p := by
    intro x hx i hi e
    obtain ⟨C, hC⟩ := row_block (h.hr x hx) hi
    rw [e, h.hp] at hC
    simp at hC
  have hsub : ∀ x, x ∈ ({ R with dn := .slice none 0 0, ds := [], dead := [], count := 0, armed := a, left := l, gone := g } : Rw).rows → x ∈ R.rows := by
    intro x hx
    simp only [Rw.rows, List.map_nil, List.append_nil] at hx
    exact List.mem_append.2 (.inl hx)
  refine ⟨⟨hp, map_keep h.hm (hne _ hmp h.hm.lt), World.ownsRow_nil _ _ _ _, ?_, ?_, h.bp, h.bm, h.srt, h.keys, by simp, h.room, ha, hl⟩, ⟨hg.os, hg.tape, hg.output, hg.size, ?_⟩⟩
  · intro x hx
    have hx' := hsub x hx
    exact row_keep (h.hr x hx') (fun i hi => hne i (hrp x hx' i hi) ((h.hr x hx').lt i hi).2)
  · have := h.nd
    simp only [Rw.rows, blocks, List.filterMap_append] at this
    simp only [Rw.rows, List.map_nil, List.append_nil, blocks]
    exact (List.nodup_append.1 this).1
  · intro i hi hn
    refine ⟨hne i (fun e => hn (.inl e)) hi, ?_⟩
    rintro (rfl | rfl | hf | hf)
    · exact hn (.inl rfl)
    · exact hn (.inr (.inl rfl))
    · cases hf
    · obtain ⟨x, hx, he⟩ := mem_blocks.1 hf
      exact hn (.inr (.inr (.inr (mem_blocks.2 ⟨x, hsub x hx, he⟩))))

/-- Cells that hang on nothing else. -/
theorem Mem.turn {w w' : World} {B : Nat} {R : Rw} (h : Mem w B R) (c : Nat) (a : Bool) (l : Int) (g : Bool) (ha : a = true → 0 ≤ l) (hl : (Lit.int .i64 l).wf = true)
    (hg : w.grownBy w' (some R.p)) (hp : w'.heap[R.p]? = some (.cells #[.int .i64 (R.room : Int), .int .i64 (total R.fs : Int), .map (some R.m), R.dn, .int .i64 (c : Int), .bool a, .int .i64 l, .bool g] 67 (0, 0))) :
    Mem w' B { R with count := c, armed := a, left := l, gone := g } ∧ Moves w R w' { R with count := c, armed := a, left := l, gone := g } := by
  have hne : ∀ i, i ≠ R.p → i < w.heap.size → w'.heap[i]? = w.heap[i]? := fun i hi hlt => hg.block i hlt (fun e => hi (by simpa using e))
  have hmp : R.m ≠ R.p := by
    intro e
    obtain ⟨es, clock, hb, _⟩ := h.hm
    rw [e, h.hp] at hb
    cases hb
  refine ⟨⟨hp, map_keep h.hm (hne _ hmp h.hm.lt), row_keep h.hd ?_, ?_, h.nd, h.bp, h.bm, h.srt, h.keys, h.files, h.room, ha, hl⟩, ⟨hg.os, hg.tape, hg.output, hg.size, ?_⟩⟩
  · intro i hi
    refine hne i (fun e => ?_) (h.hd.lt i hi).2
    obtain ⟨C, hC⟩ := row_block h.hd hi
    rw [e, h.hp] at hC
    simp at hC
  · intro x hx
    refine row_keep (h.hr x hx) (fun i hi => hne i (fun e => ?_) ((h.hr x hx).lt i hi).2)
    obtain ⟨C, hC⟩ := row_block (h.hr x hx) hi
    rw [e, h.hp] at hC
    simp at hC
  · intro i hi hn
    exact ⟨hne i (fun e => hn (.inl e)) hi, hn⟩

def Rw.settled (R : Rw) : Rw := { R with dn := .slice none 0 0, ds := [], dead := [], count := 0 }

theorem settle_any {w : World} {B : Nat} {R : Rw} (h : Mem w B R) : Calls Tryz.prog 36 #[ptr R.p] w fun e w' => e = .returned (.tuple #[]) ∧ Mem w' B R.settled ∧ Moves w R w' R.settled := by
  obtain ⟨c0, c1, c2, c3, c4, c5, c6, c7⟩ := h.cells8
  have hf := h.thaw
  have h3 := heap_setCell_at (i := 3) (.slice none 0 0) h.hp (by simp [Rw.cells])
  have h4 := heap_setCell_at (i := 4) (.int .i64 0) h3 (by simp [Rw.cells])
  have hm := h.reset R.armed R.left R.gone h.arm h.wfl ((grown_set w R.p 3 (.slice none 0 0)).trans (grown_set _ R.p 4 (.int .i64 0))) (by rw [h4]; rfl)
  go_enter Tryz.func36, Tryz.ntmps36
  go_wp2
  go_end0
  exact ⟨rfl, hm⟩

theorem Rw.total_le (R : Rw) : total R.fs ≤ R.bulk := by
  unfold Rw.bulk Rw.rows size total
  simp only [List.map_append, List.sum_append, List.map_map, Function.comp_def]
  omega

theorem left_any {w : World} {B : Nat} {R : Rw} (h : Mem w B R) (hb : R.bulk ≤ 1099511627776) : Calls Tryz.prog 52 #[ptr R.p] w fun e w' => e = .returned (.int .i64 ((R.room : Int) - (total R.fs : Int))) ∧ Adds w w' := by
  obtain ⟨c0, c1, c2, c3, c4, c5, c6, c7⟩ := h.cells8
  have hr := h.room
  have ht := R.total_le
  go_enter Tryz.func52, Tryz.ntmps52
  go_wp2_with (go_at_call 34; refine (given_any h).mono ?_; rintro e w1 ⟨rfl, rfl⟩)
  go_quiet (fail)
  go_wp2
  go_ret
  exact ⟨rfl, (Adds.refl _).drewN _⟩

theorem sync_any {w : World} {B : Nat} {R : Rw} (h : Mem w B R) : Calls Tryz.prog 23 #[ptr R.p] w fun e w' => e = .returned (.tuple #[]) ∧ Mem w' B (if R.gone then R else R.settled) ∧ Moves w R w' (if R.gone then R else R.settled) := by
  obtain ⟨c0, c1, c2, c3, c4, c5, c6, c7⟩ := h.cells8
  cases hgn : R.gone
  · rw [hgn] at c7
    go_enter Tryz.func23, Tryz.ntmps23
    go_wp2_with (first
      | (go_at_call 34; refine (given_any h).mono ?_; rintro e w1 ⟨rfl, rfl⟩)
      | (go_at_call 36; refine (settle_any h).mono ?_; rintro e w2 ⟨rfl, hm⟩))
    go_end0
    exact ⟨rfl, hm⟩
  · rw [hgn] at c7
    have H : Hid (Mem w B R) := h
    go_enter Tryz.func23, Tryz.ntmps23
    go_wp2_with (first
      | (go_at_call 34; refine (given_any h).mono ?_; rintro e w1 ⟨rfl, rfl⟩))
    go_end0
    exact ⟨rfl, H.out, Moves.refl _ _⟩

def Rw.arming (R : Rw) (n : Int) : Rw := if R.gone then R else { R with armed := decide (0 ≤ n), left := n }

theorem arm_any {w : World} {B : Nat} {R : Rw} (h : Mem w B R) (n : Int) (hn : (Lit.int .i64 n).wf = true) : Calls Tryz.prog 12 #[ptr R.p, .int .i64 n] w fun e w' => e = .returned (.tuple #[]) ∧ Mem w' B (R.arming n) ∧ Moves w R w' (R.arming n) := by
  obtain ⟨c0, c1, c2, c3, c4, c5, c6, c7⟩ := h.cells8
  have hf := h.thaw
  unfold Rw.arming
  cases hgn : R.gone
  · have h5 := heap_setCell_at (i := 5) (.bool (decide (0 ≤ n))) h.hp (by simp [Rw.cells])
    have h6 := heap_setCell_at (i := 6) (.int .i64 n) h5 (by simp [Rw.cells])
    have hm := h.turn R.count (decide (0 ≤ n)) n R.gone (by simp) hn ((grown_set w R.p 5 (.bool (decide (0 ≤ n)))).trans (grown_set _ R.p 6 (.int .i64 n))) (by rw [h6]; rfl)
    rw [hgn] at c7 hm
    go_enter Tryz.func12, Tryz.ntmps12
    go_wp2_with (first
      | (go_at_call 34; refine (given_any h).mono ?_; rintro e w1 ⟨rfl, rfl⟩))
    go_end0
    exact ⟨rfl, hm⟩
  · rw [hgn] at c7
    have H : Hid (Mem w B R) := h
    go_enter Tryz.func12, Tryz.ntmps12
    go_wp2_with (first
      | (go_at_call 34; refine (given_any h).mono ?_; rintro e w1 ⟨rfl, rfl⟩))
    go_end0
    exact ⟨rfl, H.out, Moves.refl _ _⟩

end Go.Proofs.YtelkkpomehgcjaaGreat

namespace Go.Proofs.YtelkkpomehgcjaaGreat
open Go.RowKit Go.Maps

theorem cellsD_cells (d : Dd) (v : Value) : cellsD [(d, v)] = d.cells v := by simp [cellsD]

/-- append of one deed. -/
theorem deed_append (w : World) (B : Nat) (ty : TypeId) (dn : Value) (ds : List (Dd × Value)) (h : w.ownsRow B 101 5 dn ds.length (cellsD ds)) (hB : B ≤ w.heap.size) (d : Dd) (v : Value) (hv : v.oneCell' = true) (g c : Nat)
    (hg : ∀ j u, (d.cells v)[j]? = some u → w.cell? ((⟨g, 0, none⟩ : Addr).add j) = some u) (hlen : ds.length ≤ 1099511627776) :
    ∃ dn' w', (Builtin.append_ #[65, 65] ty #[dn, .slice (some ⟨g, 0, none⟩) 1 c]).run Tryz.prog w = .ok dn' w' ∧ w'.ownsRow B 101 5 dn' (ds ++ [(d, v)]).length (cellsD (ds ++ [(d, v)])) ∧ w.grownBy w' dn.ownBlock ∧ (dn'.ownBlock = dn.ownBlock ∨ dn'.ownBlock = some w.heap.size) := by
  obtain ⟨i0, hi, hz0, hz1, hz2⟩ := info_parts Tryz.info101
  obtain ⟨v', w', h1, h2, h3, _, h5⟩ := run_append_own_at (P := Tryz.prog) w B 65 ty 101 i0 _ 5 48 Tryz.underlying65 hi hz0 hz1 hz2 rfl (by decide) dn ds.length (cellsD ds) h ⟨g, 0, none⟩ 1 c (d.cells v) (by simp [Dd.cells]) hg
    (by intro u hu; simp only [Dd.cells, List.mem_cons, List.mem_nil_iff, or_false] at hu; rcases hu with rfl | rfl | rfl | rfl | rfl <;> first | rfl | exact hv) (by unfold maxLen; omega) (by omega) hB
  refine ⟨v', w', h1, ?_, h3, h5⟩
  rw [cellsD_append, cellsD_cells, List.length_append]
  exact h2

theorem deed_step {ops : Array Oper} {o : Oper} {a : Act} {w : World} {K : Act → World → Prop} {Q : Exit → Act → World → Prop} {E : Prop} (hgd : o.guard = none) (s x : Operand) (ho : o.op = .call { callee := .builtin .append, args := #[s, x], argTypes := #[65, 65] })
    {B : Nat} {dn : Value} {ds : List (Dd × Value)} (h : w.ownsRow B 101 5 dn ds.length (cellsD ds)) (hB : B ≤ w.heap.size) (hs : a.eval s = dn) (d : Dd) (v : Value) (hv : v.oneCell' = true) (g c : Nat) (hx : a.eval x = .slice (some ⟨g, 0, none⟩) 1 c)
    (hg : ∀ j u, (d.cells v)[j]? = some u → w.cell? ((⟨g, 0, none⟩ : Addr).add j) = some u) (hlen : ds.length ≤ 1099511627776)
    (hk : ∀ dn' w', w'.ownsRow B 101 5 dn' (ds ++ [(d, v)]).length (cellsD (ds ++ [(d, v)])) → w.grownBy w' dn.ownBlock → (dn'.ownBlock = dn.ownBlock ∨ dn'.ownBlock = some w.heap.size) → K (a.put o.dst dn') w') :
    if Region.wanted o (yielded ops a.tmps) = true then Oper.wp Tryz.prog o a w K Q else E := by
  have hw : Region.wanted o (yielded ops a.tmps) = true := by simp [Region.wanted, hgd]
  rw [if_pos hw]
  obtain ⟨v', w', hr, h2, h3, h5⟩ := deed_append w B o.type dn ds h hB d v hv g c hg hlen
  exact Lib.wp_append_run w s x 65 65 ho dn _ hs hx v' w' hr (hk v' w' h2 h3 h5)

/-- The reel with a deed more, nothing counted yet. -/
def Rw.more (R : Rw) (d : Dd) (v dn : Value) : Rw := { R with dn := dn, ds := R.ds ++ [(d, v)] }

theorem rows_more (R : Rw) (d : Dd) (v dn : Value) : (R.more d v dn).rows = R.rows ++ [(v, d.lost)] := by simp [Rw.rows, Rw.more]

/-- What note leaves of the blocks that were there. -/
structure Near (w : World) (R : Rw) (v : Value) (w' : World) (R' : Rw) : Prop where
  os : w'.os = w.os
  tape : w'.tape = w.tape
  output : w'.output = w.output
  size : w.heap.size ≤ w'.heap.size
  block : ∀ i, i < w.heap.size → ¬ R.foot i → w'.heap[i]? = w.heap[i]? ∧ (v.ownBlock ≠ some i → ¬ R'.foot i)

/-- The deed is in the row, and the row in the struct. -/
theorem mem_more {w W w1 : World} {B : Nat} {R : Rw} (h : Mem w B R) (hdead : R.dead = []) (ha : Adds w W) (d : Dd) (v dn' : Value) (hf : 0 ≤ d.file ∧ d.file ≤ 1048576)
    (hv : w.ownsRow B 5 1 v d.lost.length (cellsB d.lost)) (hvn : ∀ i, v.ownBlock = some i → i ∉ blocks R.rows)
    (h1 : w1.ownsRow B 101 5 dn' (R.ds ++ [(d, v)]).length (cellsD (R.ds ++ [(d, v)]))) (hg : W.grownBy w1 R.dn.ownBlock) (hl : dn'.ownBlock = R.dn.ownBlock ∨ dn'.ownBlock = some W.heap.size) :
    Mem (w1.setCell ⟨R.p, 3, none⟩ dn') B (R.more d v dn') ∧ Near w R v (w1.setCell ⟨R.p, 3, none⟩ dn') (R.more d v dn') := by
  have hW := h.adds ha
  have hsz := ha.below.size
  have hdd : ∀ i, R.dn.ownBlock = some i → ∃ C, W.heap[i]? = some (.cells C 101 (0, 0)) := fun i hi => row_block hW.hd hi
  have hbl : ∀ i, i < W.heap.size → i ≠ R.p → R.dn.ownBlock ≠ some i → (w1.setCell ⟨R.p, 3, none⟩ dn').heap[i]? = W.heap[i]? := by
    intro i hi hp hd
    rw [(grown_set w1 R.p 3 dn').block i (Nat.lt_of_lt_of_le hi hg.size) (fun e => hp (by simpa using e))]
    exact hg.block i hi (fun e => hd e.symm)
  have hpd : R.dn.ownBlock ≠ some R.p := by
    intro e
    obtain ⟨C, hC⟩ := hdd _ e
    rw [hW.hp] at hC
    simp at hC
  have hpl := (Array.getElem?_eq_some_iff.1 hW.hp).1
  have hp1 : w1.heap[R.p]? = some (.cells R.cells 67 (0, 0)) := (hg.block R.p hpl (fun e => hpd e.symm)).trans hW.hp
  have hset := heap_setCell_at (i := 3) dn' hp1 (by simp [Rw.cells])
  have hmp : R.m ≠ R.p := by
    intro e
    obtain ⟨es, clock, hb, _⟩ := h.hm
    rw [e, h.hp] at hb
    cases hb
  have hmd : R.dn.ownBlock ≠ some R.m := by
    intro e
    obtain ⟨C, hC⟩ := hdd _ e
    obtain ⟨es, clock, hb, _⟩ := hW.hm
    rw [hC] at hb
    cases hb
  have hvW : W.ownsRow B 5 1 v d.lost.length (cellsB d.lost) := row_keep hv (fun i hi => ha.below.block i (hv.lt i hi).2)
  have hbyte : ∀ (x : Value) (l : List UInt8), W.ownsRow B 5 1 x l.length (cellsB l) → (w1.setCell ⟨R.p, 3, none⟩ dn').ownsRow B 5 1 x l.length (cellsB l) := by
    intro x l hx
    refine row_keep hx (fun i hi => hbl i (hx.lt i hi).2 (fun e => ?_) (fun e => ?_))
    · obtain ⟨C, hC⟩ := row_block hx hi
      rw [e, hW.hp] at hC
      simp at hC
    · obtain ⟨C, hC⟩ := row_block hx hi
      obtain ⟨C', hC'⟩ := hdd _ e
      rw [hC] at hC'
      simp at hC'
  refine ⟨⟨?_, ?_, ?_, ?_, ?_, h.bp, h.bm, h.srt, h.keys, ?_, h.room, h.arm, h.wfl⟩, ?_⟩
  · exact hset
  · exact map_keep hW.hm (hbl _ hW.hm.lt hmp hmd)
  · have : (R.more d v dn').ds ++ (R.more d v dn').dead = R.ds ++ [(d, v)] := by simp [Rw.more, hdead]
    rw [this]
    refine row_keep h1 (fun i hi => ?_)
    refine (grown_set w1 R.p 3 dn').block i (h1.lt i hi).2 (fun e => ?_)
    have hip : i = R.p := by simpa using e
    obtain ⟨C, hC⟩ := row_block h1 hi
    rw [hip, hp1] at hC
    simp at hC
  · intro x hx
    rw [rows_more] at hx
    rcases List.mem_append.1 hx with hx | hx
    · exact hbyte _ _ (hW.hr x hx)
    · simp only [List.mem_singleton] at hx
      subst hx
      exact hbyte _ _ hvW
  · rw [rows_more]
    simp only [blocks, List.filterMap_append]
    rw [List.nodup_append]
    refine ⟨h.nd, ?_, ?_⟩
    · cases hvb : v.ownBlock <;> simp [hvb]
    · intro i hi j hj e
      subst e
      cases hvb : v.ownBlock with
      | none => simp [hvb] at hj
      | some k =>
        simp [hvb] at hj
        subst hj
        exact hvn _ hvb hi
  · intro x hx
    simp only [Rw.more, List.mem_append, List.mem_singleton] at hx
    rcases hx with hx | rfl
    · exact h.files x hx
    · exact hf
  · refine ⟨hg.os.trans ha.below.os, hg.tape.trans ha.below.tape, hg.output.trans ha.below.output, ?_, fun i hi hn => ⟨?_, fun hvi => ?_⟩⟩
    · have := hg.size
      have := (grown_set w1 R.p 3 dn').size
      omega
    · rw [hbl i (Nat.lt_of_lt_of_le hi hsz) (fun e => hn (.inl e)) (fun e => hn (.inr (.inr (.inl e))))]
      exact ha.below.block i hi
    · rintro (e | e | e | e)
      · exact hn (.inl e)
      · exact hn (.inr (.inl e))
      · change dn'.ownBlock = some i at e
        rcases hl with hl | hl
        · exact hn (.inr (.inr (.inl (hl ▸ e))))
        · rw [hl] at e
          simp only [Option.some.injEq] at e
          omega
      · rw [rows_more] at e
        obtain ⟨x, hx, he⟩ := mem_blocks.1 e
        rcases List.mem_append.1 hx with hx | hx
        · exact hn (.inr (.inr (.inr (mem_blocks.2 ⟨x, hx, he⟩))))
        · simp only [List.mem_singleton] at hx
          subst hx
          exact hvi he

theorem Near.then {w w' w'' : World} {R R' R'' : Rw} {v : Value} (h : Near w R v w' R') (k : Moves w' R' w'' R'') (hv : ∀ i, v.ownBlock = some i → w''.heap[i]? = w'.heap[i]?) : Near w R v w'' R'' := by
  refine ⟨k.os.trans h.os, k.tape.trans h.tape, k.output.trans h.output, Nat.le_trans h.size k.size, fun i hi hn => ?_⟩
  obtain ⟨h1, h2⟩ := h.block i hi hn
  by_cases hvi : v.ownBlock = some i
  · exact ⟨(hv i hvi).trans h1, fun hc => absurd hvi hc⟩
  · obtain ⟨k1, k2⟩ := k.block i (Nat.lt_of_lt_of_le hi h.size) (h2 hvi)
    exact ⟨k1.trans h1, fun _ => k2⟩

end Go.Proofs.YtelkkpomehgcjaaGreat

namespace Go.Proofs.YtelkkpomehgcjaaGreat
open Go.RowKit Go.Maps

def Rw.noted (R : Rw) (d : Dd) (v dn : Value) : Rw :=
  if R.gone then R.more d v dn
  else if R.armed then { R.more d v dn with left := R.left - min (d.units : Int) R.left, gone := decide (min (d.units : Int) R.left < (d.units : Int)), count := R.count + (min (d.units : Int) R.left).toNat }
  else { R.more d v dn with count := R.count + d.units }

theorem cells_new {X : World} {l : List Value} {T : TypeId} {k : Nat} (hk : k = X.heap.size) : ∀ j u, l[j]? = some u → (X.alloc (.cells l.toArray T)).cell? ((⟨k, 0, none⟩ : Addr).add j) = some u := by
  intro j u hu
  subst hk
  rw [add_at, Nat.zero_add, cell_of_row _ _ _ _ _ _ (new_block X _)]
  simpa using hu

theorem Adds.at {w W : World} (h : Adds w W) {i : Nat} {o : Obj} (hi : w.heap[i]? = some o) : W.heap[i]? = some o := (h.below.block i (Array.getElem?_eq_some_iff.1 hi).1).trans hi

/-- What the store behind the append wants. -/
theorem more_pre {w W w1 : World} {B : Nat} {R : Rw} (h : Mem w B R) (ha : Adds w W) (hg : W.grownBy w1 R.dn.ownBlock) : w1.cell? ⟨R.p, 3, none⟩ = some R.dn ∧ w1.frozen? ⟨R.p, 3, none⟩ = false := by
  have hW := h.adds ha
  have hpd : R.dn.ownBlock ≠ some R.p := by
    intro e
    obtain ⟨C, hC⟩ := row_block hW.hd e
    rw [hW.hp] at hC
    simp at hC
  have hp1 : w1.heap[R.p]? = some (.cells R.cells 67 (0, 0)) := (hg.block R.p (Array.getElem?_eq_some_iff.1 hW.hp).1 (fun e => hpd e.symm)).trans hW.hp
  exact ⟨cell_of_row w1 R.p 3 _ _ _ hp1, frozen_of hp1⟩

/-- The deed's own box stays. -/
theorem more_box {w W w1 : World} {B : Nat} {R : Rw} (h : Mem w B R) (hg : W.grownBy w1 R.dn.ownBlock) {o : Obj} (ho : W.heap[w.heap.size]? = some o) (x : Value) : (w1.setCell ⟨R.p, 3, none⟩ x).heap[w.heap.size]? = some o ∧ w.heap.size < (w1.setCell ⟨R.p, 3, none⟩ x).heap.size := by
  have hlt := (Array.getElem?_eq_some_iff.1 ho).1
  have h1 := hg.size
  have h2 := (grown_set w1 R.p 3 x).size
  have hp := (h.lt (.inl rfl)).2
  refine ⟨?_, by omega⟩
  rw [(grown_set w1 R.p 3 x).block _ (by omega) (fun e => by simp at e; omega), hg.block _ hlt (fun e => ?_)]
  · exact ho
  · have := (h.lt (.inr (.inr (.inl e.symm)))).2
    omega

theorem wf64 {x : Int} : (Lit.int .i64 x).wf = true ↔ -9223372036854775808 ≤ x ∧ x ≤ 9223372036854775807 := by
  simp only [Lit.wf, Bool.and_eq_true, decide_eq_true_eq]
  have h3 : IntKind.i64.min = -9223372036854775808 := by decide
  have h4 : IntKind.i64.max = 9223372036854775807 := by decide
  rw [h3, h4]

theorem row_slice {w : World} {B : Nat} {e : TypeId} {n k : Nat} {v : Value} {xs : List Value} (h : w.ownsRow B e n v k xs) : ∃ ao l c, v = .slice ao l c := by
  rcases h.2 with ⟨rfl, _⟩ | ⟨g, cap, cur, rfl, _⟩
  · exact ⟨_, _, _, rfl⟩
  · exact ⟨_, _, _, rfl⟩

theorem Near.turn {w w1 w2 : World} {B : Nat} {R R1 R2 : Rw} {v : Value} {l : List UInt8} (h : Near w R v w1 R1) (hm : Mem w1 B R1) (hv : (v, l) ∈ R1.rows) (hg : w1.grownBy w2 (some R1.p)) (k : Moves w1 R1 w2 R2) : Near w R v w2 R2 := by
  refine h.then k (fun i hi => ?_)
  refine hg.block i ((hm.hr _ hv).lt i hi).2 (fun e => ?_)
  have e' : i = R1.p := by simpa using e
  obtain ⟨C, hC⟩ := row_block (hm.hr _ hv) hi
  rw [e', hm.hp] at hC
  simp at hC

theorem note_any {w : World} {B : Nat} {R : Rw} (h : Mem w B R) (hdead : R.dead = []) (d : Dd) (v : Value) (hf : 0 ≤ d.file ∧ d.file ≤ 1048576)
    (hv : w.ownsRow B 5 1 v d.lost.length (cellsB d.lost)) (hvn : ∀ i, v.ownBlock = some i → i ∉ blocks R.rows) (hvc : v.oneCell' = true) (hb : R.bulk ≤ 549755813888) (hB : B ≤ w.heap.size) (hu : d.units ≤ 1048576) :
    Calls Tryz.prog 53 #[ptr R.p, .agg #[.int .i64 d.file, .int .i64 (d.units : Int), .bool d.fresh, .bool d.drop, v]] w fun e w' => e = .returned (.tuple #[]) ∧ ∃ dn, Mem w' B (R.noted d v dn) ∧ Near w R v w' (R.noted d v dn) := by
  obtain ⟨c0, c1, c2, c3, c4, c5, c6, c7⟩ := h.cells8
  have hlt := (Array.getElem?_eq_some_iff.1 h.hp).1
  have hds : R.ds.length ≤ 549755813888 := by unfold Rw.bulk at hb; omega
  have H : Hid (Mem w B R) := h
  have hd0 : ∀ W, Adds w W → W.ownsRow B 101 5 R.dn R.ds.length (cellsD R.ds) := fun W hW => by
    have := (h.adds hW).hd
    rwa [hdead, List.append_nil] at this
  have hB0 : ∀ W, Adds w W → B ≤ W.heap.size := fun W hW => Nat.le_trans hB hW.below.size
  go_enter Tryz.func53, Tryz.ntmps53
  go_wp2
  go_cut [3] from 5 (fun q wc => q = ptr w.heap.size ∧ ∃ dn, Mem wc B (R.more d v dn) ∧ Near w R v wc (R.more d v dn) ∧ wc.heap[w.heap.size]? = some (.cells (d.cells v).toArray 101 (0, 0)) ∧ w.heap.size < wc.heap.size)
  case first =>
    go_region_law (refine deed_step rfl (.tmp 9) (.tmp 11) rfl (hd0 _ (by repeat (first | with_reducible exact Adds.refl _ | with_reducible refine Adds.alloc ?_ _ | with_reducible refine Adds.more ?_ _ _ | with_reducible refine Adds.drew ?_ | with_reducible refine Adds.drewN ?_ _))) (hB0 _ (by repeat (first | with_reducible exact Adds.refl _ | with_reducible refine Adds.alloc ?_ _ | with_reducible refine Adds.more ?_ _ _ | with_reducible refine Adds.drew ?_ | with_reducible refine Adds.drewN ?_ _))) rfl d v hvc _ _ rfl (cells_new (l := [.int .i64 d.file, .int .i64 (d.units : Int), .bool d.fresh, .bool d.drop, v]) (by simp)) (by omega) ?_; intro dn1 w1 h1 g1 l1; obtain ⟨ao1, n1, cp1, e1⟩ := row_slice h1; subst e1; obtain ⟨x3, y3⟩ := more_pre H.out (by repeat (first | with_reducible exact Adds.refl _ | with_reducible refine Adds.alloc ?_ _ | with_reducible refine Adds.more ?_ _ _ | with_reducible refine Adds.drew ?_ | with_reducible refine Adds.drewN ?_ _)) g1; have HM : Hid _ := mem_more H.out hdead (by repeat (first | with_reducible exact Adds.refl _ | with_reducible refine Adds.alloc ?_ _ | with_reducible refine Adds.more ?_ _ _ | with_reducible refine Adds.drew ?_ | with_reducible refine Adds.drewN ?_ _)) d v _ hf hv hvn h1 g1 l1; have HX : Hid _ := more_box H.out g1 (o := .cells (d.cells v).toArray 101 (0, 0)) (Adds.at (w := w.alloc (.cells #[.int .i64 d.file, .int .i64 (d.units : Int), .bool d.fresh, .bool d.drop, v] 101)) (by repeat (first | with_reducible exact Adds.refl _ | with_reducible refine Adds.alloc ?_ _ | with_reducible refine Adds.more ?_ _ _ | with_reducible refine Adds.drew ?_ | with_reducible refine Adds.drewN ?_ _)) (new_block _ _)) (.slice ao1 n1 cp1))
    all_goals
      go_wp2
      go_meet
      case rel =>
        obtain ⟨hm1, hm2⟩ := HM.out
        obtain ⟨hx1, hx2⟩ := HX.out
        exact ⟨rfl, _, hm1, hm2, hx1, hx2⟩
  case rest =>
    obtain ⟨rfl, dn, hm, hn, hq, hql⟩ := hcut
    have k4 : wc.cell? ⟨R.p, 4, none⟩ = some (.int .i64 (R.count : Int)) := hm.cell 4
    have k5 : wc.cell? ⟨R.p, 5, none⟩ = some (.bool R.armed) := hm.cell 5
    have k6 : wc.cell? ⟨R.p, 6, none⟩ = some (.int .i64 R.left) := hm.cell 6
    have k7 : wc.cell? ⟨R.p, 7, none⟩ = some (.bool R.gone) := hm.cell 7
    have q1 : wc.cell? ⟨w.heap.size, 1, none⟩ = some (.int .i64 (d.units : Int)) := cell_of_row wc w.heap.size 1 _ _ _ hq
    have hfz : ∀ i, wc.frozen? ⟨R.p, i, none⟩ = false := hm.thaw
    have hpq : R.p ≠ w.heap.size := by omega
    have hcn : R.count ≤ 549755813888 := by unfold Rw.bulk at hb; omega
    have hrow : (v, d.lost) ∈ (R.more d v dn).rows := by rw [rows_more]; simp
    clear c0 c1 c2 c3 c4 c5 c6 c7 hd0 hB0 hq
    cases hgn : R.gone
    · rw [hgn] at k7
      cases har : R.armed
      · rw [har] at k5
        have h4 := heap_setCell_at (i := 4) (.int .i64 ((R.count : Int) + (d.units : Int))) hm.hp (by simp [Rw.cells])
        have hg := grown_set wc R.p 4 (.int .i64 ((R.count : Int) + (d.units : Int)))
        obtain ⟨m1, m2⟩ := hm.turn (R.count + d.units) R.armed R.left R.gone h.arm h.wfl hg (by rw [Int.natCast_add]; exact h4)
        have n2 := hn.turn hm hrow hg m2
        have HM : Hid (Mem (wc.setCell ⟨R.p, 4, none⟩ (.int .i64 ((R.count : Int) + (d.units : Int)))) B (R.noted d v dn) ∧ Near w R v (wc.setCell ⟨R.p, 4, none⟩ (.int .i64 ((R.count : Int) + (d.units : Int)))) (R.noted d v dn)) := by
          show _ ∧ _
          simp only [Rw.noted, hgn, har, Bool.false_eq_true, if_false]
          exact ⟨m1, n2⟩
        clear m1 m2 n2 h4 hg
        go_wp2
        go_end0
        exact ⟨rfl, dn, HM.out⟩
      · rw [har] at k5
        have hl := h.arm har
        have hwl := h.wfl
        obtain ⟨n, hn'⟩ : ∃ n : Int, n = min (d.units : Int) R.left := ⟨_, rfl⟩
        have hn0 : 0 ≤ n := by omega
        have hn1 : n ≤ R.left := by omega
        have hn2 : n ≤ d.units := by omega
        have h6 := heap_setCell_at (i := 6) (.int .i64 (R.left - n)) hm.hp (by simp [Rw.cells])
        have h7 := heap_setCell_at (i := 7) (.bool (decide (n < (d.units : Int)))) h6 (by simp [Rw.cells])
        have h4 := heap_setCell_at (i := 4) (.int .i64 ((R.count : Int) + n)) h7 (by simp [Rw.cells])
        have hg := ((grown_set wc R.p 6 (.int .i64 (R.left - n))).trans (grown_set _ R.p 7 (.bool (decide (n < (d.units : Int)))))).trans (grown_set _ R.p 4 (.int .i64 ((R.count : Int) + n)))
        obtain ⟨m1, m2⟩ := hm.turn (R.count + n.toNat) R.armed (R.left - n) (decide (n < (d.units : Int))) (fun _ => by omega) (wf64.2 (by have := wf64.1 hwl; omega)) hg (by rw [show ((R.count + n.toNat : Nat) : Int) = (R.count : Int) + n by omega]; exact h4)
        have n2 := hn.turn hm hrow hg m2
        have HM : Hid (Mem (((wc.setCell ⟨R.p, 6, none⟩ (.int .i64 (R.left - n))).setCell ⟨R.p, 7, none⟩ (.bool (decide (n < (d.units : Int))))).setCell ⟨R.p, 4, none⟩ (.int .i64 ((R.count : Int) + n))) B (R.noted d v dn) ∧ Near w R v (((wc.setCell ⟨R.p, 6, none⟩ (.int .i64 (R.left - n))).setCell ⟨R.p, 7, none⟩ (.bool (decide (n < (d.units : Int))))).setCell ⟨R.p, 4, none⟩ (.int .i64 ((R.count : Int) + n))) (R.noted d v dn)) := by
          show _ ∧ _
          simp only [Rw.noted, hgn, har, Bool.false_eq_true, if_false, if_true, ← hn']
          exact ⟨m1, n2⟩
        clear m1 m2 n2 h4 hg h6 h7
        have hwl' := wf64.1 hwl
        have hk : (if (d.units : Int) ≤ R.left then (d.units : Int) else R.left) = n := by rw [hn']; rfl
        have HM' := HM.out
        have HN : Hid _ := HM'
        clear HM HM'
        go_wp2
        · go_end0
          have HM := HN.out
          rw [show R.left - n = 0 by omega, show decide (n < (d.units : Int)) = true by simp; omega, show (R.count : Int) + n = R.count + R.left by omega] at HM
          exact ⟨rfl, dn, HM⟩
        · go_end0
          have HM := HN.out
          rw [show R.left - n = R.left - d.units by omega, show decide (n < (d.units : Int)) = false by simp; omega, show (R.count : Int) + n = R.count + d.units by omega] at HM
          exact ⟨rfl, dn, HM⟩
    · rw [hgn] at k7
      have HM : Hid (Mem wc B (R.noted d v dn) ∧ Near w R v wc (R.noted d v dn)) := by
        show _ ∧ _
        simp only [Rw.noted, hgn, if_true]
        exact ⟨hm, hn⟩
      go_wp2
      exact bodyPost_ret (results_none rfl _ _ _) rfl ⟨rfl, dn, HM.out⟩

end Go.Proofs.YtelkkpomehgcjaaGreat

namespace Go.Proofs.YtelkkpomehgcjaaGreat
open Go.RowKit Go.Maps

theorem Mem.refile {w w' : World} {B : Nat} {R R' : Rw} (h : Mem w B R) (t : Option Nat) (ht : ∀ i, t = some i → i ∈ blocks R.rows)
    (hg : w'.os = w.os ∧ w'.tape = w.tape ∧ w'.output = w.output ∧ w.heap.size ≤ w'.heap.size)
    (hk : ∀ i, i < w.heap.size → i ≠ R.p → i ≠ R.m → t ≠ some i → w'.heap[i]? = w.heap[i]?)
    (ep : R'.p = R.p) (em : R'.m = R.m) (ed : R'.dn = R.dn) (eds : R'.ds ++ R'.dead = R.ds ++ R.dead)
    (hp' : w'.heap[R'.p]? = some (.cells R'.cells 67 (0, 0))) (hm' : w'.ownsMap Tryz.prog 3 raw R'.m R'.fs.length (dOf R'.fs))
    (srt : Srt R'.fs) (keys : ∀ x ∈ R'.fs, 0 ≤ x.1 ∧ x.1 ≤ 1048576) (files : ∀ d ∈ R'.ds, 0 ≤ d.1.file ∧ d.1.file ≤ 1048576) (room : R'.room ≤ 1048576) (arm : R'.armed = true → 0 ≤ R'.left) (wfl : (Lit.int .i64 R'.left).wf = true)
    (hrows : ∀ x ∈ R'.rows, (x ∈ R.rows ∧ ∀ i, x.1.ownBlock = some i → t ≠ some i) ∨ w'.ownsRow B 5 1 x.1 x.2.length (cellsB x.2))
    (nd : (blocks R'.rows).Nodup) (hnew : ∀ i ∈ blocks R'.rows, i ∈ blocks R.rows ∨ w.heap.size ≤ i) : Mem w' B R' ∧ Moves w R w' R' := by
  have hne : ∀ i, (∃ C, w.heap[i]? = some (.cells C 101 (0, 0))) → i ≠ R.p ∧ i ≠ R.m ∧ t ≠ some i := by
    rintro i ⟨C, hC⟩
    refine ⟨fun e => ?_, fun e => ?_, fun e => ?_⟩
    · rw [e, h.hp] at hC
      simp at hC
    · obtain ⟨es, clock, hb, _⟩ := h.hm
      rw [e, hb] at hC
      cases hC
    · obtain ⟨x, hx, he⟩ := mem_blocks.1 (ht i e)
      obtain ⟨C', hC'⟩ := row_block (h.hr x hx) he
      rw [hC] at hC'
      simp at hC'
  have hnb : ∀ i, (∃ C, w.heap[i]? = some (.cells C 5 (0, 0))) → i ≠ R.p ∧ i ≠ R.m := by
    rintro i ⟨C, hC⟩
    refine ⟨fun e => ?_, fun e => ?_⟩
    · rw [e, h.hp] at hC
      simp at hC
    · obtain ⟨es, clock, hb, _⟩ := h.hm
      rw [e, hb] at hC
      cases hC
  refine ⟨⟨hp', hm', ?_, ?_, nd, ep ▸ h.bp, em ▸ h.bm, srt, keys, files, room, arm, wfl⟩, ⟨hg.1, hg.2.1, hg.2.2.1, hg.2.2.2, ?_⟩⟩
  · rw [eds, ed]
    refine row_keep h.hd (fun i hi => ?_)
    obtain ⟨h1, h2, h3⟩ := hne i (row_block h.hd hi)
    exact hk i (h.hd.lt i hi).2 h1 h2 h3
  · intro x hx
    rcases hrows x hx with ⟨hx', hxt⟩ | hx'
    · refine row_keep (h.hr x hx') (fun i hi => ?_)
      obtain ⟨h1, h2⟩ := hnb i (row_block (h.hr x hx') hi)
      exact hk i ((h.hr x hx').lt i hi).2 h1 h2 (hxt i hi)
    · exact hx'
  · intro i hi hn
    refine ⟨hk i hi (fun e => hn (.inl e)) (fun e => hn (.inr (.inl e))) (fun e => hn (.inr (.inr (.inr (ht i e))))), ?_⟩
    rintro (e | e | e | e)
    · exact hn (.inl (e.trans ep))
    · exact hn (.inr (.inl (e.trans em)))
    · exact hn (.inr (.inr (.inl (ed ▸ e))))
    · rcases hnew i e with h1 | h1
      · exact hn (.inr (.inr (.inr h1)))
      · omega

/-- All slices but that of file k. -/
def Rw.rest (R : Rw) (k : Int) : List (Value × List UInt8) := (del k R.fs).map (·.2) ++ R.ds.map fun d => (d.2, d.1.lost)

theorem rows_found {R : Rw} (h : Srt R.fs) {k : Int} {p : Fl} (hg : get k R.fs = some p) : R.rows.Perm (p.2 :: R.rest k) := by
  unfold Rw.rows Rw.rest
  have := ((perm_get h hg).map (·.2)).append_right (R.ds.map fun d => (d.2, d.1.lost))
  simpa using this

theorem rows_none {R : Rw} {k : Int} (hg : get k R.fs = none) : R.rows = R.rest k := by
  unfold Rw.rows Rw.rest
  rw [del_none (get_none hg)]

theorem rows_put (R : Rw) (k : Int) (v : Value) (b : List UInt8) : ({ R with fs := put k v b R.fs } : Rw).rows.Perm ((v, b) :: R.rest k) := by
  unfold Rw.rows Rw.rest put
  have := ((perm_ins (k, v, b) (del k R.fs)).map (·.2)).append_right (R.ds.map fun d => (d.2, d.1.lost))
  simpa using this

theorem blocks_perm {l l' : List (Value × List UInt8)} (h : l.Perm l') : (blocks l).Perm (blocks l') := h.filterMap _

theorem blocks_cons (x : Value × List UInt8) (l : List (Value × List UInt8)) : blocks (x :: l) = x.1.ownBlock.toList ++ blocks l := by
  unfold blocks
  rw [List.filterMap_cons]
  cases x.1.ownBlock <;> rfl

theorem size_perm {l l' : List (Value × List UInt8)} (h : l.Perm l') : size l = size l' := (h.map _).sum_nat
theorem size_cons (x : Value × List UInt8) (l : List (Value × List UInt8)) : size (x :: l) = x.2.length + size l := by simp [size]

/-- A file of R, or none: its slice and its bytes. -/
def Rw.at (R : Rw) (k : Int) (v : Value) (b : List UInt8) : Prop := get k R.fs = some (k, v, b) ∨ (get k R.fs = none ∧ v = .slice none 0 0 ∧ b = [])

theorem Rw.at_any (R : Rw) (k : Int) : ∃ v b, R.at k v b ∧ (dOf R.fs).atKey (.int .i64 k) (.held (.slice none 0 0)) = .held v := by
  cases hg : get k R.fs with
  | none => exact ⟨.slice none 0 0, [], .inr ⟨hg, rfl, rfl⟩, by rw [dOf_at, hg]⟩
  | some p =>
    obtain ⟨j, v, b⟩ := p
    obtain ⟨_, rfl⟩ := get_some hg
    exact ⟨v, b, .inl hg, by rw [dOf_at, hg]⟩

theorem Rw.at_row {w : World} {B : Nat} {R : Rw} (h : Mem w B R) {k : Int} {v : Value} {b : List UInt8} (ha : R.at k v b) : w.ownsRow B 5 1 v b.length (cellsB b) := by
  rcases ha with hg | ⟨_, rfl, rfl⟩
  · exact h.hr (v, b) (List.mem_append.2 (.inl (List.mem_map.2 ⟨_, (get_some hg).1, rfl⟩)))
  · exact World.ownsRow_nil _ _ _ _

theorem Rw.at_rest {w : World} {B : Nat} {R : Rw} (h : Mem w B R) {k : Int} {v : Value} {b : List UInt8} (ha : R.at k v b) :
    (∀ i, v.ownBlock = some i → i ∈ blocks R.rows ∧ i ∉ blocks (R.rest k)) ∧ (blocks (R.rest k)).Nodup ∧ (∀ x ∈ R.rest k, x ∈ R.rows) ∧ size R.rows = b.length + size (R.rest k) ∧ total R.fs = b.length + total (del k R.fs) := by
  rcases ha with hg | ⟨hg, rfl, rfl⟩
  · have hp := rows_found h.srt hg
    have hb := blocks_perm hp
    have hn := hb.nodup_iff.1 h.nd
    rw [blocks_cons] at hb hn
    obtain ⟨_, h2, h3⟩ := List.nodup_append.1 hn
    refine ⟨fun i hi => ⟨hb.mem_iff.2 (by simp [hi]), fun hc => h3 i (by simp [hi]) i hc rfl⟩, h2, fun x hx => hp.mem_iff.2 (List.mem_cons_of_mem _ hx), ?_, total_get h.srt hg⟩
    rw [size_perm hp, size_cons]
  · have he := rows_none hg
    have hnd := h.nd
    rw [← he]
    refine ⟨fun i hi => (by cases hi), hnd, fun x hx => hx, by simp, ?_⟩
    rw [total_none hg]
    simp

end Go.Proofs.YtelkkpomehgcjaaGreat

namespace Go.Proofs.YtelkkpomehgcjaaGreat
open Go.RowKit Go.Maps

theorem law3 : Keyed Tryz.prog 3 := int_keyed Tryz.underlying3
theorem zero44 (w : World) : (zeroValue 40).run Tryz.prog w = .ok (.slice none 0 0) w := by kernel_rfl
theorem key3 {k : Int} (hk : 0 ≤ k ∧ k ≤ 1048576) : keyOf Tryz.prog 3 (.int .i64 k) = some (.int .i64 k) := keyOf_int_mk Tryz.underlying3 (wf64.2 (by omega))
theorem key3w {k : Int} (hk : (Lit.int .i64 k).wf = true) : keyOf Tryz.prog 3 (.int .i64 k) = some (.int .i64 k) := keyOf_int_mk Tryz.underlying3 hk

theorem byte_append (w : World) (B : Nat) (ty : TypeId) (v : Value) (l : List UInt8) (h : w.ownsRow B 5 1 v l.length (cellsB l)) (hB : B ≤ w.heap.size) (x : Value) (m : List UInt8) (hx : Byt w x m) (hlen : l.length + m.length ≤ 1099511627776) :
    ∃ v' w', (Builtin.append_ #[40, 40] ty #[v, x]).run Tryz.prog w = .ok v' w' ∧ w'.ownsRow B 5 1 v' (l ++ m).length (cellsB (l ++ m)) ∧ w.grownBy w' v.ownBlock ∧ (v'.ownBlock = v.ownBlock ∨ v'.ownBlock = some w.heap.size) := by
  obtain ⟨i0, hi, hz0, hzs, hzb⟩ := info_parts Tryz.info5
  obtain ⟨ao, cap, rfl, hcap, hxs⟩ := hx.open
  rcases hxs with rfl | ⟨b, off, rfl, hb, hl⟩
  · have hrun : (Builtin.append_ #[40, 40] ty #[v, .slice ao 0 cap]).run Tryz.prog w = .ok v w := by
      rcases h.2 with ⟨rfl, hn⟩ | ⟨g, cp, cur, rfl, hbb, hg, hnc, hcm, hcs, htk⟩
      · cases ao <;> simp [Builtin.append_, run_underlying Tryz.underlying40, sizeOf, typeInfo, hi, Builtin.lenOf, Builtin.firstCells, loadCells, loadCellsFrom]
      · cases ao <;> simp [Builtin.append_, run_underlying Tryz.underlying40, sizeOf, typeInfo, hi, Builtin.lenOf, Builtin.firstCells, loadCells, loadCellsFrom, hnc, storeCells]
    refine ⟨v, w, by simpa using hrun, ?_, grown_refl _ _, .inl rfl⟩
    rw [List.append_nil]
    exact h
  · have hc : ∀ j u, (cellsB m)[j]? = some u → w.cell? ((⟨b, off, none⟩ : Addr).add j) = some u := by
      intro j u hu
      obtain ⟨hj, rfl⟩ := List.getElem?_eq_some_iff.1 hu
      rw [add_at, hl j (by rw [cellsB_length] at hj; exact hj)]
      simp [cellsB]
    obtain ⟨v', w', h1, h2, h3, _, h5⟩ := run_append_own_at (P := Tryz.prog) w B 40 ty 5 i0 (.int .u8 0) 1 1 Tryz.underlying40 hi hz0 hzs hzb rfl (by decide) v l.length (cellsB l) h ⟨b, off, none⟩ m.length cap (cellsB m) (by rw [cellsB_length]; omega) hc (cellsB_one m) (by unfold maxLen; omega) (by omega) hB
    exact ⟨v', w', h1, by rw [cellsB_append, List.length_append]; exact h2, h3, h5⟩

theorem byte_step {ops : Array Oper} {o : Oper} {a : Act} {w : World} {K : Act → World → Prop} {Q : Exit → Act → World → Prop} {E : Prop} (hgd : o.guard = none) (s x : Operand) (ho : o.op = .call { callee := .builtin .append, args := #[s, x], argTypes := #[40, 40] })
    {B : Nat} {v : Value} {l : List UInt8} (h : w.ownsRow B 5 1 v l.length (cellsB l)) (hB : B ≤ w.heap.size) (hs : a.eval s = v) {x' : Value} {m : List UInt8} (hx' : Byt w x' m) (hx : a.eval x = x') (hlen : l.length + m.length ≤ 1099511627776)
    (hk : ∀ v' w', w'.ownsRow B 5 1 v' (l ++ m).length (cellsB (l ++ m)) → w.grownBy w' v.ownBlock → (v'.ownBlock = v.ownBlock ∨ v'.ownBlock = some w.heap.size) → K (a.put o.dst v') w') :
    if Region.wanted o (yielded ops a.tmps) = true then Oper.wp Tryz.prog o a w K Q else E := by
  have hw : Region.wanted o (yielded ops a.tmps) = true := by simp [Region.wanted, hgd]
  rw [if_pos hw]
  obtain ⟨v', w', hr, h2, h3, h5⟩ := byte_append w B o.type v l h hB x' m hx' hlen
  exact Lib.wp_append_run w s x 40 40 ho v x' hs hx v' w' hr (hk v' w' h2 h3 h5)

theorem put_pre {w W w1 : World} {B : Nat} {R : Rw} (h : Mem w B R) (ha : Adds w W) {k : Int} {v : Value} {b : List UInt8} (hat : R.at k v b) (g1 : W.grownBy w1 v.ownBlock) :
    w1.ownsMap Tryz.prog 3 raw R.m R.fs.length (dOf R.fs) ∧ w1.heap[R.p]? = some (.cells R.cells 67 (0, 0)) ∧ w1.cell? ⟨R.p, 2, none⟩ = some (.map (some R.m)) := by
  have hW := h.adds ha
  have hr := Rw.at_row hW hat
  have hp : w1.heap[R.p]? = some (.cells R.cells 67 (0, 0)) := by
    rw [g1.block R.p (hW.lt (.inl rfl)).2 (fun e => ?_)]
    · exact hW.hp
    · obtain ⟨C, hC⟩ := row_block hr e.symm
      rw [hW.hp] at hC
      simp at hC
  refine ⟨map_keep hW.hm (g1.block R.m hW.hm.lt (fun e => ?_)), hp, cell_of_row w1 R.p 2 _ _ _ hp⟩
  obtain ⟨C, hC⟩ := row_block hr e.symm
  obtain ⟨es, clock, hb, _⟩ := hW.hm
  rw [hC] at hb
  cases hb

theorem turned_block {w w' : World} {m : Nat} (t : w.mapTurned w' m) {i : Nat} (hi : i ≠ m) (hl : i < w.heap.size) : w'.heap[i]? = w.heap[i]? := t.grown.block i hl (fun e => hi (by simpa using e))

theorem map_ne {w : World} {B : Nat} {R : Rw} (h : Mem w B R) : R.p ≠ R.m := by
  intro e
  obtain ⟨es, clock, hb, _⟩ := h.hm
  rw [← e, h.hp] at hb
  cases hb

theorem put_post {w1 w2 : World} {B : Nat} {R : Rw} {w : World} (h : Mem w B R) (hp : w1.heap[R.p]? = some (.cells R.cells 67 (0, 0))) (t2 : w1.mapTurned w2 R.m) :
    w2.heap[R.p]? = some (.cells R.cells 67 (0, 0)) ∧ w2.cell? ⟨R.p, 1, none⟩ = some (.int .i64 (total R.fs : Int)) ∧ w2.frozen? ⟨R.p, 1, none⟩ = false := by
  have hp2 := (turned_block t2 (map_ne h) (Array.getElem?_eq_some_iff.1 hp).1).trans hp
  exact ⟨hp2, cell_of_row w2 R.p 1 _ _ _ hp2, frozen_of hp2⟩

/-- The file has bytes more, and what is used is set. -/
theorem mem_put {w W w1 w2 : World} {B : Nat} {R : Rw} (h : Mem w B R) (ha : Adds w W) {k : Int} {v : Value} {b m : List UInt8} (hk : 0 ≤ k ∧ k ≤ 1048576) (hat : R.at k v b) (v1 : Value)
    (h1 : w1.ownsRow B 5 1 v1 (b ++ m).length (cellsB (b ++ m))) (g1 : W.grownBy w1 v.ownBlock) (l1 : v1.ownBlock = v.ownBlock ∨ v1.ownBlock = some W.heap.size)
    (hm2 : w2.ownsMap Tryz.prog 3 raw R.m (R.fs.length + 1) ((dOf R.fs).put (.int .i64 k) (.held v1))) (t2 : w1.mapTurned w2 R.m) :
    Mem (w2.setCell ⟨R.p, 1, none⟩ (.int .i64 ((total R.fs : Int) + (m.length : Int)))) B { R with fs := put k v1 (b ++ m) R.fs } ∧ Moves w R (w2.setCell ⟨R.p, 1, none⟩ (.int .i64 ((total R.fs : Int) + (m.length : Int)))) { R with fs := put k v1 (b ++ m) R.fs } := by
  obtain ⟨hv, hn, hsub, hsz, htot⟩ := Rw.at_rest h hat
  obtain ⟨_, hp1, _⟩ := put_pre h ha hat g1
  obtain ⟨hp2, _, _⟩ := put_post h hp1 t2
  have hset := heap_setCell_at (i := 1) (.int .i64 ((total R.fs : Int) + (m.length : Int))) hp2 (by simp [Rw.cells])
  have hgs := grown_set w2 R.p 1 (.int .i64 ((total R.fs : Int) + (m.length : Int)))
  have ht2 := t2.grown
  have hsW := ha.below.size
  have hs1 := g1.size
  have hs2 := ht2.size
  have hs3 := hgs.size
  have hperm := rows_put R k v1 (b ++ m)
  have hbp := blocks_perm hperm
  rw [blocks_cons] at hbp
  have hkeep : ∀ i, i < W.heap.size → i ≠ R.p → i ≠ R.m → v.ownBlock ≠ some i → (w2.setCell ⟨R.p, 1, none⟩ (.int .i64 ((total R.fs : Int) + (m.length : Int)))).heap[i]? = W.heap[i]? := by
    intro i hi e1 e2 e3
    rw [hgs.block i (by omega) (fun e => e1 (by simpa using e)), ht2.block i (by omega) (fun e => e2 (by simpa using e))]
    exact g1.block i hi (fun e => e3 e.symm)
  refine h.refile v.ownBlock (fun i hi => (hv i hi).1) ⟨?_, ?_, ?_, by omega⟩ ?_ rfl rfl rfl rfl ?_ ?_ (h.srt.put _ _ _) ?_ h.files h.room h.arm h.wfl ?_ ?_ ?_
  · exact (hgs.os.trans ht2.os).trans (g1.os.trans ha.below.os)
  · exact (hgs.tape.trans ht2.tape).trans (g1.tape.trans ha.below.tape)
  · exact (hgs.output.trans ht2.output).trans (g1.output.trans ha.below.output)
  · intro i hi e1 e2 e3
    rw [hkeep i (by omega) e1 e2 e3]
    exact ha.below.block i hi
  · have e : (total (put k v1 (b ++ m) R.fs) : Int) = (total R.fs : Int) + (m.length : Int) := by
      rw [total_put, htot, List.length_append]
      omega
    show _ = some (Obj.cells #[.int .i64 (R.room : Int), .int .i64 (total (put k v1 (b ++ m) R.fs) : Int), .map (some R.m), R.dn, .int .i64 (R.count : Int), .bool R.armed, .int .i64 R.left, .bool R.gone] 67 (0, 0))
    rw [e]
    exact hset
  · rw [dOf_put k v1 (b ++ m)] at hm2
    have := map_tight hm2
    rw [dOf_size] at this
    exact this.setCell (fun e => map_ne h e.symm) _
  · intro x hx
    rcases (YtelkkpomehgcjaaGreat.mem_put_iff).1 hx with rfl | ⟨hx, _⟩
    · exact hk
    · exact h.keys x hx
  · intro x hx
    rcases List.mem_cons.1 (hperm.mem_iff.1 hx) with rfl | hx
    · refine .inr (row_keep h1 (fun i hi => ?_))
      obtain ⟨C, hC⟩ := row_block h1 hi
      have hi1 := (Array.getElem?_eq_some_iff.1 hC).1
      rw [hgs.block i (by omega) (fun e => ?_), ht2.block i hi1 (fun e => ?_)]
      · have e' : i = R.m := by simpa using e
        obtain ⟨es, clock, es', clock', hb, _⟩ := t2
        rw [e', hb] at hC
        cases hC
      · have e' : i = R.p := by simpa using e
        rw [e', hp1] at hC
        simp at hC
    · exact .inl ⟨hsub x hx, fun i hi e => (hv i e).2 (mem_blocks.2 ⟨x, hx, hi⟩)⟩
  · refine hbp.nodup_iff.2 (List.nodup_append.2 ⟨?_, hn, ?_⟩)
    · cases v1.ownBlock <;> simp
    · intro i hi j hj e
      subst e
      have hi' : v1.ownBlock = some i := by simpa using hi
      rcases l1 with l1 | l1
      · exact (hv i (l1 ▸ hi')).2 hj
      · rw [l1] at hi'
        simp only [Option.some.injEq] at hi'
        obtain ⟨x, hx, he⟩ := mem_blocks.1 hj
        have := ((h.hr x (hsub x hx)).lt i he).2
        omega
  · intro i hi
    rcases List.mem_append.1 (hbp.mem_iff.1 hi) with hi | hi
    · have hi' : v1.ownBlock = some i := by simpa using hi
      rcases l1 with l1 | l1
      · exact .inl (hv i (l1 ▸ hi')).1
      · rw [l1] at hi'
        simp only [Option.some.injEq] at hi'
        exact .inr (by omega)
    · obtain ⟨x, hx, he⟩ := mem_blocks.1 hi
      exact .inl (mem_blocks.2 ⟨x, hsub x hx, he⟩)

end Go.Proofs.YtelkkpomehgcjaaGreat

namespace Go.Proofs.YtelkkpomehgcjaaGreat
open Go.RowKit Go.Maps

def nilS : Value := .slice none 0 0

/-- The reel with bytes behind file k's. -/
def Rw.grown (R : Rw) (k : Int) (v1 : Value) (b m : List UInt8) (dn : Value) : Rw := ({ R with fs := put k v1 (b ++ m) R.fs } : Rw).noted ⟨k, false, (get k R.fs).isNone, m⟩ (.slice none 0 0) dn

theorem Near.moves {w w' : World} {R R' : Rw} (h : Near w R (.slice none 0 0) w' R') : Moves w R w' R' :=
  ⟨h.os, h.tape, h.output, h.size, fun i hi hn => ⟨(h.block i hi hn).1, (h.block i hi hn).2 (by simp [Value.ownBlock])⟩⟩

theorem bulk_put {w : World} {B : Nat} {R : Rw} (h : Mem w B R) {k : Int} {v v1 : Value} {b m : List UInt8} (hat : R.at k v b) : ({ R with fs := put k v1 (b ++ m) R.fs } : Rw).bulk = R.bulk + m.length := by
  obtain ⟨_, _, _, hsz, _⟩ := Rw.at_rest h hat
  unfold Rw.bulk
  rw [size_perm (rows_put R k v1 (b ++ m)), size_cons, hsz]
  simp only [List.length_append]
  omega

set_option maxHeartbeats 1000000 in
theorem append_any {w : World} {B : Nat} {R : Rw} (h : Mem w B R) (hdead : R.dead = []) (k : Int) (hk : 0 ≤ k ∧ k ≤ 1048576) (x : Value) (m : List UInt8) (hx : Byt w x m) (hroom : (m.length : Int) ≤ (R.room : Int) - (total R.fs : Int))
    (hb : R.bulk ≤ 274877906944) (hB : B ≤ w.heap.size) :
    Calls Tryz.prog 22 #[ptr R.p, .int .i64 k, x] w fun e w' => e = .returned (.int .i64 0) ∧ ∃ v v1 b dn, R.at k v b ∧ Mem w' B (R.grown k v1 b m dn) ∧ Moves w R w' (R.grown k v1 b m dn) := by
  obtain ⟨c0, c1, c2, c3, c4, c5, c6, c7⟩ := h.cells8
  have hr := h.room
  have hml : m.length ≤ 1048576 := by omega
  obtain ⟨ao, cap, rfl, hcap, _⟩ := hx.open
  obtain ⟨v, b, hat, hav⟩ := R.at_any k
  have hfew := h.few
  have hbl : b.length ≤ R.bulk := by
    obtain ⟨_, _, _, hsz, _⟩ := Rw.at_rest h hat
    unfold Rw.bulk
    omega
  have H : Hid (Mem w B R) := h
  have HX : Hid (Byt w (.slice ao m.length cap) m) := hx
  have kL := left_any h (by omega)
  have hrow : ∀ W, Adds w W → W.ownsRow B 5 1 v b.length (cellsB b) := fun W hW => Rw.at_row (h.adds hW) hat
  have hbyt : ∀ W, Adds w W → Byt W (.slice ao m.length cap) m := fun W hW => hx.adds hW
  have hB0 : ∀ W, Adds w W → B ≤ W.heap.size := fun W hW => Nat.le_trans hB hW.below.size
  have hhas := dOf_has k R.fs
  clear c0 c1 c3 c4 c5 c6 c7
  go_enter Tryz.func22, Tryz.ntmps22
  go_wp2_with (first
    | (go_at_call 34; refine (given_any H.out).mono ?_; rintro e w1 ⟨rfl, rfl⟩)
    | (go_at_call 52; refine kL.mono ?_; rintro e wl ⟨rfl, hal⟩; have cl2 : wl.cell? ⟨R.p, 2, none⟩ = some (.map (some R.m)) := (H.out.adds hal).cell 2)
    | (at_lookup; refine wpList_lookup_own_ok _ rfl _ _ 64 rfl 3 40 law3 Tryz.underlying64 raw (zero44 _) (.held (.slice none 0 0)) [] rfl R.m _ (dOf R.fs) rfl (H.out.adds hal).hm _ (.int .i64 k) rfl (key3 hk) ?_; intro v' ps hv'; obtain rfl : v = v' := by (symm; have e1 := hv'; rw [hav] at e1; simp [raw] at e1; exact e1.1)))
  refine wp_region_any (by kernel_rfl) ?_
  change wpAny _ _ _ _ _ _ _ (World.drew _)
  refine wpAny_take (i := 0) (v := ?_) rfl (by kernel_rfl) (by kernel_rfl) (by kernel_rfl) (fun _ _ _ h => h) (Or.inl ⟨by rfl, fun _ => ?_⟩) ?_
  rotate_left
  · (go_simp; try with_reducible rfl)
  go_simp
  refine wpAny_take (i := 1) (v := ?_) rfl (by kernel_rfl) (by kernel_rfl) (by kernel_rfl) (fun _ _ _ h => h) (Or.inl ⟨by rfl, fun _ => ?_⟩) ?_
  rotate_left
  · (go_simp; try with_reducible rfl)
  go_simp
  refine wpAny_take (i := 2) (v := ?_) rfl (by kernel_rfl) (by kernel_rfl) (by kernel_rfl) (fun _ _ _ h => h) (Or.inl ⟨by rfl, fun _ => ?_⟩) ?_
  rotate_left
  · (go_simp; try with_reducible rfl)
  go_simp
  refine wpAny_take (i := 4) (v := ?_) rfl (by kernel_rfl) (by kernel_rfl) (by kernel_rfl) (fun _ _ _ h => h) (Or.inl ⟨by rfl, fun _ => ?_⟩) ?_
  rotate_left
  · (go_simp; try with_reducible rfl)
  go_simp
  refine wpAny_take (i := 5) (v := ?_) rfl (by kernel_rfl) (by kernel_rfl) (by kernel_rfl) (fun _ _ _ h => h) (Or.inl ⟨by rfl, fun _ => ?_⟩) ?_
  rotate_left
  · (go_simp; try with_reducible rfl)
  go_simp
  refine wpAny_take (i := 6) (v := ?_) rfl (by kernel_rfl) (by kernel_rfl) (by kernel_rfl) (fun _ _ _ h => h) (Or.inl ⟨by rfl, fun _ => ?_⟩) ?_
  rotate_left
  · (go_simp; try with_reducible rfl)
  go_simp
  refine wpAny_ready (rs := [3, 7]) (by kernel_rfl) (by simp) ?_
  refine AllReady.cons rfl (fun K hK => ?_) ?_
  · go_simp
    refine hK _ _ ?_
    clear hK K
    go_simp
    refine wpAny_ready (rs := [7]) (by kernel_rfl) (by simp) ?_
    refine AllReady.cons rfl (fun K hK => ?_) ?_
    · rw [if_pos (by rfl)]
      obtain ⟨v1, w2, hr2, h2, g2, l2⟩ := byte_append wl.drew B 40 v b (hrow _ (hal.trans (by repeat (first | with_reducible exact Adds.refl _ | with_reducible refine Adds.alloc ?_ _ | with_reducible refine Adds.more ?_ _ _ | with_reducible refine Adds.drew ?_ | with_reducible refine Adds.drewN ?_ _)))) (hB0 _ (hal.trans (by repeat (first | with_reducible exact Adds.refl _ | with_reducible refine Adds.alloc ?_ _ | with_reducible refine Adds.more ?_ _ _ | with_reducible refine Adds.drew ?_ | with_reducible refine Adds.drewN ?_ _)))) (.slice ao m.length cap) m (hbyt _ (hal.trans (by repeat (first | with_reducible exact Adds.refl _ | with_reducible refine Adds.alloc ?_ _ | with_reducible refine Adds.more ?_ _ _ | with_reducible refine Adds.drew ?_ | with_reducible refine Adds.drewN ?_ _)))) (by omega)
      obtain ⟨m2, p2, q2⟩ := put_pre H.out (hal.trans (by repeat (first | with_reducible exact Adds.refl _ | with_reducible refine Adds.alloc ?_ _ | with_reducible refine Adds.more ?_ _ _ | with_reducible refine Adds.drew ?_ | with_reducible refine Adds.drewN ?_ _))) hat g2
      obtain ⟨w3, r3, m3, t3⟩ := m2.store (val := v1) law3 Tryz.underlying64 (by unfold maxLen; omega) (key3 hk) (d := .held v1) (ps := []) rfl
      obtain ⟨p3, x3, y3⟩ := put_post H.out p2 t3
      have HM : Hid _ := mem_put H.out (hal.trans (by repeat (first | with_reducible exact Adds.refl _ | with_reducible refine Adds.alloc ?_ _ | with_reducible refine Adds.more ?_ _ _ | with_reducible refine Adds.drew ?_ | with_reducible refine Adds.drewN ?_ _))) hk hat v1 h2 g2 l2 m3 t3
      clear h2 g2 l2 m2 p2 m3 t3 p3
      refine Lib.wp_append_run _ (.tmp 39) (.tmp 40) 40 40 rfl _ _ rfl rfl v1 w2 hr2 ?_
      clear hr2
      refine hK _ _ ?_
      clear hK K
      go_simp
      refine wpAny_ready (rs := [8]) (by kernel_rfl) (by simp) ?_
      refine AllReady.cons rfl (fun K hK => ?_) ?_
      · go_simp
        refine hK _ _ ?_
        clear hK K
        go_simp
        refine wpAny_done (by kernel_rfl) ?_ _
        have HM1 := HM.out.1
        have HM2 := HM.out.2
        have kN := note_any (d := ⟨k, false, (get k R.fs).isNone, m⟩) (v := .slice none 0 0) HM1 hdead hk (World.ownsRow_nil _ _ _ _) (by intro i hi; cases hi) rfl (by rw [bulk_put H.out hat]; omega) (Nat.le_trans (hB0 _ (Adds.refl _)) HM2.size) hml
        have kN : Calls Tryz.prog 53 #[ptr R.p, .agg #[.int .i64 k, .int .i64 (m.length : Int), .bool ((get k R.fs).isNone), .bool false, .slice none 0 0]] _ _ := kN
        have HH : Hid _ := HM2
        clear HM HM1 HM2
        go_wp2_with (go_at_call 53; refine kN.mono ?_; rintro e w9 ⟨rfl, dn, hm9, hn9⟩)
        go_ret
        exact ⟨rfl, v, v1, b, dn, hat, hm9, HH.out.trans hn9.moves⟩
      exact AllReady.nil
    exact AllReady.nil
  refine AllReady.cons rfl (fun K hK => ?_) ?_
  · rw [if_pos (by rfl)]
    obtain ⟨v1, w2, hr2, h2, g2, l2⟩ := byte_append wl.drew B 40 v b (hrow _ (hal.trans (by repeat (first | with_reducible exact Adds.refl _ | with_reducible refine Adds.alloc ?_ _ | with_reducible refine Adds.more ?_ _ _ | with_reducible refine Adds.drew ?_ | with_reducible refine Adds.drewN ?_ _)))) (hB0 _ (hal.trans (by repeat (first | with_reducible exact Adds.refl _ | with_reducible refine Adds.alloc ?_ _ | with_reducible refine Adds.more ?_ _ _ | with_reducible refine Adds.drew ?_ | with_reducible refine Adds.drewN ?_ _)))) (.slice ao m.length cap) m (hbyt _ (hal.trans (by repeat (first | with_reducible exact Adds.refl _ | with_reducible refine Adds.alloc ?_ _ | with_reducible refine Adds.more ?_ _ _ | with_reducible refine Adds.drew ?_ | with_reducible refine Adds.drewN ?_ _)))) (by omega)
    obtain ⟨m2, p2, q2⟩ := put_pre H.out (hal.trans (by repeat (first | with_reducible exact Adds.refl _ | with_reducible refine Adds.alloc ?_ _ | with_reducible refine Adds.more ?_ _ _ | with_reducible refine Adds.drew ?_ | with_reducible refine Adds.drewN ?_ _))) hat g2
    obtain ⟨w3, r3, m3, t3⟩ := m2.store (val := v1) law3 Tryz.underlying64 (by unfold maxLen; omega) (key3 hk) (d := .held v1) (ps := []) rfl
    obtain ⟨p3, x3, y3⟩ := put_post H.out p2 t3
    have HM : Hid _ := mem_put H.out (hal.trans (by repeat (first | with_reducible exact Adds.refl _ | with_reducible refine Adds.alloc ?_ _ | with_reducible refine Adds.more ?_ _ _ | with_reducible refine Adds.drew ?_ | with_reducible refine Adds.drewN ?_ _))) hk hat v1 h2 g2 l2 m3 t3
    clear h2 g2 l2 m2 p2 m3 t3 p3
    refine Lib.wp_append_run _ (.tmp 39) (.tmp 40) 40 40 rfl _ _ rfl rfl v1 w2 hr2 ?_
    clear hr2
    refine hK _ _ ?_
    clear hK K
    go_simp
    refine wpAny_ready (rs := [3]) (by kernel_rfl) (by simp) ?_
    refine AllReady.cons rfl (fun K hK => ?_) ?_
    · go_simp
      refine hK _ _ ?_
      clear hK K
      go_simp
      refine wpAny_ready (rs := [8]) (by kernel_rfl) (by simp) ?_
      refine AllReady.cons rfl (fun K hK => ?_) ?_
      · go_simp
        refine hK _ _ ?_
        clear hK K
        go_simp
        refine wpAny_done (by kernel_rfl) ?_ _
        have HM1 := HM.out.1
        have HM2 := HM.out.2
        have kN := note_any (d := ⟨k, false, (get k R.fs).isNone, m⟩) (v := .slice none 0 0) HM1 hdead hk (World.ownsRow_nil _ _ _ _) (by intro i hi; cases hi) rfl (by rw [bulk_put H.out hat]; omega) (Nat.le_trans (hB0 _ (Adds.refl _)) HM2.size) hml
        have kN : Calls Tryz.prog 53 #[ptr R.p, .agg #[.int .i64 k, .int .i64 (m.length : Int), .bool ((get k R.fs).isNone), .bool false, .slice none 0 0]] _ _ := kN
        have HH : Hid _ := HM2
        clear HM HM1 HM2
        go_wp2_with (go_at_call 53; refine kN.mono ?_; rintro e w9 ⟨rfl, dn, hm9, hn9⟩)
        go_ret
        exact ⟨rfl, v, v1, b, dn, hat, hm9, HH.out.trans hn9.moves⟩
      exact AllReady.nil
    exact AllReady.nil
  exact AllReady.nil

end Go.Proofs.YtelkkpomehgcjaaGreat

namespace Go.Proofs.YtelkkpomehgcjaaGreat
open Go.RowKit Go.Maps

theorem append_arg {w : World} {B : Nat} {R : Rw} (h : Mem w B R) (k : Int) (hk : ¬ (0 ≤ k ∧ k ≤ 1048576)) (x : Value) :
    Calls Tryz.prog 22 #[ptr R.p, .int .i64 k, x] w fun e w' => e = .returned (.int .i64 1) ∧ w' = w := by
  have H : Hid (Mem w B R) := h
  by_cases h0 : k < 0
  · go_enter Tryz.func22, Tryz.ntmps22
    go_wp2_with (go_at_call 34; refine (given_any H.out).mono ?_; rintro e w1 ⟨rfl, rfl⟩)
    go_ret
    exact ⟨rfl, rfl⟩
  · have h1 : 1048576 < k := by omega
    go_enter Tryz.func22, Tryz.ntmps22
    go_wp2_with (go_at_call 34; refine (given_any H.out).mono ?_; rintro e w1 ⟨rfl, rfl⟩)
    go_ret
    exact ⟨rfl, rfl⟩

theorem append_full {w : World} {B : Nat} {R : Rw} (h : Mem w B R) (k : Int) (hk : 0 ≤ k ∧ k ≤ 1048576) (x : Value) (m : List UInt8) (hx : Byt w x m) (hroom : (R.room : Int) - (total R.fs : Int) < (m.length : Int)) (hb : R.bulk ≤ 274877906944) :
    Calls Tryz.prog 22 #[ptr R.p, .int .i64 k, x] w fun e w' => e = .returned (.int .i64 2) ∧ Adds w w' := by
  have H : Hid (Mem w B R) := h
  obtain ⟨ao, cap, rfl, hcap, _⟩ := hx.open
  have kL := left_any h (by omega)
  go_enter Tryz.func22, Tryz.ntmps22
  go_wp2_with (first
    | (go_at_call 34; refine (given_any H.out).mono ?_; rintro e w1 ⟨rfl, rfl⟩)
    | (go_at_call 52; refine kL.mono ?_; rintro e wl ⟨rfl, hal⟩))
  go_ret
  exact ⟨rfl, hal⟩

theorem mem_del {w w1 : World} {B : Nat} {R : Rw} (h : Mem w B R) {k : Int} {v : Value} {b : List UInt8} (hg : get k R.fs = some (k, v, b))
    (hm1 : w1.ownsMap Tryz.prog 3 raw R.m R.fs.length ((dOf R.fs).del (.int .i64 k))) (t1 : w.mapTurned w1 R.m) :
    Mem (w1.setCell ⟨R.p, 1, none⟩ (.int .i64 ((total R.fs : Int) - (b.length : Int)))) B { R with fs := del k R.fs } ∧ Moves w R (w1.setCell ⟨R.p, 1, none⟩ (.int .i64 ((total R.fs : Int) - (b.length : Int)))) { R with fs := del k R.fs } ∧
    (w1.setCell ⟨R.p, 1, none⟩ (.int .i64 ((total R.fs : Int) - (b.length : Int)))).ownsRow B 5 1 v b.length (cellsB b) := by
  have hat : R.at k v b := .inl hg
  obtain ⟨hv, hn, hsub, hsz, htot⟩ := Rw.at_rest h hat
  obtain ⟨hp1, _, _⟩ := put_post h h.hp t1
  have hset := heap_setCell_at (i := 1) (.int .i64 ((total R.fs : Int) - (b.length : Int))) hp1 (by simp [Rw.cells])
  have hgs := grown_set w1 R.p 1 (.int .i64 ((total R.fs : Int) - (b.length : Int)))
  have ht1 := t1.grown
  have hs1 := ht1.size
  have hs3 := hgs.size
  have hkeep : ∀ i, i < w.heap.size → i ≠ R.p → i ≠ R.m → (w1.setCell ⟨R.p, 1, none⟩ (.int .i64 ((total R.fs : Int) - (b.length : Int)))).heap[i]? = w.heap[i]? := by
    intro i hi e1 e2
    rw [hgs.block i (by omega) (fun e => e1 (by simpa using e)), ht1.block i hi (fun e => e2 (by simpa using e))]
  have hrest : ({ R with fs := del k R.fs } : Rw).rows = R.rest k := rfl
  have hre := h.refile (w' := w1.setCell ⟨R.p, 1, none⟩ (.int .i64 ((total R.fs : Int) - (b.length : Int)))) (R' := { R with fs := del k R.fs }) none (fun i hi => by cases hi) ⟨hgs.os.trans ht1.os, hgs.tape.trans ht1.tape, hgs.output.trans ht1.output, by omega⟩
    (fun i hi e1 e2 _ => hkeep i hi e1 e2) rfl rfl rfl rfl ?_ ?_ (h.srt.del k) (fun x hx => h.keys x (YtelkkpomehgcjaaGreat.mem_del_iff.1 hx).1) h.files h.room h.arm h.wfl (fun x hx => .inl ⟨hsub x hx, fun _ _ e => by cases e⟩) hn (fun i hi => ?_)
  · refine ⟨hre.1, hre.2, ?_⟩
    have hr := Rw.at_row h hat
    refine row_keep hr (fun i hi => hkeep i (hr.lt i hi).2 (fun e => ?_) (fun e => ?_))
    · obtain ⟨C, hC⟩ := row_block hr hi
      rw [e, h.hp] at hC
      simp at hC
    · obtain ⟨C, hC⟩ := row_block hr hi
      obtain ⟨es, clock, hb, _⟩ := h.hm
      rw [e, hb] at hC
      cases hC
  · have e : (total (del k R.fs) : Int) = (total R.fs : Int) - (b.length : Int) := by omega
    show _ = some (Obj.cells #[.int .i64 (R.room : Int), .int .i64 (total (del k R.fs) : Int), .map (some R.m), R.dn, .int .i64 (R.count : Int), .bool R.armed, .int .i64 R.left, .bool R.gone] 67 (0, 0))
    rw [e]
    exact hset
  · rw [dOf_del k] at hm1
    have := map_tight hm1
    rw [dOf_size] at this
    exact this.setCell (fun e => map_ne h e.symm) _
  · obtain ⟨x, hx, he⟩ := mem_blocks.1 hi
    exact .inl (mem_blocks.2 ⟨x, hsub x hx, he⟩)

/-- The reel without file k. -/
def Rw.dropped (R : Rw) (k : Int) (v : Value) (b : List UInt8) (dn : Value) : Rw := ({ R with fs := del k R.fs } : Rw).noted ⟨k, true, false, b⟩ v dn

theorem drop_none {w : World} {B : Nat} {R : Rw} (h : Mem w B R) (k : Int) (hk : (Lit.int .i64 k).wf = true) (hg : get k R.fs = none) :
    Calls Tryz.prog 81 #[ptr R.p, .int .i64 k] w fun e w' => e = .returned (.int .i64 4) ∧ w' = w := by
  obtain ⟨c0, c1, c2, c3, c4, c5, c6, c7⟩ := h.cells8
  have H : Hid (Mem w B R) := h
  have hhas := dOf_has k R.fs
  rw [hg] at hhas
  simp only [Option.isSome_none] at hhas
  clear c0 c1 c3 c4 c5 c6 c7
  go_enter Tryz.func81, Tryz.ntmps81
  go_wp2_with (first
    | (go_at_call 34; refine (given_any H.out).mono ?_; rintro e w1 ⟨rfl, rfl⟩)
    | (at_lookup; refine wpList_lookup_own_ok _ rfl _ _ 64 rfl 3 40 law3 Tryz.underlying64 raw (zero44 _) (.held (.slice none 0 0)) [] rfl R.m _ (dOf R.fs) rfl H.out.hm _ (.int .i64 k) rfl (key3w hk) ?_; intro v' ps hv'))
  go_ret
  exact ⟨rfl, rfl⟩

theorem drop_any {w : World} {B : Nat} {R : Rw} (h : Mem w B R) (hdead : R.dead = []) (k : Int) (v : Value) (b : List UInt8) (hg : get k R.fs = some (k, v, b)) (hb : R.bulk ≤ 274877906944) (hB : B ≤ w.heap.size) :
    Calls Tryz.prog 81 #[ptr R.p, .int .i64 k] w fun e w' => e = .returned (.int .i64 0) ∧ ∃ dn, Mem w' B (R.dropped k v b dn) ∧ Moves w R w' (R.dropped k v b dn) := by
  obtain ⟨c0, c1, c2, c3, c4, c5, c6, c7⟩ := h.cells8
  have H : Hid (Mem w B R) := h
  have hhas := dOf_has k R.fs
  rw [hg] at hhas
  simp only [Option.isSome_some] at hhas
  have hav : (dOf R.fs).atKey (.int .i64 k) (.held (.slice none 0 0)) = .held v := by rw [dOf_at, hg]
  have hkr := h.keys _ (get_some hg).1
  simp only at hkr
  have hat : R.at k v b := .inl hg
  obtain ⟨hv, hn, hsub, hsz, htot⟩ := Rw.at_rest h hat
  have hrow := Rw.at_row h hat
  obtain ⟨ao, cp, n, rfl⟩ := row_slice hrow
  have hln : cp = b.length := by
    rcases hrow.2 with ⟨e, e'⟩ | ⟨g, cap, cur, e, _⟩
    · cases e; exact e'.symm
    · cases e; rfl
  subst hln
  have htl := R.total_le
  have hfoot : ∀ i, (Value.slice ao b.length n).ownBlock = some i → R.foot i := fun i hi => .inr (.inr (.inr (hv i hi).1))
  have HV : Hid _ := hv
  have HF : Hid _ := hfoot
  have hbk : ({ R with fs := del k R.fs } : Rw).bulk ≤ R.bulk := by
    unfold Rw.bulk
    rw [hsz]
    show size (R.rest k) + R.ds.length + R.dead.length + R.count ≤ _
    omega
  have hbt : b.length ≤ total R.fs := by omega
  clear c0 c3 c4 c5 c6 c7 hv hn hsub hsz hrow hfoot htot
  go_enter Tryz.func81, Tryz.ntmps81
  go_wp2_with (first
    | (go_at_call 34; refine (given_any H.out).mono ?_; rintro e w1 ⟨rfl, rfl⟩)
    | (at_lookup; refine wpList_lookup_own_ok _ rfl _ _ 64 rfl 3 40 law3 Tryz.underlying64 raw (zero44 _) (.held (.slice none 0 0)) [] rfl R.m _ (dOf R.fs) rfl H.out.hm _ (.int .i64 k) rfl (key3 hkr) ?_; intro v' ps hv'; obtain rfl : v' = .slice ao b.length n := by (have e1 := hv'; rw [hav] at e1; simp [raw] at e1; exact e1.1))
    | (at_delete; refine wpList_delete_own _ rfl _ _ 64 3 rfl 40 law3 Tryz.underlying64 raw R.m _ (dOf R.fs) rfl H.out.hm _ (.int .i64 k) rfl (key3 hkr) ?_; intro w2 hm2 t2; obtain ⟨p2, x2, y2⟩ := put_post H.out H.out.hp t2; obtain ⟨m3, n3, r3⟩ := mem_del H.out hg hm2 t2; have kN := note_any (d := ⟨k, true, false, b⟩) (v := .slice ao b.length n) m3 hdead hkr r3 (fun i hi => (HV.out i hi).2) rfl (by omega) (Nat.le_trans hB n3.size) (by simp [Dd.units]); have kN : Calls Tryz.prog 53 #[ptr R.p, .agg #[.int .i64 k, .int .i64 1, .bool false, .bool true, .slice ao b.length n]] _ _ := kN; have HN : Hid _ := n3; clear hm2 t2 p2 m3 r3 n3)
    | (go_at_call 53; refine kN.mono ?_; rintro e w9 ⟨rfl, dn, hm9, hn9⟩))
  go_ret
  refine ⟨rfl, dn, hm9, ?_⟩
  have n3 := HN.out
  refine ⟨hn9.os.trans n3.os, hn9.tape.trans n3.tape, hn9.output.trans n3.output, Nat.le_trans n3.size hn9.size, fun i hi hnf => ?_⟩
  obtain ⟨a1, a2⟩ := n3.block i hi hnf
  obtain ⟨b1, b2⟩ := hn9.block i (Nat.lt_of_lt_of_le hi n3.size) a2
  exact ⟨b1.trans a1, b2 (fun e => hnf (HF.out i e))⟩

end Go.Proofs.YtelkkpomehgcjaaGreat

namespace Go.Proofs.YtelkkpomehgcjaaGreat
open Go.RowKit Go.Maps

theorem row_byt {w : World} {B : Nat} {v : Value} {l : List UInt8} (h : w.ownsRow B 5 1 v l.length (cellsB l)) : Byt w v l := by
  have hc := fun g => h.cells (g := g)
  have hlt := h.lt
  rcases h.2 with ⟨rfl, hn⟩ | ⟨g, cap, cur, rfl, hb, hg, hnc, hcm, hcs, htk⟩
  · have : l = [] := List.eq_nil_of_length_eq_zero hn
    subst this
    exact ⟨none, 0, rfl, Nat.le_refl _, .inl rfl⟩
  · exact ⟨_, cap, by rw [cellsB_length], by rw [cellsB_length]; exact hnc, .inr ⟨g, 0, rfl, (hlt g rfl).2, liesV_of (hc g rfl)⟩⟩

/-- Bytes in a block from B on, which nothing else leads to; or no block. -/
theorem row_empty (w : World) (e : TypeId) : (w.alloc (.cells #[] e)).ownsRow w.heap.size e 1 (.slice (some ⟨w.heap.size, 0, none⟩) 0 0) 0 [] :=
  ⟨rfl, .inr ⟨w.heap.size, 0, #[], rfl, Nat.le_refl _, new_block _ _, Nat.le_refl _, by decide, rfl, rfl⟩⟩

theorem byte_app {ops : Array Oper} {rest : List Oper} {o : Oper} {a : Act} {w : World} {Q : Exit → Act → World → Prop} (hgd : o.guard = none) (s x : Operand) (ho : o.op = .call { callee := .builtin .append, args := #[s, x], argTypes := #[40, 40] })
    {B : Nat} {v : Value} {l : List UInt8} (h : w.ownsRow B 5 1 v l.length (cellsB l)) (hB : B ≤ w.heap.size) (hs : a.eval s = v) {x' : Value} {m : List UInt8} (hx' : Byt w x' m) (hx : a.eval x = x') (hlen : l.length + m.length ≤ 1099511627776)
    (hk : ∀ v' w', w'.ownsRow B 5 1 v' (l ++ m).length (cellsB (l ++ m)) → w.grownBy w' v.ownBlock → (v'.ownBlock = v.ownBlock ∨ v'.ownBlock = some w.heap.size) → wpList Tryz.prog ops Q rest (a.put o.dst v') w') : wpList Tryz.prog ops Q (o :: rest) a w := by
  obtain ⟨v', w', hr, h2, h3, h5⟩ := byte_append w B o.type v l h hB x' m hx' hlen
  exact Lib.wpList_append_run w hgd s x 40 40 ho v x' hs hx v' w' hr (hk v' w' h2 h3 h5)

theorem adds_of_grown {w W w' : World} (h : Adds w W) {r : Option Nat} (hg : W.grownBy w' r) (hr : ∀ i, r = some i → w.heap.size ≤ i) : Adds w w' := by
  have hb := h.below
  refine Adds.of ⟨hg.os.trans hb.os, hg.tape.trans hb.tape, hg.output.trans hb.output, Nat.le_trans hb.size hg.size, fun i hi => ?_⟩
  rw [hg.block i (Nat.lt_of_lt_of_le hi hb.size) (fun e => by have := hr i e.symm; omega)]
  exact hb.block i hi

theorem eql_none (n c : Nat) (w : World) : (binOp .eql 40 (.slice none n c) (.slice none 0 0)).run Tryz.prog w = .ok (.bool true) w := by kernel_rfl
theorem eql_some (a : Addr) (n c : Nat) (w : World) : (binOp .eql 40 (.slice (some a) n c) (.slice none 0 0)).run Tryz.prog w = .ok (.bool false) w := by kernel_rfl

theorem clone_nil (n c : Nat) (w : World) : Calls Tryz.prog 65 #[.slice none n c] w fun e w' => e = .returned (.slice none 0 0) ∧ w' = w := by
  have hb := eql_none n c w
  go_enter Tryz.func65, Tryz.ntmps65
  go_wp2
  go_ret
  exact ⟨rfl, rfl⟩

theorem clone_any (v : Value) (l : List UInt8) (w : World) (h : Byt w v l) (hlen : l.length ≤ 1099511627776) :
    Calls Tryz.prog 65 #[v] w fun e w' => ∃ r, e = .returned r ∧ w'.ownsRow w.heap.size 5 1 r l.length (cellsB l) ∧ Adds w w' := by
  have h' := h
  obtain ⟨ao, cap, rfl, hcap, ho⟩ := h.open
  cases ao with
  | none =>
    have : l = [] := by
      rcases ho with h | ⟨b, off, e, _⟩
      · exact h
      · cases e
    subst this
    refine (clone_nil _ _ w).mono ?_
    rintro e w1 ⟨rfl, rfl⟩
    exact ⟨.slice none 0 0, rfl, World.ownsRow_nil _ _ _ _, Adds.refl _⟩
  | some ad =>
    have he := row_empty w 5
    rw [show ([] : List Value) = cellsB [] from rfl, show (0 : Nat) = ([] : List UInt8).length from rfl] at he
    have ha : Adds w (w.alloc (.cells #[] 5)) := (Adds.refl _).alloc _
    have hb := eql_some ad l.length cap w
    go_enter Tryz.func65, Tryz.ntmps65
    go_wp2_with (at_builtin; refine byte_app rfl (.tmp 5) (.tmp 6) rfl he (by simp) rfl (h'.adds ha) rfl (by simpa using hlen) ?_; intro v1 w1 h1 g1 l1)
    go_ret
    rw [List.nil_append] at h1
    exact ⟨v1, rfl, h1, adds_of_grown ha g1 (fun i hi => by simp [Value.ownBlock] at hi; omega)⟩

theorem read_some {w : World} {B : Nat} {R : Rw} (h : Mem w B R) (k : Int) (v : Value) (b : List UInt8) (hg : get k R.fs = some (k, v, b)) (hb : R.bulk ≤ 1099511627776) :
    Calls Tryz.prog 80 #[ptr R.p, .int .i64 k] w fun e w' => ∃ r, e = .returned (.tuple #[r, .bool true]) ∧ w'.ownsRow w.heap.size 5 1 r b.length (cellsB b) ∧ Adds w w' := by
  obtain ⟨c0, c1, c2, c3, c4, c5, c6, c7⟩ := h.cells8
  have H : Hid (Mem w B R) := h
  have hhas := dOf_has k R.fs
  rw [hg] at hhas
  simp only [Option.isSome_some] at hhas
  have hav : (dOf R.fs).atKey (.int .i64 k) (.held (.slice none 0 0)) = .held v := by rw [dOf_at, hg]
  have hkr := h.keys _ (get_some hg).1
  simp only at hkr
  have hat : R.at k v b := .inl hg
  obtain ⟨_, _, _, hsz, _⟩ := Rw.at_rest h hat
  have hbl : b.length ≤ R.bulk := by unfold Rw.bulk; omega
  have kC := clone_any v b w (row_byt (Rw.at_row h hat)) (by omega)
  clear c0 c1 c3 c4 c5 c6 c7 hsz
  go_enter Tryz.func80, Tryz.ntmps80
  go_wp2_with (first
    | (go_at_call 34; refine (given_any H.out).mono ?_; rintro e w1 ⟨rfl, rfl⟩)
    | (at_lookup; refine wpList_lookup_own_ok _ rfl _ _ 64 rfl 3 40 law3 Tryz.underlying64 raw (zero44 _) (.held (.slice none 0 0)) [] rfl R.m _ (dOf R.fs) rfl H.out.hm _ (.int .i64 k) rfl (key3 hkr) ?_; intro v' ps hv'; obtain rfl : v' = v := by (have e1 := hv'; rw [hav] at e1; simp [raw] at e1; exact e1.1))
    | (go_at_call 65; refine kC.mono ?_; rintro e w2 ⟨r2, rfl, h2, a2⟩))
  go_ret2
  exact ⟨r2, rfl, h2, a2⟩

theorem read_none {w : World} {B : Nat} {R : Rw} (h : Mem w B R) (k : Int) (hk : (Lit.int .i64 k).wf = true) (hg : get k R.fs = none) :
    Calls Tryz.prog 80 #[ptr R.p, .int .i64 k] w fun e w' => e = .returned (.tuple #[.slice none 0 0, .bool false]) ∧ w' = w := by
  obtain ⟨c0, c1, c2, c3, c4, c5, c6, c7⟩ := h.cells8
  have H : Hid (Mem w B R) := h
  have hhas := dOf_has k R.fs
  rw [hg] at hhas
  simp only [Option.isSome_none] at hhas
  have hav : (dOf R.fs).atKey (.int .i64 k) (.held (.slice none 0 0)) = .held (.slice none 0 0) := by rw [dOf_at, hg]
  clear c0 c1 c3 c4 c5 c6 c7
  go_enter Tryz.func80, Tryz.ntmps80
  go_wp2_with (first
    | (go_at_call 34; refine (given_any H.out).mono ?_; rintro e w1 ⟨rfl, rfl⟩)
    | (at_lookup; refine wpList_lookup_own_ok _ rfl _ _ 64 rfl 3 40 law3 Tryz.underlying64 raw (zero44 _) (.held (.slice none 0 0)) [] rfl R.m _ (dOf R.fs) rfl H.out.hm _ (.int .i64 k) rfl (key3w hk) ?_; intro v' ps hv'; obtain rfl : v' = .slice none 0 0 := by (have e1 := hv'; rw [hav] at e1; simp [raw] at e1; exact e1.1))
    | (go_at_call 65; refine (clone_nil _ _ _).mono ?_; rintro e w2 ⟨rfl, rfl⟩))
  go_ret2
  exact ⟨rfl, rfl⟩

/-- An empty reel. -/
def Rw.fresh (p m room : Nat) : Rw := ⟨p, m, room, .slice none 0 0, [], [], [], 0, false, 0, false⟩

theorem new_any (room : Nat) (hr : room ≤ 1048576) (w : World) :
    Calls Tryz.prog 6 #[.int .i64 (room : Int)] w fun e w' => e = .returned (.tuple #[ptr (w.heap.size + 1), .int .i64 0]) ∧ Mem w' w.heap.size (Rw.fresh (w.heap.size + 1) w.heap.size room) ∧ Adds w w' := by
  have hmm := @run_makeMap Tryz.prog
  go_enter Tryz.func6, Tryz.ntmps6
  go_wp2
  go_ret2
  refine ⟨rfl, ⟨?_, ?_, ?_, ?_, ?_, ?_, ?_, ?_, ?_, ?_, hr, ?_, ?_⟩, ((Adds.refl _).alloc _).alloc _⟩
  · exact heap_alloc2_new _ _ _
  · exact (World.ownsMap_made w Tryz.prog 3 raw).alloc _
  · exact World.ownsRow_nil _ _ _ _
  · intro x hx
    simp [Rw.rows, Rw.fresh] at hx
  · simp [blocks, Rw.rows, Rw.fresh]
  · exact Nat.le_succ _
  · exact Nat.le_refl _
  · exact List.Pairwise.nil
  · intro x hx
    cases hx
  · intro x hx
    cases hx
  · intro e
    cases e
  · exact (wf64 (x := 0)).2 (by decide)

theorem new_bad (room : Int) (hr : room < 0 ∨ 1048576 < room) (w : World) :
    Calls Tryz.prog 6 #[.int .i64 room] w fun e w' => e = .returned (.tuple #[.pointer none, .int .i64 1]) ∧ w' = w := by
  by_cases h0 : room < 0
  · go_enter Tryz.func6, Tryz.ntmps6
    go_wp2
    go_ret2
    exact ⟨rfl, rfl⟩
  · have h1 : 1048576 < room := by omega
    go_enter Tryz.func6, Tryz.ntmps6
    go_wp2
    go_ret2
    exact ⟨rfl, rfl⟩

end Go.Proofs.YtelkkpomehgcjaaGreat

namespace Go.Proofs.YtelkkpomehgcjaaGreat
open Go.RowKit Go.Maps

/-- The last deed is undone: the files are fs now. -/
def Rw.back (R : Rw) (fs : List Fl) (ds : List (Dd × Value)) (d : Dd) (v : Value) : Rw := { R with fs := fs, ds := ds, dead := (d, v) :: R.dead }

theorem rows_last {R : Rw} {ds : List (Dd × Value)} {d : Dd} {v : Value} (he : R.ds = ds ++ [(d, v)]) : R.rows.Perm ((v, d.lost) :: (R.fs.map (·.2) ++ ds.map fun d => (d.2, d.1.lost))) := by
  unfold Rw.rows
  rw [he]
  simp only [List.map_append, List.map_cons, List.map_nil, ← List.append_assoc]
  exact List.perm_append_comm

theorem mem_back {w W w2 : World} {B : Nat} {R : Rw} (h : Mem w B R) (ha : Adds w W) {ds : List (Dd × Value)} {d : Dd} {v : Value} (he : R.ds = ds ++ [(d, v)]) (hdrop : d.drop = true) (hg : get d.file R.fs = none)
    (hm2 : w2.ownsMap Tryz.prog 3 raw R.m (R.fs.length + 1) ((dOf R.fs).put (.int .i64 d.file) (.held v))) (t2 : W.mapTurned w2 R.m) :
    Mem (w2.setCell ⟨R.p, 1, none⟩ (.int .i64 ((total R.fs : Int) + (d.data.length : Int)))) B (R.back (put d.file v d.data R.fs) ds d v) ∧ Moves w R (w2.setCell ⟨R.p, 1, none⟩ (.int .i64 ((total R.fs : Int) + (d.data.length : Int)))) (R.back (put d.file v d.data R.fs) ds d v) := by
  have hW := h.adds ha
  have hlost : d.lost = d.data := by simp [Dd.lost, hdrop]
  obtain ⟨hp2, _, _⟩ := put_post h hW.hp t2
  have hset := heap_setCell_at (i := 1) (.int .i64 ((total R.fs : Int) + (d.data.length : Int))) hp2 (by simp [Rw.cells])
  have hgs := grown_set w2 R.p 1 (.int .i64 ((total R.fs : Int) + (d.data.length : Int)))
  have ht2 := t2.grown
  have hsW := ha.below.size
  have hs2 := ht2.size
  have hs3 := hgs.size
  have hperm : (R.back (put d.file v d.data R.fs) ds d v).rows.Perm R.rows := by
    refine List.Perm.trans ?_ (rows_last he).symm
    rw [hlost]
    unfold Rw.rows Rw.back put
    have := ((perm_ins (d.file, v, d.data) (del d.file R.fs)).map (·.2)).append_right (ds.map fun d => (d.2, d.1.lost))
    rw [del_none (get_none hg)] at this ⊢
    simpa using this
  have hbp := blocks_perm hperm
  have hkeep : ∀ i, i < w.heap.size → i ≠ R.p → i ≠ R.m → (w2.setCell ⟨R.p, 1, none⟩ (.int .i64 ((total R.fs : Int) + (d.data.length : Int)))).heap[i]? = w.heap[i]? := by
    intro i hi e1 e2
    rw [hgs.block i (by omega) (fun e => e1 (by simpa using e)), ht2.block i (by omega) (fun e => e2 (by simpa using e))]
    exact ha.below.block i hi
  refine h.refile none (fun i hi => by cases hi) ⟨?_, ?_, ?_, by omega⟩ (fun i hi e1 e2 _ => hkeep i hi e1 e2) rfl rfl rfl (by simp [Rw.back, he]) ?_ ?_ (h.srt.put _ _ _) ?_ ?_ h.room h.arm h.wfl (fun x hx => .inl ⟨hperm.mem_iff.1 hx, fun _ _ e => by cases e⟩) (hbp.nodup_iff.2 h.nd) (fun i hi => .inl (hbp.mem_iff.1 hi))
  · exact (hgs.os.trans ht2.os).trans ha.below.os
  · exact (hgs.tape.trans ht2.tape).trans ha.below.tape
  · exact (hgs.output.trans ht2.output).trans ha.below.output
  · have e : (total (put d.file v d.data R.fs) : Int) = (total R.fs : Int) + (d.data.length : Int) := by
      rw [total_put, total_none hg]
      omega
    show _ = some (Obj.cells #[.int .i64 (R.room : Int), .int .i64 (total (put d.file v d.data R.fs) : Int), .map (some R.m), R.dn, .int .i64 (R.count : Int), .bool R.armed, .int .i64 R.left, .bool R.gone] 67 (0, 0))
    rw [e]
    exact hset
  · rw [dOf_put d.file v d.data] at hm2
    have := map_tight hm2
    rw [dOf_size] at this
    exact this.setCell (fun e => map_ne h e.symm) _
  · intro x hx
    rcases mem_put_iff.1 hx with rfl | ⟨hx, _⟩
    · exact h.files (d, v) (by rw [he]; simp)
    · exact h.keys x hx
  · intro x hx
    exact h.files x (by rw [he]; exact List.mem_append.2 (.inl hx))

theorem bulk_back {w : World} {B : Nat} {R : Rw} (h : Mem w B R) {ds : List (Dd × Value)} {d : Dd} {v : Value} (he : R.ds = ds ++ [(d, v)]) : R.bulk = size R.rows + (ds.length + 1) + R.dead.length + R.count := by
  have := h.srt
  unfold Rw.bulk
  rw [he]
  simp

end Go.Proofs.YtelkkpomehgcjaaGreat

namespace Go.Proofs.YtelkkpomehgcjaaGreat
open Go.RowKit Go.Maps

/-- A struct of a deed in its box. -/
def box (d : Dd) (v : Value) : Obj := .cells #[.int .i64 d.file, .int .i64 (d.units : Int), .bool d.fresh, .bool d.drop, v] 101

theorem drew_both {w w' : World} {B : Nat} {R R' : Rw} (h : Mem w' B R' ∧ Moves w R w' R') : Mem w'.drew B R' ∧ Moves w R w'.drew R' :=
  ⟨h.1.adds ((Adds.refl _).drew), h.2.trans (Moves.adds _ ((Adds.refl _).drew))⟩

theorem back_drop {w : World} {B : Nat} {R : Rw} (h : Mem w B R) {ds : List (Dd × Value)} {d : Dd} {v : Value} (he : R.ds = ds ++ [(d, v)]) (hdrop : d.drop = true) (hg : get d.file R.fs = none) (hb : R.bulk ≤ 1099511627776) (keep : Int) :
    Calls Tryz.prog 68 #[ptr R.p, .agg #[.int .i64 d.file, .int .i64 (d.units : Int), .bool d.fresh, .bool d.drop, v], .int .i64 keep] w fun e w' => e = .returned (.tuple #[]) ∧
      Mem w' B (R.back (put d.file v d.data R.fs) ds d v) ∧ Moves w R w' (R.back (put d.file v d.data R.fs) ds d v) := by
  have hlost : d.lost = d.data := by simp [Dd.lost, hdrop]
  have hin : (v, d.lost) ∈ R.rows := (rows_last he).mem_iff.2 (by simp)
  have hrow : w.ownsRow B 5 1 v d.data.length (cellsB d.data) := by
    have := h.hr _ hin
    rw [hlost] at this
    exact this
  have hfk := h.files (d, v) (by rw [he]; simp)
  simp only at hfk
  obtain ⟨ao, n, cp, rfl⟩ := row_slice hrow
  have hln : n = d.data.length := by
    rcases hrow.2 with ⟨e, e'⟩ | ⟨g, cap, cur, e, _⟩
    · cases e; exact e'.symm
    · cases e; rfl
  subst hln
  have hfew := h.few
  have htl := R.total_le
  have hsz : d.data.length ≤ R.bulk := by
    have := size_perm (rows_last he)
    rw [size_cons, hlost] at this
    unfold Rw.bulk
    simp only at this
    omega
  have hB2 : total R.fs + d.data.length ≤ 2199023255552 := by omega
  have haW : Adds w (w.alloc (box d (.slice ao d.data.length cp))).drew := ((Adds.refl _).alloc _).drew
  obtain ⟨w2, r2, m2, t2⟩ := (h.adds haW).hm.store (val := .slice ao d.data.length cp) law3 Tryz.underlying64 (by unfold maxLen; omega) (key3 hfk) (d := .held (.slice ao d.data.length cp)) (ps := []) rfl
  obtain ⟨p2, x2, y2⟩ := put_post h (h.adds haW).hp t2
  have HM : Hid _ := mem_back h haW he hdrop hg m2 t2
  have hq2 : w2.heap[w.heap.size]? = some (box d (.slice ao d.data.length cp)) := by
    rw [turned_block t2 (by have := h.hm.lt; omega) (by show w.heap.size < (w.heap.push _).size; simp)]
    exact new_block w _
  have q4 : w2.cell? ⟨w.heap.size, 4, none⟩ = some (.slice ao d.data.length cp) := cell_of_row w2 w.heap.size 4 _ _ _ hq2
  obtain ⟨c0, c1, c2, c3, c4, c5, c6, c7⟩ := h.cells8
  have hplt := (h.lt (.inl rfl)).2
  unfold box at r2
  rw [hdrop] at r2 ⊢
  clear c0 c3 c4 c5 c6 c7 hq2 m2 t2 p2 haW hrow hin he
  go_enter Tryz.func68, Tryz.ntmps68
  go_wp2
  go_cut [4] from 8 (fun q wc => q = ptr w.heap.size ∧ wc = w2)
  case first =>
    go_region
    all_goals
      go_wp2
      go_meet
      case rel => exact ⟨rfl, rfl⟩
  case rest =>
    obtain ⟨rfl, rfl⟩ := hcut
    go_wp2
    go_region
    all_goals
      go_wp2
      exact bodyPost_ret (results_none rfl _ _ _) rfl ⟨rfl, drew_both HM.out⟩

end Go.Proofs.YtelkkpomehgcjaaGreat

namespace Go.Proofs.YtelkkpomehgcjaaGreat
open Go.RowKit Go.Maps

theorem mem_step {w W X w2 : World} {B : Nat} {R : Rw} (h : Mem w B R) (ha : Adds w W) (hX : W.grownBy X (some R.p)) {ds : List (Dd × Value)} {d : Dd} {v : Value} (he : R.ds = ds ++ [(d, v)]) (fs : List Fl)
    (hpX : X.heap[R.p]? = some (.cells #[.int .i64 (R.room : Int), .int .i64 (total fs : Int), .map (some R.m), R.dn, .int .i64 (R.count : Int), .bool R.armed, .int .i64 R.left, .bool R.gone] 67 (0, 0)))
    (t2 : X.mapTurned w2 R.m) {n : Nat} (hm2 : w2.ownsMap Tryz.prog 3 raw R.m n (dOf fs)) (srt : Srt fs) (keys : ∀ x ∈ fs, 0 ≤ x.1 ∧ x.1 ≤ 1048576)
    (hrows : ∀ x ∈ (R.back fs ds d v).rows, w.ownsRow B 5 1 x.1 x.2.length (cellsB x.2)) (nd : (blocks (R.back fs ds d v).rows).Nodup) (hnew : ∀ i ∈ blocks (R.back fs ds d v).rows, i ∈ blocks R.rows) :
    Mem w2 B (R.back fs ds d v) ∧ Moves w R w2 (R.back fs ds d v) := by
  have ht2 := t2.grown
  have hsW := ha.below.size
  have hsX := hX.size
  have hs2 := ht2.size
  have hpl := (Array.getElem?_eq_some_iff.1 hpX).1
  have hkeep : ∀ i, i < w.heap.size → i ≠ R.p → i ≠ R.m → w2.heap[i]? = w.heap[i]? := by
    intro i hi e1 e2
    rw [ht2.block i (by omega) (fun e => e2 (by simpa using e)), hX.block i (by omega) (fun e => e1 (by simpa using e))]
    exact ha.below.block i hi
  refine h.refile none (fun i hi => by cases hi) ⟨?_, ?_, ?_, by omega⟩ (fun i hi e1 e2 _ => hkeep i hi e1 e2) rfl rfl rfl (by simp [Rw.back, he]) ?_ ?_ srt keys ?_ h.room h.arm h.wfl (fun x hx => .inr ?_) nd (fun i hi => .inl (hnew i hi))
  · exact (ht2.os.trans hX.os).trans ha.below.os
  · exact (ht2.tape.trans hX.tape).trans ha.below.tape
  · exact (ht2.output.trans hX.output).trans ha.below.output
  · show w2.heap[R.p]? = _
    rw [ht2.block R.p hpl (fun e => map_ne h (by simpa using e))]
    exact hpX
  · have := map_tight hm2
    rw [dOf_size] at this
    exact this
  · intro x hx
    exact h.files x (by rw [he]; exact List.mem_append.2 (.inl hx))
  · have hr := hrows x hx
    refine row_keep hr (fun i hi => hkeep i (hr.lt i hi).2 (fun e => ?_) (fun e => ?_))
    · obtain ⟨C, hC⟩ := row_block hr hi
      rw [e, h.hp] at hC
      simp at hC
    · obtain ⟨C, hC⟩ := row_block hr hi
      obtain ⟨es, clock, hb, _⟩ := h.hm
      rw [e, hb] at hC
      cases hC

theorem wp_delete_run (w : World) {o : Oper} {a : Act} {K : Act → World → Prop} {Q : Exit → Act → World → Prop} (m x : Operand) (ho : o.op = .call { callee := .builtin .delete, args := #[m, x], argTypes := #[64, 3] })
    (mv kv : Value) (hm : a.eval m = mv) (hx : a.eval x = kv) (w' : World) (hr : (Builtin.delete_ #[64, 3] o.type #[mv, kv]).run Tryz.prog w = .ok (.tuple #[]) w') (h : K (a.put o.dst (.tuple #[])) w') : Oper.wp Tryz.prog o a w K Q := by
  unfold Oper.wp
  simp [execOp, ho, resolve, invoke, builtin, hm, hx, hr, Result.andThen]
  exact h

theorem delete_step {ops : Array Oper} {o : Oper} {a : Act} {w : World} {K : Act → World → Prop} {Q : Exit → Act → World → Prop} {E : Prop} (hgd : o.guard = none) (m x : Operand) (ho : o.op = .call { callee := .builtin .delete, args := #[m, x], argTypes := #[64, 3] })
    (mv kv : Value) (hm : a.eval m = mv) (hx : a.eval x = kv) (w' : World) (hr : (Builtin.delete_ #[64, 3] o.type #[mv, kv]).run Tryz.prog w = .ok (.tuple #[]) w') (h : K (a.put o.dst (.tuple #[])) w') :
    if Region.wanted o (yielded ops a.tmps) = true then Oper.wp Tryz.prog o a w K Q else E := by
  have hw : Region.wanted o (yielded ops a.tmps) = true := by simp [Region.wanted, hgd]
  rw [if_pos hw]
  exact wp_delete_run w m x ho mv kv hm hx w' hr h

/-- A slice of the first bytes, as the call itself makes it. -/
theorem row_cut {w : World} {B : Nat} {ao : Option Addr} {n cp : Nat} {l : List UInt8} (h : w.ownsRow B 5 1 (.slice ao n cp) l.length (cellsB l)) (k : Nat) (hk : k ≤ l.length) : w.ownsRow B 5 1 (.slice ao k cp) (l.take k).length (cellsB (l.take k)) := by
  have hl : (l.take k).length = k := by simp; omega
  rw [hl]
  refine ⟨by rw [cellsB_length, hl]; omega, ?_⟩
  rcases h.2 with ⟨e, hn⟩ | ⟨g, cap, cur, e, hb, hg, hnc, hcm, hcs, htk⟩
  · cases e
    have : k = 0 := by omega
    subst this
    exact .inl ⟨rfl, rfl⟩
  · cases e
    refine .inr ⟨g, cp, cur, rfl, hb, hg, by omega, hcm, hcs, ?_⟩
    have := congrArg (List.take k) htk
    rw [List.take_take] at this
    rw [Nat.mul_one]
    rw [Nat.mul_one, Nat.min_eq_left hk] at this
    rw [this]
    simp [cellsB, List.map_take]

end Go.Proofs.YtelkkpomehgcjaaGreat

namespace Go.Proofs.YtelkkpomehgcjaaGreat
open Go.RowKit Go.Maps

theorem set_grown {w : World} {p i : Nat} {v : Value} {o : Obj} : (w.alloc o).grownBy ((w.alloc o).setCell ⟨p, i, none⟩ v).drew (some p) := grown_drew (grown_set _ p i v)

theorem rest_last {R : Rw} {ds : List (Dd × Value)} {d : Dd} {v : Value} (he : R.ds = ds ++ [(d, v)]) (k : Int) : R.rest k = ((del k R.fs).map (·.2) ++ ds.map fun d => (d.2, d.1.lost)) ++ [(v, d.lost)] := by
  unfold Rw.rest
  rw [he]
  simp

theorem blocks_left {l m : List (Value × List UInt8)} (h : (blocks (l ++ m)).Nodup) : (blocks l).Nodup := by
  unfold blocks at h ⊢
  rw [List.filterMap_append] at h
  exact (List.nodup_append.1 h).1

theorem back_fresh {w : World} {B : Nat} {R : Rw} (h : Mem w B R) {ds : List (Dd × Value)} {d : Dd} {v : Value} (he : R.ds = ds ++ [(d, v)]) (hdrop : d.drop = false) (hfr : d.fresh = true) {vb : Value} {b : List UInt8} (hg : get d.file R.fs = some (d.file, vb, b)) (hbl : d.data.length = b.length)
    (hb : R.bulk ≤ 1099511627776) :
    Calls Tryz.prog 68 #[ptr R.p, .agg #[.int .i64 d.file, .int .i64 (d.units : Int), .bool d.fresh, .bool d.drop, v], .int .i64 0] w fun e w' => e = .returned (.tuple #[]) ∧
      Mem w' B (R.back (del d.file R.fs) ds d v) ∧ Moves w R w' (R.back (del d.file R.fs) ds d v) := by
  have hun : d.units = b.length := by simp [Dd.units, hdrop, hbl]
  have hfk := h.files (d, v) (by rw [he]; simp)
  simp only at hfk
  have hat : R.at d.file vb b := .inl hg
  obtain ⟨hv, hn, hsub, hsz, htot⟩ := Rw.at_rest h hat
  have htl := R.total_le
  rw [rest_last he] at hn hsub
  have hn' := blocks_left hn
  have hplt := (h.lt (.inl rfl)).2
  have hfew := h.few
  have hp0 : (w.alloc (box d v)).heap[R.p]? = some (.cells R.cells 67 (0, 0)) := (h.adds ((Adds.refl _).alloc _)).hp
  have hset := heap_setCell_at (i := 1) (.int .i64 ((total R.fs : Int) - (b.length : Int))) hp0 (by simp [Rw.cells])
  have hmX : ((w.alloc (box d v)).setCell ⟨R.p, 1, none⟩ (.int .i64 ((total R.fs : Int) - (b.length : Int)))).drew.ownsMap Tryz.prog 3 raw R.m R.fs.length (dOf R.fs) :=
    ((h.adds ((Adds.refl _).alloc _)).hm.setCell (fun e => map_ne h e.symm) _)
  obtain ⟨w2, r2, m2, t2⟩ := hmX.drop law3 Tryz.underlying64 (key3 hfk) 0
  have HM : Hid _ := mem_step h ((Adds.refl _).alloc _) set_grown he (del d.file R.fs) (by rw [show (total (del d.file R.fs) : Int) = (total R.fs : Int) - (b.length : Int) by omega]; exact hset) t2 (by rw [dOf_del] at m2; exact m2) (h.srt.del _) (fun x hx => h.keys x (mem_del_iff.1 hx).1)
    (fun x hx => h.hr x (hsub x (List.mem_append.2 (.inl hx)))) hn' (fun i hi => by
      obtain ⟨x, hx, hxe⟩ := mem_blocks.1 hi
      exact mem_blocks.2 ⟨x, hsub x (List.mem_append.2 (.inl hx)), hxe⟩)
  obtain ⟨c0, c1, c2, c3, c4, c5, c6, c7⟩ := h.cells8
  have hfz := h.thaw
  have hbt : b.length ≤ total R.fs := by omega
  have hpq : R.p ≠ w.heap.size := by omega
  rw [World.setCell_alloc_past _ _ _ _ hplt] at r2
  unfold box at r2
  rw [hdrop, hfr, hun] at r2 ⊢
  clear c0 c3 c4 c5 c6 c7 m2 t2 hmX hset hp0 hn hn' hsub hv he hsz htot hbl hun hdrop hfr
  go_enter Tryz.func68, Tryz.ntmps68
  go_wp2
  go_region_law (refine delete_step rfl (.tmp 49) (.tmp 51) rfl (.map (some R.m)) (.int .i64 d.file) rfl rfl w2 r2 ?_)
  all_goals
    go_wp2
    exact bodyPost_ret (results_none rfl _ _ _) rfl ⟨rfl, HM.out⟩

end Go.Proofs.YtelkkpomehgcjaaGreat

namespace Go.Proofs.YtelkkpomehgcjaaGreat
open Go.RowKit Go.Maps

theorem set_grown2 {w : World} {p i : Nat} {v : Value} {o : Obj} : (w.alloc o).grownBy ((w.alloc o).setCell ⟨p, i, none⟩ v).drew.drew (some p) := grown_drew (grown_drew (grown_set _ p i v))

theorem back_trim {w : World} {B : Nat} {R : Rw} (h : Mem w B R) {ds : List (Dd × Value)} {d : Dd} {v : Value} (he : R.ds = ds ++ [(d, v)]) (hdrop : d.drop = false) (keep : Nat) (hfr : d.fresh = false ∨ keep ≠ 0) {ao : Option Addr} {cp : Nat} {b : List UInt8} (hg : get d.file R.fs = some (d.file, .slice ao b.length cp, b))
    (n c : Nat) (hc : (d.units : Int) - (keep : Int) = (c : Int)) (hn : b.length = n + c) (hb : R.bulk ≤ 1099511627776) (_hu : d.units ≤ 1099511627776) :
    Calls Tryz.prog 68 #[ptr R.p, .agg #[.int .i64 d.file, .int .i64 (d.units : Int), .bool d.fresh, .bool d.drop, v], .int .i64 (keep : Int)] w fun e w' => e = .returned (.tuple #[]) ∧
      Mem w' B (R.back (put d.file (.slice ao n cp) (b.take n) R.fs) ds d v) ∧ Moves w R w' (R.back (put d.file (.slice ao n cp) (b.take n) R.fs) ds d v) := by
  have hfk := h.files (d, v) (by rw [he]; simp)
  simp only at hfk
  have hat : R.at d.file (.slice ao b.length cp) b := .inl hg
  have hrow := Rw.at_row h hat
  obtain ⟨hv, hnd, hsub, hsz, htot⟩ := Rw.at_rest h hat
  have htl := R.total_le
  rw [rest_last he] at hnd hsub hv
  have hnd' := blocks_left hnd
  have hplt := (h.lt (.inl rfl)).2
  have hfew := h.few
  have hp0 : (w.alloc (box d v)).heap[R.p]? = some (.cells R.cells 67 (0, 0)) := (h.adds ((Adds.refl _).alloc _)).hp
  have hset := heap_setCell_at (i := 1) (.int .i64 ((total R.fs : Int) - (c : Int))) hp0 (by simp [Rw.cells])
  have hmX : ((w.alloc (box d v)).setCell ⟨R.p, 1, none⟩ (.int .i64 ((total R.fs : Int) - (c : Int)))).ownsMap Tryz.prog 3 raw R.m R.fs.length (dOf R.fs) :=
    ((h.adds ((Adds.refl _).alloc _)).hm.setCell (fun e => map_ne h e.symm) _)
  have hlook : (Instr.lookup 64 (.map (some R.m)) (.int .i64 d.file) false).run Tryz.prog ((w.alloc (box d v)).setCell ⟨R.p, 1, none⟩ (.int .i64 ((total R.fs : Int) - (c : Int)))).drew = .ok (.slice ao b.length cp) ((w.alloc (box d v)).setCell ⟨R.p, 1, none⟩ (.int .i64 ((total R.fs : Int) - (c : Int)))).drew := by
    obtain ⟨v', ps, hr, hv'⟩ := hmX.drew.lookup law3 Tryz.underlying64 (zero44 _) (zd := .held (.slice none 0 0)) (zp := []) rfl (key3 hfk)
    rw [dOf_at, hg] at hv'
    simp [raw] at hv'
    rw [hr, hv'.1]
  obtain ⟨w2, r2, m2, t2⟩ := hmX.drew.drew.store (val := .slice ao n cp) law3 Tryz.underlying64 (by unfold maxLen; omega) (key3 hfk) (d := .held (.slice ao n cp)) (ps := []) rfl
  have hperm : (R.back (put d.file (.slice ao n cp) (b.take n) R.fs) ds d v).rows.Perm ((.slice ao n cp, b.take n) :: ((del d.file R.fs).map (·.2) ++ ds.map fun d => (d.2, d.1.lost))) := by
    have := ((perm_ins (d.file, .slice ao n cp, b.take n) (del d.file R.fs)).map (·.2)).append_right (ds.map fun d => (d.2, d.1.lost))
    simpa [Rw.rows, Rw.back, put] using this
  have hbp := blocks_perm hperm
  rw [blocks_cons] at hbp
  have hob : (Value.slice ao n cp).ownBlock = (Value.slice ao b.length cp).ownBlock := by cases ao <;> rfl
  have hbn : (b.take n).length = n := by simp; omega
  have HM : Hid _ := mem_step h ((Adds.refl _).alloc _) set_grown2 he (put d.file (.slice ao n cp) (b.take n) R.fs) (by rw [show (total (put d.file (.slice ao n cp) (b.take n) R.fs) : Int) = (total R.fs : Int) - (c : Int) by rw [total_put, hbn]; omega]; exact hset) t2 (by rw [dOf_put _ _ (b.take n)] at m2; exact m2) (h.srt.put _ _ _)
    (fun x hx => by
      rcases mem_put_iff.1 hx with rfl | ⟨hx, _⟩
      · exact hfk
      · exact h.keys x hx)
    (fun x hx => by
      rcases List.mem_cons.1 (hperm.mem_iff.1 hx) with rfl | hx
      · exact row_cut hrow n (by omega)
      · exact h.hr x (hsub x (List.mem_append.2 (.inl hx))))
    (hbp.nodup_iff.2 (List.nodup_append.2 ⟨by cases (Value.slice ao n cp).ownBlock <;> simp, hnd', fun i hi j hj e => by
      subst e
      have hi' : (Value.slice ao n cp).ownBlock = some i := by simpa using hi
      rw [hob] at hi'
      obtain ⟨x, hx, hxe⟩ := mem_blocks.1 hj
      exact (hv i hi').2 (mem_blocks.2 ⟨x, List.mem_append.2 (.inl hx), hxe⟩)⟩))
    (fun i hi => by
      rcases List.mem_append.1 (hbp.mem_iff.1 hi) with hi | hi
      · have hi' : (Value.slice ao n cp).ownBlock = some i := by simpa using hi
        rw [hob] at hi'
        exact (hv i hi').1
      · obtain ⟨x, hx, hxe⟩ := mem_blocks.1 hi
        exact mem_blocks.2 ⟨x, hsub x (List.mem_append.2 (.inl hx)), hxe⟩)
  obtain ⟨c0, c1, c2, c3, c4, c5, c6, c7⟩ := h.cells8
  have hfz := h.thaw
  have hbt : b.length ≤ total R.fs := by omega
  have hpq : R.p ≠ w.heap.size := by omega
  have hbc : (b.length : Int) - (c : Int) = (n : Int) := by omega
  have hbm : b.length ≤ cp := by
    rcases hrow.2 with ⟨e, e'⟩ | ⟨g, cap, cur, e, _, _, hh, _⟩
    · simp only [Value.slice.injEq] at e
      omega
    · simp only [Value.slice.injEq] at e
      omega
  have hk : d.fresh = true → 0 < keep := by
    intro e
    rcases hfr with e' | e'
    · rw [e'] at e
      cases e
    · omega
  have hnb : n ≤ b.length := by omega
  have hcb : c ≤ b.length := by omega
  rw [World.setCell_alloc_past _ _ _ _ hplt] at r2 hlook
  unfold box at r2 hlook
  rw [hdrop] at r2 hlook ⊢
  clear c0 c3 c4 c5 c6 c7 m2 t2 hmX hset hp0 hnd hnd' hsub hv he hsz htot hdrop hrow hperm hbp hob hbn hat hn hfr
  generalize d.units = U at *
  generalize d.fresh = fr at *
  cases fr
  · clear hk
    go_enter Tryz.func68, Tryz.ntmps68
    go_wp2
    go_region
    all_goals
      go_wp2
      go_region
    all_goals
      go_wp2
      go_end0
      exact ⟨rfl, HM.out⟩
  · have hk0 : ((keep : Int) == 0) = false := by
      have := hk rfl
      simp
      omega
    clear hk
    go_enter Tryz.func68, Tryz.ntmps68
    go_wp2
    go_region
    all_goals
      go_wp2
      go_region
    all_goals
      go_wp2
      go_end0
      exact ⟨rfl, HM.out⟩

end Go.Proofs.YtelkkpomehgcjaaGreat

namespace Go.Proofs.YtelkkpomehgcjaaGreat
open Go.RowKit Go.Maps

abbrev Fs := Int → Option (List UInt8)

def Fs.set (f : Fs) (k : Int) (x : Option (List UInt8)) : Fs := fun j => if j = k then x else f j

def filesF (l : List Fl) : Fs := fun k => (get k l).map (·.2.2)

theorem filesF_put {l : List Fl} (h : Srt l) (k : Int) (v : Value) (b : List UInt8) : filesF (put k v b l) = (filesF l).set k (some b) := by
  funext j
  unfold filesF Fs.set
  rw [get_put h]
  split <;> simp_all

theorem filesF_del {l : List Fl} (h : Srt l) (k : Int) : filesF (del k l) = (filesF l).set k none := by
  funext j
  unfold filesF Fs.set
  rw [get_del h]
  split <;> simp_all

theorem set_set (f : Fs) (k : Int) (x y : Option (List UInt8)) : (f.set k x).set k y = f.set k y := by
  funext j
  unfold Fs.set
  split <;> simp_all

theorem set_self (f : Fs) (k : Int) (x : Option (List UInt8)) (h : f k = x) : f.set k x = f := by
  funext j
  unfold Fs.set
  split
  · rename_i e
    rw [e, h]
  · rfl

theorem set_at (f : Fs) (k : Int) (x : Option (List UInt8)) : f.set k x k = x := by simp [Fs.set]

/-- What a deed does. -/
def step (f : Fs) (d : Dd) : Fs := if d.drop then f.set d.file none else f.set d.file (some ((f d.file).getD [] ++ d.data))

/-- A deed that could be done. -/
def okD (f : Fs) (d : Dd) : Prop := if d.drop then f d.file = some d.data else d.fresh = (f d.file).isNone

def replay (f : Fs) (ds : List Dd) : Fs := ds.foldl step f

def okAll : Fs → List Dd → Prop
  | _, [] => True
  | f, d :: r => okD f d ∧ okAll (step f d) r

theorem replay_append (f : Fs) (a b : List Dd) : replay f (a ++ b) = replay (replay f a) b := by simp [replay]
theorem replay_one (f : Fs) (d : Dd) : replay f [d] = step f d := rfl

theorem okAll_append : ∀ (f : Fs) (a b : List Dd), okAll f (a ++ b) ↔ okAll f a ∧ okAll (replay f a) b
  | f, [], b => by simp [okAll, replay]
  | f, d :: r, b => by
    show okD f d ∧ okAll (step f d) (r ++ b) ↔ (okD f d ∧ okAll (step f d) r) ∧ okAll (replay (step f d) r) b
    rw [okAll_append (step f d) r b, and_assoc]

/-- So many units of a deed. -/
def part (f : Fs) (d : Dd) (n : Nat) : Fs := if n = 0 then f else step f { d with data := d.data.take n }

/-- The last deed undone but n units. -/
theorem back_any {w : World} {B : Nat} {R : Rw} (h : Mem w B R) {ds : List (Dd × Value)} {d : Dd} {v : Value} (he : R.ds = ds ++ [(d, v)]) {f : Fs} (hf : filesF R.fs = step f d) (hok : okD f d) (n : Nat) (hn : n = 0 ∨ n < d.units)
    (hb : R.bulk ≤ 1099511627776) :
    Calls Tryz.prog 68 #[ptr R.p, .agg #[.int .i64 d.file, .int .i64 (d.units : Int), .bool d.fresh, .bool d.drop, v], .int .i64 (n : Int)] w fun e w' => e = .returned (.tuple #[]) ∧
      ∃ fs, Mem w' B (R.back fs ds d v) ∧ Moves w R w' (R.back fs ds d v) ∧ filesF fs = part f d n ∧ size (R.back fs ds d v).rows ≤ size R.rows := by
  cases hd : d.drop
  · -- bytes were appended
    have hfile : filesF R.fs d.file = some ((f d.file).getD [] ++ d.data) := by rw [hf]; simp [step, hd, set_at]
    have hfr : d.fresh = (f d.file).isNone := by simpa [okD, hd] using hok
    have hun : d.units = d.data.length := by simp [Dd.units, hd]
    unfold filesF at hfile
    cases hg : get d.file R.fs with
    | none => rw [hg] at hfile; cases hfile
    | some p =>
      obtain ⟨j, vb, b⟩ := p
      obtain ⟨hmem, hj⟩ := get_some hg
      simp only at hj
      subst hj
      rw [hg] at hfile
      simp only [Option.map_some, Option.some.injEq] at hfile
      have hat : R.at d.file vb b := .inl hg
      have hrow := Rw.at_row h hat
      obtain ⟨_, _, _, hsz, _⟩ := Rw.at_rest h hat
      rw [rest_last he] at hsz
      have hbl : b.length ≤ R.bulk := by unfold Rw.bulk; omega
      have hdl : d.data.length ≤ b.length := by rw [hfile]; simp
      by_cases hcase : d.fresh = true ∧ n = 0
      · obtain ⟨h1, rfl⟩ := hcase
        have hnone : f d.file = none := by
          rw [h1] at hfr
          simpa using hfr.symm
        have hbd : b = d.data := by rw [hfile, hnone]; rfl
        have key := back_fresh h he hd h1 hg (by rw [hbd]) hb
        rw [hd] at key
        rw [show ((0 : Nat) : Int) = 0 from rfl]
        refine key.mono ?_
        rintro e w1 ⟨rfl, hm, hmv⟩
        refine ⟨rfl, _, hm, hmv, ?_, ?_⟩
        · rw [filesF_del h.srt, hf]
          simp [part, step, hd, set_set, set_self f d.file none hnone]
        · show size ((del d.file R.fs).map (·.2) ++ ds.map fun d => (d.2, d.1.lost)) ≤ _
          rw [hsz]
          simp [size]
          omega
      · obtain ⟨ao, nn, cp, rfl⟩ := row_slice hrow
        have hln : nn = b.length := by
          rcases hrow.2 with ⟨e, e'⟩ | ⟨g, cap, cur, e, _⟩
          · simp only [Value.slice.injEq] at e
            omega
          · simp only [Value.slice.injEq] at e
            omega
        subst hln
        have hnle : n ≤ d.data.length := by omega
        have key := back_trim h he hd n (by
            rcases Nat.eq_zero_or_pos n with h0 | h0
            · left
              cases hx : d.fresh
              · rfl
              · exact absurd ⟨hx, h0⟩ hcase
            · right
              omega) hg (b.length - (d.data.length - n)) (d.data.length - n) (by rw [hun]; omega) (by omega) hb (by omega)
        rw [hd] at key
        refine key.mono ?_
        rintro e w1 ⟨rfl, hm, hmv⟩
        have htk : b.take (b.length - (d.data.length - n)) = (f d.file).getD [] ++ d.data.take n := by
          have hlb : b.length = ((f d.file).getD []).length + d.data.length := by rw [hfile]; simp
          rw [show b.length - (d.data.length - n) = ((f d.file).getD []).length + n by omega]
          conv => lhs; rw [hfile]
          rw [List.take_append]
          simp
          exact List.take_of_length_le (by omega)
        refine ⟨rfl, _, hm, hmv, ?_, ?_⟩
        · rw [filesF_put h.srt, hf, htk]
          unfold part
          by_cases h0 : n = 0
          · rw [if_pos h0]
            have hns : f d.file = some ((f d.file).getD []) := by
              cases hx : f d.file with
              | none =>
                rw [hx] at hfr
                exact absurd ⟨hfr, h0⟩ hcase
              | some y => rfl
            subst h0
            simp only [step, hd, Bool.false_eq_true, if_false, set_set, List.take_zero, List.append_nil]
            exact set_self f d.file _ hns
          · rw [if_neg h0]
            simp [step, hd, set_set]
        · have hperm : (R.back (put d.file (.slice ao (b.length - (d.data.length - n)) cp) (b.take (b.length - (d.data.length - n))) R.fs) ds d v).rows.Perm ((.slice ao (b.length - (d.data.length - n)) cp, b.take (b.length - (d.data.length - n))) :: ((del d.file R.fs).map (·.2) ++ ds.map fun d => (d.2, d.1.lost))) := by
            have := ((perm_ins (d.file, .slice ao (b.length - (d.data.length - n)) cp, b.take (b.length - (d.data.length - n))) (del d.file R.fs)).map (·.2)).append_right (ds.map fun d => (d.2, d.1.lost))
            simpa [Rw.rows, Rw.back, put] using this
          rw [size_perm hperm, size_cons, hsz]
          simp [size]
          omega
  · -- a file was dropped
    have hn0 : n = 0 := by
      have : d.units = 1 := by simp [Dd.units, hd]
      omega
    subst hn0
    have hfd : f d.file = some d.data := by simpa [okD, hd] using hok
    have hnone : get d.file R.fs = none := by
      have : filesF R.fs d.file = none := by rw [hf]; simp [step, hd, set_at]
      simpa [filesF] using this
    have key := back_drop h he hd hnone hb 0
    rw [hd] at key
    rw [show ((0 : Nat) : Int) = 0 from rfl]
    refine key.mono ?_
    rintro e w1 ⟨rfl, hm, hmv⟩
    refine ⟨rfl, _, hm, hmv, ?_, ?_⟩
    · rw [filesF_put h.srt, hf]
      simp [part, step, hd, set_set, set_self f d.file _ hfd]
    · have hlost : d.lost = d.data := by simp [Dd.lost, hd]
      have hperm : (R.back (put d.file v d.data R.fs) ds d v).rows.Perm R.rows := by
        refine List.Perm.trans ?_ (rows_last he).symm
        rw [hlost]
        unfold Rw.rows Rw.back put
        have := ((perm_ins (d.file, v, d.data) (del d.file R.fs)).map (·.2)).append_right (ds.map fun d => (d.2, d.1.lost))
        rw [del_none (get_none hnone)] at this ⊢
        simpa using this
      rw [size_perm hperm]
      exact Nat.le_refl _

end Go.Proofs.YtelkkpomehgcjaaGreat

namespace Go.Proofs.YtelkkpomehgcjaaGreat
open Go.RowKit Go.Maps

/-- How many deeds stay whole, and how many units more. -/
def scan : List Dd → Nat → Nat × Nat
  | [], n => (0, n)
  | d :: r, n => if d.units ≤ n then ((scan r (n - d.units)).1 + 1, (scan r (n - d.units)).2) else (0, n)

theorem scan_le : ∀ (ds : List Dd) (n : Nat), (scan ds n).1 ≤ ds.length
  | [], _ => Nat.le_refl _
  | d :: r, n => by
    unfold scan
    split
    · simpa using scan_le r (n - d.units)
    · simp

/-- Files behind so many units. -/
def keepF (f : Fs) (ds : List Dd) (n : Nat) : Fs :=
  match ds.drop (scan ds n).1 with
  | [] => replay f (ds.take (scan ds n).1)
  | d :: _ => part (replay f (ds.take (scan ds n).1)) d (scan ds n).2

theorem scan_at : ∀ (ds : List Dd) (n : Nat) (h : (scan ds n).1 < ds.length), (scan ds n).2 < (ds[(scan ds n).1]).units
  | [], _, h => by simp [scan] at h
  | d :: r, n, h => by
    unfold scan at h ⊢
    split
    · rename_i hd
      rw [if_pos hd] at h
      simp only [List.length_cons, Nat.add_lt_add_iff_right] at h
      exact scan_at r _ h
    · rename_i hd
      simp
      omega

theorem scan_snd : ∀ (ds : List Dd) (n : Nat), (scan ds n).2 ≤ n
  | [], _ => Nat.le_refl _
  | d :: r, n => by
    unfold scan
    split
    · exact Nat.le_trans (scan_snd r (n - d.units)) (Nat.sub_le _ _)
    · exact Nat.le_refl _

theorem scan_cons (d : Dd) (r : List Dd) (n : Nat) : scan (d :: r) n = if d.units ≤ n then ((scan r (n - d.units)).1 + 1, (scan r (n - d.units)).2) else (0, n) := rfl

/-- A deed in the row. -/
theorem deed_cells {w : World} {B : Nat} {dn : Value} {ds : List (Dd × Value)} (h : w.ownsRow B 101 5 dn ds.length (cellsD ds)) (i : Nat) (hi : i < ds.length) :
    ∃ g cap, dn = .slice (some ⟨g, 0, none⟩) ds.length cap ∧ ds.length ≤ cap ∧ g < w.heap.size ∧ ∀ r, r < 5 → w.cell? ⟨g, i * 5 + r, none⟩ = (ds[i].1.cells ds[i].2)[r]? := by
  have hc := fun g => h.cells (g := g)
  have hlt := h.lt
  rcases h.2 with ⟨rfl, hn⟩ | ⟨g, cap, cur, rfl, hb, hg, hnc, _⟩
  · omega
  · refine ⟨g, cap, rfl, hnc, (hlt g rfl).2, fun r hr => ?_⟩
    have := hc g rfl (i * 5 + r)
    rw [cellsD_get ds i hi r hr] at this
    rw [add_at, Nat.zero_add] at this
    have hx : (ds[i].1.cells ds[i].2)[r]? = some ((ds[i].1.cells ds[i].2)[r]'(by simpa [Dd.cells] using hr)) := by simp
    rw [hx]
    exact this _ hx

/-- The reel R with all deeds behind the first j undone. -/
structure Undone (w : World) (B : Nat) (R : Rw) (f : Fs) (D : List Dd) (j : Nat) (W : World) (R' : Rw) : Prop where
  mem : Mem W B R'
  moves : Moves w R W R'
  ds : R'.ds = R.ds.take j
  dead : R'.dead = R.ds.drop j
  dn : R'.dn = R.dn
  p : R'.p = R.p
  m : R'.m = R.m
  room : R'.room = R.room
  files : filesF R'.fs = replay f (D.take j)
  size : size R'.rows ≤ size R.rows
  count : R'.count = R.count

theorem Undone.bulk {w W : World} {B : Nat} {R R' : Rw} {f : Fs} {D : List Dd} {j : Nat} (h : Undone w B R f D j W R') (hd : R.dead = []) : R'.bulk ≤ R.bulk := by
  have h1 := h.size
  unfold Rw.bulk
  rw [h.ds, h.dead, h.count, hd]
  simp only [List.length_take, List.length_drop, List.length_nil]
  omega

theorem Undone.cells {w W : World} {B : Nat} {R R' : Rw} {f : Fs} {D : List Dd} {j : Nat} (h : Undone w B R f D j W R') : W.ownsRow B 101 5 R.dn R.ds.length (cellsD R.ds) := by
  have := h.mem.hd
  rwa [h.ds, h.dead, List.take_append_drop, h.dn] at this

theorem Undone.last {w W : World} {B : Nat} {R R' : Rw} {f : Fs} {D : List Dd} {j : Nat} (h : Undone w B R f D (j + 1) W R') (hj : j < R.ds.length) : ∃ ao l c, R.ds[j].2 = .slice ao l c := by
  have : (R.ds[j].2, R.ds[j].1.lost) ∈ R'.rows := by
    refine List.mem_append.2 (.inr (List.mem_map.2 ⟨R.ds[j], ?_, rfl⟩))
    rw [h.ds, List.take_succ_eq_append_getElem hj]
    exact List.mem_append_right _ (List.mem_singleton.2 rfl)
  exact row_slice (h.mem.hr _ this)

/-- One deed more undone. -/
theorem Undone.back {w W : World} {B : Nat} {R R' : Rw} {f : Fs} {D : List Dd} {j : Nat} (h : Undone w B R f D (j + 1) W R') (hd : R.dead = []) (hD : D = R.ds.map (·.1)) (hok : okAll f D) (hj : j < R.ds.length) (hb : R.bulk ≤ 1099511627776) (n : Nat) (hn : n = 0 ∨ n < R.ds[j].1.units) :
    Calls Tryz.prog 68 #[ptr R.p, .agg #[.int .i64 R.ds[j].1.file, .int .i64 (R.ds[j].1.units : Int), .bool R.ds[j].1.fresh, .bool R.ds[j].1.drop, R.ds[j].2], .int .i64 (n : Int)] W fun e w' => e = .returned (.tuple #[]) ∧
      ∃ R'', Mem w' B R'' ∧ Moves w R w' R'' ∧ filesF R''.fs = part (replay f (D.take j)) R.ds[j].1 n ∧ R''.ds = R.ds.take j ∧ R''.dead = R.ds.drop j ∧ R''.dn = R.dn ∧ R''.p = R.p ∧ R''.m = R.m ∧ R''.room = R.room ∧ YtelkkpomehgcjaaGreat.size R''.rows ≤ YtelkkpomehgcjaaGreat.size R.rows ∧ R''.count = R.count := by
  have hDl : D.length = R.ds.length := by rw [hD]; simp
  have hDj : D[j]'(by omega) = R.ds[j].1 := by simp [hD]
  have he : R'.ds = R.ds.take j ++ [(R.ds[j].1, R.ds[j].2)] := by
    rw [h.ds, List.take_succ_eq_append_getElem hj]
  have hDt : D.take (j + 1) = D.take j ++ [R.ds[j].1] := by
    rw [List.take_succ_eq_append_getElem (by omega), hDj]
  have hf : filesF R'.fs = step (replay f (D.take j)) R.ds[j].1 := by
    rw [h.files, hDt, replay_append, replay_one]
  have hokj : okD (replay f (D.take j)) R.ds[j].1 := by
    have h1 : okAll f (D.take (j + 1) ++ D.drop (j + 1)) := by rw [List.take_append_drop]; exact hok
    have h2 := ((okAll_append _ _ _).1 h1).1
    rw [hDt] at h2
    exact ((okAll_append _ _ _).1 h2).2.1
  have key := back_any h.mem he hf hokj n hn (Nat.le_trans (h.bulk hd) hb)
  rw [h.p] at key
  refine key.mono ?_
  rintro e w1 ⟨rfl, fs, hm, hmv, hfs, hsz⟩
  refine ⟨rfl, _, hm, h.moves.trans hmv, hfs, rfl, ?_, h.dn, h.p, h.m, h.room, Nat.le_trans hsz h.size, h.count⟩
  show (R.ds[j].1, R.ds[j].2) :: R'.dead = _
  rw [h.dead, List.drop_eq_getElem_cons hj]

theorem undo_any {w : World} {B : Nat} {R : Rw} (h : Mem w B R) (hdead : R.dead = []) {f : Fs} (hok : okAll f (R.ds.map (·.1))) (hf : filesF R.fs = replay f (R.ds.map (·.1))) (n : Nat) (hn : n ≤ R.count) (hb : R.bulk ≤ 1099511627776) (hB : B ≤ w.heap.size) :
    Calls Tryz.prog 35 #[ptr R.p, .int .i64 (n : Int)] w fun e w' => e = .returned (.tuple #[]) ∧
      ∃ R', Mem w' B R' ∧ Moves w R w' R' ∧ filesF R'.fs = keepF f (R.ds.map (·.1)) n ∧ R'.bulk ≤ R.bulk ∧ R'.p = R.p ∧ R'.m = R.m ∧ R'.room = R.room := by
  obtain ⟨D, hD⟩ : ∃ D, D = R.ds.map (·.1) := ⟨_, rfl⟩
  rw [← hD] at hok hf ⊢
  have hDl : D.length = R.ds.length := by rw [hD]; simp
  have hdl : R.ds.length ≤ 1099511627776 := by unfold Rw.bulk at hb; omega
  have hcl : R.count ≤ 1099511627776 := by unfold Rw.bulk at hb; omega
  have hd0 : w.ownsRow B 101 5 R.dn R.ds.length (cellsD R.ds) := by
    have := h.hd
    rwa [hdead, List.append_nil] at this
  have c3 : w.cell? ⟨R.p, 3, none⟩ = some R.dn := h.cell 3
  obtain ⟨ao, l0, cp, hdn⟩ := row_slice hd0
  have hl0 : l0 = R.ds.length := by
    rcases hd0.2 with ⟨e, e'⟩ | ⟨g, cap, cur, e, _⟩
    · rw [hdn] at e
      simp only [Value.slice.injEq] at e
      omega
    · rw [hdn] at e
      simp only [Value.slice.injEq] at e
      omega
  subst hl0
  rw [hdn] at c3
  have hsl := scan_le D n
  obtain ⟨k0, w0, hk0, hw0⟩ : ∃ k0 w0 : Nat, (scan D n).2 = k0 ∧ (scan D n).1 = w0 := ⟨_, _, rfl, rfl⟩
  have hsa : ∀ (hlt : w0 < D.length), k0 < D[w0].units := by
    subst hk0 hw0
    exact scan_at D n
  have HK : Hid (keepF f D n = match D.drop w0 with | [] => replay f (D.take w0) | d :: _ => part (replay f (D.take w0)) d k0) := by
    show keepF f D n = _
    subst hk0 hw0
    rfl
  have hkle : k0 ≤ n := by
    subst hk0
    exact scan_snd D n
  have HS0 : Hid (scan D n = (w0, k0)) := by
    show scan D n = _
    rw [← hk0, ← hw0]
  rw [hw0] at hsl
  clear hk0 hw0
  go_enter Tryz.func35, Tryz.ntmps35
  go_upto_block 0 with fail
  go_cut [1, 4] from 6 (fun k i wc => k = .int .i64 (k0 : Int) ∧ i = .int .i64 (w0 : Int) ∧ wc = w)
  case first =>
    go_wp2
    go_loopw [1, 4] (fun k i W => ∃ (kn im : Nat), k = .int .i64 (kn : Int) ∧ i = .int .i64 (im : Int) ∧ im ≤ D.length ∧ kn ≤ n ∧ (w0, k0) = (im + (scan (D.drop im) kn).1, (scan (D.drop im) kn).2) ∧ W = w) (fun _ i _ => (D.length - intOf i).toNat)
    case atStart => exact ⟨n, 0, rfl, rfl, Nat.zero_le _, Nat.le_refl _, by simp [HS0.out], rfl⟩
    case round =>
      obtain ⟨kn, im, rfl, rfl, him, hkn, hsc, rfl⟩ := hrel
      have HS : Hid _ := hsc
      clear hsc
      by_cases hlt : im < D.length
      · obtain ⟨g, cap, hdn', hcap, hgl, hcell⟩ := deed_cells hd0 im (by omega)
        rw [hdn] at hdn'
        simp only [Value.slice.injEq, true_and] at hdn'
        obtain ⟨rfl, rfl⟩ := hdn'
        have hDi : R.ds[im].1 = D[im] := by simp [hD]
        have hu : wr.cell? ⟨g, im * 5 + 1, none⟩ = some (.int .i64 (D[im].units : Int)) := by
          rw [← hDi]
          exact hcell 1 (by omega)
        have hdrop : D.drop im = D[im] :: D.drop (im + 1) := List.drop_eq_getElem_cons hlt
        have HN : Hid _ := hdrop
        have hlt' : im < R.ds.length := by omega
        clear hcell hDi hdrop
        by_cases hfit : D[im].units ≤ kn
        · have HS2 : Hid ((w0, k0) = ((im + 1) + (scan (D.drop (im + 1)) (kn - D[im].units)).1, (scan (D.drop (im + 1)) (kn - D[im].units)).2)) := by
            show _ = _
            rw [HS.out, HN.out, scan_cons, if_pos hfit]
            simp only [Prod.mk.injEq, and_true]
            omega
          clear HS HN
          generalize D[im].units = U at *
          go_wp2
          go_roundw
          case rel => exact ⟨kn - U, im + 1, by rw [Int.natCast_sub hfit], by go_num, by omega, by omega, HS2.out, trivial⟩
          case measure => simp [intOf]; omega
        · have HS2 : Hid (w0 = im ∧ k0 = kn) := by
            show _ ∧ _
            have e := HS.out
            rw [HN.out, scan_cons, if_neg hfit] at e
            simp only [Prod.mk.injEq, Nat.add_zero] at e
            exact e
          have hfit' : (kn : Int) < (D[im].units : Int) := by omega
          clear HS HN hfit
          generalize D[im].units = U at *
          go_wp2
          go_meet
          case rel =>
            obtain ⟨rfl, rfl⟩ := HS2.out
            exact ⟨rfl, rfl, rfl⟩
      · have HS2 : Hid (w0 = im ∧ k0 = kn) := by
          show _ ∧ _
          have e := HS.out
          rw [List.drop_of_length_le (by omega)] at e
          simp only [scan, Prod.mk.injEq, Nat.add_zero] at e
          exact e
        have hlt' : ¬ im < R.ds.length := by omega
        have him' : im = R.ds.length := by omega
        subst him'
        clear HS
        go_wp2
        go_meet
        case rel =>
          obtain ⟨rfl, rfl⟩ := HS2.out
          exact ⟨rfl, rfl, rfl⟩
  case rest =>
    obtain ⟨rfl, rfl, hwc⟩ := hcut
    have hwc' := hwc.symm
    subst hwc'
    have hU : Undone w B R f D R.ds.length w R := by
      refine ⟨h, Moves.refl _ _, by simp, by simp [hdead], rfl, rfl, rfl, rfl, ?_, Nat.le_refl _, rfl⟩
      rw [← hDl, List.take_length]
      exact hf
    have HU : Hid _ := hU
    clear hU
    go_upto_block 2 with fail
    go_cut [5] from 6 (fun _ W => ∃ (j : Nat) (R' : Rw), j ≤ R.ds.length ∧ (w0 < R.ds.length → j = w0 + 1) ∧ (¬ w0 < R.ds.length → j = R.ds.length) ∧ Undone w B R f D j W R')
    case first =>
      go_wp2
      go_loopw [5] (fun i W => ∃ (x : Int) (j : Nat) (R' : Rw), i = .int .i64 x ∧ x = (j : Int) - 1 ∧ j ≤ R.ds.length ∧ (w0 < R.ds.length → w0 + 1 ≤ j) ∧ (¬ w0 < R.ds.length → j = R.ds.length) ∧ Undone w B R f D j W R') (fun i _ => (intOf i + 1).toNat)
      case atStart => exact ⟨_, R.ds.length, R, rfl, rfl, Nat.le_refl _, fun h => h, fun _ => rfl, HU.out⟩
      case round =>
        obtain ⟨x, j, R', rfl, hx, hj, hw1, hw2, hU⟩ := hrel
        have HU2 : Hid _ := hU
        by_cases hgt : w0 + 1 < j
        · obtain ⟨jj, rfl⟩ : ∃ jj, j = jj + 1 := ⟨j - 1, by omega⟩
          obtain rfl : x = (jj : Int) := by omega
          clear hx
          obtain ⟨g, cap, hdn', hcap, hgl, hcell⟩ := deed_cells hU.cells jj (by omega)
          rw [hdn] at hdn'
          simp only [Value.slice.injEq, true_and] at hdn'
          obtain ⟨rfl, rfl⟩ := hdn'
          have e0 := hcell 0 (by omega)
          have e1 := hcell 1 (by omega)
          have e2 := hcell 2 (by omega)
          have e3 := hcell 3 (by omega)
          have e4 := hcell 4 (by omega)
          simp only [Dd.cells, Nat.add_zero, List.getElem?_cons_zero, List.getElem?_cons_succ] at e0 e1 e2 e3 e4
          have c3' : wr.cell? ⟨R.p, 3, none⟩ = some (.slice (some ⟨g, 0, none⟩) R.ds.length cp) := by
            have := hU.mem.cell 3
            rw [hU.p] at this
            rw [this, ← hdn, ← hU.dn]
            rfl
          have key := hU.back hdead hD hok (by omega) hb 0 (.inl rfl)
          rw [show ((0 : Nat) : Int) = 0 from rfl] at key
          have hjl : jj < R.ds.length := by omega
          have hjw : (w0 : Int) < (jj : Int) := by omega
          obtain ⟨av, lv, cv, hvs⟩ := hU.last (by omega)
          clear hcell hU c3
          generalize R.ds[jj] = dv at *
          obtain ⟨d, v⟩ := dv
          simp only at e0 e1 e2 e3 e4 key hvs
          subst hvs
          clear hD hDl hdn HK HS0 hd0
          go_wp2_with (go_at_call 68; refine key.mono ?_; rintro e w2 ⟨rfl, R2, hm2, mv2, hf2, hds2, hdead2, hdn2, hp2, hm2', hr2, hsz2, hc2⟩)
          go_roundw
          case rel => exact ⟨_, jj, R2, rfl, rfl, by omega, fun _ => by omega, fun _ => by omega, ⟨hm2, mv2, hds2, hdead2, hdn2, hp2, hm2', hr2, by rw [hf2]; rfl, hsz2, hc2⟩⟩
          case measure => simp [intOf]
        · have hxw : x ≤ (w0 : Int) := by omega
          clear hU
          go_wp2
          go_meet
          case rel => exact ⟨j, R', hj, fun h => by have := hw1 h; omega, hw2, HU2.out⟩
    case rest =>
      obtain ⟨j, R', hj, hw1, hw2, hU⟩ := hcut
      have c3' : wc.cell? ⟨R.p, 3, none⟩ = some (.slice ao R.ds.length cp) := by
        have := hU.mem.cell 3
        rw [hU.p] at this
        rw [this, ← hdn, ← hU.dn]
        rfl
      have hbk := hU.bulk hdead
      by_cases hlt : w0 < R.ds.length
      · have hj' := hw1 hlt
        subst hj'
        obtain ⟨g, cap, hdn', hcap, hgl, hcell⟩ := deed_cells hU.cells w0 hlt
        rw [hdn] at hdn'
        simp only [Value.slice.injEq, true_and] at hdn'
        obtain ⟨rfl, rfl⟩ := hdn'
        have e0 := hcell 0 (by omega)
        have e1 := hcell 1 (by omega)
        have e2 := hcell 2 (by omega)
        have e3 := hcell 3 (by omega)
        have e4 := hcell 4 (by omega)
        simp only [Dd.cells, Nat.add_zero, List.getElem?_cons_zero, List.getElem?_cons_succ] at e0 e1 e2 e3 e4
        have hDw : D[w0]'(by omega) = R.ds[w0].1 := by simp [hD]
        have hk1 := hsa (by omega)
        rw [hDw] at hk1
        have key := hU.back hdead hD hok hlt hb k0 (.inr hk1)
        have HK2 : Hid (keepF f D n = part (replay f (D.take w0)) R.ds[w0].1 k0) := by
          show keepF f D n = _
          rw [HK.out, List.drop_eq_getElem_cons (by omega), hDw]
        obtain ⟨av, lv, cv, hvs⟩ := hU.last hlt
        clear hcell hU c3 hDw hk1
        generalize R.ds[w0] = dv at *
        obtain ⟨d, v⟩ := dv
        simp only at e0 e1 e2 e3 e4 key hvs HK2
        subst hvs
        have hRb : ∀ R2 : Rw, YtelkkpomehgcjaaGreat.size R2.rows ≤ YtelkkpomehgcjaaGreat.size R.rows → R2.ds = R.ds.take w0 → R2.dead = R.ds.drop w0 → R2.count = R.count → R2.bulk ≤ R.bulk := by
          intro R2 q1 q2 q3 q4
          unfold Rw.bulk
          rw [q2, q3, q4, hdead]
          simp only [List.length_take, List.length_drop, List.length_nil]
          omega
        have HRb : Hid _ := hRb
        clear hRb hD hDl hdn HK HS0 hd0 hsa
        go_wp2_with (go_at_call 68; refine key.mono ?_; rintro e w2 ⟨rfl, R2, hm2, mv2, hf2, hds2, hdead2, hdn2, hp2, hm2', hr2, hsz2, hc2⟩)
        go_end0
        exact ⟨rfl, R2, hm2, mv2, by rw [hf2, HK2.out], HRb.out R2 hsz2 hds2 hdead2 hc2, hp2, hm2', hr2⟩
      · have hj' := hw2 hlt
        subst hj'
        have hw0 : w0 = D.length := by omega
        have HK2 : Hid (keepF f D n = replay f (D.take R.ds.length)) := by
          show keepF f D n = _
          rw [HK.out, List.drop_of_length_le (by omega), hw0, hDl]
        have hw0' : ¬ (w0 : Int) < (R.ds.length : Int) := by omega
        have HU3 : Hid _ := hU
        clear hU HK hsa hw0 hDl hD
        go_wp2
        go_end0
        have hU := HU3.out
        exact ⟨rfl, R', hU.mem, hU.moves, by rw [hU.files, HK2.out], hbk, hU.p, hU.m, hU.room⟩

end Go.Proofs.YtelkkpomehgcjaaGreat

namespace Go.Proofs.YtelkkpomehgcjaaGreat
open Go.RowKit Go.Maps

/-- A reel with nothing to undo, not armed. -/
structure Calm (R : Rw) : Prop where
  ds : R.ds = []
  dead : R.dead = []
  count : R.count = 0
  armed : R.armed = false
  gone : R.gone = false

theorem Rw.bulk_settled (R : Rw) : R.settled.bulk ≤ R.bulk := by
  unfold Rw.bulk Rw.settled Rw.rows YtelkkpomehgcjaaGreat.size
  simp
  omega

def Rw.calmed (R : Rw) : Rw := { R.settled with armed := false, left := 0, gone := false }

theorem calm_both {w : World} {B : Nat} {R : Rw} (h : Mem w B R.settled) {b : Nat} (hb : R.settled.bulk ≤ b) :
    Mem (((w.setCell ⟨R.settled.p, 5, none⟩ (.bool false)).setCell ⟨R.settled.p, 6, none⟩ (.int .i64 0)).setCell ⟨R.settled.p, 7, none⟩ (.bool false)) B R.calmed ∧ Moves w R.settled (((w.setCell ⟨R.settled.p, 5, none⟩ (.bool false)).setCell ⟨R.settled.p, 6, none⟩ (.int .i64 0)).setCell ⟨R.settled.p, 7, none⟩ (.bool false)) R.calmed ∧ Calm R.calmed ∧ R.calmed.bulk ≤ b := by
  have h5 := heap_setCell_at (i := 5) (.bool false) h.hp (by simp [Rw.cells])
  have h6 := heap_setCell_at (i := 6) (.int .i64 0) h5 (by simp [Rw.cells])
  have h7 := heap_setCell_at (i := 7) (.bool false) h6 (by simp [Rw.cells])
  have hg := ((grown_set w R.settled.p 5 (.bool false)).trans (grown_set _ R.settled.p 6 (.int .i64 0))).trans (grown_set _ R.settled.p 7 (.bool false))
  obtain ⟨m1, m2⟩ := h.turn R.settled.count false 0 false (fun e => by cases e) ((wf64 (x := 0)).2 (by decide)) hg (by rw [h7]; rfl)
  exact ⟨m1, m2, ⟨rfl, rfl, rfl, rfl, rfl⟩, hb⟩

theorem crash_at {w : World} {B : Nat} {R : Rw} (h : Mem w B R) (hdead : R.dead = []) {f : Fs} (hok : okAll f (R.ds.map (·.1))) (hf : filesF R.fs = replay f (R.ds.map (·.1))) (keep : Int) (n : Nat) (hn : (n : Int) = min (max keep 0) (R.count : Int)) (hb : R.bulk ≤ 1099511627776) (hB : B ≤ w.heap.size) :
    Calls Tryz.prog 14 #[ptr R.p, .int .i64 keep] w fun e w' => e = .returned (.tuple #[]) ∧
      ∃ R', Mem w' B R' ∧ Moves w R w' R' ∧ filesF R'.fs = keepF f (R.ds.map (·.1)) n ∧ Calm R' ∧ R'.bulk ≤ R.bulk ∧ R'.p = R.p ∧ R'.m = R.m ∧ R'.room = R.room := by
  have kU : ∀ x : Int, x = (n : Int) → Calls Tryz.prog 35 #[ptr R.p, .int .i64 x] w fun e w' => e = .returned (.tuple #[]) ∧ ∃ R', Mem w' B R' ∧ Moves w R w' R' ∧ filesF R'.fs = keepF f (R.ds.map (·.1)) n ∧ R'.bulk ≤ R.bulk ∧ R'.p = R.p ∧ R'.m = R.m ∧ R'.room = R.room := by
    intro x hx
    subst hx
    exact undo_any h hdead hok hf n (by omega) hb hB
  have c4 : w.cell? ⟨R.p, 4, none⟩ = some (.int .i64 (R.count : Int)) := h.cell 4
  have H : Hid (Mem w B R) := h
  clear hok hf hb
  generalize R.ds.map (·.1) = D at *
  go_enter Tryz.func14, Tryz.ntmps14
  go_wp2_with (first
    | (go_at_call 34; refine (given_any H.out).mono ?_; rintro e w1 ⟨rfl, rfl⟩)
    | (go_at_call 35; refine (kU _ (by omega)).mono ?_; rintro e w2 ⟨rfl, R2, m2, v2, f2, b2, p2, mm2, r2⟩; have kS := settle_any m2; rw [p2] at kS)
    | (go_at_call 36; refine kS.mono ?_; rintro e w3 ⟨rfl, m3, v3⟩; have g5 : w3.cell? ⟨R.p, 5, none⟩ = some (.bool R2.armed) := (by have := m3.cell 5; rw [show R2.settled.p = R.p from p2] at this; exact this); have g6 : w3.cell? ⟨R.p, 6, none⟩ = some (.int .i64 R2.left) := (by have := m3.cell 6; rw [show R2.settled.p = R.p from p2] at this; exact this); have g7 : w3.cell? ⟨R.p, 7, none⟩ = some (.bool R2.gone) := (by have := m3.cell 7; rw [show R2.settled.p = R.p from p2] at this; exact this); have hfz : ∀ i, w3.frozen? ⟨R.p, i, none⟩ = false := (by have := m3.thaw; rw [show R2.settled.p = R.p from p2] at this; exact this); have HC : Hid _ := calm_both m3 (R2.bulk_settled); have HV : Hid _ := v2.trans v3; have HF : Hid _ := f2; have HP : Hid _ := And.intro p2 (And.intro mm2 (And.intro r2 b2)); clear m2 v2 f2 b2 mm2 r2 m3 v3 kS))
  all_goals
    go_end0
    obtain ⟨p2, mm2, r2, b2⟩ := HP.out
    obtain ⟨a1, a2, a3, a4⟩ := HC.out
    have e1 : R2.settled.p = R.p := p2
    rw [e1] at a1 a2
    exact ⟨rfl, _, a1, HV.out.trans a2, HF.out, a3, Nat.le_trans a4 b2, p2, mm2, r2⟩

end Go.Proofs.YtelkkpomehgcjaaGreat

namespace Go.Proofs.YtelkkpomehgcjaaGreat
open Go.RowKit Go.Maps

/-- What counts: how many units, whether it is armed, how many are left, whether the power is gone. -/
structure Pw where
  count : Nat
  armed : Bool
  left : Int
  gone : Bool

def Rw.pw (R : Rw) : Pw := ⟨R.count, R.armed, R.left, R.gone⟩

def Pw.note (s : Pw) (u : Nat) : Pw :=
  if s.gone then s
  else if s.armed then ⟨s.count + (min (u : Int) s.left).toNat, s.armed, s.left - min (u : Int) s.left, decide (min (u : Int) s.left < (u : Int))⟩
  else ⟨s.count + u, s.armed, s.left, s.gone⟩

def Rw.deeds (R : Rw) : List Dd := R.ds.map (·.1)

structure Live (w : World) (B : Nat) (f : Fs) (R : Rw) : Prop where
  mem : Mem w B R
  dead : R.dead = []
  ok : okAll f R.deeds
  files : filesF R.fs = replay f R.deeds
  low : B ≤ w.heap.size

theorem Live.adds {w w' : World} {B : Nat} {f : Fs} {R : Rw} (h : Live w B f R) (ha : Adds w w') : Live w' B f R := ⟨h.mem.adds ha, h.dead, h.ok, h.files, Nat.le_trans h.low ha.below.size⟩

theorem Live.keep {w w' : World} {B : Nat} {f : Fs} {R : Rw} (h : Live w B f R) (hs : w.heap.size ≤ w'.heap.size) (hk : ∀ i, R.foot i → w'.heap[i]? = w.heap[i]?) : Live w' B f R := ⟨h.mem.keep hk, h.dead, h.ok, h.files, Nat.le_trans h.low hs⟩

theorem noted_is (R : Rw) (d : Dd) (v dn : Value) : (R.noted d v dn).ds = R.ds ++ [(d, v)] ∧ (R.noted d v dn).fs = R.fs ∧ (R.noted d v dn).dead = R.dead ∧ (R.noted d v dn).p = R.p ∧ (R.noted d v dn).m = R.m ∧ (R.noted d v dn).room = R.room ∧ (R.noted d v dn).pw = R.pw.note d.units := by
  obtain ⟨p, m, room, dn0, fs, ds, dead, count, armed, left, gone⟩ := R
  cases gone
  · cases armed <;> exact ⟨rfl, rfl, rfl, rfl, rfl, rfl, rfl⟩
  · exact ⟨rfl, rfl, rfl, rfl, rfl, rfl, rfl⟩

theorem note_count (s : Pw) (u : Nat) : (s.note u).count ≤ s.count + u := by
  unfold Pw.note
  split
  · omega
  · split
    · simp only
      omega
    · exact Nat.le_refl _

theorem bulk_noted (R : Rw) (d : Dd) (v dn : Value) : (R.noted d v dn).bulk ≤ R.bulk + d.lost.length + 1 + d.units := by
  obtain ⟨h1, h2, h3, _, _, _, h7⟩ := noted_is R d v dn
  have hc : (R.noted d v dn).count ≤ R.count + d.units := by
    have := note_count R.pw d.units
    rw [← h7] at this
    exact this
  unfold Rw.bulk Rw.rows
  rw [h1, h2, h3]
  simp only [List.map_append, List.map_cons, List.map_nil, List.length_append, List.length_cons, List.length_nil, size, List.sum_append, List.sum_cons, List.sum_nil]
  omega

theorem at_files {R : Rw} {k : Int} {v : Value} {b : List UInt8} (h : R.at k v b) : b = (filesF R.fs k).getD [] ∧ (get k R.fs).isNone = (filesF R.fs k).isNone := by
  unfold filesF
  rcases h with hg | ⟨hg, _, rfl⟩ <;> rw [hg] <;> exact ⟨rfl, rfl⟩

theorem live_append {w : World} {B : Nat} {f : Fs} {R : Rw} (h : Live w B f R) (k : Int) (hk : 0 ≤ k ∧ k ≤ 1048576) (x : Value) (m : List UInt8) (hx : Byt w x m) (hroom : (m.length : Int) ≤ (R.room : Int) - (total R.fs : Int)) (hb : R.bulk ≤ 274877906944) :
    Calls Tryz.prog 22 #[ptr R.p, .int .i64 k, x] w fun e w' => e = .returned (.int .i64 0) ∧ ∃ R', Live w' B f R' ∧ Moves w R w' R' ∧ R'.deeds = R.deeds ++ [⟨k, false, (filesF R.fs k).isNone, m⟩] ∧ R'.p = R.p ∧ R'.room = R.room ∧ R'.pw = R.pw.note m.length ∧ R'.bulk ≤ R.bulk + 2 * m.length + 1 := by
  refine (append_any h.mem h.dead k hk x m hx hroom hb h.low).mono ?_
  rintro e w1 ⟨rfl, v, v1, b, dn, hat, hm, hmv⟩
  obtain ⟨e1, e2⟩ := at_files hat
  obtain ⟨n1, n2, n3, n4, n5, n6, n7⟩ := noted_is ({ R with fs := put k v1 (b ++ m) R.fs } : Rw) ⟨k, false, (get k R.fs).isNone, m⟩ (.slice none 0 0) dn
  have hds : (R.grown k v1 b m dn).deeds = R.deeds ++ [⟨k, false, (filesF R.fs k).isNone, m⟩] := by
    unfold Rw.deeds Rw.grown
    rw [n1, e2]
    simp
  refine ⟨rfl, R.grown k v1 b m dn, ⟨hm, n3.trans h.dead, ?_, ?_, Nat.le_trans h.low hmv.size⟩, hmv, hds, n4, n6, n7, ?_⟩
  · rw [hds, okAll_append]
    refine ⟨h.ok, ?_, trivial⟩
    rw [← h.files]
    simp [okD]
  · rw [hds, replay_append, replay_one, ← h.files]
    have : (R.grown k v1 b m dn).fs = put k v1 (b ++ m) R.fs := n2
    rw [this, filesF_put h.mem.srt]
    simp [step, e1]
  · have h1 := bulk_noted ({ R with fs := put k v1 (b ++ m) R.fs } : Rw) ⟨k, false, (get k R.fs).isNone, m⟩ (.slice none 0 0) dn
    rw [bulk_put h.mem hat] at h1
    simp only [Dd.lost, Dd.units, Bool.false_eq_true, if_false, List.length_nil] at h1
    unfold Rw.grown
    omega

theorem live_drop {w : World} {B : Nat} {f : Fs} {R : Rw} (h : Live w B f R) (k : Int) (b : List UInt8) (hg : filesF R.fs k = some b) (hb : R.bulk ≤ 274877906944) :
    Calls Tryz.prog 81 #[ptr R.p, .int .i64 k] w fun e w' => e = .returned (.int .i64 0) ∧ ∃ R', Live w' B f R' ∧ Moves w R w' R' ∧ R'.deeds = R.deeds ++ [⟨k, true, false, b⟩] ∧ R'.p = R.p ∧ R'.room = R.room ∧ R'.pw = R.pw.note 1 ∧ R'.bulk ≤ R.bulk + 2 := by
  obtain ⟨v, hg'⟩ : ∃ v, get k R.fs = some (k, v, b) := by
    unfold filesF at hg
    cases hx : get k R.fs with
    | none => rw [hx] at hg; cases hg
    | some p =>
      obtain ⟨j, v, b'⟩ := p
      obtain ⟨_, rfl⟩ := get_some hx
      rw [hx] at hg
      simp only [Option.map_some, Option.some.injEq] at hg
      subst hg
      exact ⟨v, rfl⟩
  refine (drop_any h.mem h.dead k v b hg' hb h.low).mono ?_
  rintro e w1 ⟨rfl, dn, hm, hmv⟩
  obtain ⟨n1, n2, n3, n4, n5, n6, n7⟩ := noted_is ({ R with fs := del k R.fs } : Rw) ⟨k, true, false, b⟩ v dn
  have hds : (R.dropped k v b dn).deeds = R.deeds ++ [⟨k, true, false, b⟩] := by
    unfold Rw.deeds Rw.dropped
    rw [n1]
    simp
  refine ⟨rfl, R.dropped k v b dn, ⟨hm, n3.trans h.dead, ?_, ?_, Nat.le_trans h.low hmv.size⟩, hmv, hds, n4, n6, n7, ?_⟩
  · rw [hds, okAll_append]
    refine ⟨h.ok, ?_, trivial⟩
    rw [← h.files]
    simp [okD, hg]
  · rw [hds, replay_append, replay_one, ← h.files]
    have : (R.dropped k v b dn).fs = del k R.fs := n2
    rw [this, filesF_del h.mem.srt]
    simp [step]
  · have h1 := bulk_noted ({ R with fs := del k R.fs } : Rw) ⟨k, true, false, b⟩ v dn
    obtain ⟨_, _, _, hsz, _⟩ := Rw.at_rest h.mem (.inl hg')
    have h2 : ({ R with fs := del k R.fs } : Rw).bulk + b.length = R.bulk := by
      unfold Rw.bulk
      rw [hsz]
      show size (R.rest k) + R.ds.length + R.dead.length + R.count + b.length = _
      omega
    simp only [Dd.lost, Dd.units, if_true] at h1
    unfold Rw.dropped
    omega

theorem live_sync {w : World} {B : Nat} {f : Fs} {R : Rw} (h : Live w B f R) (hg : R.gone = false) :
    Calls Tryz.prog 23 #[ptr R.p] w fun e w' => e = .returned (.tuple #[]) ∧ ∃ R', Live w' B (filesF R.fs) R' ∧ Moves w R w' R' ∧ R'.deeds = [] ∧ R'.fs = R.fs ∧ R'.p = R.p ∧ R'.room = R.room ∧ R'.pw = ⟨0, R.armed, R.left, false⟩ ∧ R'.bulk ≤ R.bulk := by
  have key := sync_any h.mem
  rw [hg] at key
  refine key.mono ?_
  rintro e w1 ⟨rfl, hm, hmv⟩
  simp only [Bool.false_eq_true, if_false] at hm hmv
  refine ⟨rfl, R.settled, ⟨hm, rfl, trivial, rfl, Nat.le_trans h.low hmv.size⟩, hmv, rfl, rfl, rfl, rfl, ?_, R.bulk_settled⟩
  show (⟨0, R.armed, R.left, R.gone⟩ : Pw) = _
  rw [hg]

theorem live_sync_gone {w : World} {B : Nat} {f : Fs} {R : Rw} (h : Live w B f R) (hg : R.gone = true) :
    Calls Tryz.prog 23 #[ptr R.p] w fun e w' => e = .returned (.tuple #[]) ∧ Live w' B f R ∧ Moves w R w' R := by
  have key := sync_any h.mem
  rw [hg] at key
  refine key.mono ?_
  rintro e w1 ⟨rfl, hm, hmv⟩
  simp only [if_true] at hm hmv
  exact ⟨rfl, ⟨hm, h.dead, h.ok, h.files, Nat.le_trans h.low hmv.size⟩, hmv⟩

theorem live_arm {w : World} {B : Nat} {f : Fs} {R : Rw} (h : Live w B f R) (n : Int) (hn : (Lit.int .i64 n).wf = true) :
    Calls Tryz.prog 12 #[ptr R.p, .int .i64 n] w fun e w' => e = .returned (.tuple #[]) ∧ ∃ R', Live w' B f R' ∧ Moves w R w' R' ∧ R'.deeds = R.deeds ∧ R'.fs = R.fs ∧ R'.p = R.p ∧ R'.room = R.room ∧ R'.pw = (if R.gone then R.pw else ⟨R.count, decide (0 ≤ n), n, false⟩) ∧ R'.bulk = R.bulk := by
  refine (arm_any h.mem n hn).mono ?_
  rintro e w1 ⟨rfl, hm, hmv⟩
  have hds : (R.arming n).ds = R.ds ∧ (R.arming n).dead = R.dead ∧ (R.arming n).fs = R.fs ∧ (R.arming n).p = R.p ∧ (R.arming n).room = R.room ∧ (R.arming n).bulk = R.bulk ∧ (R.arming n).pw = (if R.gone then R.pw else ⟨R.count, decide (0 ≤ n), n, false⟩) := by
    unfold Rw.arming
    cases hg : R.gone
    · simp only [Bool.false_eq_true, if_false]
      exact ⟨trivial, trivial, trivial, trivial, trivial, rfl, rfl⟩
    · simp
  obtain ⟨e1, e2, e3, e4, e5, e6, e7⟩ := hds
  have e8 : (R.arming n).deeds = R.deeds := by unfold Rw.deeds; rw [e1]
  exact ⟨rfl, R.arming n, ⟨hm, e2.trans h.dead, by rw [e8]; exact h.ok, by rw [e8, e3]; exact h.files, Nat.le_trans h.low hmv.size⟩, hmv, e8, e3, e4, e5, e7, e6⟩

theorem live_crash {w : World} {B : Nat} {f : Fs} {R : Rw} (h : Live w B f R) (keep : Int) (n : Nat) (hn : (n : Int) = min (max keep 0) (R.count : Int)) (hb : R.bulk ≤ 1099511627776) :
    Calls Tryz.prog 14 #[ptr R.p, .int .i64 keep] w fun e w' => e = .returned (.tuple #[]) ∧ ∃ R', Live w' B (keepF f R.deeds n) R' ∧ Moves w R w' R' ∧ R'.deeds = [] ∧ filesF R'.fs = keepF f R.deeds n ∧ R'.p = R.p ∧ R'.room = R.room ∧ R'.count = 0 ∧ R'.armed = false ∧ R'.gone = false ∧ R'.bulk ≤ R.bulk := by
  refine (crash_at h.mem h.dead h.ok h.files keep n hn hb h.low).mono ?_
  rintro e w1 ⟨rfl, R1, hm, hmv, hf, hc, hbk, hp, _, hr⟩
  have hd : R1.deeds = [] := by unfold Rw.deeds; rw [hc.ds]; rfl
  exact ⟨rfl, R1, ⟨hm, hc.dead, by rw [hd]; trivial, by rw [hd, hf]; rfl, Nat.le_trans h.low hmv.size⟩, hmv, hd, hf, hp, hr, hc.count, hc.armed, hc.gone, hbk⟩

theorem live_new (room : Nat) (hr : room ≤ 1048576) (w : World) :
    Calls Tryz.prog 6 #[.int .i64 (room : Int)] w fun e w' => e = .returned (.tuple #[ptr (w.heap.size + 1), .int .i64 0]) ∧ ∃ R, R.p = w.heap.size + 1 ∧ Live w' w.heap.size (fun _ => none) R ∧ R.deeds = [] ∧ R.fs = [] ∧ R.room = room ∧ R.pw = ⟨0, false, 0, false⟩ ∧ R.bulk = 0 ∧ Adds w w' := by
  refine (new_any room hr w).mono ?_
  rintro e w1 ⟨rfl, hm, ha⟩
  refine ⟨rfl, _, rfl, ⟨hm, rfl, trivial, ?_, ha.below.size⟩, rfl, rfl, rfl, rfl, rfl, ha⟩
  funext k
  rfl

theorem live_read {w : World} {B : Nat} {f : Fs} {R : Rw} (h : Live w B f R) (k : Int) (b : List UInt8) (hg : filesF R.fs k = some b) (hb : R.bulk ≤ 1099511627776) :
    Calls Tryz.prog 80 #[ptr R.p, .int .i64 k] w fun e w' => ∃ r, e = .returned (.tuple #[r, .bool true]) ∧ w'.ownsRow w.heap.size 5 1 r b.length (cellsB b) ∧ Adds w w' := by
  obtain ⟨v, hg'⟩ : ∃ v, get k R.fs = some (k, v, b) := by
    unfold filesF at hg
    cases hx : get k R.fs with
    | none => rw [hx] at hg; cases hg
    | some p =>
      obtain ⟨j, v, b'⟩ := p
      obtain ⟨_, rfl⟩ := get_some hx
      rw [hx] at hg
      simp only [Option.map_some, Option.some.injEq] at hg
      subst hg
      exact ⟨v, rfl⟩
  exact read_some h.mem k v b hg' hb

theorem live_read_none {w : World} {B : Nat} {f : Fs} {R : Rw} (h : Live w B f R) (k : Int) (hk : (Lit.int .i64 k).wf = true) (hg : filesF R.fs k = none) :
    Calls Tryz.prog 80 #[ptr R.p, .int .i64 k] w fun e w' => e = .returned (.tuple #[.slice none 0 0, .bool false]) ∧ w' = w :=
  read_none h.mem k hk (by simpa [filesF] using hg)

end Go.Proofs.YtelkkpomehgcjaaGreat
