/-
  The reader while it reads: what lies where, and how each step leaves it.
  A scope with two labels; append of a frame; what read tells.
  Maps keyed by where a list lies: look-ups and stores go through, whatever they find.
  The functions placeOf, below and tooDeep go through, whatever the tree.
-/
import Derived.Test.YtiacnmcdfpmcfaaGreatDoorQ03
import Derived.ScopeJumps
import Derived.WalkMore
import Derived.Lib.AppendZerosOnto
import Derived.Test.YtiacnmcdfpmcfaaGreatDoorQ02
import Derived.LaidEqlPtr
import Derived.MapKept
import Derived.Maps.OwnOps
namespace Go.Proofs.YtiacnmcdfpmcfaaGreatDoor
open Go.RowKit
attribute [local go_sem] cell?_more frozen?_more setCell_more size_more tape_more drew_more drewN_more more_drew more_drewN one_out plus_out plus_end lt_one le_p2 le_p3 le_p4 le_p5 le_p6 le_p7 le_p8 le_p9 le_p10 le_p11 le_p12 le_p13 le_p14 le_p15 le_p16 le_p17 le_p18 le_p19 le_p20 le_p21 le_p22 le_p23 le_p24 le_q0 le_q1 lt_q1 le_q2 lt_q2 le_q3 lt_q3 le_q4 lt_q4 le_q5 lt_q5 le_q6 lt_q6 le_q7 lt_q7 le_q8 lt_q8 le_q9 lt_q9 le_q10 lt_q10 le_q11 lt_q11 le_q12 lt_q12 le_q13 lt_q13 le_q14 lt_q14 le_q15 lt_q15 le_q16 lt_q16 le_q17 lt_q17 le_q18 lt_q18 le_q19 lt_q19 le_q20 lt_q20 le_q21 lt_q21 le_q22 lt_q22 le_q23 lt_q23 le_q24 lt_q24


/-- The node of what stands ahead, or none. -/
def optN : Option E → N
  | none => N.zero
  | some e => e.toN

def okO (o : Option E) : Prop := ∀ e, o = some e → e.ok

/-- Blocks of expressions: none of the reader's own. -/
def okS (R g b : Nat) : Prop := b ≠ R ∧ b ≠ R + 1 ∧ b ≠ R + 3 ∧ b ≠ g ∧ R ≤ b

def FrM (ok : Nat → Prop) (d : Nat) (W : World) (f : Fr) (m : Fm) : Prop :=
  m.name = toB f.name ∧ m.sum = optN f.sum ∧ m.mul = optN f.mul ∧ Tn ok d W m.sv m.sum.args ∧ Tn ok d W m.mv m.mul.args ∧ (f.sum = none → m.sv = nilV) ∧ (f.mul = none → m.mv = nilV) ∧ okO f.sum ∧ okO f.mul

def FrMs (ok : Nat → Prop) (d : Nat) (W : World) : List Fr → List Fm → Prop
  | [], ms => ms = []
  | f :: st, ms => ∃ ms' m, ms = ms' ++ [m] ∧ FrM ok d W f m ∧ FrMs ok d W st ms'

theorem FrM.frame {ok ok' : Nat → Prop} {d d' : Nat} {W W' : World} {f : Fr} {m : Fm} (h : FrM ok d W f m) (hd : d ≤ d') (hs : W.heap.size ≤ W'.heap.size) (hw : ∀ b, ok b → b < W.heap.size → W'.heap[b]? = W.heap[b]? ∧ ok' b) : FrM ok' d' W' f m :=
  ⟨h.1, h.2.1, h.2.2.1, (h.2.2.2.1.frame hs hw).up hd, (h.2.2.2.2.1.frame hs hw).up hd, h.2.2.2.2.2⟩

theorem FrMs.frame {ok ok' : Nat → Prop} {d d' : Nat} {W W' : World} {st : List Fr} {ms : List Fm} (h : FrMs ok d W st ms) (hd : d ≤ d') (hs : W.heap.size ≤ W'.heap.size) (hw : ∀ b, ok b → b < W.heap.size → W'.heap[b]? = W.heap[b]? ∧ ok' b) : FrMs ok' d' W' st ms := by
  induction st generalizing ms with
  | nil => exact h
  | cons f st ih =>
    obtain ⟨ms', m, rfl, h1, h2⟩ := h
    exact ⟨ms', m, rfl, h1.frame hd hs hw, ih h2⟩

theorem ok_size {e : E} (h : e.ok) : e.toN.text.size ≤ 9223372036854775807 := by
  cases e with
  | path t =>
    have := h.1
    simp only [pathL, Bool.and_eq_true, decide_eq_true_eq] at this
    simp only [E.toN, N.text, toB_size]
    omega
  | num n => exact Nat.zero_le _
  | sum a b => exact Nat.zero_le _
  | mul a b => exact Nat.zero_le _
  | call f a =>
    have := h.1
    simp only [isName, decide_eq_true_eq] at this
    simp only [E.toN, N.text, toB_size]
    rcases this with rfl | rfl | rfl | rfl | rfl <;> decide

theorem mulE_ok {o : Option E} {e : E} (ho : okO o) (he : e.ok) : (mulE o e).ok := by
  cases o with
  | none => exact he
  | some x => exact ⟨ho x rfl, he⟩
theorem addE_ok {o : Option E} {e : E} (ho : okO o) (he : e.ok) : (addE o e).ok := by
  cases o with
  | none => exact he
  | some x => exact ⟨ho x rfl, he⟩

/-- The reader's state: its text l, its frames f :: st. -/
structure Sg (R : Nat) (w W : World) (l : List UInt8) (st : List Fr) (f : Fr) (g cap d : Nat) (ms : List Fm) (m : Fm) : Prop where
  rdr : Rdr (R + 3) R W (toB l) (.slice (some ⟨g, 0, none⟩) (ms.length + 1) cap) (ms ++ [m])
  g0 : g ≠ R
  g1 : g ≠ R + 1
  top : FrM (okS R g) d W f m
  rest : FrMs (okS R g) d W st ms
  mvd : Mv (fun b => R ≤ b) w W
  size : w.heap.size = R
  res : W.heap[R]? = some (.cells #[.int .i64 0, .string ⟨#[]⟩, .int .i64 0, nilV] 81 (0, 0))
  len : ms.length + l.length ≤ 256
  names : ∀ x ∈ f :: st, x.name = [] ∨ isName x.name = true

/-- The box of n. -/
def NB (R : Nat) (W : World) (n : N) (sn : Value) : Prop := W.heap[R + 1]? = some (.cells #[.int .i64 n.kind, .string n.text, .int .i64 n.num, sn] 81 (0, 0))

theorem NB.cells {R : Nat} {W : World} {n : N} {sn : Value} (h : NB R W n sn) : (W.cell? ⟨R + 1, 0, none⟩ = some (.int .i64 n.kind) ∧ W.cell? ⟨R + 1, 1, none⟩ = some (.string n.text) ∧ W.cell? ⟨R + 1, 2, none⟩ = some (.int .i64 n.num) ∧ W.cell? ⟨R + 1, 3, none⟩ = some sn) ∧ (∀ i, W.frozen? ⟨R + 1, i, none⟩ = false) ∧ R + 1 < W.heap.size := by
  have h' : W.heap[R + 1]? = some (.cells #[.int .i64 n.kind, .string n.text, .int .i64 n.num, sn] 81 (0, 0)) := h
  exact ⟨⟨by simp [World.cell?, h'], by simp [World.cell?, h'], by simp [World.cell?, h'], by simp [World.cell?, h']⟩, fun i => by simp [World.frozen?, h'], lt_of_some h'⟩

theorem Sg.facts {R : Nat} {w W : World} {l : List UInt8} {st : List Fr} {f : Fr} {g cap d : Nat} {ms : List Fm} {m : Fm} (h : Sg R w W l st f g cap d ms m) :
    W.cell? ⟨R + 3, 0, none⟩ = some (.string (toB l)) ∧ W.cell? ⟨R + 3, 1, none⟩ = some (.slice (some ⟨g, 0, none⟩) (ms.length + 1) cap) ∧ (∀ i, W.frozen? ⟨R + 3, i, none⟩ = false) ∧ (∀ i, W.frozen? ⟨R, i, none⟩ = false) ∧ R + 3 < W.heap.size :=
  ⟨h.rdr.cells.1, h.rdr.cells.2.1, h.rdr.cells.2.2.1, fun i => by simp [World.frozen?, h.res], h.rdr.cells.2.2.2⟩

/-- What is turned lies outside of the state's blocks, or in the box of n. -/
theorem Sg.mv {R : Nat} {w W W' : World} {l : List UInt8} {st : List Fr} {f : Fr} {g cap d : Nat} {ms : List Fm} {m : Fm} (h : Sg R w W l st f g cap d ms m) (hm : Mv (fun b => b = R + 1) W W') : Sg R w W' l st f g cap d ms m := by
  have hok : ∀ b, okS R g b → b < W.heap.size → W'.heap[b]? = W.heap[b]? ∧ okS R g b := fun b hb hlt => ⟨hm.block b hlt hb.2.1, hb⟩
  refine ⟨h.rdr.mv hm (by omega) (fun g' hg' => ?_), h.g0, h.g1, h.top.frame (Nat.le_refl _) hm.size hok, h.rest.frame (Nat.le_refl _) hm.size hok, h.mvd.trans (hm.mono (fun n _ e => by omega)), h.size, ?_, h.len, h.names⟩
  · simp only [Value.ownBlock, Option.some.injEq] at hg'
    rw [← hg']
    exact h.g1
  · rw [hm.block R (by have := h.facts.2.2.2.2; omega) (by omega)]
    exact h.res

theorem Sg.adds {R : Nat} {w W W' : World} {l : List UInt8} {st : List Fr} {f : Fr} {g cap d : Nat} {ms : List Fm} {m : Fm} (h : Sg R w W l st f g cap d ms m) (hA : Adds W W') : Sg R w W' l st f g cap d ms m := h.mv hA.mv

theorem NB.adds {R : Nat} {W W' : World} {n : N} {sn : Value} (h : NB R W n sn) (hA : Adds W W') : NB R W' n sn := (hA.below.block _ (lt_of_some h)).trans h

/-- n stored into its box. -/
abbrev setN (W : World) (k : Nat) (n : N) (sn : Value) : World := (((W.setCell ⟨k, 0, none⟩ (.int .i64 n.kind)).setCell ⟨k, 1, none⟩ (.string n.text)).setCell ⟨k, 2, none⟩ (.int .i64 n.num)).setCell ⟨k, 3, none⟩ sn

theorem setN_mv (W : World) (k : Nat) (n : N) (sn : Value) : Mv (fun b => b = k) W (setN W k n sn) :=
  (((Mv.set1 _ _ _ _).trans (Mv.set1 _ _ _ _)).trans (Mv.set1 _ _ _ _)).trans (Mv.set1 _ _ _ _)

theorem set4 {W : World} {k : Nat} {a b c e x0 x1 x2 x3 : Value} {T : TypeId} (h : W.heap[k]? = some (.cells #[a, b, c, e] T (0, 0))) :
    ((((W.setCell ⟨k, 0, none⟩ x0).setCell ⟨k, 1, none⟩ x1).setCell ⟨k, 2, none⟩ x2).setCell ⟨k, 3, none⟩ x3).heap[k]? = some (.cells #[x0, x1, x2, x3] T (0, 0)) := by
  have h1 : (W.setCell ⟨k, 0, none⟩ x0).heap[k]? = some (.cells #[x0, b, c, e] T (0, 0)) := by simp [World.setCell, Array.getElem?_modify, h]
  have h2 : ((W.setCell ⟨k, 0, none⟩ x0).setCell ⟨k, 1, none⟩ x1).heap[k]? = some (.cells #[x0, x1, c, e] T (0, 0)) := by
    generalize W.setCell ⟨k, 0, none⟩ x0 = X at *
    simp [World.setCell, Array.getElem?_modify, h1]
  have h3 : (((W.setCell ⟨k, 0, none⟩ x0).setCell ⟨k, 1, none⟩ x1).setCell ⟨k, 2, none⟩ x2).heap[k]? = some (.cells #[x0, x1, x2, e] T (0, 0)) := by
    generalize (W.setCell ⟨k, 0, none⟩ x0).setCell ⟨k, 1, none⟩ x1 = X at *
    simp [World.setCell, Array.getElem?_modify, h2]
  generalize ((W.setCell ⟨k, 0, none⟩ x0).setCell ⟨k, 1, none⟩ x1).setCell ⟨k, 2, none⟩ x2 = X at *
  simp [World.setCell, Array.getElem?_modify, h3]

/-- Any box of n. -/
def NBox (R : Nat) (W : World) : Prop := ∃ a b c e, W.heap[R + 1]? = some (.cells #[a, b, c, e] 81 (0, 0))

theorem NB.box {R : Nat} {W : World} {n : N} {sn : Value} (h : NB R W n sn) : NBox R W := ⟨_, _, _, _, h⟩

theorem NBox.facts {R : Nat} {W : World} (h : NBox R W) : (∀ i, W.frozen? ⟨R + 1, i, none⟩ = false) ∧ R + 1 < W.heap.size := by
  obtain ⟨a, b, c, e, h⟩ := h
  exact ⟨fun i => by simp [World.frozen?, h], lt_of_some h⟩

theorem NBox.set {R : Nat} {W : World} (h : NBox R W) (n : N) (sn : Value) : NB R (setN W (R + 1) n sn) n sn := by
  obtain ⟨a, b, c, e, h⟩ := h
  exact set4 h

theorem NBox.mv {R : Nat} {W W' : World} {X : Nat → Prop} (h : NBox R W) (hm : Mv X W W') (hx : ¬ X (R + 1)) : NBox R W' := by
  obtain ⟨a, b, c, e, h⟩ := h
  exact ⟨a, b, c, e, (hm.block _ (lt_of_some h) hx).trans h⟩

theorem NB.mv {R : Nat} {W W' : World} {n : N} {sn : Value} {X : Nat → Prop} (h : NB R W n sn) (hm : Mv X W W') (hx : ¬ X (R + 1)) : NB R W' n sn :=
  (hm.block _ (lt_of_some h) hx).trans h

/-- The text turned. -/
theorem Sg.text {R : Nat} {w W : World} {l : List UInt8} {st : List Fr} {f : Fr} {g cap d : Nat} {ms : List Fm} {m : Fm} (h : Sg R w W l st f g cap d ms m) (l' : List UInt8) (hl : l'.length ≤ l.length) :
    Sg R w (W.setCell ⟨R + 3, 0, none⟩ (.string (toB l'))) l' st f g cap d ms m := by
  have hm := Mv.set1 W (R + 3) 0 (.string (toB l'))
  have hok : ∀ b, okS R g b → b < W.heap.size → (W.setCell ⟨R + 3, 0, none⟩ (.string (toB l'))).heap[b]? = W.heap[b]? ∧ okS R g b := fun b hb hlt => ⟨hm.block b hlt hb.2.2.1, hb⟩
  refine ⟨h.rdr.text _, h.g0, h.g1, h.top.frame (Nat.le_refl _) hm.size hok, h.rest.frame (Nat.le_refl _) hm.size hok, h.mvd.trans (hm.mono (fun n _ e => by omega)), h.size, ?_, by have := h.len; omega, h.names⟩
  rw [hm.block R (by have := h.facts.2.2.2.2; omega) (by omega)]
  exact h.res

theorem mult_any {R : Nat} {w W : World} {l : List UInt8} {st : List Fr} {f : Fr} {g cap d : Nat} {ms : List Fm} {m : Fm} (h : Sg R w W l st f g cap d ms m) (e : E) (he : e.ok) (sn : Value) (hn : Tn (okS R g) d W sn e.toN.args) :
    Calls Tryz.prog 92 #[.pointer (some ⟨R + 3, 0, none⟩), nodeV e.toN sn] W fun x W' => ∃ sr m', x = .returned (nodeV (mulE f.mul e).toN sr) ∧ Sg R w W' l st { f with mul := none } g cap (d + 1) ms m' ∧ Tn (okS R g) (d + 1) W' sr (mulE f.mul e).toN.args ∧ Mv (fun b => b = g) W W' := by
  have hl : ms.length ≤ 100000 := by have := h.len; omega
  obtain ⟨an, nc, hsn⟩ := hn.shape
  have hM := h.facts.2.2.2.2
  cases hf : f.mul with
  | none =>
    have hk : m.mul.kind = 0 := by rw [h.top.2.2.1, hf]; rfl
    refine (multiplied_none h.rdr hl e.toN hsn hk).mono ?_
    rintro x W' ⟨rfl, hA⟩
    have h' := h.adds hA
    have e1 : ({ f with mul := none } : Fr) = f := by rw [← hf]
    refine ⟨sn, m, rfl, ?_, (hn.adds hA).deeper, hA.mv⟩
    rw [e1]
    exact ⟨h'.rdr, h'.g0, h'.g1, h'.top.frame (Nat.le_succ _) (Nat.le_refl _) (fun b hb _ => ⟨rfl, hb⟩), h'.rest.frame (Nat.le_succ _) (Nat.le_refl _) (fun b hb _ => ⟨rfl, hb⟩), h'.mvd, h'.size, h'.res, h'.len, h'.names⟩
  | some y =>
    have hmul : m.mul = y.toN := by rw [h.top.2.2.1, hf]; rfl
    have hy : y.ok := h.top.2.2.2.2.2.2.2.2 y hf
    refine (multiplied_some (ok := okS R g) (d := d) h.rdr hl e.toN sn hn h.top.2.2.2.2.1 (by rw [hmul]; exact y.kind_ne) (fun k hk => ⟨by omega, by omega, by omega, by have := h.rdr.top; obtain ⟨g', c', hv, _, hg, _⟩ := this; simp only [Value.slice.injEq, Option.some.injEq, Addr.mk.injEq] at hv; omega, by omega⟩) (fun hg => hg.2.2.2.1 rfl) (ok_size he) (by rw [hmul]; exact ok_size hy)).mono ?_
    rintro x W' ⟨sr, rfl, ht, hR, hm⟩
    rw [hmul] at ht
    have hok : ∀ b, okS R g b → b < W.heap.size → W'.heap[b]? = W.heap[b]? ∧ okS R g b := fun b hb hlt => ⟨hm.block b hlt hb.2.2.2.1, hb⟩
    refine ⟨sr, { m with mul := N.zero, mv := nilV }, rfl, ?_, ht, hm⟩
    have ht1 := h.top.frame (Nat.le_succ _) hm.size hok
    refine ⟨hR, h.g0, h.g1, ⟨ht1.1, ht1.2.1, rfl, ht1.2.2.2.1, Tn.nil _ _ _, ht1.2.2.2.2.2.1, fun _ => rfl, ht1.2.2.2.2.2.2.2.1, fun e h => by cases h⟩, h.rest.frame (Nat.le_succ _) hm.size hok, h.mvd.trans (hm.mono (fun n _ e => ?_)), h.size, ?_, h.len, fun x hx => ?_⟩
    · obtain ⟨g', c', hv, _, hg, hB, _⟩ := h.rdr.top
      simp only [Value.slice.injEq, Option.some.injEq, Addr.mk.injEq] at hv
      omega
    · rw [hm.block R (by omega) (fun e => h.g0 e.symm)]
      exact h.res
    · rcases List.mem_cons.1 hx with rfl | hx
      · exact h.names f (by simp)
      · exact h.names x (by simp [hx])

theorem plus_any {R : Nat} {w W : World} {l : List UInt8} {st : List Fr} {f : Fr} {g cap d : Nat} {ms : List Fm} {m : Fm} (h : Sg R w W l st f g cap d ms m) (e : E) (he : e.ok) (sn : Value) (hn : Tn (okS R g) d W sn e.toN.args) :
    Calls Tryz.prog 94 #[.pointer (some ⟨R + 3, 0, none⟩), nodeV e.toN sn] W fun x W' => ∃ sr, x = .returned (nodeV (addE f.sum e).toN sr) ∧ Sg R w W' l st f g cap (d + 1) ms m ∧ Tn (okS R g) (d + 1) W' sr (addE f.sum e).toN.args ∧ Adds W W' := by
  have hl : ms.length ≤ 100000 := by have := h.len; omega
  obtain ⟨an, nc, hsn⟩ := hn.shape
  have hM := h.facts.2.2.2.2
  have hup : ∀ W', Adds W W' → Sg R w W' l st f g cap (d + 1) ms m := by
    intro W' hA
    have h' := h.adds hA
    exact ⟨h'.rdr, h'.g0, h'.g1, h'.top.frame (Nat.le_succ _) (Nat.le_refl _) (fun b hb _ => ⟨rfl, hb⟩), h'.rest.frame (Nat.le_succ _) (Nat.le_refl _) (fun b hb _ => ⟨rfl, hb⟩), h'.mvd, h'.size, h'.res, h'.len, h'.names⟩
  cases hf : f.sum with
  | none =>
    have hk : m.sum.kind = 0 := by rw [h.top.2.1, hf]; rfl
    refine (added_none h.rdr hl e.toN hsn (h.top.2.2.2.2.2.1 hf) hk).mono ?_
    rintro x W' ⟨rfl, hA⟩
    exact ⟨sn, rfl, hup W' hA, (hn.adds hA).deeper, hA⟩
  | some y =>
    have hsum : m.sum = y.toN := by rw [h.top.2.1, hf]; rfl
    have hy : y.ok := h.top.2.2.2.2.2.2.2.1 y hf
    refine (added_some (ok := okS R g) (d := d) h.rdr hl e.toN sn hn h.top.2.2.2.1 (by rw [hsum]; exact y.kind_ne) (fun k hk => ⟨by omega, by omega, by omega, by have := h.rdr.top; obtain ⟨g', c', hv, _, hg, _⟩ := this; simp only [Value.slice.injEq, Option.some.injEq, Addr.mk.injEq] at hv; omega, by omega⟩) (ok_size he) (by rw [hsum]; exact ok_size hy)).mono ?_
    rintro x W' ⟨sr, rfl, ht, hA⟩
    rw [hsum] at ht
    exact ⟨sr, rfl, hup W' hA, ht, hA⟩

theorem close_any {R : Nat} {w W : World} {l : List UInt8} {st : List Fr} {f f2 : Fr} {g cap d : Nat} {ms : List Fm} {m : Fm} (h : Sg R w W l (f2 :: st) f g cap d ms m) (e : E) (he : e.ok) (sn : Value) (hn : Tn (okS R g) d W sn e.toN.args) :
    Calls Tryz.prog 95 #[.pointer (some ⟨R + 3, 0, none⟩), nodeV e.toN sn] W fun x W' => ∃ sr ms' m', x = .returned (nodeV (closeE f.name e).toN sr) ∧ Sg R w W' l st f2 g cap (d + 1) ms' m' ∧ Tn (okS R g) (d + 1) W' sr (closeE f.name e).toN.args ∧ Mv (fun b => b = R + 3) W W' := by
  have hl : ms.length ≤ 100000 := by have := h.len; omega
  obtain ⟨an, nc, hsn⟩ := hn.shape
  have hM := h.facts.2.2.2.2
  obtain ⟨ms', m', rfl, hm2, hms⟩ := h.rest
  have hl2 : (ms' ++ [m']).length = ms'.length + 1 := by simp
  have hup : ∀ W', Rdr (R + 3) R W' (toB l) (.slice (some ⟨g, 0, none⟩) (ms' ++ [m']).length cap) (ms' ++ [m']) → Mv (fun b => b = R + 3) W W' → Sg R w W' l st f2 g cap (d + 1) ms' m' := by
    intro W' hR hm
    have hok : ∀ b, okS R g b → b < W.heap.size → W'.heap[b]? = W.heap[b]? ∧ okS R g b := fun b hb hlt => ⟨hm.block b hlt hb.2.2.1, hb⟩
    rw [hl2] at hR
    refine ⟨hR, h.g0, h.g1, hm2.frame (Nat.le_succ _) hm.size hok, hms.frame (Nat.le_succ _) hm.size hok, h.mvd.trans (hm.mono (fun n _ e => by omega)), h.size, ?_, by have := h.len; rw [hl2] at this; omega, fun x hx => h.names x (List.mem_cons_of_mem _ hx)⟩
    rw [hm.block R (by omega) (by omega)]
    exact h.res
  by_cases hf : f.name = []
  · have hnm : m.name.toList = [] := by rw [h.top.1, toB_toList, hf]
    refine (closed_none h.rdr hl e.toN hsn hnm).mono ?_
    rintro x W' ⟨rfl, hR, hm⟩
    refine ⟨sn, ms', m', by rw [closeE, if_pos hf], hup W' hR hm, ?_, hm⟩
    rw [closeE, if_pos hf]
    exact (hn.mv hm (fun b _ hb => hb.2.2.1)).deeper
  · have hnm : m.name.toList ≠ [] := by rw [h.top.1, toB_toList]; exact hf
    refine (closed_some (ok := okS R g) (d := d) h.rdr hl e.toN sn hn hnm (fun k hk => ⟨by omega, by omega, by omega, by have := h.rdr.top; obtain ⟨g', c', hv, _, hg, _⟩ := this; simp only [Value.slice.injEq, Option.some.injEq, Addr.mk.injEq] at hv; omega, by omega⟩) (fun hM => hM.2.2.1 rfl) (ok_size he)).mono ?_
    rintro x W' ⟨sr, rfl, ht, hR, hm⟩
    refine ⟨sr, ms', m', by rw [closeE, if_neg hf, h.top.1]; rfl, hup W' hR hm, ?_, hm⟩
    rw [closeE, if_neg hf]
    exact ht

/-- n laid into the top frame, behind a `*`. -/
theorem Sg.setMul {R : Nat} {w W : World} {l : List UInt8} {st : List Fr} {f : Fr} {g cap d : Nat} {ms : List Fm} {m : Fm} (h : Sg R w W l st f g cap d ms m) (e : E) (he : e.ok) (sn : Value) (hn : Tn (okS R g) d W sn e.toN.args) :
    ∃ m', Sg R w ((((W.setCell ⟨g, ms.length * 9 + 5, none⟩ (.int .i64 e.toN.kind)).setCell ⟨g, ms.length * 9 + 5 + 1, none⟩ (.string e.toN.text)).setCell ⟨g, ms.length * 9 + 5 + 2, none⟩ (.int .i64 e.toN.num)).setCell ⟨g, ms.length * 9 + 5 + 3, none⟩ sn) l st { f with mul := some e } g cap d ms m' := by
  have r1 := h.rdr.set (f' := { m with mul := .mk e.toN.kind m.mul.text m.mul.num m.mul.args }) 5 (.int .i64 e.toN.kind) rfl
  have r2 := r1.set (f' := { m with mul := .mk e.toN.kind e.toN.text m.mul.num m.mul.args }) 6 (.string e.toN.text) rfl
  have r3 := r2.set (f' := { m with mul := .mk e.toN.kind e.toN.text e.toN.num m.mul.args }) 7 (.int .i64 e.toN.num) rfl
  have r4 := r3.set (f' := { m with mul := e.toN, mv := sn }) 8 sn rfl
  have hm : Mv (fun b => b = g) W ((((W.setCell ⟨g, ms.length * 9 + 5, none⟩ (.int .i64 e.toN.kind)).setCell ⟨g, ms.length * 9 + 5 + 1, none⟩ (.string e.toN.text)).setCell ⟨g, ms.length * 9 + 5 + 2, none⟩ (.int .i64 e.toN.num)).setCell ⟨g, ms.length * 9 + 5 + 3, none⟩ sn) :=
    (((Mv.set1 _ _ _ _).trans (Mv.set1 _ _ _ _)).trans (Mv.set1 _ _ _ _)).trans (Mv.set1 _ _ _ _)
  have hok := fun b (hb : okS R g b) (hlt : b < W.heap.size) => And.intro (hm.block b hlt hb.2.2.2.1) hb
  have ht1 := h.top.frame (Nat.le_refl _) hm.size hok
  refine ⟨{ m with mul := e.toN, mv := sn }, r4, h.g0, h.g1, ⟨ht1.1, ht1.2.1, rfl, ht1.2.2.2.1, hn.mv hm (fun b _ hb => hb.2.2.2.1), ht1.2.2.2.2.2.1, (fun h => by cases h), ht1.2.2.2.2.2.2.2.1, fun e' h => by cases h; exact he⟩, h.rest.frame (Nat.le_refl _) hm.size hok, h.mvd.trans (hm.mono (fun n _ e => ?_)), h.size, ?_, h.len, fun x hx => ?_⟩
  · obtain ⟨g', c', hv, _, hg, hB, _⟩ := h.rdr.top
    simp only [Value.slice.injEq, Option.some.injEq, Addr.mk.injEq] at hv
    omega
  · rw [hm.block R (by have := h.facts.2.2.2.2; omega) (fun e => h.g0 e.symm)]
    exact h.res
  · rcases List.mem_cons.1 hx with rfl | hx
    · exact h.names f (by simp)
    · exact h.names x (by simp [hx])

theorem Sg.setSum {R : Nat} {w W : World} {l : List UInt8} {st : List Fr} {f : Fr} {g cap d : Nat} {ms : List Fm} {m : Fm} (h : Sg R w W l st f g cap d ms m) (e : E) (he : e.ok) (sn : Value) (hn : Tn (okS R g) d W sn e.toN.args) :
    ∃ m', Sg R w ((((W.setCell ⟨g, ms.length * 9 + 1, none⟩ (.int .i64 e.toN.kind)).setCell ⟨g, ms.length * 9 + 1 + 1, none⟩ (.string e.toN.text)).setCell ⟨g, ms.length * 9 + 1 + 2, none⟩ (.int .i64 e.toN.num)).setCell ⟨g, ms.length * 9 + 1 + 3, none⟩ sn) l st { f with sum := some e } g cap d ms m' := by
  have r1 := h.rdr.set (f' := { m with sum := .mk e.toN.kind m.sum.text m.sum.num m.sum.args }) 1 (.int .i64 e.toN.kind) rfl
  have r2 := r1.set (f' := { m with sum := .mk e.toN.kind e.toN.text m.sum.num m.sum.args }) 2 (.string e.toN.text) rfl
  have r3 := r2.set (f' := { m with sum := .mk e.toN.kind e.toN.text e.toN.num m.sum.args }) 3 (.int .i64 e.toN.num) rfl
  have r4 := r3.set (f' := { m with sum := e.toN, sv := sn }) 4 sn rfl
  have hm : Mv (fun b => b = g) W ((((W.setCell ⟨g, ms.length * 9 + 1, none⟩ (.int .i64 e.toN.kind)).setCell ⟨g, ms.length * 9 + 1 + 1, none⟩ (.string e.toN.text)).setCell ⟨g, ms.length * 9 + 1 + 2, none⟩ (.int .i64 e.toN.num)).setCell ⟨g, ms.length * 9 + 1 + 3, none⟩ sn) :=
    (((Mv.set1 _ _ _ _).trans (Mv.set1 _ _ _ _)).trans (Mv.set1 _ _ _ _)).trans (Mv.set1 _ _ _ _)
  have hok := fun b (hb : okS R g b) (hlt : b < W.heap.size) => And.intro (hm.block b hlt hb.2.2.2.1) hb
  have ht1 := h.top.frame (Nat.le_refl _) hm.size hok
  refine ⟨{ m with sum := e.toN, sv := sn }, r4, h.g0, h.g1, ⟨ht1.1, rfl, ht1.2.2.1, hn.mv hm (fun b _ hb => hb.2.2.2.1), ht1.2.2.2.2.1, (fun h => by cases h), ht1.2.2.2.2.2.2.1, (fun e' h => by cases h; exact he), ht1.2.2.2.2.2.2.2.2⟩, h.rest.frame (Nat.le_refl _) hm.size hok, h.mvd.trans (hm.mono (fun n _ e => ?_)), h.size, ?_, h.len, fun x hx => ?_⟩
  · obtain ⟨g', c', hv, _, hg, hB, _⟩ := h.rdr.top
    simp only [Value.slice.injEq, Option.some.injEq, Addr.mk.injEq] at hv
    omega
  · rw [hm.block R (by have := h.facts.2.2.2.2; omega) (fun e => h.g0 e.symm)]
    exact h.res
  · rcases List.mem_cons.1 hx with rfl | hx
    · exact h.names f (by simp)
    · exact h.names x (by simp [hx])

end Go.Proofs.YtiacnmcdfpmcfaaGreatDoor

namespace Go.Proofs.YtiacnmcdfpmcfaaGreatDoor
open Go.RowKit
attribute [local go_sem] cell?_more frozen?_more setCell_more size_more tape_more drew_more drewN_more more_drew more_drewN one_out plus_out plus_end lt_one le_p2 le_p3 le_p4 le_p5 le_p6 le_p7 le_p8 le_p9 le_p10 le_p11 le_p12 le_p13 le_p14 le_p15 le_p16 le_p17 le_p18 le_p19 le_p20 le_p21 le_p22 le_p23 le_p24 le_q0 le_q1 lt_q1 le_q2 lt_q2 le_q3 lt_q3 le_q4 lt_q4 le_q5 lt_q5 le_q6 lt_q6 le_q7 lt_q7 le_q8 lt_q8 le_q9 lt_q9 le_q10 lt_q10 le_q11 lt_q11 le_q12 lt_q12 le_q13 lt_q13 le_q14 lt_q14 le_q15 lt_q15 le_q16 lt_q16 le_q17 lt_q17 le_q18 lt_q18 le_q19 lt_q19 le_q20 lt_q20 le_q21 lt_q21 le_q22 lt_q22 le_q23 lt_q23 le_q24 lt_q24


/-- As Q; by a goto to label 0: K0, to label 1: K1; by any other goto: no way out. -/
def jump2 (K0 K1 : Act → World → Prop) (Q : Exit → Act → World → Prop) : Exit → Act → World → Prop
  | .goto l, a, w => (l = 0 ∧ K0 a w) ∨ (l = 1 ∧ K1 a w)
  | e, a, w => Q e a w

theorem jump2_mono {K0 K1 L0 L1 : Act → World → Prop} {Q : Exit → Act → World → Prop} (h0 : ∀ a w, K0 a w → L0 a w) (h1 : ∀ a w, K1 a w → L1 a w) : ∀ e a w, jump2 K0 K1 Q e a w → jump2 L0 L1 Q e a w := by
  intro e a w h
  cases e with
  | goto l => exact h.elim (fun x => .inl ⟨x.1, h0 a w x.2⟩) (fun x => .inr ⟨x.1, h1 a w x.2⟩)
  | normal => exact h
  | exit id => exact h
  | ret => exact h
  | panic ch => exact h
  | outgrown => exact h

/-- A scope whose run jumps back to two labels: every pass from a label lowers a measure. -/
theorem wp_scope_two {P : Program} {a : Act} {w : World} {Q : Exit → Act → World → Prop} {c r0 r1 : Code} (J0 J1 : Act → World → Prop) (μ : Act → World → Nat) (hf0 : findLabel c 0 = some (Code.skip.seq r0)) (hf1 : findLabel c 1 = some (Code.skip.seq r1))
    (pass1 : ∀ a w, J1 a w → r1.wp P (jump2 (fun a' w' => J0 a' w' ∧ μ a' w' < μ a w) (fun a' w' => J1 a' w' ∧ μ a' w' < μ a w) Q) a w)
    (pass0 : ∀ a w, J0 a w → (∀ a' w', J1 a' w' → μ a' w' ≤ μ a w → r1.wp P (jump2 (fun a' w' => J0 a' w' ∧ μ a' w' < μ a w) (fun a' w' => J1 a' w' ∧ μ a' w' < μ a w) Q) a' w') → r0.wp P (jump2 (fun a' w' => J0 a' w' ∧ μ a' w' < μ a w) (fun a' w' => J1 a' w' ∧ μ a' w' < μ a w) Q) a w)
    (first : (∀ a' w', J0 a' w' → r0.wp P (jump2 J0 J1 Q) a' w') → c.wp P (jump2 J0 J1 Q) a w) : (Code.scope c).wp P Q a w := by
  have pass0' : ∀ a w, J0 a w → r0.wp P (jump2 (fun a' w' => J0 a' w' ∧ μ a' w' < μ a w) (fun a' w' => J1 a' w' ∧ μ a' w' < μ a w) Q) a w := by
    intro a w h
    refine pass0 a w h (fun a' w' h1 hle => wp_mono (pass1 a' w' h1) (jump2_mono ?_ ?_))
    · rintro x y ⟨hx, hlt⟩
      exact ⟨hx, by omega⟩
    · rintro x y ⟨hx, hlt⟩
      exact ⟨hx, by omega⟩
  have first' := first (fun a' w' h => wp_mono (pass0' a' w' h) (jump2_mono (fun _ _ x => x.1) (fun _ _ x => x.1)))
  intro b k cs
  have hg0 : gotoIn 0 (.inScope c :: k) = some (.code (Code.skip.seq r0) :: .inScope c :: k) := by simp [gotoIn, hf0]
  have hg1 : gotoIn 1 (.inScope c :: k) = some (.code (Code.skip.seq r1) :: .inScope c :: k) := by simp [gotoIn, hf1]
  have key : ∀ n a w, μ a w = n → (J0 a w → ∃ e a' w', Q e a' w' ∧ Arrives P (lone (b.at a (.code (Code.skip.seq r0) :: .inScope c :: k)) cs w) b k cs e a' w') ∧ (J1 a w → ∃ e a' w', Q e a' w' ∧ Arrives P (lone (b.at a (.code (Code.skip.seq r1) :: .inScope c :: k)) cs w) b k cs e a' w') := by
    intro n
    induction n using Nat.strongRecOn with
    | _ n ih =>
      intro a w hn
      have go : ∀ r : Code, r.wp P (jump2 (fun a' w' => J0 a' w' ∧ μ a' w' < μ a w) (fun a' w' => J1 a' w' ∧ μ a' w' < μ a w) Q) a w → ∃ e a' w', Q e a' w' ∧ Arrives P (lone (b.at a (.code r :: .inScope c :: k)) cs w) b k cs e a' w' := by
        intro r hr
        obtain ⟨e, a1, w1, hq, harr⟩ := hr b (.inScope c :: k) cs
        cases e with
        | normal => exact ⟨.normal, a1, w1, hq, Steps.trans harr (.one step_inScope)⟩
        | exit id => exact ⟨.exit id, a1, w1, hq, fun k' hk => harr k' (by simp [exitTo, hk])⟩
        | goto l' =>
          rcases hq with ⟨rfl, hJ, hlt⟩ | ⟨rfl, hJ, hlt⟩
          · obtain ⟨e2, a2, w2, hq2, harr2⟩ := (ih _ (by omega) a1 w1 rfl).1 hJ
            exact ⟨e2, a2, w2, hq2, .of_steps (harr _ hg0) harr2⟩
          · obtain ⟨e2, a2, w2, hq2, harr2⟩ := (ih _ (by omega) a1 w1 rfl).2 hJ
            exact ⟨e2, a2, w2, hq2, .of_steps (harr _ hg1) harr2⟩
        | ret => exact ⟨_, a1, w1, hq, harr⟩
        | panic ch => exact ⟨_, a1, w1, hq, harr⟩
        | outgrown => exact ⟨_, a1, w1, hq, harr⟩
      exact ⟨fun h => go _ (wp_seq (wp_skip (pass0' a w h))), fun h => go _ (wp_seq (wp_skip (pass1 a w h)))⟩
  obtain ⟨e, a1, w1, hq, harr⟩ := first' b (.inScope c :: k) cs
  cases e with
  | normal => exact ⟨.normal, a1, w1, hq, .head step_scope (Steps.trans harr (.one step_inScope))⟩
  | exit id => exact ⟨.exit id, a1, w1, hq, fun k' hk => .head step_scope (harr k' (by simp [exitTo, hk]))⟩
  | goto l' =>
    rcases hq with ⟨rfl, hJ⟩ | ⟨rfl, hJ⟩
    · obtain ⟨e2, a2, w2, hq2, harr2⟩ := (key _ a1 w1 rfl).1 hJ
      exact ⟨e2, a2, w2, hq2, .of_steps (.head step_scope (harr _ hg0)) harr2⟩
    · obtain ⟨e2, a2, w2, hq2, harr2⟩ := (key _ a1 w1 rfl).2 hJ
      exact ⟨e2, a2, w2, hq2, .of_steps (.head step_scope (harr _ hg1)) harr2⟩
  | ret => exact ⟨_, a1, w1, hq, .of_steps (.one step_scope) harr⟩
  | panic ch => exact ⟨_, a1, w1, hq, .of_steps (.one step_scope) harr⟩
  | outgrown => exact ⟨_, a1, w1, hq, .of_steps (.one step_scope) harr⟩

theorem Tryz.info135 : (Tryz.prog.info? 135).map (fun i => (i.zero, i.size, i.bytes)) = some (some (.agg #[.string ⟨#[]⟩, .int .i64 0, .string ⟨#[]⟩, .int .i64 0, .slice none 0 0, .int .i64 0, .string ⟨#[]⟩, .int .i64 0, .slice none 0 0]), 9, 128) := by kernel_rfl

theorem info_parts {i : Option TypeInfo} {z : Option Value} {n b : Nat} (h : i.map (fun i => (i.zero, i.size, i.bytes)) = some (z, n, b)) : ∃ i0, i = some i0 ∧ i0.zero = z ∧ i0.size = n ∧ i0.bytes = b := by
  cases i with
  | none => cases h
  | some i0 =>
    simp only [Option.map_some, Option.some.injEq, Prod.mk.injEq] at h
    exact ⟨i0, rfl, h.1, h.2.1, h.2.2⟩

/-- append of one frame. -/
theorem frame_app {ops : Array Oper} {rest : List Oper} {o : Oper} {a : Act} {w : World} {Q : Exit → Act → World → Prop} (hgd : o.guard = none) (s x : Operand) (ho : o.op = .call { callee := .builtin .append, args := #[s, x], argTypes := #[136, 136] })
    {B g cap : Nat} {fs : List Fm} (h : w.ownsRow B 135 9 (.slice (some ⟨g, 0, none⟩) fs.length cap) fs.length (cellsF fs)) (hB : B ≤ w.heap.size) (hs : a.eval s = .slice (some ⟨g, 0, none⟩) fs.length cap) (f : Fm) {k c : Nat} (hx : a.eval x = .slice (some ⟨k, 0, none⟩) 1 c)
    (hc : ∀ j u, f.cells[j]? = some u → w.cell? ⟨k, j, none⟩ = some u) (hone : ∀ u ∈ f.cells, u.oneCell' = true) (hlen : fs.length ≤ 10000)
    (hk : ∀ g' cap' w', w'.ownsRow B 135 9 (.slice (some ⟨g', 0, none⟩) (fs.length + 1) cap') (fs ++ [f]).length (cellsF (fs ++ [f])) → w.grownBy w' (some g) → (g' = g ∨ g' = w.heap.size) → wpList Tryz.prog ops Q rest (a.put o.dst (.slice (some ⟨g', 0, none⟩) (fs.length + 1) cap')) w') : wpList Tryz.prog ops Q (o :: rest) a w := by
  obtain ⟨i0, hi, hz0, hz1, hz2⟩ := info_parts Tryz.info135
  have hnews : ∀ j u, f.cells[j]? = some u → w.cell? ((⟨k, 0, none⟩ : Addr).add j) = some u := by
    intro j u hj
    rw [Addr.add_lit, Nat.zero_add]
    exact hc j u hj
  obtain ⟨v', w', h1, h2, h3, _⟩ := run_append_own (P := Tryz.prog) w B 136 o.type 135 i0 _ 9 128 Tryz.underlying136 hi hz0 hz1 hz2 rfl (by decide) _ fs.length (cellsF fs) h ⟨k, 0, none⟩ 1 c f.cells rfl hnews hone (by unfold maxLen; omega) (by omega) hB
  have hdet : ∀ v1 w1, (Builtin.append_ #[136, 136] o.type #[.slice (some ⟨g, 0, none⟩) fs.length cap, .slice (some ⟨k, 0, none⟩) 1 c]).run Tryz.prog w = .ok v1 w1 → v' = v1 := by
    intro v1 w1 h
    rw [h1] at h
    simp only [Result.ok.injEq] at h
    exact h.1
  have hlen2 : (cellsF fs).length = fs.length * i0.size := by rw [cellsF_length, hz1]
  have hl2 : f.cells.length = 1 * i0.size := by rw [hz1]; rfl
  have hvb : v'.ownBlock = some g ∨ v'.ownBlock = some w.heap.size := by
    rcases h.2 with ⟨h0, hn⟩ | ⟨g2, cap2, cur, he, hbg, hg, hnc, hcm, hcs, htake⟩
    · cases h0
    · simp only [Value.slice.injEq, Option.some.injEq, Addr.mk.injEq] at he
      obtain ⟨⟨rfl, _⟩, _, rfl⟩ := he
      by_cases hroom : fs.length + 1 ≤ cap
      · have := hdet _ _ (run_append_room (P := Tryz.prog) w 136 o.type 135 i0 Tryz.underlying136 hi g fs.length cap cur hg ⟨k, 0, none⟩ 1 c f.cells hl2 hnews hone hroom (by rw [hz1, hcs]; have : f.cells.length = 9 := rfl; omega))
        rw [this]
        exact .inl rfl
      · have := hdet _ _ (run_append_grow (P := Tryz.prog) w 136 o.type 135 i0 _ Tryz.underlying136 hi hz0 ⟨g, 0, none⟩ fs.length cap (cellsF fs) hlen2 (h.cells (g := g) rfl) ⟨k, 0, none⟩ 1 c f.cells hl2 hnews (by omega) (by omega) (by rw [hz2]; exact growslice_fits (by omega) (by omega)))
        rw [this]
        exact .inr rfl
  have h2' : w'.ownsRow B 135 9 v' (fs ++ [f]).length (cellsF (fs ++ [f])) := by
    rw [cellsF_append, List.length_append]
    have e1 : cellsF [f] = f.cells := by simp [cellsF]
    rw [e1]
    exact h2
  rcases h2'.2 with ⟨h0, hn⟩ | ⟨g', cap', cur, rfl, hr⟩
  · simp at hn
  · have hl3 : (fs ++ [f]).length = fs.length + 1 := by simp
    rw [hl3] at hdet h1
    have h4 := h2'
    rw [hl3] at h4
    refine Lib.wpList_append_run w hgd s x 136 136 ho _ _ hs hx _ w' h1 (hk g' cap' w' (by rw [hl3]; exact h4) h3 ?_)
    rcases hvb with hvb | hvb
    · left
      simpa [Value.ownBlock] using hvb
    · right
      simpa [Value.ownBlock] using hvb

theorem cell_new {X : World} {cs : List Value} {T : TypeId} {k : Nat} (hk : k = X.heap.size) {j : Nat} {u : Value} (h : cs[j]? = some u) : (X.alloc (.cells cs.toArray T)).cell? ⟨k, j, none⟩ = some u := by
  subst hk
  simp [h]

/-- append of one frame, where it is asked for. -/
theorem frame_app_n {ops : Array Oper} {rest : List Oper} {o : Oper} {a : Act} {X : World} {Q : Exit → Act → World → Prop} (hgd : o.guard = none) (s x : Operand) (ho : o.op = .call { callee := .builtin .append, args := #[s, x], argTypes := #[136, 136] })
    {R : Nat} {w W : World} {l : List UInt8} {st : List Fr} {f : Fr} {g cap d : Nat} {ms : List Fm} {m : Fm} (h : Sg R w W l st f g cap d ms m) (hA : Adds W X) (nm : List UInt8) (hs : a.eval s = .slice (some ⟨g, 0, none⟩) (ms.length + 1) cap) {k c : Nat} (hk : k = X.heap.size) (hx : a.eval x = .slice (some ⟨k, 0, none⟩) 1 c)
    (hnext : ∀ g' cap' w', w'.ownsRow R 135 9 (.slice (some ⟨g', 0, none⟩) (ms.length + 1 + 1) cap') (ms ++ [m] ++ [(⟨toB nm, N.zero, nilV, N.zero, nilV⟩ : Fm)]).length (cellsF (ms ++ [m] ++ [(⟨toB nm, N.zero, nilV, N.zero, nilV⟩ : Fm)])) → (X.alloc (.cells #[.string (toB nm), .int .i64 0, .string ⟨#[]⟩, .int .i64 0, nilV, .int .i64 0, .string ⟨#[]⟩, .int .i64 0, nilV] 135)).grownBy w' (some g) → (g' = g ∨ g' = (X.alloc (.cells #[.string (toB nm), .int .i64 0, .string ⟨#[]⟩, .int .i64 0, nilV, .int .i64 0, .string ⟨#[]⟩, .int .i64 0, nilV] 135)).heap.size) → wpList Tryz.prog ops Q rest (a.put o.dst (.slice (some ⟨g', 0, none⟩) (ms.length + 1 + 1) cap')) w') :
    wpList Tryz.prog ops Q (o :: rest) a (X.alloc (.cells #[.string (toB nm), .int .i64 0, .string ⟨#[]⟩, .int .i64 0, nilV, .int .i64 0, .string ⟨#[]⟩, .int .i64 0, nilV] 135)) := by
  have hl : (ms ++ [m]).length = ms.length + 1 := by simp
  have h1 := (h.adds (hA.alloc (.cells #[.string (toB nm), .int .i64 0, .string ⟨#[]⟩, .int .i64 0, nilV, .int .i64 0, .string ⟨#[]⟩, .int .i64 0, nilV] 135))).rdr
  refine frame_app hgd s x ho (B := R) (g := g) (cap := cap) (fs := ms ++ [m]) (by have := h1.2.1; rw [hl] at this ⊢; exact this) h1.2.2 (by rw [hl]; exact hs) ⟨toB nm, N.zero, nilV, N.zero, nilV⟩ hx (fun j u hj => cell_new hk hj) ?_ (by rw [hl]; have := h.len; omega) ?_
  · intro u hu
    simp only [Fm.cells, N.zero, N.kind, N.text, N.num, List.mem_cons, List.mem_nil_iff, or_false] at hu
    rcases hu with rfl | rfl | rfl | rfl | rfl | rfl | rfl | rfl | rfl <;> rfl
  · intro g' cap' w' ho hg hgg
    rw [hl] at ho ⊢
    exact hnext g' cap' w' ho hg hgg

theorem Sg.push {R : Nat} {w W W1 W2 : World} {l : List UInt8} {st : List Fr} {f : Fr} {g cap d : Nat} {ms : List Fm} {m : Fm} (h : Sg R w W l st f g cap d ms m) (hA : Adds W W1) (hg : W1.grownBy W2 (some g)) {g' cap' : Nat} {nm : List UInt8} (hnm : nm = [] ∨ isName nm = true)
    (ho : W2.ownsRow R 135 9 (.slice (some ⟨g', 0, none⟩) (ms.length + 1 + 1) cap') (ms ++ [m] ++ [(⟨toB nm, N.zero, nilV, N.zero, nilV⟩ : Fm)]).length (cellsF (ms ++ [m] ++ [(⟨toB nm, N.zero, nilV, N.zero, nilV⟩ : Fm)]))) (hgg : g' = g ∨ g' = W1.heap.size) (hlen : ms.length + 1 + l.length ≤ 256) :
    Sg R w (W2.setCell ⟨R + 3, 1, none⟩ (.slice (some ⟨g', 0, none⟩) (ms.length + 1 + 1) cap')) l (f :: st) ⟨nm, none, none⟩ g' cap' d (ms ++ [m]) ⟨toB nm, N.zero, nilV, N.zero, nilV⟩ := by
  have h1 := h.adds hA
  have hM := h1.facts.2.2.2.2
  have hgM : g ≠ R + 3 := fun e => h.rdr.far (by simp [Value.ownBlock, e])
  have mv1 : Mv (fun b => b = g) W1 W2 := ⟨hg.os, hg.tape, hg.output, hg.size, fun b hb hx => hg.block b hb (fun e => hx (by simpa using e))⟩
  have hM2 : W2.heap[R + 3]? = some (.cells #[.string (toB l), .slice (some ⟨g, 0, none⟩) (ms.length + 1) cap] 138 (0, 0)) := by
    rw [mv1.block (R + 3) hM (fun e => hgM e.symm)]
    exact h1.rdr.1
  have mv2 := Mv.set1 W2 (R + 3) 1 (.slice (some ⟨g', 0, none⟩) (ms.length + 1 + 1) cap')
  have hg'M : g' ≠ R + 3 := by
    intro e
    rcases ho.2 with ⟨h0, _⟩ | ⟨g2, c2, cur, he, _, hg2, _⟩
    · cases h0
    · simp only [Value.slice.injEq, Option.some.injEq, Addr.mk.injEq] at he
      obtain ⟨⟨rfl, _⟩, _, rfl⟩ := he
      rw [e, hM2] at hg2
      simp at hg2
  have hok : ∀ b, okS R g b → b < W1.heap.size → (W2.setCell ⟨R + 3, 1, none⟩ (.slice (some ⟨g', 0, none⟩) (ms.length + 1 + 1) cap')).heap[b]? = W1.heap[b]? ∧ okS R g' b := by
    intro b hb hlt
    refine ⟨?_, hb.1, hb.2.1, hb.2.2.1, ?_, hb.2.2.2.2⟩
    · rw [mv2.block b (Nat.lt_of_lt_of_le hlt mv1.size) hb.2.2.1, mv1.block b hlt hb.2.2.2.1]
    · rcases hgg with rfl | rfl
      · exact hb.2.2.2.1
      · omega
  have hs2 : W1.heap.size ≤ (W2.setCell ⟨R + 3, 1, none⟩ (.slice (some ⟨g', 0, none⟩) (ms.length + 1 + 1) cap')).heap.size := Nat.le_trans mv1.size mv2.size
  have hl2 : (ms ++ [m]).length = ms.length + 1 := by simp
  have hRg : R ≤ g := by
    obtain ⟨g2, c2, hv, _, _, hB, _⟩ := h.rdr.top
    simp only [Value.slice.injEq, Option.some.injEq, Addr.mk.injEq] at hv
    omega
  refine ⟨?_, ?_, ?_, ⟨rfl, rfl, rfl, Tn.nil _ _ _, Tn.nil _ _ _, fun _ => rfl, fun _ => rfl, (fun e h => by cases h), (fun e h => by cases h)⟩, ⟨ms, m, rfl, h1.top.frame (Nat.le_refl _) hs2 hok, h1.rest.frame (Nat.le_refl _) hs2 hok⟩, ?_, h.size, ?_, by rw [hl2]; exact hlen, ?_⟩
  · rw [hl2]
    refine ⟨set_r1 hM2, ⟨?_, ?_⟩, ?_⟩
    · exact cellsF_length _
    · rcases ho.2 with ⟨h0, _⟩ | ⟨g2, c2, cur, he, hb, hg2, hr⟩
      · cases h0
      · simp only [Value.slice.injEq, Option.some.injEq, Addr.mk.injEq] at he
        obtain ⟨⟨rfl, _⟩, _, rfl⟩ := he
        refine .inr ⟨g', cap', cur, by simp, hb, ?_, hr⟩
        rw [Below.heap_setCell W2 ⟨R + 3, 1, none⟩ _ g' hg'M]
        exact hg2
    · have := h1.rdr.2.2
      omega
  · rcases hgg with rfl | rfl
    · exact h.g0
    · omega
  · rcases hgg with rfl | rfl
    · exact h.g1
    · omega
  · exact (h1.mvd.trans (mv1.mono (fun n _ e => by omega))).trans (mv2.mono (fun n _ e => by omega))
  · rw [mv2.block R (by have := mv1.size; omega) (by omega), mv1.block R (by omega) (fun e => h.g0 e.symm)]
    exact h1.res
  · intro x hx
    rcases List.mem_cons.1 hx with rfl | hx
    · exact hnm
    · exact h.names x hx

/-- What read tells of a text. -/
def ReadTold (s : List UInt8) (w : World) (e : Ending) (W' : World) : Prop :=
  (∃ x sr d, M s [] Fr.none none = some x ∧ e = .returned (.tuple #[nodeV x.toN sr, .bool true]) ∧ Tn (fun b => w.heap.size ≤ b) d W' sr x.toN.args ∧ Adds w W') ∨
  (M s [] Fr.none none = none ∧ e = .returned (.tuple #[nodeV N.zero nilV, .bool false]) ∧ Adds w W')

/-- How much of the text is left. -/
def left (R : Nat) (W : World) : Nat := match W.cell? ⟨R + 3, 0, none⟩ with | some (.string s) => s.size | _ => 0

theorem Sg.left {R : Nat} {w W : World} {l : List UInt8} {st : List Fr} {f : Fr} {g cap d : Nat} {ms : List Fm} {m : Fm} (h : Sg R w W l st f g cap d ms m) : left R W = l.length := by
  simp only [YtiacnmcdfpmcfaaGreatDoor.left, h.facts.1, toB_size]

end Go.Proofs.YtiacnmcdfpmcfaaGreatDoor

namespace Go.Proofs.YtiacnmcdfpmcfaaGreatDoor
open Go.RowKit


theorem drewN_zero (w : World) : w.drewN 0 = w := rfl

theorem stringish_any {P : Program} {w : World} {a : Addr} {ca : Array Value} {ta : TypeId} {fa : Nat × Nat} (ha : w.heap[a.block]? = some (.cells ca ta fa)) : ∃ q, (stringish a).run P w = .ok q w := by
  cases hf : w.frozen? a with
  | true => exact ⟨true, by simp [stringish, hf]⟩
  | false => exact ⟨w.frozen? { block := a.block, off := ca.size }, by simp [stringish, hf, World.shape?, ha]⟩

theorem mayBeOne_any {P : Program} {w : World} {a b : Addr} {ca cb : Array Value} {ta tb : TypeId} {fa fb : Nat × Nat} (ha : w.heap[a.block]? = some (.cells ca ta fa)) (hb : w.heap[b.block]? = some (.cells cb tb fb)) : ∃ q, (mayBeOne a b).run P w = .ok q w := by
  obtain ⟨q1, h1⟩ := stringish_any (P := P) ha
  obtain ⟨q2, h2⟩ := stringish_any (P := P) hb
  cases q1 <;> cases q2 <;> simp [mayBeOne, h1, h2, World.shape?, ha, hb]

theorem sameAddr_any {P : Program} {w : World} {a b : Addr} {ca cb : Array Value} {ta tb : TypeId} {fa fb : Nat × Nat} (ha : w.heap[a.block]? = some (.cells ca ta fa)) (hb : w.heap[b.block]? = some (.cells cb tb fb)) (hf : w.frozen? a = false) :
    ∃ q k, (sameAddr a b).run P w = .ok q (w.drewN k) := by
  by_cases hbl : a.block = b.block
  · exact ⟨a == b, 0, by simp [sameAddr, hbl, drewN_zero]⟩
  · obtain ⟨m, hm⟩ := mayBeOne_any (P := P) ha hb
    cases m with
    | true =>
      have hq : (Question.extern "sameAddr.stringBytes" 2).forced = false := rfl
      exact ⟨(Question.extern "sameAddr.stringBytes" 2).cut (w.tape w.drawn (Question.extern "sameAddr.stringBytes" 2)) == 1, 1, by simp [sameAddr, hbl, hf, noView, viewAt, World.shape?, ha, hb, hm, hq]; rfl⟩
    | false => exact ⟨false, 0, by simp [sameAddr, hbl, hf, noView, viewAt, World.shape?, ha, hb, hm, drewN_zero]⟩

theorem Tryz.info81 : (Tryz.prog.info? 81).map (fun i => i.size) = some 4 := by kernel_rfl

set_option maxRecDepth 20000 in
theorem eq_ptr (d : Nat) (p q : Addr) (w w' : World) (r : Bool) (h : (sameAddr p q).run Tryz.prog w = .ok r w') : (Op.equalIn (d + 1) 179 (.pointer (some p)) (.pointer (some q))).run Tryz.prog w = .ok r w' := by
  have hi := Tryz.info81
  cases hh : Tryz.prog.info? 81 with
  | none => rw [hh] at hi; cases hi
  | some i =>
    rw [hh] at hi
    simp only [Option.map_some, Option.some.injEq] at hi
    simp [Op.equalIn, run_underlying Tryz.underlying179, sizeOf, typeInfo, hh, hi, h]

theorem eq_int (d : Nat) (n m : Int) (w : World) : (Op.equalIn (d + 1) 3 (.int .i64 n) (.int .i64 m)).run Tryz.prog w = .ok (n == m) w := by
  simp [Op.equalIn, run_underlying Tryz.underlying3]

theorem part_ptr (x y : Value) (w : World) : (part 179 #[x, y] 0).run Tryz.prog w = .ok x w := by
  simp [part, isAgg, run_underlying Tryz.underlying179]
theorem part_int (x y : Value) (w : World) : (part 3 #[x, y] 1).run Tryz.prog w = .ok y w := by
  simp [part, isAgg, run_underlying Tryz.underlying3]

set_option maxRecDepth 20000 in
theorem eq_place (d : Nat) (p q : Addr) (n m : Int) (w w' : World) (r : Bool) (h : (sameAddr p q).run Tryz.prog w = .ok r w') : (Op.equalIn (d + 2) 181 (.agg #[.pointer (some p), .int .i64 n]) (.agg #[.pointer (some q), .int .i64 m])).run Tryz.prog w = .ok (r && (n == m)) w' := by
  have h1 := eq_ptr d p q w w' r h
  have h2 := eq_int d n m
  rw [Op.equalIn]
  simp [run_underlying Tryz.underlying181]
  rw [part_ptr]
  simp only [Result.andThen]
  rw [part_ptr]
  simp only
  rw [h1]
  cases r with
  | false => simp
  | true =>
    simp only
    simp only [Bool.true_eq_false, if_false]
    rw [part_int]
    simp only
    rw [part_int]
    simp only
    rw [h2]
    cases hnm : (n == m) <;> simp

/-- A place: where a list lies, and how long it is. -/
def PK (B : Nat) (w : World) (k : Value) : Prop := ∃ b off n cs t fr, k = .agg #[.pointer (some ⟨b, off, none⟩), .int .i64 n] ∧ w.heap[b]? = some (.cells cs t fr) ∧ w.frozen? ⟨b, off, none⟩ = false ∧ b < B

theorem PK.keep {B : Nat} {w w' : World} {k : Value} (h : PK B w k) (hw : ∀ (b : Nat) (cs : Array Value) (t : TypeId) (fr : Nat × Nat), b < B → w.heap[b]? = some (Obj.cells cs t fr) → w'.heap[b]? = w.heap[b]?) : PK B w' k := by
  obtain ⟨b, off, n, cs, t, fr, rfl, h1, h2, h4⟩ := h
  have h3 := hw b cs t fr h4 h1
  exact ⟨b, off, n, cs, t, fr, rfl, h3.trans h1, by rw [World.frozen?_of_block (w := w) (a := ⟨b, off, none⟩) h3]; exact h2, h4⟩

theorem PK.same {B : Nat} {w : World} {x y : Value} (hx : PK B w x) (hy : PK B w y) : ∃ q j, (Op.equal 181 x y).run Tryz.prog w = .ok q (w.drewN j) := by
  obtain ⟨b, off, n, cs, t, fr, rfl, h1, h2, _⟩ := hx
  obtain ⟨b', off', n', cs', t', fr', rfl, h1', _⟩ := hy
  obtain ⟨q, j, h⟩ := sameAddr_any (P := Tryz.prog) (a := ⟨b, off, none⟩) (b := ⟨b', off', none⟩) h1 h1' h2
  exact ⟨_, j, eq_place 9998 _ _ n n' w _ q h⟩

theorem find_asks {B : Nat} {k : Value} {e : MapEntry} {es : List MapEntry} {w : World} (hk : PK B w k) (he : PK B w e.key) : (Instr.findKey 181 k (e :: es)).run Tryz.prog w = (Instr.findAsking 181 k (e :: es)).run Tryz.prog w := by
  obtain ⟨b, off, n, cs, t, fr, rfl, _⟩ := hk
  obtain ⟨b', off', n', cs', t', fr', he, _⟩ := he
  obtain ⟨ek, ev, eb⟩ := e
  simp only at he
  subst he
  simp [Instr.findKey, run_underlying Tryz.underlying181, Instr.findNow, Instr.sameNow]

theorem asking_any {B : Nat} {k : Value} : ∀ (es : List MapEntry) (i : Nat) (w : World), PK B w k → (∀ e ∈ es, PK B w e.key) → ∃ o j, (Instr.findAsking 181 k es i).run Tryz.prog w = .ok o (w.drewN j) ∧ ∀ x, o = some x → ∃ e ∈ es, x.2 = e.val := by
  intro es
  induction es with
  | nil => intro i w _ _; exact ⟨none, 0, by simp [Instr.findAsking, drewN_zero], fun x h => by cases h⟩
  | cons e es ih =>
    intro i w hk hes
    obtain ⟨q, j, h⟩ := hk.same (hes e (by simp))
    cases q with
    | true => exact ⟨some (i, e.val), j, by simp [Instr.findAsking, h], fun x hx => by cases hx; exact ⟨e, by simp, rfl⟩⟩
    | false =>
      obtain ⟨o, j', h', hv⟩ := ih (i + 1) (w.drewN j) (hk.keep (fun _ _ _ _ _ _ => rfl)) (fun x hx => (hes x (by simp [hx])).keep (fun _ _ _ _ _ _ => rfl))
      exact ⟨o, j + j', by simp [Instr.findAsking, h, h'], fun x hx => by obtain ⟨e', he', h⟩ := hv x hx; exact ⟨e', by simp [he'], h⟩⟩

theorem find_any {B : Nat} {k : Value} (es : List MapEntry) (w : World) (hk : PK B w k) (hes : ∀ e ∈ es, PK B w e.key) : ∃ o j, (Instr.findKey 181 k es).run Tryz.prog w = .ok o (w.drewN j) ∧ ∀ x, o = some x → ∃ e ∈ es, x.2 = e.val := by
  cases es with
  | nil => exact ⟨none, 0, by simp [Instr.findKey, run_underlying Tryz.underlying181, Instr.findNow, drewN_zero], fun x h => by cases h⟩
  | cons e es =>
    rw [find_asks hk (hes e (by simp))]
    exact asking_any (e :: es) 0 w hk hes

theorem check_place {B : Nat} (c : Bool) {k : Value} {w : World} (hk : PK B w k) : (Instr.checkKey c 10000 181 k).run Tryz.prog w = .ok () w := by
  obtain ⟨b, off, n, cs, t, fr, rfl, _⟩ := hk
  kernel_rfl

/-- The map of places at r. -/
def SeenM (B r : Nat) (w : World) : Prop := ∃ es clock, w.heap[r]? = some (.map es clock) ∧ ∀ e ∈ es.toList, PK B w e.key ∧ ∃ z, e.val = .int .i64 z

theorem seen_look {B r : Nat} {w : World} {k : Value} (h : SeenM B r w) (hk : PK B w k) : ∃ z q j, (Instr.lookup 178 (.map (some r)) k true).run Tryz.prog w = .ok (.tuple #[.int .i64 z, .bool q]) (w.drewN j) := by
  obtain ⟨es, clock, hm, hes⟩ := h
  obtain ⟨o, j, hf, hv⟩ := find_any es.toList w hk (fun e he => (hes e he).1)
  cases o with
  | none => exact ⟨0, false, j, by simp [Instr.lookup, run_underlying Tryz.underlying178, MapKept.run_getObj_map hm, check_place _ hk, hf, Result.andThen]⟩
  | some x =>
    obtain ⟨e, he, hx⟩ := hv x rfl
    obtain ⟨z, hz⟩ := (hes e he).2
    obtain ⟨i, xv⟩ := x
    simp only at hx
    subst hx
    exact ⟨z, true, j, by simp [Instr.lookup, run_underlying Tryz.underlying178, MapKept.run_getObj_map hm, check_place _ hk, hf, hz, Result.andThen]⟩

theorem keyStays_any (x y : Value) (w : World) : ∃ z j, (Instr.keyThatStays x y).run Tryz.prog w = .ok z (w.drewN j) ∧ (z = x ∨ z = y) := by
  cases hb : Instr.sameBits 10000 x y with
  | true => exact ⟨y, 0, by simp [Instr.keyThatStays, hb, drewN_zero], .inr rfl⟩
  | false =>
    have hq : (Question.extern "map.whichKeyStays" 2).forced = false := rfl
    by_cases h0 : (Question.extern "map.whichKeyStays" 2).cut (w.tape w.drawn (Question.extern "map.whichKeyStays" 2)) = 0
    · exact ⟨y, 1, by simp [Instr.keyThatStays, hb, hq, h0]; rfl, .inr rfl⟩
    · exact ⟨x, 1, by simp [Instr.keyThatStays, hb, hq, h0]; rfl, .inl rfl⟩

theorem seen_set {B r : Nat} {w : World} {k : Value} (h : SeenM B r w) (hk : PK B w k) (v : Int) : ∃ w', (Instr.mapUpdate 178 (.map (some r)) k (.int .i64 v)).run Tryz.prog w = .ok () w' ∧ SeenM B r w' ∧ w.grownBy w' (some r) ∧ w'.heap.size = w.heap.size := by
  obtain ⟨es, clock, hm, hes⟩ := h
  obtain ⟨o, j, hf, hv⟩ := find_any es.toList w hk (fun e he => (hes e he).1)
  have hm' : (w.drewN j).heap[r]? = some (.map es clock) := hm
  have hr : r < w.heap.size := by
    by_cases hlt : r < w.heap.size
    · exact hlt
    · rw [Array.getElem?_eq_none (by omega)] at hm
      cases hm
  have hend : ∀ (X : World) (hX : X.heap = w.heap) (hX' : X.os = w.os ∧ X.tape = w.tape ∧ X.output = w.output) (es' : Array MapEntry) (c' : Nat), (∀ e ∈ es'.toList, PK B w e.key ∧ ∃ z, e.val = .int .i64 z) →
      SeenM B r { X with heap := X.heap.setIfInBounds r (.map es' c') } ∧ w.grownBy { X with heap := X.heap.setIfInBounds r (.map es' c') } (some r) ∧ ({ X with heap := X.heap.setIfInBounds r (.map es' c') } : World).heap.size = w.heap.size := by
    intro X hX hX' es' c' hes'
    refine ⟨⟨es', c', by simp [hX, hr], fun e he => ⟨(hes' e he).1.keep (fun b cs t fr _ hb => ?_), (hes' e he).2⟩⟩, ⟨hX'.1, hX'.2.1, hX'.2.2, by simp [hX], fun b hb hne => ?_⟩, by simp [hX]⟩
    · have hne : b ≠ r := by
        rintro rfl
        rw [hm] at hb
        cases hb
      simp only [hX, Array.getElem?_setIfInBounds]
      rw [if_neg (fun e => hne e.symm)]
    · simp only [hX, Array.getElem?_setIfInBounds]
      rw [if_neg (fun e => hne (by rw [e]))]
  cases o with
  | none =>
    have h1 := hend (w.drewN j) rfl ⟨rfl, rfl, rfl⟩ (es.push { key := k, val := .int .i64 v, born := clock }) (clock + 1) (fun e he => by
      simp only [Array.toList_push, List.mem_append, List.mem_singleton] at he
      rcases he with he | rfl
      · exact hes e he
      · exact ⟨hk, v, rfl⟩)
    exact ⟨_, by simp [Instr.mapUpdate, run_underlying Tryz.underlying178, MapKept.run_getObj_map hm, check_place _ hk, hf, MapKept.run_setObj_map _ hm', Result.andThen], h1⟩
  | some x =>
    obtain ⟨i, xv⟩ := x
    obtain ⟨z, j2, hz, hzz⟩ := keyStays_any (((es[i]?).map (·.key)).getD k) k (w.drewN j)
    have hzk : PK B w z := by
      rcases hzz with rfl | rfl
      · cases hi : es[i]? with
        | none => simp [hk]
        | some e => simp only [Option.map_some, Option.getD_some]; exact (hes e (by rw [Array.getElem?_eq_some_iff] at hi; obtain ⟨h1, h2⟩ := hi; rw [← h2]; simp)).1
      · exact hk
    have hm2 : (w.drewN (j + j2)).heap[r]? = some (.map es clock) := hm
    have h1 := hend (w.drewN (j + j2)) rfl ⟨rfl, rfl, rfl⟩ (es.modify i fun e => { e with key := z, val := .int .i64 v }) clock (fun e he => by
      simp only [Array.toList_modify] at he
      obtain ⟨n, hn, hne⟩ := List.mem_iff_getElem.1 he
      rw [List.getElem_modify] at hne
      split at hne
      · rw [← hne]
        exact ⟨hzk, v, rfl⟩
      · rw [← hne]
        exact hes _ (List.getElem_mem _))
    exact ⟨_, by simp [Instr.mapUpdate, run_underlying Tryz.underlying178, MapKept.run_getObj_map hm, check_place _ hk, hf, hz, MapKept.run_setObj_map _ hm2, Result.andThen], h1⟩

/-- 'v, ok := m[k]' at the operation. -/
theorem place_look {ops : Array Oper} {rest : List Oper} {o : Oper} {a : Act} {w : World} {Q : Exit → Act → World → Prop} (hg : o.guard = none) (m x : Operand) (hop : o.op = Op.lookup 178 m x true) {B r : Nat} (hm : a.eval m = .map (some r)) (h : SeenM B r w) {k : Value} (hx : a.eval x = k) (hk : PK B w k)
    (hK : ∀ z q j, wpList Tryz.prog ops Q rest (a.put o.dst (.tuple #[.int .i64 z, .bool q])) (w.drewN j)) : wpList Tryz.prog ops Q (o :: rest) a w := by
  refine wpList_plain hg fun K' hK' => ?_
  obtain ⟨z, q, j, hr⟩ := seen_look h hk
  unfold Oper.wp
  simp [execOp, hop, hm, hx, hr, Result.andThen]
  exact hK' _ _ (hK z q j)

/-- 'm[k] = v' at the operation. -/
theorem place_set {ops : Array Oper} {rest : List Oper} {o : Oper} {a : Act} {w : World} {Q : Exit → Act → World → Prop} (hg : o.guard = none) (m x v : Operand) (hop : o.op = Op.mapUpdate 178 m x v) {B r : Nat} (hm : a.eval m = .map (some r)) (h : SeenM B r w) {k : Value} (hx : a.eval x = k) (hk : PK B w k) {n : Int} (hv : a.eval v = .int .i64 n)
    (hK : ∀ w', SeenM B r w' → w.grownBy w' (some r) → w'.heap.size = w.heap.size → wpList Tryz.prog ops Q rest (a.put o.dst undef) w') : wpList Tryz.prog ops Q (o :: rest) a w := by
  refine wpList_plain hg fun K' hK' => ?_
  obtain ⟨w', hr, h1, h2, h3⟩ := seen_set h hk n
  unfold Oper.wp
  simp [execOp, hop, hm, hx, hv, hr, Result.andThen]
  exact hK' _ _ (hK w' h1 h2 h3)

end Go.Proofs.YtiacnmcdfpmcfaaGreatDoor

namespace Go.Proofs.YtiacnmcdfpmcfaaGreatDoor
open Go.RowKit
attribute [local go_sem] cell?_more frozen?_more setCell_more size_more tape_more drew_more drewN_more more_drew more_drewN one_out plus_out plus_end lt_one le_p2 le_p3 le_p4 le_p5 le_p6 le_p7 le_p8 le_p9 le_p10 le_p11 le_p12 le_p13 le_p14 le_p15 le_p16 le_p17 le_p18 le_p19 le_p20 le_p21 le_p22 le_p23 le_p24 le_q0 le_q1 lt_q1 le_q2 lt_q2 le_q3 lt_q3 le_q4 lt_q4 le_q5 lt_q5 le_q6 lt_q6 le_q7 lt_q7 le_q8 lt_q8 le_q9 lt_q9 le_q10 lt_q10 le_q11 lt_q11 le_q12 lt_q12 le_q13 lt_q13 le_q14 lt_q14 le_q15 lt_q15 le_q16 lt_q16 le_q17 lt_q17 le_q18 lt_q18 le_q19 lt_q19 le_q20 lt_q20 le_q21 lt_q21 le_q22 lt_q22 le_q23 lt_q23 le_q24 lt_q24


/-- How many nodes there are, so deep. -/
def cntN : Nat → List N → Nat
  | 0, ts => ts.length
  | d + 1, ts => ts.length + (ts.map fun t => cntN d t.args).sum

theorem cntN_len (d : Nat) (ts : List N) : ts.length ≤ cntN d ts := by
  cases d <;> simp [cntN]

/-- The weight of lists. -/
def wt (d : Nat) (xs : List (Value × List N)) : Nat := (xs.map fun x => cntN d x.2).sum

theorem wt_append (d : Nat) (a b : List (Value × List N)) : wt d (a ++ b) = wt d a + wt d b := by simp [wt]

theorem wt_len {d : Nat} {xs : List (Value × List N)} (h : ∀ x ∈ xs, x.2 ≠ []) : xs.length ≤ wt d xs := by
  induction xs with
  | nil => simp [wt]
  | cons x r ih =>
    have h1 := ih (fun y hy => h y (by simp [hy]))
    have h2 := cntN_len d x.2
    have h3 : 0 < x.2.length := List.length_pos_iff.2 (h x (by simp))
    simp only [wt, List.map_cons, List.sum_cons, List.length_cons] at *
    omega

/-- The slice v of slices reads as the lists xs. -/
def Lvs (ok : Nat → Prop) (d : Nat) (w : World) (v : Value) (xs : List (Value × List N)) : Prop :=
  ∃ ao cap, v = .slice ao xs.length cap ∧ xs.length ≤ cap ∧ (∀ x ∈ xs, Tn ok d w x.1 x.2) ∧ (xs = [] ∨ ∃ b off, ao = some ⟨b, off, none⟩ ∧ b < w.heap.size ∧ ∀ j (h : j < xs.length), w.cell? ⟨b, off + j, none⟩ = some xs[j].1)

theorem placeOf_any (b off n c : Nat) (hn : 0 < n) (w : World) :
    Calls Tryz.prog 145 #[.slice (some ⟨b, off, none⟩) n c] w fun e w' => e = .returned (.agg #[.pointer (some ⟨b, off, none⟩), .int .i64 n]) ∧ Adds w w' := by
  have hn' : (0 : Int) < n := by omega
  go_enter Tryz.func145, Tryz.ntmps145
  go_wp2
  exact bodyPost_ret (v := .agg #[.pointer (some ⟨b, off, none⟩), .int .i64 n]) (by simp [results, Tryz.results145, go_sem]) rfl ⟨rfl, by repeat (first | with_reducible exact Adds.refl _ | with_reducible refine Adds.alloc ?_ _ | with_reducible refine Adds.more ?_ _ _ | with_reducible refine Adds.drew ?_ | with_reducible refine Adds.drewN ?_ _)⟩

theorem Tryz.info51 : (Tryz.prog.info? 51).map (fun i => (i.zero, i.size, i.bytes)) = some (some (.slice none 0 0), 1, 24) := by kernel_rfl

/-- append of one list. -/
theorem list_app {ops : Array Oper} {rest : List Oper} {o : Oper} {a : Act} {w : World} {Q : Exit → Act → World → Prop} (hgd : o.guard = none) (s x : Operand) (ho : o.op = .call { callee := .builtin .append, args := #[s, x], argTypes := #[162, 162] })
    {B : Nat} {v : Value} {xs : List Value} (h : w.ownsRow B 51 1 v xs.length xs) (hB : B ≤ w.heap.size) (hs : a.eval s = v) {u : Value} (hu : u.oneCell' = true) {k c : Nat} (hx : a.eval x = .slice (some ⟨k, 0, none⟩) 1 c) (hc : w.cell? ⟨k, 0, none⟩ = some u) (hlen : xs.length ≤ 100000)
    (hk : ∀ v' w', w'.ownsRow B 51 1 v' (xs ++ [u]).length (xs ++ [u]) → w.grownBy w' v.ownBlock → wpList Tryz.prog ops Q rest (a.put o.dst v') w') : wpList Tryz.prog ops Q (o :: rest) a w := by
  obtain ⟨i0, hi, hz0, hz1, hz2⟩ := info_parts Tryz.info51
  have hnews : ∀ j y, [u][j]? = some y → w.cell? ((⟨k, 0, none⟩ : Addr).add j) = some y := by
    intro j y hj
    rw [Addr.add_lit, Nat.zero_add]
    match j, hj with
    | 0, hj => simp at hj; subst hj; exact hc
    | (j + 1), hj => simp at hj
  obtain ⟨v', w', h1, h2, h3, _⟩ := run_append_own (P := Tryz.prog) w B 162 o.type 51 i0 _ 1 24 Tryz.underlying162 hi hz0 hz1 hz2 rfl (by decide) v xs.length xs h ⟨k, 0, none⟩ 1 c [u] rfl hnews (by intro y hy; simp at hy; rw [hy]; exact hu) (by unfold maxLen; omega) (by omega) hB
  exact Lib.wpList_append_run w hgd s x 162 162 ho v _ hs hx v' w' h1 (hk v' w' (by rw [List.length_append]; exact h2) h3)

/-- What is made of the lists so far: the row of them, in v. -/
structure Outs (B r d : Nat) (w wr : World) (v : Value) (ys : List (Value × List N)) : Prop where
  own : wr.ownsRow (B + 1) 51 1 v ys.length (ys.map Prod.fst)
  seen : SeenM B r wr
  bel : Below B w wr
  trees : ∀ y ∈ ys, Tn (fun b => b < B) d w y.1 y.2 ∧ y.2 ≠ []
  size : B < wr.heap.size

theorem Outs.adds {B r d : Nat} {w wr X : World} {v : Value} {ys : List (Value × List N)} (h : Outs B r d w wr v ys) (hA : Adds wr X) : Outs B r d w X v ys := by
  have hb := hA.below
  have hg : wr.grownBy X none := ⟨hb.os, hb.tape, hb.output, hb.size, fun k hk _ => hb.block k hk⟩
  refine ⟨h.own.kept hg ?_, ?_, h.bel.trans (hb.mono (Nat.le_of_lt h.size)), h.trees, Nat.lt_of_lt_of_le h.size hb.size⟩
  · cases v.ownBlock with
    | none => exact .inl rfl
    | some k => exact .inr (by simp)
  · obtain ⟨es, clock, hm, hes⟩ := h.seen
    exact ⟨es, clock, by rw [hb.block r (lt_of_some hm)]; exact hm, fun e he => ⟨(hes e he).1.keep (fun b _ _ _ _ hb' => hb.block b (lt_of_some hb')), (hes e he).2⟩⟩

theorem Outs.pk {B r d : Nat} {w wr : World} {v : Value} {ys : List (Value × List N)} (h : Outs B r d w wr v ys) {k : Value} (hk : PK B w k) : PK B wr k :=
  hk.keep (fun b _ _ _ hlt _ => h.bel.block b hlt)

/-- The place of a list that is not empty. -/
theorem Tn.pk {B d : Nat} {w : World} {s : Value} {ts : List N} (h : Tn (fun b => b < B) d w s ts) (hne : ts ≠ []) : ∃ b off cap, s = .slice (some ⟨b, off, none⟩) ts.length cap ∧ ts.length ≤ cap ∧ PK B w (.agg #[.pointer (some ⟨b, off, none⟩), .int .i64 ts.length]) := by
  cases d with
  | zero => exact absurd h.1 hne
  | succ d =>
    obtain ⟨ao, cap, rfl, hc, h | ⟨b, off, rfl, hlt, hb, hz, hx⟩⟩ := h
    · exact absurd h hne
    · obtain ⟨x, ⟨c0, _⟩, _⟩ := hx 0 (List.length_pos_iff.2 hne)
      have hcell : ∃ cs t fr, w.heap[b]? = some (.cells cs t fr) := by
        simp only [World.cell?] at c0
        split at c0
        · rename_i heq
          exact ⟨_, _, _, heq⟩
        · cases c0
      obtain ⟨cs, t, fr, hh⟩ := hcell
      exact ⟨b, off, cap, rfl, hc, b, off, _, cs, t, fr, rfl, hh, hz.1, hb⟩

theorem Outs.push {B r d : Nat} {w wr X w1 : World} {v v' : Value} {ys : List (Value × List N)} {y : Value × List N} (h : Outs B r d w wr v ys) (hs : SeenM B r X) (hg : wr.grownBy X (some r)) (hsz : X.heap.size = wr.heap.size) (hr : r = B) {o : Obj}
    (ho : w1.ownsRow (B + 1) 51 1 v' (ys ++ [y]).length ((ys ++ [y]).map Prod.fst)) (hg1 : (X.alloc o).grownBy w1 v.ownBlock) (hy : Tn (fun b => b < B) d w y.1 y.2 ∧ y.2 ≠ []) : Outs B r d w w1 v' (ys ++ [y]) := by
  have hvB : ∀ k, v.ownBlock = some k → B + 1 ≤ k := by
    intro k hk
    rcases h.own.2 with ⟨rfl, _⟩ | ⟨g, cap, cur, rfl, hb, _⟩
    · cases hk
    · simp only [Value.ownBlock, Option.some.injEq] at hk
      omega
  have hX : Below B w X := by
    refine ⟨hg.os.trans h.bel.os, hg.tape.trans h.bel.tape, hg.output.trans h.bel.output, Nat.le_trans h.bel.size hg.size, fun k hk => ?_⟩
    rw [hg.block k (Nat.lt_trans hk h.size) (by simp; omega)]
    exact h.bel.block k hk
  have h1 : ∀ k, k < X.heap.size → k < B + 1 → w1.heap[k]? = X.heap[k]? := by
    intro k hk hkB
    rw [hg1.block k (by simp; omega) (fun e => by have := hvB k e.symm; omega)]
    exact Below.heap_alloc _ _ _ hk
  have hBX : B < X.heap.size := by rw [hsz]; exact h.size
  refine ⟨ho, ?_, ?_, ?_, ?_⟩
  · obtain ⟨es, clock, hm, hes⟩ := hs
    exact ⟨es, clock, by rw [h1 r (lt_of_some hm) (by omega)]; exact hm, fun e he => ⟨(hes e he).1.keep (fun b _ _ _ hlt hb' => h1 b (lt_of_some hb') (by omega)), (hes e he).2⟩⟩
  · refine ⟨hg1.os.trans hX.os, hg1.tape.trans hX.tape, hg1.output.trans hX.output, ?_, fun k hk => ?_⟩
    · have := hg1.size
      simp at this
      have := hX.size
      omega
    · rw [h1 k (by omega) (by omega)]
      exact hX.block k hk
  · intro z hz
    rcases List.mem_append.1 hz with hz | hz
    · exact h.trees z hz
    · simp only [List.mem_singleton] at hz
      rw [hz]
      exact hy
  · have := hg1.size
    simp at this
    omega

theorem Outs.lv {B r d : Nat} {w wr : World} {v : Value} {ys : List (Value × List N)} (h : Outs B r d w wr v ys) (hB : B = w.heap.size) : Lvs (fun _ => True) d wr v ys ∧ Adds w wr := by
  have hA : Adds w wr := Adds.of (by rw [← hB]; exact h.bel)
  have hT : ∀ x ∈ ys, Tn (fun _ => True) d wr x.1 x.2 := fun x hx => ((h.trees x hx).1.adds hA).weak (fun _ _ _ => trivial)
  refine ⟨?_, hA⟩
  have hc := fun g => h.own.cells (g := g)
  rcases h.own.2 with ⟨rfl, h0⟩ | ⟨g, cap, cur, rfl, hb, hg, hnc, hcm, hcs, htk⟩
  · have : ys = [] := List.length_eq_zero_iff.1 h0
    subst this
    exact ⟨none, 0, rfl, Nat.le_refl _, hT, .inl rfl⟩
  · refine ⟨_, cap, rfl, hnc, hT, .inr ⟨g, 0, rfl, lt_of_some hg, fun j hj => ?_⟩⟩
    have := hc g rfl j ys[j].1 (by simp [hj])
    rwa [Addr.add_lit] at this

end Go.Proofs.YtiacnmcdfpmcfaaGreatDoor
