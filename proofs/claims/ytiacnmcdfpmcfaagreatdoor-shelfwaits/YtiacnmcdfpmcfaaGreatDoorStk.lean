/-
  The reader while it reads: what lies where, and how each step leaves it.
-/
import Derived.Test.YtiacnmcdfpmcfaaGreatDoorRdr2
import Derived.Test.YtiacnmcdfpmcfaaGreatDoorLeaf
namespace Go.Proofs.YtiacnmcdfpmcfaaGreatDoor
open Go.RowKit
attribute [local go_sem] cell?_more frozen?_more setCell_more size_more tape_more drew_more drewN_more more_drew more_drewN one_out plus_out plus_end lt_one le_p2 le_p3 le_p4 le_p5 le_p6 le_p7 le_p8 le_p9 le_p10 le_p11 le_p12 le_p13 le_p14 le_p15 le_p16 le_p17 le_p18 le_p19 le_p20 le_p21 le_p22 le_p23 le_p24 le_q0 le_q1 lt_q1 le_q2 lt_q2 le_q3 lt_q3 le_q4 lt_q4 le_q5 lt_q5 le_q6 lt_q6 le_q7 lt_q7 le_q8 lt_q8 le_q9 lt_q9 le_q10 lt_q10 le_q11 lt_q11 le_q12 lt_q12 le_q13 lt_q13 le_q14 lt_q14 le_q15 lt_q15 le_q16 lt_q16 le_q17 lt_q17 le_q18 lt_q18 le_q19 lt_q19 le_q20 lt_q20 le_q21 lt_q21 le_q22 lt_q22 le_q23 lt_q23 le_q24 lt_q24


/-- The node of what stands ahead, or none. -/
def optN : Option E → N
  | none => N.zero
  | some e => e.toN

def okO (o : Option E) : Prop := ∀ e, o = some e → e.ok

/-- Blocks of expressions: none of the reader's own. -/
def okS (R g b : Nat) : Prop := b ≠ R ∧ b ≠ R + 1 ∧ b ≠ R + 3 ∧ b ≠ g ∧ R ≤ b

def FrM (ok : Nat → Prop) (d : Nat) (W : World) (f : Fr) (m : Fm) : Prop :=
  m.name = toB f.name ∧ m.sum = optN f.sum ∧ m.mul = optN f.mul ∧ Tn ok d W m.sv m.sum.args ∧ Tn ok d W m.mv m.mul.args ∧ (f.sum = none → m.sv = nilV) ∧ (f.mul = none → m.mv = nilV) ∧ okO f.sum ∧ okO f.mul

def FrMs (ok : Nat → Prop) (d : Nat) (W : World) : List Fr → List Fm → Prop
  | [], ms => ms = []
  | f :: st, ms => ∃ ms' m, ms = ms' ++ [m] ∧ FrM ok d W f m ∧ FrMs ok d W st ms'

theorem FrM.frame {ok ok' : Nat → Prop} {d d' : Nat} {W W' : World} {f : Fr} {m : Fm} (h : FrM ok d W f m) (hd : d ≤ d') (hs : W.heap.size ≤ W'.heap.size) (hw : ∀ b, ok b → b < W.heap.size → W'.heap[b]? = W.heap[b]? ∧ ok' b) : FrM ok' d' W' f m :=
  ⟨h.1, h.2.1, h.2.2.1, (h.2.2.2.1.frame hs hw).up hd, (h.2.2.2.2.1.frame hs hw).up hd, h.2.2.2.2.2⟩

theorem FrMs.frame {ok ok' : Nat → Prop} {d d' : Nat} {W W' : World} {st : List Fr} {ms : List Fm} (h : FrMs ok d W st ms) (hd : d ≤ d') (hs : W.heap.size ≤ W'.heap.size) (hw : ∀ b, ok b → b < W.heap.size → W'.heap[b]? = W.heap[b]? ∧ ok' b) : FrMs ok' d' W' st ms := by
  induction st generalizing ms with
  | nil => exact h
  | cons f st ih =>
    obtain ⟨ms', m, rfl, h1, h2⟩ := h
    exact ⟨ms', m, rfl, h1.frame hd hs hw, ih h2⟩

theorem ok_size {e : E} (h : e.ok) : e.toN.text.size ≤ 9223372036854775807 := by
  cases e with
  | path t =>
    have := h.1
    simp only [pathL, Bool.and_eq_true, decide_eq_true_eq] at this
    simp only [E.toN, N.text, toB_size]
    omega
  | num n => exact Nat.zero_le _
  | sum a b => exact Nat.zero_le _
  | mul a b => exact Nat.zero_le _
  | call f a =>
    have := h.1
    simp only [isName, decide_eq_true_eq] at this
    simp only [E.toN, N.text, toB_size]
    rcases this with rfl | rfl | rfl | rfl | rfl <;> decide

theorem mulE_ok {o : Option E} {e : E} (ho : okO o) (he : e.ok) : (mulE o e).ok := by
  cases o with
  | none => exact he
  | some x => exact ⟨ho x rfl, he⟩
theorem addE_ok {o : Option E} {e : E} (ho : okO o) (he : e.ok) : (addE o e).ok := by
  cases o with
  | none => exact he
  | some x => exact ⟨ho x rfl, he⟩

/-- The reader's state: its text l, its frames f :: st. -/
structure Sg (R : Nat) (w W : World) (l : List UInt8) (st : List Fr) (f : Fr) (g cap d : Nat) (ms : List Fm) (m : Fm) : Prop where
  rdr : Rdr (R + 3) R W (toB l) (.slice (some ⟨g, 0, none⟩) (ms.length + 1) cap) (ms ++ [m])
  g0 : g ≠ R
  g1 : g ≠ R + 1
  top : FrM (okS R g) d W f m
  rest : FrMs (okS R g) d W st ms
  mvd : Mv (fun b => R ≤ b) w W
  size : w.heap.size = R
  res : W.heap[R]? = some (.cells #[.int .i64 0, .string ⟨#[]⟩, .int .i64 0, nilV] 81 (0, 0))
  len : ms.length + l.length ≤ 256
  names : ∀ x ∈ f :: st, x.name = [] ∨ isName x.name = true

/-- The box of n. -/
def NB (R : Nat) (W : World) (n : N) (sn : Value) : Prop := W.heap[R + 1]? = some (.cells #[.int .i64 n.kind, .string n.text, .int .i64 n.num, sn] 81 (0, 0))

theorem NB.cells {R : Nat} {W : World} {n : N} {sn : Value} (h : NB R W n sn) : (W.cell? ⟨R + 1, 0, none⟩ = some (.int .i64 n.kind) ∧ W.cell? ⟨R + 1, 1, none⟩ = some (.string n.text) ∧ W.cell? ⟨R + 1, 2, none⟩ = some (.int .i64 n.num) ∧ W.cell? ⟨R + 1, 3, none⟩ = some sn) ∧ (∀ i, W.frozen? ⟨R + 1, i, none⟩ = false) ∧ R + 1 < W.heap.size := by
  have h' : W.heap[R + 1]? = some (.cells #[.int .i64 n.kind, .string n.text, .int .i64 n.num, sn] 81 (0, 0)) := h
  exact ⟨⟨by simp [World.cell?, h'], by simp [World.cell?, h'], by simp [World.cell?, h'], by simp [World.cell?, h']⟩, fun i => by simp [World.frozen?, h'], lt_of_some h'⟩

theorem Sg.facts {R : Nat} {w W : World} {l : List UInt8} {st : List Fr} {f : Fr} {g cap d : Nat} {ms : List Fm} {m : Fm} (h : Sg R w W l st f g cap d ms m) :
    W.cell? ⟨R + 3, 0, none⟩ = some (.string (toB l)) ∧ W.cell? ⟨R + 3, 1, none⟩ = some (.slice (some ⟨g, 0, none⟩) (ms.length + 1) cap) ∧ (∀ i, W.frozen? ⟨R + 3, i, none⟩ = false) ∧ (∀ i, W.frozen? ⟨R, i, none⟩ = false) ∧ R + 3 < W.heap.size :=
  ⟨h.rdr.cells.1, h.rdr.cells.2.1, h.rdr.cells.2.2.1, fun i => by simp [World.frozen?, h.res], h.rdr.cells.2.2.2⟩

/-- What is turned lies outside of the state's blocks, or in the box of n. -/
theorem Sg.mv {R : Nat} {w W W' : World} {l : List UInt8} {st : List Fr} {f : Fr} {g cap d : Nat} {ms : List Fm} {m : Fm} (h : Sg R w W l st f g cap d ms m) (hm : Mv (fun b => b = R + 1) W W') : Sg R w W' l st f g cap d ms m := by
  have hok : ∀ b, okS R g b → b < W.heap.size → W'.heap[b]? = W.heap[b]? ∧ okS R g b := fun b hb hlt => ⟨hm.block b hlt hb.2.1, hb⟩
  refine ⟨h.rdr.mv hm (by omega) (fun g' hg' => ?_), h.g0, h.g1, h.top.frame (Nat.le_refl _) hm.size hok, h.rest.frame (Nat.le_refl _) hm.size hok, h.mvd.trans (hm.mono (fun n _ e => by omega)), h.size, ?_, h.len, h.names⟩
  · simp only [Value.ownBlock, Option.some.injEq] at hg'
    rw [← hg']
    exact h.g1
  · rw [hm.block R (by have := h.facts.2.2.2.2; omega) (by omega)]
    exact h.res

theorem Sg.adds {R : Nat} {w W W' : World} {l : List UInt8} {st : List Fr} {f : Fr} {g cap d : Nat} {ms : List Fm} {m : Fm} (h : Sg R w W l st f g cap d ms m) (hA : Adds W W') : Sg R w W' l st f g cap d ms m := h.mv hA.mv

theorem NB.adds {R : Nat} {W W' : World} {n : N} {sn : Value} (h : NB R W n sn) (hA : Adds W W') : NB R W' n sn := (hA.below.block _ (lt_of_some h)).trans h

/-- n stored into its box. -/
abbrev setN (W : World) (k : Nat) (n : N) (sn : Value) : World := (((W.setCell ⟨k, 0, none⟩ (.int .i64 n.kind)).setCell ⟨k, 1, none⟩ (.string n.text)).setCell ⟨k, 2, none⟩ (.int .i64 n.num)).setCell ⟨k, 3, none⟩ sn

theorem setN_mv (W : World) (k : Nat) (n : N) (sn : Value) : Mv (fun b => b = k) W (setN W k n sn) :=
  (((Mv.set1 _ _ _ _).trans (Mv.set1 _ _ _ _)).trans (Mv.set1 _ _ _ _)).trans (Mv.set1 _ _ _ _)

theorem set4 {W : World} {k : Nat} {a b c e x0 x1 x2 x3 : Value} {T : TypeId} (h : W.heap[k]? = some (.cells #[a, b, c, e] T (0, 0))) :
    ((((W.setCell ⟨k, 0, none⟩ x0).setCell ⟨k, 1, none⟩ x1).setCell ⟨k, 2, none⟩ x2).setCell ⟨k, 3, none⟩ x3).heap[k]? = some (.cells #[x0, x1, x2, x3] T (0, 0)) := by
  have h1 : (W.setCell ⟨k, 0, none⟩ x0).heap[k]? = some (.cells #[x0, b, c, e] T (0, 0)) := by simp [World.setCell, Array.getElem?_modify, h]
  have h2 : ((W.setCell ⟨k, 0, none⟩ x0).setCell ⟨k, 1, none⟩ x1).heap[k]? = some (.cells #[x0, x1, c, e] T (0, 0)) := by
    generalize W.setCell ⟨k, 0, none⟩ x0 = X at *
    simp [World.setCell, Array.getElem?_modify, h1]
  have h3 : (((W.setCell ⟨k, 0, none⟩ x0).setCell ⟨k, 1, none⟩ x1).setCell ⟨k, 2, none⟩ x2).heap[k]? = some (.cells #[x0, x1, x2, e] T (0, 0)) := by
    generalize (W.setCell ⟨k, 0, none⟩ x0).setCell ⟨k, 1, none⟩ x1 = X at *
    simp [World.setCell, Array.getElem?_modify, h2]
  generalize ((W.setCell ⟨k, 0, none⟩ x0).setCell ⟨k, 1, none⟩ x1).setCell ⟨k, 2, none⟩ x2 = X at *
  simp [World.setCell, Array.getElem?_modify, h3]

/-- Any box of n. -/
def NBox (R : Nat) (W : World) : Prop := ∃ a b c e, W.heap[R + 1]? = some (.cells #[a, b, c, e] 81 (0, 0))

theorem NB.box {R : Nat} {W : World} {n : N} {sn : Value} (h : NB R W n sn) : NBox R W := ⟨_, _, _, _, h⟩

theorem NBox.facts {R : Nat} {W : World} (h : NBox R W) : (∀ i, W.frozen? ⟨R + 1, i, none⟩ = false) ∧ R + 1 < W.heap.size := by
  obtain ⟨a, b, c, e, h⟩ := h
  exact ⟨fun i => by simp [World.frozen?, h], lt_of_some h⟩

theorem NBox.set {R : Nat} {W : World} (h : NBox R W) (n : N) (sn : Value) : NB R (setN W (R + 1) n sn) n sn := by
  obtain ⟨a, b, c, e, h⟩ := h
  exact set4 h

theorem NBox.mv {R : Nat} {W W' : World} {X : Nat → Prop} (h : NBox R W) (hm : Mv X W W') (hx : ¬ X (R + 1)) : NBox R W' := by
  obtain ⟨a, b, c, e, h⟩ := h
  exact ⟨a, b, c, e, (hm.block _ (lt_of_some h) hx).trans h⟩

theorem NB.mv {R : Nat} {W W' : World} {n : N} {sn : Value} {X : Nat → Prop} (h : NB R W n sn) (hm : Mv X W W') (hx : ¬ X (R + 1)) : NB R W' n sn :=
  (hm.block _ (lt_of_some h) hx).trans h

/-- The text turned. -/
theorem Sg.text {R : Nat} {w W : World} {l : List UInt8} {st : List Fr} {f : Fr} {g cap d : Nat} {ms : List Fm} {m : Fm} (h : Sg R w W l st f g cap d ms m) (l' : List UInt8) (hl : l'.length ≤ l.length) :
    Sg R w (W.setCell ⟨R + 3, 0, none⟩ (.string (toB l'))) l' st f g cap d ms m := by
  have hm := Mv.set1 W (R + 3) 0 (.string (toB l'))
  have hok : ∀ b, okS R g b → b < W.heap.size → (W.setCell ⟨R + 3, 0, none⟩ (.string (toB l'))).heap[b]? = W.heap[b]? ∧ okS R g b := fun b hb hlt => ⟨hm.block b hlt hb.2.2.1, hb⟩
  refine ⟨h.rdr.text _, h.g0, h.g1, h.top.frame (Nat.le_refl _) hm.size hok, h.rest.frame (Nat.le_refl _) hm.size hok, h.mvd.trans (hm.mono (fun n _ e => by omega)), h.size, ?_, by have := h.len; omega, h.names⟩
  rw [hm.block R (by have := h.facts.2.2.2.2; omega) (by omega)]
  exact h.res

theorem mult_any {R : Nat} {w W : World} {l : List UInt8} {st : List Fr} {f : Fr} {g cap d : Nat} {ms : List Fm} {m : Fm} (h : Sg R w W l st f g cap d ms m) (e : E) (he : e.ok) (sn : Value) (hn : Tn (okS R g) d W sn e.toN.args) :
    Calls Tryz.prog 92 #[.pointer (some ⟨R + 3, 0, none⟩), nodeV e.toN sn] W fun x W' => ∃ sr m', x = .returned (nodeV (mulE f.mul e).toN sr) ∧ Sg R w W' l st { f with mul := none } g cap (d + 1) ms m' ∧ Tn (okS R g) (d + 1) W' sr (mulE f.mul e).toN.args ∧ Mv (fun b => b = g) W W' := by
  have hl : ms.length ≤ 100000 := by have := h.len; omega
  obtain ⟨an, nc, hsn⟩ := hn.shape
  have hM := h.facts.2.2.2.2
  cases hf : f.mul with
  | none =>
    have hk : m.mul.kind = 0 := by rw [h.top.2.2.1, hf]; rfl
    refine (multiplied_none h.rdr hl e.toN hsn hk).mono ?_
    rintro x W' ⟨rfl, hA⟩
    have h' := h.adds hA
    have e1 : ({ f with mul := none } : Fr) = f := by rw [← hf]
    refine ⟨sn, m, rfl, ?_, (hn.adds hA).deeper, hA.mv⟩
    rw [e1]
    exact ⟨h'.rdr, h'.g0, h'.g1, h'.top.frame (Nat.le_succ _) (Nat.le_refl _) (fun b hb _ => ⟨rfl, hb⟩), h'.rest.frame (Nat.le_succ _) (Nat.le_refl _) (fun b hb _ => ⟨rfl, hb⟩), h'.mvd, h'.size, h'.res, h'.len, h'.names⟩
  | some y =>
    have hmul : m.mul = y.toN := by rw [h.top.2.2.1, hf]; rfl
    have hy : y.ok := h.top.2.2.2.2.2.2.2.2 y hf
    refine (multiplied_some (ok := okS R g) (d := d) h.rdr hl e.toN sn hn h.top.2.2.2.2.1 (by rw [hmul]; exact y.kind_ne) (fun k hk => ⟨by omega, by omega, by omega, by have := h.rdr.top; obtain ⟨g', c', hv, _, hg, _⟩ := this; simp only [Value.slice.injEq, Option.some.injEq, Addr.mk.injEq] at hv; omega, by omega⟩) (fun hg => hg.2.2.2.1 rfl) (ok_size he) (by rw [hmul]; exact ok_size hy)).mono ?_
    rintro x W' ⟨sr, rfl, ht, hR, hm⟩
    rw [hmul] at ht
    have hok : ∀ b, okS R g b → b < W.heap.size → W'.heap[b]? = W.heap[b]? ∧ okS R g b := fun b hb hlt => ⟨hm.block b hlt hb.2.2.2.1, hb⟩
    refine ⟨sr, { m with mul := N.zero, mv := nilV }, rfl, ?_, ht, hm⟩
    have ht1 := h.top.frame (Nat.le_succ _) hm.size hok
    refine ⟨hR, h.g0, h.g1, ⟨ht1.1, ht1.2.1, rfl, ht1.2.2.2.1, Tn.nil _ _ _, ht1.2.2.2.2.2.1, fun _ => rfl, ht1.2.2.2.2.2.2.2.1, fun e h => by cases h⟩, h.rest.frame (Nat.le_succ _) hm.size hok, h.mvd.trans (hm.mono (fun n _ e => ?_)), h.size, ?_, h.len, fun x hx => ?_⟩
    · obtain ⟨g', c', hv, _, hg, hB, _⟩ := h.rdr.top
      simp only [Value.slice.injEq, Option.some.injEq, Addr.mk.injEq] at hv
      omega
    · rw [hm.block R (by omega) (fun e => h.g0 e.symm)]
      exact h.res
    · rcases List.mem_cons.1 hx with rfl | hx
      · exact h.names f (by simp)
      · exact h.names x (by simp [hx])

theorem plus_any {R : Nat} {w W : World} {l : List UInt8} {st : List Fr} {f : Fr} {g cap d : Nat} {ms : List Fm} {m : Fm} (h : Sg R w W l st f g cap d ms m) (e : E) (he : e.ok) (sn : Value) (hn : Tn (okS R g) d W sn e.toN.args) :
    Calls Tryz.prog 94 #[.pointer (some ⟨R + 3, 0, none⟩), nodeV e.toN sn] W fun x W' => ∃ sr, x = .returned (nodeV (addE f.sum e).toN sr) ∧ Sg R w W' l st f g cap (d + 1) ms m ∧ Tn (okS R g) (d + 1) W' sr (addE f.sum e).toN.args ∧ Adds W W' := by
  have hl : ms.length ≤ 100000 := by have := h.len; omega
  obtain ⟨an, nc, hsn⟩ := hn.shape
  have hM := h.facts.2.2.2.2
  have hup : ∀ W', Adds W W' → Sg R w W' l st f g cap (d + 1) ms m := by
    intro W' hA
    have h' := h.adds hA
    exact ⟨h'.rdr, h'.g0, h'.g1, h'.top.frame (Nat.le_succ _) (Nat.le_refl _) (fun b hb _ => ⟨rfl, hb⟩), h'.rest.frame (Nat.le_succ _) (Nat.le_refl _) (fun b hb _ => ⟨rfl, hb⟩), h'.mvd, h'.size, h'.res, h'.len, h'.names⟩
  cases hf : f.sum with
  | none =>
    have hk : m.sum.kind = 0 := by rw [h.top.2.1, hf]; rfl
    refine (added_none h.rdr hl e.toN hsn (h.top.2.2.2.2.2.1 hf) hk).mono ?_
    rintro x W' ⟨rfl, hA⟩
    exact ⟨sn, rfl, hup W' hA, (hn.adds hA).deeper, hA⟩
  | some y =>
    have hsum : m.sum = y.toN := by rw [h.top.2.1, hf]; rfl
    have hy : y.ok := h.top.2.2.2.2.2.2.2.1 y hf
    refine (added_some (ok := okS R g) (d := d) h.rdr hl e.toN sn hn h.top.2.2.2.1 (by rw [hsum]; exact y.kind_ne) (fun k hk => ⟨by omega, by omega, by omega, by have := h.rdr.top; obtain ⟨g', c', hv, _, hg, _⟩ := this; simp only [Value.slice.injEq, Option.some.injEq, Addr.mk.injEq] at hv; omega, by omega⟩) (ok_size he) (by rw [hsum]; exact ok_size hy)).mono ?_
    rintro x W' ⟨sr, rfl, ht, hA⟩
    rw [hsum] at ht
    exact ⟨sr, rfl, hup W' hA, ht, hA⟩

theorem close_any {R : Nat} {w W : World} {l : List UInt8} {st : List Fr} {f f2 : Fr} {g cap d : Nat} {ms : List Fm} {m : Fm} (h : Sg R w W l (f2 :: st) f g cap d ms m) (e : E) (he : e.ok) (sn : Value) (hn : Tn (okS R g) d W sn e.toN.args) :
    Calls Tryz.prog 95 #[.pointer (some ⟨R + 3, 0, none⟩), nodeV e.toN sn] W fun x W' => ∃ sr ms' m', x = .returned (nodeV (closeE f.name e).toN sr) ∧ Sg R w W' l st f2 g cap (d + 1) ms' m' ∧ Tn (okS R g) (d + 1) W' sr (closeE f.name e).toN.args ∧ Mv (fun b => b = R + 3) W W' := by
  have hl : ms.length ≤ 100000 := by have := h.len; omega
  obtain ⟨an, nc, hsn⟩ := hn.shape
  have hM := h.facts.2.2.2.2
  obtain ⟨ms', m', rfl, hm2, hms⟩ := h.rest
  have hl2 : (ms' ++ [m']).length = ms'.length + 1 := by simp
  have hup : ∀ W', Rdr (R + 3) R W' (toB l) (.slice (some ⟨g, 0, none⟩) (ms' ++ [m']).length cap) (ms' ++ [m']) → Mv (fun b => b = R + 3) W W' → Sg R w W' l st f2 g cap (d + 1) ms' m' := by
    intro W' hR hm
    have hok : ∀ b, okS R g b → b < W.heap.size → W'.heap[b]? = W.heap[b]? ∧ okS R g b := fun b hb hlt => ⟨hm.block b hlt hb.2.2.1, hb⟩
    rw [hl2] at hR
    refine ⟨hR, h.g0, h.g1, hm2.frame (Nat.le_succ _) hm.size hok, hms.frame (Nat.le_succ _) hm.size hok, h.mvd.trans (hm.mono (fun n _ e => by omega)), h.size, ?_, by have := h.len; rw [hl2] at this; omega, fun x hx => h.names x (List.mem_cons_of_mem _ hx)⟩
    rw [hm.block R (by omega) (by omega)]
    exact h.res
  by_cases hf : f.name = []
  · have hnm : m.name.toList = [] := by rw [h.top.1, toB_toList, hf]
    refine (closed_none h.rdr hl e.toN hsn hnm).mono ?_
    rintro x W' ⟨rfl, hR, hm⟩
    refine ⟨sn, ms', m', by rw [closeE, if_pos hf], hup W' hR hm, ?_, hm⟩
    rw [closeE, if_pos hf]
    exact (hn.mv hm (fun b _ hb => hb.2.2.1)).deeper
  · have hnm : m.name.toList ≠ [] := by rw [h.top.1, toB_toList]; exact hf
    refine (closed_some (ok := okS R g) (d := d) h.rdr hl e.toN sn hn hnm (fun k hk => ⟨by omega, by omega, by omega, by have := h.rdr.top; obtain ⟨g', c', hv, _, hg, _⟩ := this; simp only [Value.slice.injEq, Option.some.injEq, Addr.mk.injEq] at hv; omega, by omega⟩) (fun hM => hM.2.2.1 rfl) (ok_size he)).mono ?_
    rintro x W' ⟨sr, rfl, ht, hR, hm⟩
    refine ⟨sr, ms', m', by rw [closeE, if_neg hf, h.top.1]; rfl, hup W' hR hm, ?_, hm⟩
    rw [closeE, if_neg hf]
    exact ht

/-- n laid into the top frame, behind a `*`. -/
theorem Sg.setMul {R : Nat} {w W : World} {l : List UInt8} {st : List Fr} {f : Fr} {g cap d : Nat} {ms : List Fm} {m : Fm} (h : Sg R w W l st f g cap d ms m) (e : E) (he : e.ok) (sn : Value) (hn : Tn (okS R g) d W sn e.toN.args) :
    ∃ m', Sg R w ((((W.setCell ⟨g, ms.length * 9 + 5, none⟩ (.int .i64 e.toN.kind)).setCell ⟨g, ms.length * 9 + 5 + 1, none⟩ (.string e.toN.text)).setCell ⟨g, ms.length * 9 + 5 + 2, none⟩ (.int .i64 e.toN.num)).setCell ⟨g, ms.length * 9 + 5 + 3, none⟩ sn) l st { f with mul := some e } g cap d ms m' := by
  have r1 := h.rdr.set (f' := { m with mul := .mk e.toN.kind m.mul.text m.mul.num m.mul.args }) 5 (.int .i64 e.toN.kind) rfl
  have r2 := r1.set (f' := { m with mul := .mk e.toN.kind e.toN.text m.mul.num m.mul.args }) 6 (.string e.toN.text) rfl
  have r3 := r2.set (f' := { m with mul := .mk e.toN.kind e.toN.text e.toN.num m.mul.args }) 7 (.int .i64 e.toN.num) rfl
  have r4 := r3.set (f' := { m with mul := e.toN, mv := sn }) 8 sn rfl
  have hm : Mv (fun b => b = g) W ((((W.setCell ⟨g, ms.length * 9 + 5, none⟩ (.int .i64 e.toN.kind)).setCell ⟨g, ms.length * 9 + 5 + 1, none⟩ (.string e.toN.text)).setCell ⟨g, ms.length * 9 + 5 + 2, none⟩ (.int .i64 e.toN.num)).setCell ⟨g, ms.length * 9 + 5 + 3, none⟩ sn) :=
    (((Mv.set1 _ _ _ _).trans (Mv.set1 _ _ _ _)).trans (Mv.set1 _ _ _ _)).trans (Mv.set1 _ _ _ _)
  have hok := fun b (hb : okS R g b) (hlt : b < W.heap.size) => And.intro (hm.block b hlt hb.2.2.2.1) hb
  have ht1 := h.top.frame (Nat.le_refl _) hm.size hok
  refine ⟨{ m with mul := e.toN, mv := sn }, r4, h.g0, h.g1, ⟨ht1.1, ht1.2.1, rfl, ht1.2.2.2.1, hn.mv hm (fun b _ hb => hb.2.2.2.1), ht1.2.2.2.2.2.1, (fun h => by cases h), ht1.2.2.2.2.2.2.2.1, fun e' h => by cases h; exact he⟩, h.rest.frame (Nat.le_refl _) hm.size hok, h.mvd.trans (hm.mono (fun n _ e => ?_)), h.size, ?_, h.len, fun x hx => ?_⟩
  · obtain ⟨g', c', hv, _, hg, hB, _⟩ := h.rdr.top
    simp only [Value.slice.injEq, Option.some.injEq, Addr.mk.injEq] at hv
    omega
  · rw [hm.block R (by have := h.facts.2.2.2.2; omega) (fun e => h.g0 e.symm)]
    exact h.res
  · rcases List.mem_cons.1 hx with rfl | hx
    · exact h.names f (by simp)
    · exact h.names x (by simp [hx])

theorem Sg.setSum {R : Nat} {w W : World} {l : List UInt8} {st : List Fr} {f : Fr} {g cap d : Nat} {ms : List Fm} {m : Fm} (h : Sg R w W l st f g cap d ms m) (e : E) (he : e.ok) (sn : Value) (hn : Tn (okS R g) d W sn e.toN.args) :
    ∃ m', Sg R w ((((W.setCell ⟨g, ms.length * 9 + 1, none⟩ (.int .i64 e.toN.kind)).setCell ⟨g, ms.length * 9 + 1 + 1, none⟩ (.string e.toN.text)).setCell ⟨g, ms.length * 9 + 1 + 2, none⟩ (.int .i64 e.toN.num)).setCell ⟨g, ms.length * 9 + 1 + 3, none⟩ sn) l st { f with sum := some e } g cap d ms m' := by
  have r1 := h.rdr.set (f' := { m with sum := .mk e.toN.kind m.sum.text m.sum.num m.sum.args }) 1 (.int .i64 e.toN.kind) rfl
  have r2 := r1.set (f' := { m with sum := .mk e.toN.kind e.toN.text m.sum.num m.sum.args }) 2 (.string e.toN.text) rfl
  have r3 := r2.set (f' := { m with sum := .mk e.toN.kind e.toN.text e.toN.num m.sum.args }) 3 (.int .i64 e.toN.num) rfl
  have r4 := r3.set (f' := { m with sum := e.toN, sv := sn }) 4 sn rfl
  have hm : Mv (fun b => b = g) W ((((W.setCell ⟨g, ms.length * 9 + 1, none⟩ (.int .i64 e.toN.kind)).setCell ⟨g, ms.length * 9 + 1 + 1, none⟩ (.string e.toN.text)).setCell ⟨g, ms.length * 9 + 1 + 2, none⟩ (.int .i64 e.toN.num)).setCell ⟨g, ms.length * 9 + 1 + 3, none⟩ sn) :=
    (((Mv.set1 _ _ _ _).trans (Mv.set1 _ _ _ _)).trans (Mv.set1 _ _ _ _)).trans (Mv.set1 _ _ _ _)
  have hok := fun b (hb : okS R g b) (hlt : b < W.heap.size) => And.intro (hm.block b hlt hb.2.2.2.1) hb
  have ht1 := h.top.frame (Nat.le_refl _) hm.size hok
  refine ⟨{ m with sum := e.toN, sv := sn }, r4, h.g0, h.g1, ⟨ht1.1, rfl, ht1.2.2.1, hn.mv hm (fun b _ hb => hb.2.2.2.1), ht1.2.2.2.2.1, (fun h => by cases h), ht1.2.2.2.2.2.2.1, (fun e' h => by cases h; exact he), ht1.2.2.2.2.2.2.2.2⟩, h.rest.frame (Nat.le_refl _) hm.size hok, h.mvd.trans (hm.mono (fun n _ e => ?_)), h.size, ?_, h.len, fun x hx => ?_⟩
  · obtain ⟨g', c', hv, _, hg, hB, _⟩ := h.rdr.top
    simp only [Value.slice.injEq, Option.some.injEq, Addr.mk.injEq] at hv
    omega
  · rw [hm.block R (by have := h.facts.2.2.2.2; omega) (fun e => h.g0 e.symm)]
    exact h.res
  · rcases List.mem_cons.1 hx with rfl | hx
    · exact h.names f (by simp)
    · exact h.names x (by simp [hx])

end Go.Proofs.YtiacnmcdfpmcfaaGreatDoor
