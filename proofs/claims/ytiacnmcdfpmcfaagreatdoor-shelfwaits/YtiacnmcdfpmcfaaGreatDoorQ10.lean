/-
  How the reader lies where it jumps.
  The function read, by a contract.
  Which texts are expressions, by the last sign outside of parentheses; the digits of a number; all in plain lists.
-/
import Derived.Test.YtiacnmcdfpmcfaaGreatDoorQ04
import Derived.Test.YtiacnmcdfpmcfaaGreatDoorQ02
namespace Go.Proofs.YtiacnmcdfpmcfaaGreatDoor
open Go.RowKit
attribute [local go_sem] cell?_more frozen?_more setCell_more size_more tape_more drew_more drewN_more more_drew more_drewN one_out plus_out plus_end lt_one le_p2 le_p3 le_p4 le_p5 le_p6 le_p7 le_p8 le_p9 le_p10 le_p11 le_p12 le_p13 le_p14 le_p15 le_p16 le_p17 le_p18 le_p19 le_p20 le_p21 le_p22 le_p23 le_p24 le_q0 le_q1 lt_q1 le_q2 lt_q2 le_q3 lt_q3 le_q4 lt_q4 le_q5 lt_q5 le_q6 lt_q6 le_q7 lt_q7 le_q8 lt_q8 le_q9 lt_q9 le_q10 lt_q10 le_q11 lt_q11 le_q12 lt_q12 le_q13 lt_q13 le_q14 lt_q14 le_q15 lt_q15 le_q16 lt_q16 le_q17 lt_q17 le_q18 lt_q18 le_q19 lt_q19 le_q20 lt_q20 le_q21 lt_q21 le_q22 lt_q22 le_q23 lt_q23 le_q24 lt_q24


abbrev set4o (W : World) (k o : Nat) (n : N) (sn : Value) : World := (((W.setCell ⟨k, o, none⟩ (.int .i64 n.kind)).setCell ⟨k, o + 1, none⟩ (.string n.text)).setCell ⟨k, o + 2, none⟩ (.int .i64 n.num)).setCell ⟨k, o + 3, none⟩ sn

theorem set4o_mv (W : World) (k o : Nat) (n : N) (sn : Value) : Mv (fun b => b = k) W (set4o W k o n sn) :=
  (((Mv.set1 _ _ _ _).trans (Mv.set1 _ _ _ _)).trans (Mv.set1 _ _ _ _)).trans (Mv.set1 _ _ _ _)

theorem star_end {R : Nat} {w W : World} {r : List UInt8} {c : UInt8} {st : List Fr} {f : Fr} {g cap d : Nat} {ms : List Fm} {m : Fm} {n0 : N} {s0 sr : Value} {e : E} (h : Sg R w W (c :: r) st f g cap d ms m) (hN : NB R W n0 s0) (hT : Tn (okS R g) d W sr e.toN.args) (he : e.ok) (os : Array Obj) (q : Nat) :
    ∃ mz, Sg R w (more (set4o ((setN W (R + 1) e.toN sr).setCell ⟨R + 3, 0, none⟩ (.string (toB r))) g (ms.length * 9 + 5) e.toN sr) os q) r st { f with mul := some e } g cap d ms mz ∧ NBox R (more (set4o ((setN W (R + 1) e.toN sr).setCell ⟨R + 3, 0, none⟩ (.string (toB r))) g (ms.length * 9 + 5) e.toN sr) os q) ∧
      left R (more (set4o ((setN W (R + 1) e.toN sr).setCell ⟨R + 3, 0, none⟩ (.string (toB r))) g (ms.length * 9 + 5) e.toN sr) os q) = r.length := by
  have h1 := h.mv (setN_mv W (R + 1) e.toN sr)
  have t1 := hT.mv (setN_mv W (R + 1) e.toN sr) (fun b _ hb => hb.2.1)
  have b1 := (NBox.set hN.box e.toN sr).box
  generalize setN W (R + 1) e.toN sr = X at *
  have h2 := h1.text r (by simp)
  have t2 := t1.mv (Mv.set1 X (R + 3) 0 (.string (toB r))) (fun b _ hb => hb.2.2.1)
  have b2 := b1.mv (Mv.set1 X (R + 3) 0 (.string (toB r))) (by omega)
  generalize X.setCell ⟨R + 3, 0, none⟩ (.string (toB r)) = Y at *
  obtain ⟨mz, h3⟩ := h2.setMul e he sr t2
  have b3 := b2.mv (set4o_mv Y g (ms.length * 9 + 5) e.toN sr) (fun e => h.g1 e.symm)
  have h4 := h3.adds (W' := more (set4o Y g (ms.length * 9 + 5) e.toN sr) os q) ⟨os, q, rfl⟩
  exact ⟨mz, h4, b3.mv (X := fun _ => False) (Adds.mv ⟨os, q, rfl⟩) (fun h => h), h4.left⟩

theorem plus_end' {R : Nat} {w W : World} {r : List UInt8} {c : UInt8} {st : List Fr} {f : Fr} {g cap d : Nat} {ms : List Fm} {m : Fm} {n0 : N} {s0 sr : Value} {e : E} (h : Sg R w W (c :: r) st f g cap d ms m) (hN : NB R W n0 s0) (hT : Tn (okS R g) d W sr e.toN.args) (he : e.ok) (os : Array Obj) (q : Nat) :
    ∃ mz, Sg R w (more (set4o ((setN W (R + 1) e.toN sr).setCell ⟨R + 3, 0, none⟩ (.string (toB r))) g (ms.length * 9 + 1) e.toN sr) os q) r st { f with sum := some e } g cap d ms mz ∧ NBox R (more (set4o ((setN W (R + 1) e.toN sr).setCell ⟨R + 3, 0, none⟩ (.string (toB r))) g (ms.length * 9 + 1) e.toN sr) os q) ∧
      left R (more (set4o ((setN W (R + 1) e.toN sr).setCell ⟨R + 3, 0, none⟩ (.string (toB r))) g (ms.length * 9 + 1) e.toN sr) os q) = r.length := by
  have h1 := h.mv (setN_mv W (R + 1) e.toN sr)
  have t1 := hT.mv (setN_mv W (R + 1) e.toN sr) (fun b _ hb => hb.2.1)
  have b1 := (NBox.set hN.box e.toN sr).box
  generalize setN W (R + 1) e.toN sr = X at *
  have h2 := h1.text r (by simp)
  have t2 := t1.mv (Mv.set1 X (R + 3) 0 (.string (toB r))) (fun b _ hb => hb.2.2.1)
  have b2 := b1.mv (Mv.set1 X (R + 3) 0 (.string (toB r))) (by omega)
  generalize X.setCell ⟨R + 3, 0, none⟩ (.string (toB r)) = Y at *
  obtain ⟨mz, h3⟩ := h2.setSum e he sr t2
  have b3 := b2.mv (set4o_mv Y g (ms.length * 9 + 1) e.toN sr) (fun e => h.g1 e.symm)
  have h4 := h3.adds (W' := more (set4o Y g (ms.length * 9 + 1) e.toN sr) os q) ⟨os, q, rfl⟩
  exact ⟨mz, h4, b3.mv (X := fun _ => False) (Adds.mv ⟨os, q, rfl⟩) (fun h => h), h4.left⟩

theorem Sg.resc {R : Nat} {w W : World} {l : List UInt8} {st : List Fr} {f : Fr} {g cap d : Nat} {ms : List Fm} {m : Fm} (h : Sg R w W l st f g cap d ms m) : W.cell? ⟨R, 0, none⟩ = some (.int .i64 0) ∧ W.cell? ⟨R, 1, none⟩ = some (.string ⟨#[]⟩) ∧ W.cell? ⟨R, 2, none⟩ = some (.int .i64 0) ∧ W.cell? ⟨R, 3, none⟩ = some nilV :=
  ⟨by simp [World.cell?, h.res], by simp [World.cell?, h.res], by simp [World.cell?, h.res], by simp [World.cell?, h.res]⟩

theorem ret13 {R : Nat} {X : World} {tm : Array Value} {t : Bool} {n : N} {sn : Value} (h2 : tm[2]?.getD undef = .pointer (some ⟨R, 0, none⟩)) (h3 : tm[3]?.getD undef = .bool t) (hX : X.heap[R]? = some (.cells #[.int .i64 n.kind, .string n.text, .int .i64 n.num, sn] 81 (0, 0))) : (results Tryz.f65 tm).run Tryz.prog X = .ok (.tuple #[nodeV n sn, .bool t]) X := by
  have c0 : X.cell? ⟨R, 0, none⟩ = some (.int .i64 n.kind) := by simp [World.cell?, hX]
  have c1 : X.cell? ⟨R, 1, none⟩ = some (.string n.text) := by simp [World.cell?, hX]
  have c2 : X.cell? ⟨R, 2, none⟩ = some (.int .i64 n.num) := by simp [World.cell?, hX]
  have c3 : X.cell? ⟨R, 3, none⟩ = some sn := by simp [World.cell?, hX]
  simp [results, Tryz.results65, go_sem, h2, h3, c0, c1, c2, c3]

theorem grow_facts {R : Nat} {w W0 W1 W2 : World} {l : List UInt8} {st : List Fr} {f : Fr} {g cap d : Nat} {ms : List Fm} {m : Fm} (h : Sg R w W0 l st f g cap d ms m) (hA : Adds W0 W1) (hg : W1.grownBy W2 (some g)) : W2.cell? ⟨R + 3, 1, none⟩ = some (.slice (some ⟨g, 0, none⟩) (ms.length + 1) cap) ∧ W2.frozen? ⟨R + 3, 1, none⟩ = false ∧ R + 3 < W2.heap.size := by
  have h1 := h.adds hA
  have hgM : g ≠ R + 3 := fun e => h.rdr.far (by simp [Value.ownBlock, e])
  have hb : W2.heap[R + 3]? = W1.heap[R + 3]? := hg.block _ h1.facts.2.2.2.2 (by simp only [ne_eq, Option.some.injEq]; exact fun e => hgM e.symm)
  have h2 := h1.rdr.1
  rw [← hb] at h2
  exact ⟨by simp [World.cell?, h2], by simp [World.frozen?, h2], lt_of_some h2⟩

theorem NBox.cells {R : Nat} {W : World} (h : NBox R W) : ∃ a b c e, W.cell? ⟨R + 1, 0, none⟩ = some a ∧ W.cell? ⟨R + 1, 1, none⟩ = some b ∧ W.cell? ⟨R + 1, 2, none⟩ = some c ∧ W.cell? ⟨R + 1, 3, none⟩ = some e := by
  obtain ⟨a, b, c, e, h⟩ := h
  exact ⟨a, b, c, e, by simp [World.cell?, h], by simp [World.cell?, h], by simp [World.cell?, h], by simp [World.cell?, h]⟩

/-- A part that is a word. -/
theorem M_leafy {l wd rs : List UInt8} (h1 : l.takeWhile wc = wd) (h2 : l.dropWhile wc = rs) (h : ¬ ((wd = [] ∨ isName wd = true) ∧ ∃ r, rs = 40 :: r)) (st : List Fr) (f : Fr) : M l st f none = (leafE wd).bind fun n => M rs st f (some n) := by
  subst h1 h2
  cases hd : l.dropWhile wc with
  | nil => exact M_nil hd st f
  | cons c r => exact M_word hd (fun hq => h ⟨hq.1, r, by rw [hd, hq.2]⟩) st f

theorem M_pushy {l wd r : List UInt8} (h1 : l.takeWhile wc = wd) (h2 : l.dropWhile wc = 40 :: r) (h : wd = [] ∨ isName wd = true) (st : List Fr) (f : Fr) : M l st f none = M r (f :: st) ⟨wd, none, none⟩ none := by
  subst h1
  exact M_push h2 h st f

theorem closeE_ok {f : Fr} {e : E} (h : f.name = [] ∨ isName f.name = true) (he : e.ok) : (closeE f.name e).ok := by
  unfold closeE
  split
  · exact he
  · rename_i hne
    rcases h with h | h
    · exact absurd h hne
    · exact ⟨h, he⟩

/-- n stored behind a call. -/
theorem store_end {R : Nat} {w W : World} {l : List UInt8} {st : List Fr} {f : Fr} {g cap d : Nat} {ms : List Fm} {m : Fm} {sr : Value} {e : E} (h : Sg R w W l st f g cap d ms m) (hN : NBox R W) (hT : Tn (okS R g) d W sr e.toN.args) :
    Sg R w (setN W (R + 1) e.toN sr) l st f g cap d ms m ∧ NB R (setN W (R + 1) e.toN sr) e.toN sr ∧ Tn (okS R g) d (setN W (R + 1) e.toN sr) sr e.toN.args ∧ left R (setN W (R + 1) e.toN sr) = l.length := by
  have h1 := h.mv (setN_mv W (R + 1) e.toN sr)
  exact ⟨h1, NBox.set hN e.toN sr, hT.mv (setN_mv W (R + 1) e.toN sr) (fun b _ hb => hb.2.1), h1.left⟩

/-- A sign taken off the text behind n's store. -/
theorem text_end {R : Nat} {w W : World} {r l : List UInt8} {st : List Fr} {f : Fr} {g cap d : Nat} {ms : List Fm} {m : Fm} {n : N} {sr : Value} (h : Sg R w W l st f g cap d ms m) (hl : r.length ≤ l.length) (hN : NB R W n sr) (hT : Tn (okS R g) d W sr n.args) :
    Sg R w (W.setCell ⟨R + 3, 0, none⟩ (.string (toB r))) r st f g cap d ms m ∧ NB R (W.setCell ⟨R + 3, 0, none⟩ (.string (toB r))) n sr ∧ Tn (okS R g) d (W.setCell ⟨R + 3, 0, none⟩ (.string (toB r))) sr n.args :=
  ⟨h.text r hl, hN.mv (Mv.set1 W (R + 3) 0 (.string (toB r))) (by omega), hT.mv (Mv.set1 W (R + 3) 0 (.string (toB r))) (fun b _ hb => hb.2.2.1)⟩

/-- The result written, and the call's end. -/
theorem ret_end {R : Nat} {w W : World} {l : List UInt8} {st : List Fr} {f : Fr} {g cap d : Nat} {ms : List Fm} {m : Fm} (h : Sg R w W l st f g cap d ms m) (n : N) (sn : Value) (ok : Nat → Prop) {k : Nat} {x : Value} {ts : List N} (hT : Tn (okS R g) k W x ts) (hok : ∀ b, okS R g b → ok b) : Tn ok k (setN W R n sn) x ts ∧ Adds w (setN W R n sn) ∧ (setN W R n sn).heap[R]? = some (.cells #[.int .i64 n.kind, .string n.text, .int .i64 n.num, sn] 81 (0, 0)) := by
  refine ⟨hT.frame (setN_mv W R n sn).size (fun b hb hlt => ⟨(setN_mv W R n sn).block b hlt hb.1, hok b hb⟩), ?_, set4 h.res⟩
  have := h.mvd.trans ((setN_mv W R n sn).mono (fun b _ e => (by omega : R ≤ b)))
  exact Adds.of (Mv.below (B := w.heap.size) (by rw [h.size]; exact this) (Nat.le_refl _))

theorem ret_end2 {R : Nat} {w W : World} {l : List UInt8} {st : List Fr} {f : Fr} {g cap d : Nat} {ms : List Fm} {m : Fm} (h : Sg R w W l st f g cap d ms m) (n : N) (sn : Value) (os : Array Obj) (k : Nat) : Adds w (more (setN W R n sn) os k) ∧ (more (setN W R n sn) os k).heap[R]? = some (.cells #[.int .i64 n.kind, .string n.text, .int .i64 n.num, sn] 81 (0, 0)) := by
  have h1 := ret_end h n sn (fun _ => True) (Tn.nil _ 0 _) (fun _ _ => trivial)
  refine ⟨h1.2.1.more os k, ?_⟩
  rw [more_block os k (lt_of_some h1.2.2)]
  exact h1.2.2

theorem push4 (h : Array Obj) (a b c e : Obj) : ((((h.push a).push b).push c).push e)[h.size]? = some a ∧ ((((h.push a).push b).push c).push e)[h.size + 1]? = some b ∧ ((((h.push a).push b).push c).push e)[h.size + 2]? = some c ∧ ((((h.push a).push b).push c).push e)[h.size + 3]? = some e := by
  simp only [Array.getElem?_push, Array.size_push]
  refine ⟨?_, ?_, ?_, ?_⟩
  · rw [if_neg (by omega), if_neg (by omega), if_neg (by omega), if_pos trivial]
  · rw [if_neg (by omega), if_neg (by omega), if_pos trivial]
  · rw [if_neg (by omega), if_pos trivial]
  · rw [if_pos trivial]

theorem heap4 (w : World) (a b c e : Obj) : ((((w.alloc a).alloc b).alloc c).alloc e).heap = (((w.heap.push a).push b).push c).push e := rfl

/-- The reader where it begins. -/
theorem Sg.begin {w : World} {l : List UInt8} (hl : l.length ≤ 256) {W : World} (hW : W = (((w.alloc (.cells #[.int .i64 0, .string ⟨#[]⟩, .int .i64 0, nilV] 81)).alloc (.cells #[.int .i64 0, .string ⟨#[]⟩, .int .i64 0, nilV] 81)).alloc (.cells #[.string ⟨#[]⟩, .int .i64 0, .string ⟨#[]⟩, .int .i64 0, nilV, .int .i64 0, .string ⟨#[]⟩, .int .i64 0, nilV] 135)).alloc (.cells #[.string (toB l), .slice (some ⟨w.heap.size + 2, 0, none⟩) 1 1] 138)) :
    Sg w.heap.size w W l [] Fr.none (w.heap.size + 2) 1 0 [] ⟨⟨#[]⟩, N.zero, nilV, N.zero, nilV⟩ ∧ NBox w.heap.size W := by
  have h0 : W.heap[w.heap.size]? = some (.cells #[.int .i64 0, .string ⟨#[]⟩, .int .i64 0, nilV] 81 (0, 0)) := by rw [hW, heap4]; exact (push4 _ _ _ _ _).1
  have h1 : W.heap[w.heap.size + 1]? = some (.cells #[.int .i64 0, .string ⟨#[]⟩, .int .i64 0, nilV] 81 (0, 0)) := by rw [hW, heap4]; exact (push4 _ _ _ _ _).2.1
  have h2 : W.heap[w.heap.size + 2]? = some (.cells #[.string ⟨#[]⟩, .int .i64 0, .string ⟨#[]⟩, .int .i64 0, nilV, .int .i64 0, .string ⟨#[]⟩, .int .i64 0, nilV] 135 (0, 0)) := by rw [hW, heap4]; exact (push4 _ _ _ _ _).2.2.1
  have h3 : W.heap[w.heap.size + 3]? = some (.cells #[.string (toB l), .slice (some ⟨w.heap.size + 2, 0, none⟩) 1 1] 138 (0, 0)) := by rw [hW, heap4]; exact (push4 _ _ _ _ _).2.2.2
  have hA : Adds w W := by
    rw [hW]
    repeat (first | with_reducible exact Adds.refl _ | with_reducible refine Adds.alloc ?_ _ | with_reducible refine Adds.more ?_ _ _ | with_reducible refine Adds.drew ?_ | with_reducible refine Adds.drewN ?_ _)
  refine ⟨⟨⟨h3, ⟨rfl, .inr ⟨w.heap.size + 2, 1, _, rfl, by omega, h2, Nat.le_refl _, by unfold maxLen; omega, rfl, rfl⟩⟩, hA.below.size⟩, by omega, by omega, ⟨rfl, rfl, rfl, Tn.nil _ _ _, Tn.nil _ _ _, fun _ => rfl, fun _ => rfl, (fun e h => by cases h), (fun e h => by cases h)⟩, rfl, hA.mv, rfl, h0, by simpa using hl, ?_⟩, ⟨_, _, _, _, h1⟩⟩
  intro x hx
  simp at hx
  rw [hx]
  exact .inl rfl

end Go.Proofs.YtiacnmcdfpmcfaaGreatDoor

namespace Go.Proofs.YtiacnmcdfpmcfaaGreatDoor
open Go.RowKit
attribute [local go_sem] cell?_more frozen?_more setCell_more size_more tape_more drew_more drewN_more more_drew more_drewN one_out plus_out plus_end lt_one le_p2 le_p3 le_p4 le_p5 le_p6 le_p7 le_p8 le_p9 le_p10 le_p11 le_p12 le_p13 le_p14 le_p15 le_p16 le_p17 le_p18 le_p19 le_p20 le_p21 le_p22 le_p23 le_p24 le_q0 le_q1 lt_q1 le_q2 lt_q2 le_q3 lt_q3 le_q4 lt_q4 le_q5 lt_q5 le_q6 lt_q6 le_q7 lt_q7 le_q8 lt_q8 le_q9 lt_q9 le_q10 lt_q10 le_q11 lt_q11 le_q12 lt_q12 le_q13 lt_q13 le_q14 lt_q14 le_q15 lt_q15 le_q16 lt_q16 le_q17 lt_q17 le_q18 lt_q18 le_q19 lt_q19 le_q20 lt_q20 le_q21 lt_q21 le_q22 lt_q22 le_q23 lt_q23 le_q24 lt_q24

structure Us where
  u5 : Value
  u6 : Value
  u8 : Value
  u9 : Value
  u10 : Value
  u11 : Value
  u12 : Value
  u13 : Value
  u14 : Value
  u15 : Value
  u16 : Value
  u17 : Value
  u18 : Value
  u19 : Value
  u20 : Value
  u21 : Value
  u22 : Value
  u23 : Value
  u24 : Value
  u25 : Value
  u26 : Value
  u27 : Value
  u28 : Value
  u29 : Value
  u30 : Value
  u31 : Value
  u32 : Value
  u33 : Value
  u34 : Value
  u35 : Value
  u36 : Value
  u37 : Value
  u38 : Value
  u39 : Value
  u40 : Value
  u41 : Value
  u42 : Value
  u43 : Value
  u44 : Value
  u45 : Value
  u46 : Value
  u47 : Value
  u48 : Value
  u49 : Value
  u50 : Value
  u51 : Value
  u52 : Value
  u53 : Value
  u54 : Value
  u55 : Value
  u56 : Value
  u57 : Value
  u58 : Value
  u59 : Value
  u60 : Value
  u61 : Value
  u62 : Value
  u63 : Value
  u64 : Value
  u65 : Value
  u66 : Value
  u67 : Value
  u68 : Value
  u69 : Value
  u70 : Value

/-- The frame's slots. -/
@[reducible] def Us.act (u : Us) (s0 : ByteArray) (R : Nat) : Act := { tmps := #[.string s0, undef, .pointer (some ⟨R, 0, none⟩), .bool false, .pointer (some ⟨R + 1, 0, none⟩), u.u5, u.u6, .pointer (some ⟨R + 3, 0, none⟩), u.u8, u.u9, u.u10, u.u11, u.u12, u.u13, u.u14, u.u15, u.u16, u.u17, u.u18, u.u19, u.u20, u.u21, u.u22, u.u23, u.u24, u.u25, u.u26, u.u27, u.u28, u.u29, u.u30, u.u31, u.u32, u.u33, u.u34, u.u35, u.u36, u.u37, u.u38, u.u39, u.u40, u.u41, u.u42, u.u43, u.u44, u.u45, u.u46, u.u47, u.u48, u.u49, u.u50, u.u51, u.u52, u.u53, u.u54, u.u55, u.u56, u.u57, u.u58, u.u59, u.u60, u.u61, u.u62, u.u63, u.u64, u.u65, u.u66, u.u67, u.u68, u.u69, u.u70], defers := [] }

def IsAct (a : Act) (s0 : ByteArray) (R : Nat) : Prop := ∃ u : Us, a = u.act s0 R

theorem isAct {s0 : ByteArray} {R : Nat} {v5 v6 v8 v9 v10 v11 v12 v13 v14 v15 v16 v17 v18 v19 v20 v21 v22 v23 v24 v25 v26 v27 v28 v29 v30 v31 v32 v33 v34 v35 v36 v37 v38 v39 v40 v41 v42 v43 v44 v45 v46 v47 v48 v49 v50 v51 v52 v53 v54 v55 v56 v57 v58 v59 v60 v61 v62 v63 v64 v65 v66 v67 v68 v69 v70 : Value} : IsAct { tmps := #[.string s0, undef, .pointer (some ⟨R, 0, none⟩), .bool false, .pointer (some ⟨R + 1, 0, none⟩), v5, v6, .pointer (some ⟨R + 3, 0, none⟩), v8, v9, v10, v11, v12, v13, v14, v15, v16, v17, v18, v19, v20, v21, v22, v23, v24, v25, v26, v27, v28, v29, v30, v31, v32, v33, v34, v35, v36, v37, v38, v39, v40, v41, v42, v43, v44, v45, v46, v47, v48, v49, v50, v51, v52, v53, v54, v55, v56, v57, v58, v59, v60, v61, v62, v63, v64, v65, v66, v67, v68, v69, v70], defers := [] } s0 R := ⟨⟨v5, v6, v8, v9, v10, v11, v12, v13, v14, v15, v16, v17, v18, v19, v20, v21, v22, v23, v24, v25, v26, v27, v28, v29, v30, v31, v32, v33, v34, v35, v36, v37, v38, v39, v40, v41, v42, v43, v44, v45, v46, v47, v48, v49, v50, v51, v52, v53, v54, v55, v56, v57, v58, v59, v60, v61, v62, v63, v64, v65, v66, v67, v68, v69, v70⟩, rfl⟩

set_option maxHeartbeats 8000000 in
set_option maxRecDepth 20000 in
theorem read_any (s0 : ByteArray) (hs : s0.size ≤ 256) (w : World) :
    Calls Tryz.prog 65 #[.string s0] w fun e W' => ReadTold s0.toList w e W' := by
  obtain ⟨Rs, hRs⟩ : ∃ Rs, M s0.toList [] Fr.none none = Rs := ⟨_, rfl⟩
  unfold ReadTold
  rw [hRs]
  have HRs : Hid (M s0.toList [] Fr.none none = Rs) := hRs
  clear hRs
  go_enter Tryz.func65, Tryz.ntmps65
  go_wp2
  refine wp_scope_two (fun a' W => ∃ (l : List UInt8) (st : List Fr) (f : Fr) (g cap d : Nat) (ms : List Fm) (m : Fm), IsAct a' s0 w.heap.size ∧ Sg w.heap.size w W l st f g cap d ms m ∧ NBox w.heap.size W ∧ Hid (M l st f none = Rs))
    (fun a' W => ∃ (l : List UInt8) (st : List Fr) (f : Fr) (g cap d : Nat) (ms : List Fm) (m : Fm) (e : E) (sn : Value), IsAct a' s0 w.heap.size ∧ Sg w.heap.size w W l st f g cap d ms m ∧ NB w.heap.size W e.toN sn ∧ Tn (okS w.heap.size g) d W sn e.toN.args ∧ e.ok ∧ Hid (M l st f (some e) = Rs))
    (fun _ W => left w.heap.size W) rfl rfl ?_ ?_ ?_
  · -- behind
    rintro a' W ⟨l, st, f, g, cap, d, ms, m, e, sn, ⟨u, rfl⟩, hS, hN, hT, hE, hR⟩
    have hmu := hS.left
    rw [hmu]
    clear hmu
    have hlen := hS.len
    have k1 := mult_any hS e hE sn hT
    obtain ⟨⟨n0, n1, n2, n3⟩, nf, hRl⟩ := hN.cells
    obtain ⟨an, nc, hsn⟩ := hT.shape
    rw [hsn] at n3 k1
    have HNB : Hid (NB w.heap.size W e.toN sn) := hN
    have hg1 : g ≠ w.heap.size + 1 := hS.g1
    have hg3 : g ≠ w.heap.size + 3 := fun e => hS.rdr.far (by simp [Value.ownBlock, e])
    have HO : Hid ((mulE f.mul e).ok ∧ (addE f.sum (mulE f.mul e)).ok) := ⟨mulE_ok hS.top.2.2.2.2.2.2.2.2 hE, addE_ok hS.top.2.2.2.2.2.2.2.1 (mulE_ok hS.top.2.2.2.2.2.2.2.2 hE)⟩
    have HST : Hid ((st = [] → ms.length = 0) ∧ (st ≠ [] → 0 < ms.length)) := by
      have hr := hS.rest
      constructor
      · rintro rfl
        rw [show ms = [] from hr]
        rfl
      · intro hne
        cases st with
        | nil => exact absurd rfl hne
        | cons _ _ =>
          obtain ⟨ms', m', e, _⟩ := hr
          rw [e]
          simp
    have HNM : Hid (f.name = [] ∨ isName f.name = true) := hS.names f (by simp)
    have hcap : ms.length + 1 ≤ cap := by
      obtain ⟨g2, c2, hv, hc, _⟩ := hS.rdr.top
      simp only [Value.slice.injEq, Option.some.injEq, Addr.mk.injEq] at hv
      omega
    clear hsn hT hN hS nf
    simp only [nodeV] at k1

    cases l with
    | cons c r =>
      simp only [List.length_cons] at hlen
      by_cases h42 : c = 42
      · subst h42
        have hw : IntKind.i64.wrap (ms.length : Int) = (ms.length : Int) := by rw [IntKind.wrap_i64]; omega
        go_wp2_with (first
          | (go_at_call 92; refine k1.mono ?_; rintro x1 W1 ⟨sr, m1, rfl, hS1, hT1, hm1⟩; obtain ⟨⟨an0, an1, an2, an3⟩, anf, ahl⟩ := NB.cells (NB.mv HNB.out hm1 (fun e => hg1 e.symm)); have anf0 := anf 0; have anf1 := anf 1; have anf2 := anf 2; have anf3 := anf 3; clear anf; obtain ⟨aq0, aq1, aqf, aqr, ahq⟩ := Sg.facts (hS1); have aqf0 := aqf 0; have aqr0 := aqr 0; have aqr1 := aqr 1; have aqr2 := aqr 2; have aqr3 := aqr 3; clear aqf aqr; obtain ⟨ar0, ar1, ar2, ar3⟩ := Sg.resc (hS1); obtain ⟨ag2, ac2, ahv, ahcc, ahgl, ahgB, ahgM, agf, at0, ⟨as0, as1, as2, as3⟩, am0, am1, am2, am3⟩ := Rdr.top (Sg.rdr (hS1)); simp only [Value.slice.injEq, Option.some.injEq, Addr.mk.injEq] at ahv; obtain ⟨⟨rfl, _⟩, _, rfl⟩ := ahv; clear ahgM ahcc ahgB; obtain ⟨ar, rc, hsr⟩ := hT1.shape; have HN1 : Hid _ := NB.mv HNB.out hm1 (fun e => hg1 e.symm); have HS1 : Hid (Sg _ _ _ _ _ _ _ _ _ _ _) := hS1; have HT1 : Hid (Tn _ _ _ _ _) := hT1; clear hS1 hT1 hm1 n0 n1 n2 n3 hRl k1 HNB; subst hsr)
          | (go_at_call_of 90 (Value.int IntKind.u8 42); refine (take_yes (c := 42) (r := r) (Sg.rdr (HS1.out.mv (setN_mv W1 (w.heap.size + 1) (mulE f.mul e).toN (.slice ar (mulE f.mul e).toN.args.length rc)))) (by simp [toB_size]; omega) (toB_toList _)).mono ?_; rintro xy Wy ⟨rfl, hwy⟩; subst hwy; (try unfold setN)))
        go_region_with (go_at_call 93; refine (top_any (Sg.rdr (Sg.adds (Sg.text (HS1.out.mv (setN_mv W1 (w.heap.size + 1) (mulE f.mul e).toN (.slice ar (mulE f.mul e).toN.args.length rc))) r (by simp)) (by repeat (first | with_reducible exact Adds.refl _ | with_reducible refine Adds.alloc ?_ _ | with_reducible refine Adds.more ?_ _ _ | with_reducible refine Adds.drew ?_ | with_reducible refine Adds.drewN ?_ _)))) (by omega)).mono ?_; rintro x4 W4 ⟨rfl, q4, rfl⟩)
        all_goals
          go_wp2
          go_step3
          obtain ⟨mz, z1, z2, z3⟩ := star_end HS1.out HN1.out HT1.out HO.out.1 #[] _
          exact .inl ⟨rfl, ⟨r, st, _, g, cap, _, ms, mz, isAct, z1, z2, (by have := hR.out; rw [M_star] at this; exact this)⟩, Nat.lt_of_le_of_lt (Nat.le_of_eq z3) (by simp)⟩
      by_cases h43 : c = 43
      · subst h43
        go_wp2_with (first
          | (go_at_call 92; refine k1.mono ?_; rintro x1 W1 ⟨sr, m1, rfl, hS1, hT1, hm1⟩; obtain ⟨⟨an0, an1, an2, an3⟩, anf, ahl⟩ := NB.cells (NB.mv HNB.out hm1 (fun e => hg1 e.symm)); have anf0 := anf 0; have anf1 := anf 1; have anf2 := anf 2; have anf3 := anf 3; clear anf; obtain ⟨aq0, aq1, aqf, aqr, ahq⟩ := Sg.facts (hS1); have aqf0 := aqf 0; have aqr0 := aqr 0; have aqr1 := aqr 1; have aqr2 := aqr 2; have aqr3 := aqr 3; clear aqf aqr; obtain ⟨ar0, ar1, ar2, ar3⟩ := Sg.resc (hS1); obtain ⟨ag2, ac2, ahv, ahcc, ahgl, ahgB, ahgM, agf, at0, ⟨as0, as1, as2, as3⟩, am0, am1, am2, am3⟩ := Rdr.top (Sg.rdr (hS1)); simp only [Value.slice.injEq, Option.some.injEq, Addr.mk.injEq] at ahv; obtain ⟨⟨rfl, _⟩, _, rfl⟩ := ahv; clear ahgM ahcc ahgB; obtain ⟨ar, rc, hsr⟩ := hT1.shape; have HN1 : Hid _ := NB.mv HNB.out hm1 (fun e => hg1 e.symm); have HS1 : Hid (Sg _ _ _ _ _ _ _ _ _ _ _) := hS1; have HT1 : Hid (Tn _ _ _ _ _) := hT1; clear hS1 hT1 hm1 n0 n1 n2 n3 hRl k1 HNB; subst hsr)
          | (go_at_call_of 90 (Value.int IntKind.u8 42); refine (take_no (c := 42) (Sg.rdr (HS1.out.mv (setN_mv W1 (w.heap.size + 1) (mulE f.mul e).toN (.slice ar (mulE f.mul e).toN.args.length rc)))) (fun r' h => by rw [toB_toList] at h; simp at h)).mono ?_; rintro xn Wn ⟨rfl, hwn⟩; subst hwn; (try unfold setN))
          | (go_at_call 94; refine (plus_any (HS1.out.mv (setN_mv W1 (w.heap.size + 1) (mulE f.mul e).toN (.slice ar (mulE f.mul e).toN.args.length rc))) (mulE f.mul e) HO.out.1 _ (HT1.out.mv (setN_mv W1 (w.heap.size + 1) (mulE f.mul e).toN (.slice ar (mulE f.mul e).toN.args.length rc)) (fun b _ hb => hb.2.1))).mono ?_; rintro x3 W3 ⟨sr3, rfl, hS3, hT3, hA3⟩; obtain ⟨⟨bn0, bn1, bn2, bn3⟩, bnf, bhl⟩ := NB.cells (NB.adds (NBox.set (NB.box HN1.out) (mulE f.mul e).toN (.slice ar (mulE f.mul e).toN.args.length rc)) hA3); have bnf0 := bnf 0; have bnf1 := bnf 1; have bnf2 := bnf 2; have bnf3 := bnf 3; clear bnf; obtain ⟨bq0, bq1, bqf, bqr, bhq⟩ := Sg.facts (hS3); have bqf0 := bqf 0; have bqr0 := bqr 0; have bqr1 := bqr 1; have bqr2 := bqr 2; have bqr3 := bqr 3; clear bqf bqr; obtain ⟨br0, br1, br2, br3⟩ := Sg.resc (hS3); obtain ⟨bg2, bc2, bhv, bhcc, bhgl, bhgB, bhgM, bgf, bt0, ⟨bs0, bs1, bs2, bs3⟩, bm0, bm1, bm2, bm3⟩ := Rdr.top (Sg.rdr (hS3)); simp only [Value.slice.injEq, Option.some.injEq, Addr.mk.injEq] at bhv; obtain ⟨⟨rfl, _⟩, _, rfl⟩ := bhv; clear bhgM bhcc bhgB; obtain ⟨ar3, rc3, hsr3⟩ := hT3.shape; have HN3 : Hid _ := NB.adds (NBox.set (NB.box HN1.out) (mulE f.mul e).toN (.slice ar (mulE f.mul e).toN.args.length rc)) hA3; have HS3 : Hid (Sg _ _ _ _ _ _ _ _ _ _ _) := hS3; have HT3 : Hid (Tn _ _ _ _ _) := hT3; clear hS3 hT3 hA3; subst hsr3)
          | (go_at_call_of 90 (Value.int IntKind.u8 43); refine (take_yes (c := 43) (r := r) (Sg.rdr (HS3.out.mv (setN_mv W3 (w.heap.size + 1) (addE f.sum (mulE f.mul e)).toN (.slice ar3 (addE f.sum (mulE f.mul e)).toN.args.length rc3)))) (by simp [toB_size]; omega) (toB_toList _)).mono ?_; rintro xy Wy ⟨rfl, hwy⟩; subst hwy; (try unfold setN)))
        go_region_with (go_at_call 93; refine (top_any (Sg.rdr (Sg.adds (Sg.text (HS3.out.mv (setN_mv W3 (w.heap.size + 1) (addE f.sum (mulE f.mul e)).toN (.slice ar3 (addE f.sum (mulE f.mul e)).toN.args.length rc3))) r (by simp)) (by repeat (first | with_reducible exact Adds.refl _ | with_reducible refine Adds.alloc ?_ _ | with_reducible refine Adds.more ?_ _ _ | with_reducible refine Adds.drew ?_ | with_reducible refine Adds.drewN ?_ _)))) (by omega)).mono ?_; rintro x4 W4 ⟨rfl, q4, rfl⟩)
        all_goals
          go_wp2
          go_step3
          obtain ⟨mz, z1, z2, z3⟩ := plus_end' HS3.out HN3.out HT3.out HO.out.2 #[] _
          exact .inl ⟨rfl, ⟨r, st, _, g, cap, _, ms, mz, isAct, z1, z2, (by have := hR.out; rw [M_plus] at this; exact this)⟩, Nat.lt_of_le_of_lt (Nat.le_of_eq z3) (by simp)⟩
      by_cases h41 : c = 41
      · subst h41
        rcases st with _ | ⟨f2, st⟩
        · have hms : ms = [] := List.length_eq_zero_iff.1 (HST.out.1 rfl)
          subst hms
          simp only [List.length_nil, Nat.zero_add] at hlen hcap
          clear HST
          have hne : (!(toB (41 :: r)).toList.isEmpty) = true := by simp [toB_toList]
          go_wp2_with (first
            | (go_at_call 92; refine k1.mono ?_; rintro x1 W1 ⟨sr, m1, rfl, hS1, hT1, hm1⟩; obtain ⟨⟨an0, an1, an2, an3⟩, anf, ahl⟩ := NB.cells (NB.mv HNB.out hm1 (fun e => hg1 e.symm)); have anf0 := anf 0; have anf1 := anf 1; have anf2 := anf 2; have anf3 := anf 3; clear anf; obtain ⟨aq0, aq1, aqf, aqr, ahq⟩ := Sg.facts (hS1); have aqf0 := aqf 0; have aqr0 := aqr 0; have aqr1 := aqr 1; have aqr2 := aqr 2; have aqr3 := aqr 3; clear aqf aqr; obtain ⟨ar0, ar1, ar2, ar3⟩ := Sg.resc (hS1); obtain ⟨ag2, ac2, ahv, ahcc, ahgl, ahgB, ahgM, agf, at0, ⟨as0, as1, as2, as3⟩, am0, am1, am2, am3⟩ := Rdr.top (Sg.rdr (hS1)); simp only [Value.slice.injEq, Option.some.injEq, Addr.mk.injEq] at ahv; obtain ⟨⟨rfl, _⟩, _, rfl⟩ := ahv; clear ahgM ahcc ahgB; obtain ⟨ar, rc, hsr⟩ := hT1.shape; have HN1 : Hid _ := NB.mv HNB.out hm1 (fun e => hg1 e.symm); have HS1 : Hid (Sg _ _ _ _ _ _ _ _ _ _ _) := hS1; have HT1 : Hid (Tn _ _ _ _ _) := hT1; clear hS1 hT1 hm1 n0 n1 n2 n3 hRl k1 HNB; subst hsr)
            | (go_at_call_of 90 (Value.int IntKind.u8 42); refine (take_no (c := 42) (Sg.rdr (HS1.out.mv (setN_mv W1 (w.heap.size + 1) (mulE f.mul e).toN (.slice ar (mulE f.mul e).toN.args.length rc)))) (fun r' h => by rw [toB_toList] at h; simp at h)).mono ?_; rintro xn Wn ⟨rfl, hwn⟩; subst hwn; (try unfold setN))
            | (go_at_call 94; refine (plus_any (HS1.out.mv (setN_mv W1 (w.heap.size + 1) (mulE f.mul e).toN (.slice ar (mulE f.mul e).toN.args.length rc))) (mulE f.mul e) HO.out.1 _ (HT1.out.mv (setN_mv W1 (w.heap.size + 1) (mulE f.mul e).toN (.slice ar (mulE f.mul e).toN.args.length rc)) (fun b _ hb => hb.2.1))).mono ?_; rintro x3 W3 ⟨sr3, rfl, hS3, hT3, hA3⟩; obtain ⟨⟨bn0, bn1, bn2, bn3⟩, bnf, bhl⟩ := NB.cells (NB.adds (NBox.set (NB.box HN1.out) (mulE f.mul e).toN (.slice ar (mulE f.mul e).toN.args.length rc)) hA3); have bnf0 := bnf 0; have bnf1 := bnf 1; have bnf2 := bnf 2; have bnf3 := bnf 3; clear bnf; obtain ⟨bq0, bq1, bqf, bqr, bhq⟩ := Sg.facts (hS3); have bqf0 := bqf 0; have bqr0 := bqr 0; have bqr1 := bqr 1; have bqr2 := bqr 2; have bqr3 := bqr 3; clear bqf bqr; obtain ⟨br0, br1, br2, br3⟩ := Sg.resc (hS3); obtain ⟨bg2, bc2, bhv, bhcc, bhgl, bhgB, bhgM, bgf, bt0, ⟨bs0, bs1, bs2, bs3⟩, bm0, bm1, bm2, bm3⟩ := Rdr.top (Sg.rdr (hS3)); simp only [Value.slice.injEq, Option.some.injEq, Addr.mk.injEq] at bhv; obtain ⟨⟨rfl, _⟩, _, rfl⟩ := bhv; clear bhgM bhcc bhgB; obtain ⟨ar3, rc3, hsr3⟩ := hT3.shape; have HN3 : Hid _ := NB.adds (NBox.set (NB.box HN1.out) (mulE f.mul e).toN (.slice ar (mulE f.mul e).toN.args.length rc)) hA3; have HS3 : Hid (Sg _ _ _ _ _ _ _ _ _ _ _) := hS3; have HT3 : Hid (Tn _ _ _ _ _) := hT3; clear hS3 hT3 hA3; subst hsr3)
            | (go_at_call_of 90 (Value.int IntKind.u8 43); refine (take_no (c := 43) (Sg.rdr (HS3.out.mv (setN_mv W3 (w.heap.size + 1) (addE f.sum (mulE f.mul e)).toN (.slice ar3 (addE f.sum (mulE f.mul e)).toN.args.length rc3)))) (fun r' h => by rw [toB_toList] at h; simp at h)).mono ?_; rintro xn Wn ⟨rfl, hwn⟩; subst hwn; (try unfold setN)))

          have HZ := ret_end (HS3.out.mv (setN_mv W3 (w.heap.size + 1) (addE f.sum (mulE f.mul e)).toN (.slice ar3 (addE f.sum (mulE f.mul e)).toN.args.length rc3))) N.zero nilV (fun _ => True) (Tn.nil _ 0 _) (fun _ _ => trivial)
          simp only [jump2]
          exact bodyPost_ret (ret13 rfl rfl HZ.2.2) rfl (.inr ⟨by rw [← hR.out]; exact M_close0 _ _ _, rfl, HZ.2.1⟩)
        · have hms : 0 < ms.length := HST.out.2 (by simp)
          have hpos : (1 : Int) < (ms.length : Int) + 1 := by omega
          go_wp2_with (first
            | (go_at_call 92; refine k1.mono ?_; rintro x1 W1 ⟨sr, m1, rfl, hS1, hT1, hm1⟩; obtain ⟨⟨an0, an1, an2, an3⟩, anf, ahl⟩ := NB.cells (NB.mv HNB.out hm1 (fun e => hg1 e.symm)); have anf0 := anf 0; have anf1 := anf 1; have anf2 := anf 2; have anf3 := anf 3; clear anf; obtain ⟨aq0, aq1, aqf, aqr, ahq⟩ := Sg.facts (hS1); have aqf0 := aqf 0; have aqr0 := aqr 0; have aqr1 := aqr 1; have aqr2 := aqr 2; have aqr3 := aqr 3; clear aqf aqr; obtain ⟨ar0, ar1, ar2, ar3⟩ := Sg.resc (hS1); obtain ⟨ag2, ac2, ahv, ahcc, ahgl, ahgB, ahgM, agf, at0, ⟨as0, as1, as2, as3⟩, am0, am1, am2, am3⟩ := Rdr.top (Sg.rdr (hS1)); simp only [Value.slice.injEq, Option.some.injEq, Addr.mk.injEq] at ahv; obtain ⟨⟨rfl, _⟩, _, rfl⟩ := ahv; clear ahgM ahcc ahgB; obtain ⟨ar, rc, hsr⟩ := hT1.shape; have HN1 : Hid _ := NB.mv HNB.out hm1 (fun e => hg1 e.symm); have HS1 : Hid (Sg _ _ _ _ _ _ _ _ _ _ _) := hS1; have HT1 : Hid (Tn _ _ _ _ _) := hT1; clear hS1 hT1 hm1 n0 n1 n2 n3 hRl k1 HNB; subst hsr)
            | (go_at_call_of 90 (Value.int IntKind.u8 42); refine (take_no (c := 42) (Sg.rdr (HS1.out.mv (setN_mv W1 (w.heap.size + 1) (mulE f.mul e).toN (.slice ar (mulE f.mul e).toN.args.length rc)))) (fun r' h => by rw [toB_toList] at h; simp at h)).mono ?_; rintro xn Wn ⟨rfl, hwn⟩; subst hwn; (try unfold setN))
            | (go_at_call 94; refine (plus_any (HS1.out.mv (setN_mv W1 (w.heap.size + 1) (mulE f.mul e).toN (.slice ar (mulE f.mul e).toN.args.length rc))) (mulE f.mul e) HO.out.1 _ (HT1.out.mv (setN_mv W1 (w.heap.size + 1) (mulE f.mul e).toN (.slice ar (mulE f.mul e).toN.args.length rc)) (fun b _ hb => hb.2.1))).mono ?_; rintro x3 W3 ⟨sr3, rfl, hS3, hT3, hA3⟩; obtain ⟨⟨bn0, bn1, bn2, bn3⟩, bnf, bhl⟩ := NB.cells (NB.adds (NBox.set (NB.box HN1.out) (mulE f.mul e).toN (.slice ar (mulE f.mul e).toN.args.length rc)) hA3); have bnf0 := bnf 0; have bnf1 := bnf 1; have bnf2 := bnf 2; have bnf3 := bnf 3; clear bnf; obtain ⟨bq0, bq1, bqf, bqr, bhq⟩ := Sg.facts (hS3); have bqf0 := bqf 0; have bqr0 := bqr 0; have bqr1 := bqr 1; have bqr2 := bqr 2; have bqr3 := bqr 3; clear bqf bqr; obtain ⟨br0, br1, br2, br3⟩ := Sg.resc (hS3); obtain ⟨bg2, bc2, bhv, bhcc, bhgl, bhgB, bhgM, bgf, bt0, ⟨bs0, bs1, bs2, bs3⟩, bm0, bm1, bm2, bm3⟩ := Rdr.top (Sg.rdr (hS3)); simp only [Value.slice.injEq, Option.some.injEq, Addr.mk.injEq] at bhv; obtain ⟨⟨rfl, _⟩, _, rfl⟩ := bhv; clear bhgM bhcc bhgB; obtain ⟨ar3, rc3, hsr3⟩ := hT3.shape; have HN3 : Hid _ := NB.adds (NBox.set (NB.box HN1.out) (mulE f.mul e).toN (.slice ar (mulE f.mul e).toN.args.length rc)) hA3; have HS3 : Hid (Sg _ _ _ _ _ _ _ _ _ _ _) := hS3; have HT3 : Hid (Tn _ _ _ _ _) := hT3; clear hS3 hT3 hA3; subst hsr3)
            | (go_at_call_of 90 (Value.int IntKind.u8 43); refine (take_no (c := 43) (Sg.rdr (HS3.out.mv (setN_mv W3 (w.heap.size + 1) (addE f.sum (mulE f.mul e)).toN (.slice ar3 (addE f.sum (mulE f.mul e)).toN.args.length rc3)))) (fun r' h => by rw [toB_toList] at h; simp at h)).mono ?_; rintro xn Wn ⟨rfl, hwn⟩; subst hwn; (try unfold setN))
            | (go_at_call_of 90 (Value.int IntKind.u8 41); refine (take_yes (c := 41) (r := r) (Sg.rdr (HS3.out.mv (setN_mv W3 (w.heap.size + 1) (addE f.sum (mulE f.mul e)).toN (.slice ar3 (addE f.sum (mulE f.mul e)).toN.args.length rc3)))) (by simp [toB_size]; omega) (toB_toList _)).mono ?_; rintro xy Wy ⟨rfl, hwy⟩; subst hwy; (try unfold setN))
            | (go_at_call 95; refine (close_any (Sg.text (HS3.out.mv (setN_mv W3 (w.heap.size + 1) (addE f.sum (mulE f.mul e)).toN (.slice ar3 (addE f.sum (mulE f.mul e)).toN.args.length rc3))) r (by simp)) (addE f.sum (mulE f.mul e)) HO.out.2 _ ((HT3.out.mv (setN_mv W3 (w.heap.size + 1) (addE f.sum (mulE f.mul e)).toN (.slice ar3 (addE f.sum (mulE f.mul e)).toN.args.length rc3)) (fun b _ hb => hb.2.1)).mv (Mv.set1 _ _ _ _) (fun b _ hb => hb.2.2.1))).mono ?_; rintro x6 W6 ⟨sr6, ms6, m6, rfl, hS6, hT6, hm6⟩; obtain ⟨⟨dn0, dn1, dn2, dn3⟩, dnf, dhl⟩ := NB.cells (NB.mv (NB.mv (NBox.set (NB.box HN3.out) (addE f.sum (mulE f.mul e)).toN (.slice ar3 (addE f.sum (mulE f.mul e)).toN.args.length rc3)) (Mv.set1 _ _ _ _) (by omega)) hm6 (by omega)); have dnf0 := dnf 0; have dnf1 := dnf 1; have dnf2 := dnf 2; have dnf3 := dnf 3; clear dnf; obtain ⟨dq0, dq1, dqf, dqr, dhq⟩ := Sg.facts (hS6); have dqf0 := dqf 0; have dqr0 := dqr 0; have dqr1 := dqr 1; have dqr2 := dqr 2; have dqr3 := dqr 3; clear dqf dqr; obtain ⟨dr0, dr1, dr2, dr3⟩ := Sg.resc (hS6); obtain ⟨dg2, dc2, dhv, dhcc, dhgl, dhgB, dhgM, dgf, dt0, ⟨ds0, ds1, ds2, ds3⟩, dm0, dm1, dm2, dm3⟩ := Rdr.top (Sg.rdr (hS6)); simp only [Value.slice.injEq, Option.some.injEq, Addr.mk.injEq] at dhv; obtain ⟨⟨rfl, _⟩, _, rfl⟩ := dhv; clear dhgM dhcc dhgB; obtain ⟨ar6, rc6, hsr6⟩ := hT6.shape; have HN6 : Hid _ := NB.mv (NB.mv (NBox.set (NB.box HN3.out) (addE f.sum (mulE f.mul e)).toN (.slice ar3 (addE f.sum (mulE f.mul e)).toN.args.length rc3)) (Mv.set1 _ _ _ _) (by omega)) hm6 (by omega); have HS6 : Hid (Sg _ _ _ _ _ _ _ _ _ _ _) := hS6; have HT6 : Hid (Tn _ _ _ _ _) := hT6; clear hS6 hT6 hm6; subst hsr6))
          go_step3
          obtain ⟨z1, z2, z3, z4⟩ := store_end HS6.out (NB.box HN6.out) HT6.out
          exact .inr ⟨rfl, ⟨r, st, f2, g, cap, _, ms6, m6, _, _, isAct, z1, z2, z3, closeE_ok HNM.out HO.out.2, (by have := hR.out; rw [M_close] at this; exact this)⟩, Nat.lt_of_le_of_lt (Nat.le_of_eq z4) (by simp)⟩
      · rcases st with _ | ⟨f2, st⟩
        · have hms : ms = [] := List.length_eq_zero_iff.1 (HST.out.1 rfl)
          subst hms
          simp only [List.length_nil, Nat.zero_add] at hlen hcap
          clear HST
          have hne : (!(toB (c :: r)).toList.isEmpty) = true := by simp [toB_toList]
          go_wp2_with (first
            | (go_at_call 92; refine k1.mono ?_; rintro x1 W1 ⟨sr, m1, rfl, hS1, hT1, hm1⟩; obtain ⟨⟨an0, an1, an2, an3⟩, anf, ahl⟩ := NB.cells (NB.mv HNB.out hm1 (fun e => hg1 e.symm)); have anf0 := anf 0; have anf1 := anf 1; have anf2 := anf 2; have anf3 := anf 3; clear anf; obtain ⟨aq0, aq1, aqf, aqr, ahq⟩ := Sg.facts (hS1); have aqf0 := aqf 0; have aqr0 := aqr 0; have aqr1 := aqr 1; have aqr2 := aqr 2; have aqr3 := aqr 3; clear aqf aqr; obtain ⟨ar0, ar1, ar2, ar3⟩ := Sg.resc (hS1); obtain ⟨ag2, ac2, ahv, ahcc, ahgl, ahgB, ahgM, agf, at0, ⟨as0, as1, as2, as3⟩, am0, am1, am2, am3⟩ := Rdr.top (Sg.rdr (hS1)); simp only [Value.slice.injEq, Option.some.injEq, Addr.mk.injEq] at ahv; obtain ⟨⟨rfl, _⟩, _, rfl⟩ := ahv; clear ahgM ahcc ahgB; obtain ⟨ar, rc, hsr⟩ := hT1.shape; have HN1 : Hid _ := NB.mv HNB.out hm1 (fun e => hg1 e.symm); have HS1 : Hid (Sg _ _ _ _ _ _ _ _ _ _ _) := hS1; have HT1 : Hid (Tn _ _ _ _ _) := hT1; clear hS1 hT1 hm1 n0 n1 n2 n3 hRl k1 HNB; subst hsr)
            | (go_at_call_of 90 (Value.int IntKind.u8 42); refine (take_no (c := 42) (Sg.rdr (HS1.out.mv (setN_mv W1 (w.heap.size + 1) (mulE f.mul e).toN (.slice ar (mulE f.mul e).toN.args.length rc)))) (fun r' h => by rw [toB_toList] at h; simp at h; exact h42 h.1)).mono ?_; rintro xn Wn ⟨rfl, hwn⟩; subst hwn; (try unfold setN))
            | (go_at_call 94; refine (plus_any (HS1.out.mv (setN_mv W1 (w.heap.size + 1) (mulE f.mul e).toN (.slice ar (mulE f.mul e).toN.args.length rc))) (mulE f.mul e) HO.out.1 _ (HT1.out.mv (setN_mv W1 (w.heap.size + 1) (mulE f.mul e).toN (.slice ar (mulE f.mul e).toN.args.length rc)) (fun b _ hb => hb.2.1))).mono ?_; rintro x3 W3 ⟨sr3, rfl, hS3, hT3, hA3⟩; obtain ⟨⟨bn0, bn1, bn2, bn3⟩, bnf, bhl⟩ := NB.cells (NB.adds (NBox.set (NB.box HN1.out) (mulE f.mul e).toN (.slice ar (mulE f.mul e).toN.args.length rc)) hA3); have bnf0 := bnf 0; have bnf1 := bnf 1; have bnf2 := bnf 2; have bnf3 := bnf 3; clear bnf; obtain ⟨bq0, bq1, bqf, bqr, bhq⟩ := Sg.facts (hS3); have bqf0 := bqf 0; have bqr0 := bqr 0; have bqr1 := bqr 1; have bqr2 := bqr 2; have bqr3 := bqr 3; clear bqf bqr; obtain ⟨br0, br1, br2, br3⟩ := Sg.resc (hS3); obtain ⟨bg2, bc2, bhv, bhcc, bhgl, bhgB, bhgM, bgf, bt0, ⟨bs0, bs1, bs2, bs3⟩, bm0, bm1, bm2, bm3⟩ := Rdr.top (Sg.rdr (hS3)); simp only [Value.slice.injEq, Option.some.injEq, Addr.mk.injEq] at bhv; obtain ⟨⟨rfl, _⟩, _, rfl⟩ := bhv; clear bhgM bhcc bhgB; obtain ⟨ar3, rc3, hsr3⟩ := hT3.shape; have HN3 : Hid _ := NB.adds (NBox.set (NB.box HN1.out) (mulE f.mul e).toN (.slice ar (mulE f.mul e).toN.args.length rc)) hA3; have HS3 : Hid (Sg _ _ _ _ _ _ _ _ _ _ _) := hS3; have HT3 : Hid (Tn _ _ _ _ _) := hT3; clear hS3 hT3 hA3; subst hsr3)
            | (go_at_call_of 90 (Value.int IntKind.u8 43); refine (take_no (c := 43) (Sg.rdr (HS3.out.mv (setN_mv W3 (w.heap.size + 1) (addE f.sum (mulE f.mul e)).toN (.slice ar3 (addE f.sum (mulE f.mul e)).toN.args.length rc3)))) (fun r' h => by rw [toB_toList] at h; simp at h; exact h43 h.1)).mono ?_; rintro xn Wn ⟨rfl, hwn⟩; subst hwn; (try unfold setN)))

          have HZ := ret_end (HS3.out.mv (setN_mv W3 (w.heap.size + 1) (addE f.sum (mulE f.mul e)).toN (.slice ar3 (addE f.sum (mulE f.mul e)).toN.args.length rc3))) N.zero nilV (fun _ => True) (Tn.nil _ 0 _) (fun _ _ => trivial)
          simp only [jump2]
          exact bodyPost_ret (ret13 rfl rfl HZ.2.2) rfl (.inr ⟨by rw [← hR.out]; exact M_bad h42 h43 h41 _ _ _ _, rfl, HZ.2.1⟩)
        · have hms : 0 < ms.length := HST.out.2 (by simp)
          have hpos : (1 : Int) < (ms.length : Int) + 1 := by omega
          go_wp2_with (first
            | (go_at_call 92; refine k1.mono ?_; rintro x1 W1 ⟨sr, m1, rfl, hS1, hT1, hm1⟩; obtain ⟨⟨an0, an1, an2, an3⟩, anf, ahl⟩ := NB.cells (NB.mv HNB.out hm1 (fun e => hg1 e.symm)); have anf0 := anf 0; have anf1 := anf 1; have anf2 := anf 2; have anf3 := anf 3; clear anf; obtain ⟨aq0, aq1, aqf, aqr, ahq⟩ := Sg.facts (hS1); have aqf0 := aqf 0; have aqr0 := aqr 0; have aqr1 := aqr 1; have aqr2 := aqr 2; have aqr3 := aqr 3; clear aqf aqr; obtain ⟨ar0, ar1, ar2, ar3⟩ := Sg.resc (hS1); obtain ⟨ag2, ac2, ahv, ahcc, ahgl, ahgB, ahgM, agf, at0, ⟨as0, as1, as2, as3⟩, am0, am1, am2, am3⟩ := Rdr.top (Sg.rdr (hS1)); simp only [Value.slice.injEq, Option.some.injEq, Addr.mk.injEq] at ahv; obtain ⟨⟨rfl, _⟩, _, rfl⟩ := ahv; clear ahgM ahcc ahgB; obtain ⟨ar, rc, hsr⟩ := hT1.shape; have HN1 : Hid _ := NB.mv HNB.out hm1 (fun e => hg1 e.symm); have HS1 : Hid (Sg _ _ _ _ _ _ _ _ _ _ _) := hS1; have HT1 : Hid (Tn _ _ _ _ _) := hT1; clear hS1 hT1 hm1 n0 n1 n2 n3 hRl k1 HNB; subst hsr)
            | (go_at_call_of 90 (Value.int IntKind.u8 42); refine (take_no (c := 42) (Sg.rdr (HS1.out.mv (setN_mv W1 (w.heap.size + 1) (mulE f.mul e).toN (.slice ar (mulE f.mul e).toN.args.length rc)))) (fun r' h => by rw [toB_toList] at h; simp at h; exact h42 h.1)).mono ?_; rintro xn Wn ⟨rfl, hwn⟩; subst hwn; (try unfold setN))
            | (go_at_call 94; refine (plus_any (HS1.out.mv (setN_mv W1 (w.heap.size + 1) (mulE f.mul e).toN (.slice ar (mulE f.mul e).toN.args.length rc))) (mulE f.mul e) HO.out.1 _ (HT1.out.mv (setN_mv W1 (w.heap.size + 1) (mulE f.mul e).toN (.slice ar (mulE f.mul e).toN.args.length rc)) (fun b _ hb => hb.2.1))).mono ?_; rintro x3 W3 ⟨sr3, rfl, hS3, hT3, hA3⟩; obtain ⟨⟨bn0, bn1, bn2, bn3⟩, bnf, bhl⟩ := NB.cells (NB.adds (NBox.set (NB.box HN1.out) (mulE f.mul e).toN (.slice ar (mulE f.mul e).toN.args.length rc)) hA3); have bnf0 := bnf 0; have bnf1 := bnf 1; have bnf2 := bnf 2; have bnf3 := bnf 3; clear bnf; obtain ⟨bq0, bq1, bqf, bqr, bhq⟩ := Sg.facts (hS3); have bqf0 := bqf 0; have bqr0 := bqr 0; have bqr1 := bqr 1; have bqr2 := bqr 2; have bqr3 := bqr 3; clear bqf bqr; obtain ⟨br0, br1, br2, br3⟩ := Sg.resc (hS3); obtain ⟨bg2, bc2, bhv, bhcc, bhgl, bhgB, bhgM, bgf, bt0, ⟨bs0, bs1, bs2, bs3⟩, bm0, bm1, bm2, bm3⟩ := Rdr.top (Sg.rdr (hS3)); simp only [Value.slice.injEq, Option.some.injEq, Addr.mk.injEq] at bhv; obtain ⟨⟨rfl, _⟩, _, rfl⟩ := bhv; clear bhgM bhcc bhgB; obtain ⟨ar3, rc3, hsr3⟩ := hT3.shape; have HN3 : Hid _ := NB.adds (NBox.set (NB.box HN1.out) (mulE f.mul e).toN (.slice ar (mulE f.mul e).toN.args.length rc)) hA3; have HS3 : Hid (Sg _ _ _ _ _ _ _ _ _ _ _) := hS3; have HT3 : Hid (Tn _ _ _ _ _) := hT3; clear hS3 hT3 hA3; subst hsr3)
            | (go_at_call_of 90 (Value.int IntKind.u8 43); refine (take_no (c := 43) (Sg.rdr (HS3.out.mv (setN_mv W3 (w.heap.size + 1) (addE f.sum (mulE f.mul e)).toN (.slice ar3 (addE f.sum (mulE f.mul e)).toN.args.length rc3)))) (fun r' h => by rw [toB_toList] at h; simp at h; exact h43 h.1)).mono ?_; rintro xn Wn ⟨rfl, hwn⟩; subst hwn; (try unfold setN))
            | (go_at_call_of 90 (Value.int IntKind.u8 41); refine (take_no (c := 41) (Sg.rdr (HS3.out.mv (setN_mv W3 (w.heap.size + 1) (addE f.sum (mulE f.mul e)).toN (.slice ar3 (addE f.sum (mulE f.mul e)).toN.args.length rc3)))) (fun r' h => by rw [toB_toList] at h; simp at h; exact h41 h.1)).mono ?_; rintro xn Wn ⟨rfl, hwn⟩; subst hwn; (try unfold setN)))

          have HZ := ret_end (HS3.out.mv (setN_mv W3 (w.heap.size + 1) (addE f.sum (mulE f.mul e)).toN (.slice ar3 (addE f.sum (mulE f.mul e)).toN.args.length rc3))) N.zero nilV (fun _ => True) (Tn.nil _ 0 _) (fun _ _ => trivial)
          simp only [jump2]
          exact bodyPost_ret (ret13 rfl rfl HZ.2.2) rfl (.inr ⟨by rw [← hR.out]; exact M_bad h42 h43 h41 _ _ _ _, rfl, HZ.2.1⟩)
    | nil =>
      rcases st with _ | ⟨f2, st⟩
      · have hms : ms = [] := List.length_eq_zero_iff.1 (HST.out.1 rfl)
        subst hms
        simp only [List.length_nil, Nat.zero_add] at hlen hcap
        clear HST
        have hne : (!(toB []).toList.isEmpty) = false := by simp [toB_toList]
        go_wp2_with (first
          | (go_at_call 92; refine k1.mono ?_; rintro x1 W1 ⟨sr, m1, rfl, hS1, hT1, hm1⟩; obtain ⟨⟨an0, an1, an2, an3⟩, anf, ahl⟩ := NB.cells (NB.mv HNB.out hm1 (fun e => hg1 e.symm)); have anf0 := anf 0; have anf1 := anf 1; have anf2 := anf 2; have anf3 := anf 3; clear anf; obtain ⟨aq0, aq1, aqf, aqr, ahq⟩ := Sg.facts (hS1); have aqf0 := aqf 0; have aqr0 := aqr 0; have aqr1 := aqr 1; have aqr2 := aqr 2; have aqr3 := aqr 3; clear aqf aqr; obtain ⟨ar0, ar1, ar2, ar3⟩ := Sg.resc (hS1); obtain ⟨ag2, ac2, ahv, ahcc, ahgl, ahgB, ahgM, agf, at0, ⟨as0, as1, as2, as3⟩, am0, am1, am2, am3⟩ := Rdr.top (Sg.rdr (hS1)); simp only [Value.slice.injEq, Option.some.injEq, Addr.mk.injEq] at ahv; obtain ⟨⟨rfl, _⟩, _, rfl⟩ := ahv; clear ahgM ahcc ahgB; obtain ⟨ar, rc, hsr⟩ := hT1.shape; have HN1 : Hid _ := NB.mv HNB.out hm1 (fun e => hg1 e.symm); have HS1 : Hid (Sg _ _ _ _ _ _ _ _ _ _ _) := hS1; have HT1 : Hid (Tn _ _ _ _ _) := hT1; clear hS1 hT1 hm1 n0 n1 n2 n3 hRl k1 HNB; subst hsr)
          | (go_at_call_of 90 (Value.int IntKind.u8 42); refine (take_no (c := 42) (Sg.rdr (HS1.out.mv (setN_mv W1 (w.heap.size + 1) (mulE f.mul e).toN (.slice ar (mulE f.mul e).toN.args.length rc)))) (fun r' h => by rw [toB_toList] at h; cases h)).mono ?_; rintro xn Wn ⟨rfl, hwn⟩; subst hwn; (try unfold setN))
          | (go_at_call 94; refine (plus_any (HS1.out.mv (setN_mv W1 (w.heap.size + 1) (mulE f.mul e).toN (.slice ar (mulE f.mul e).toN.args.length rc))) (mulE f.mul e) HO.out.1 _ (HT1.out.mv (setN_mv W1 (w.heap.size + 1) (mulE f.mul e).toN (.slice ar (mulE f.mul e).toN.args.length rc)) (fun b _ hb => hb.2.1))).mono ?_; rintro x3 W3 ⟨sr3, rfl, hS3, hT3, hA3⟩; obtain ⟨⟨bn0, bn1, bn2, bn3⟩, bnf, bhl⟩ := NB.cells (NB.adds (NBox.set (NB.box HN1.out) (mulE f.mul e).toN (.slice ar (mulE f.mul e).toN.args.length rc)) hA3); have bnf0 := bnf 0; have bnf1 := bnf 1; have bnf2 := bnf 2; have bnf3 := bnf 3; clear bnf; obtain ⟨bq0, bq1, bqf, bqr, bhq⟩ := Sg.facts (hS3); have bqf0 := bqf 0; have bqr0 := bqr 0; have bqr1 := bqr 1; have bqr2 := bqr 2; have bqr3 := bqr 3; clear bqf bqr; obtain ⟨br0, br1, br2, br3⟩ := Sg.resc (hS3); obtain ⟨bg2, bc2, bhv, bhcc, bhgl, bhgB, bhgM, bgf, bt0, ⟨bs0, bs1, bs2, bs3⟩, bm0, bm1, bm2, bm3⟩ := Rdr.top (Sg.rdr (hS3)); simp only [Value.slice.injEq, Option.some.injEq, Addr.mk.injEq] at bhv; obtain ⟨⟨rfl, _⟩, _, rfl⟩ := bhv; clear bhgM bhcc bhgB; obtain ⟨ar3, rc3, hsr3⟩ := hT3.shape; have HN3 : Hid _ := NB.adds (NBox.set (NB.box HN1.out) (mulE f.mul e).toN (.slice ar (mulE f.mul e).toN.args.length rc)) hA3; have HS3 : Hid (Sg _ _ _ _ _ _ _ _ _ _ _) := hS3; have HT3 : Hid (Tn _ _ _ _ _) := hT3; clear hS3 hT3 hA3; subst hsr3)
          | (go_at_call_of 90 (Value.int IntKind.u8 43); refine (take_no (c := 43) (Sg.rdr (HS3.out.mv (setN_mv W3 (w.heap.size + 1) (addE f.sum (mulE f.mul e)).toN (.slice ar3 (addE f.sum (mulE f.mul e)).toN.args.length rc3)))) (fun r' h => by rw [toB_toList] at h; cases h)).mono ?_; rintro xn Wn ⟨rfl, hwn⟩; subst hwn; (try unfold setN)))
        have HZ := ret_end (HS3.out.mv (setN_mv W3 (w.heap.size + 1) (addE f.sum (mulE f.mul e)).toN (.slice ar3 (addE f.sum (mulE f.mul e)).toN.args.length rc3))) (addE f.sum (mulE f.mul e)).toN (.slice ar3 (addE f.sum (mulE f.mul e)).toN.args.length rc3) (fun b => w.heap.size ≤ b) (HT3.out.mv (setN_mv W3 (w.heap.size + 1) (addE f.sum (mulE f.mul e)).toN (.slice ar3 (addE f.sum (mulE f.mul e)).toN.args.length rc3)) (fun b _ hb => hb.2.1)) (fun b hb => hb.2.2.2.2)
        simp only [jump2]
        refine bodyPost_ret (ret13 rfl rfl HZ.2.2) rfl ?_
        have hz1 := HZ.1
        have hz2 := HZ.2.1
        have hz0 : Rs = some (addE f.sum (mulE f.mul e)) := by rw [← hR.out]; exact M_end f e
        clear HZ
        exact Or.inl ⟨addE f.sum (mulE f.mul e), (.slice ar3 (addE f.sum (mulE f.mul e)).toN.args.length rc3), d + 1 + 1, hz0, rfl, hz1, hz2⟩
      · have hms : 0 < ms.length := HST.out.2 (by simp)
        have hpos : (1 : Int) < (ms.length : Int) + 1 := by omega
        go_wp2_with (first
          | (go_at_call 92; refine k1.mono ?_; rintro x1 W1 ⟨sr, m1, rfl, hS1, hT1, hm1⟩; obtain ⟨⟨an0, an1, an2, an3⟩, anf, ahl⟩ := NB.cells (NB.mv HNB.out hm1 (fun e => hg1 e.symm)); have anf0 := anf 0; have anf1 := anf 1; have anf2 := anf 2; have anf3 := anf 3; clear anf; obtain ⟨aq0, aq1, aqf, aqr, ahq⟩ := Sg.facts (hS1); have aqf0 := aqf 0; have aqr0 := aqr 0; have aqr1 := aqr 1; have aqr2 := aqr 2; have aqr3 := aqr 3; clear aqf aqr; obtain ⟨ar0, ar1, ar2, ar3⟩ := Sg.resc (hS1); obtain ⟨ag2, ac2, ahv, ahcc, ahgl, ahgB, ahgM, agf, at0, ⟨as0, as1, as2, as3⟩, am0, am1, am2, am3⟩ := Rdr.top (Sg.rdr (hS1)); simp only [Value.slice.injEq, Option.some.injEq, Addr.mk.injEq] at ahv; obtain ⟨⟨rfl, _⟩, _, rfl⟩ := ahv; clear ahgM ahcc ahgB; obtain ⟨ar, rc, hsr⟩ := hT1.shape; have HN1 : Hid _ := NB.mv HNB.out hm1 (fun e => hg1 e.symm); have HS1 : Hid (Sg _ _ _ _ _ _ _ _ _ _ _) := hS1; have HT1 : Hid (Tn _ _ _ _ _) := hT1; clear hS1 hT1 hm1 n0 n1 n2 n3 hRl k1 HNB; subst hsr)
          | (go_at_call_of 90 (Value.int IntKind.u8 42); refine (take_no (c := 42) (Sg.rdr (HS1.out.mv (setN_mv W1 (w.heap.size + 1) (mulE f.mul e).toN (.slice ar (mulE f.mul e).toN.args.length rc)))) (fun r' h => by rw [toB_toList] at h; cases h)).mono ?_; rintro xn Wn ⟨rfl, hwn⟩; subst hwn; (try unfold setN))
          | (go_at_call 94; refine (plus_any (HS1.out.mv (setN_mv W1 (w.heap.size + 1) (mulE f.mul e).toN (.slice ar (mulE f.mul e).toN.args.length rc))) (mulE f.mul e) HO.out.1 _ (HT1.out.mv (setN_mv W1 (w.heap.size + 1) (mulE f.mul e).toN (.slice ar (mulE f.mul e).toN.args.length rc)) (fun b _ hb => hb.2.1))).mono ?_; rintro x3 W3 ⟨sr3, rfl, hS3, hT3, hA3⟩; obtain ⟨⟨bn0, bn1, bn2, bn3⟩, bnf, bhl⟩ := NB.cells (NB.adds (NBox.set (NB.box HN1.out) (mulE f.mul e).toN (.slice ar (mulE f.mul e).toN.args.length rc)) hA3); have bnf0 := bnf 0; have bnf1 := bnf 1; have bnf2 := bnf 2; have bnf3 := bnf 3; clear bnf; obtain ⟨bq0, bq1, bqf, bqr, bhq⟩ := Sg.facts (hS3); have bqf0 := bqf 0; have bqr0 := bqr 0; have bqr1 := bqr 1; have bqr2 := bqr 2; have bqr3 := bqr 3; clear bqf bqr; obtain ⟨br0, br1, br2, br3⟩ := Sg.resc (hS3); obtain ⟨bg2, bc2, bhv, bhcc, bhgl, bhgB, bhgM, bgf, bt0, ⟨bs0, bs1, bs2, bs3⟩, bm0, bm1, bm2, bm3⟩ := Rdr.top (Sg.rdr (hS3)); simp only [Value.slice.injEq, Option.some.injEq, Addr.mk.injEq] at bhv; obtain ⟨⟨rfl, _⟩, _, rfl⟩ := bhv; clear bhgM bhcc bhgB; obtain ⟨ar3, rc3, hsr3⟩ := hT3.shape; have HN3 : Hid _ := NB.adds (NBox.set (NB.box HN1.out) (mulE f.mul e).toN (.slice ar (mulE f.mul e).toN.args.length rc)) hA3; have HS3 : Hid (Sg _ _ _ _ _ _ _ _ _ _ _) := hS3; have HT3 : Hid (Tn _ _ _ _ _) := hT3; clear hS3 hT3 hA3; subst hsr3)
          | (go_at_call_of 90 (Value.int IntKind.u8 43); refine (take_no (c := 43) (Sg.rdr (HS3.out.mv (setN_mv W3 (w.heap.size + 1) (addE f.sum (mulE f.mul e)).toN (.slice ar3 (addE f.sum (mulE f.mul e)).toN.args.length rc3)))) (fun r' h => by rw [toB_toList] at h; cases h)).mono ?_; rintro xn Wn ⟨rfl, hwn⟩; subst hwn; (try unfold setN))
          | (go_at_call_of 90 (Value.int IntKind.u8 41); refine (take_no (c := 41) (Sg.rdr (HS3.out.mv (setN_mv W3 (w.heap.size + 1) (addE f.sum (mulE f.mul e)).toN (.slice ar3 (addE f.sum (mulE f.mul e)).toN.args.length rc3)))) (fun r' h => by rw [toB_toList] at h; cases h)).mono ?_; rintro xn Wn ⟨rfl, hwn⟩; subst hwn; (try unfold setN)))

        have HZ := ret_end (HS3.out.mv (setN_mv W3 (w.heap.size + 1) (addE f.sum (mulE f.mul e)).toN (.slice ar3 (addE f.sum (mulE f.mul e)).toN.args.length rc3))) N.zero nilV (fun _ => True) (Tn.nil _ 0 _) (fun _ _ => trivial)
        simp only [jump2]
        exact bodyPost_ret (ret13 rfl rfl HZ.2.2) rfl (.inr ⟨by rw [← hR.out]; exact M_open0 _ _ _ _, rfl, HZ.2.1⟩)
  · -- a part begins
    rintro a' W ⟨l, st, f, g, cap, d, ms, m, ⟨u, rfl⟩, hS, hB, hR⟩ hp1
    have hmu := hS.left
    rw [hmu] at hp1 ⊢
    clear hmu
    have hlen := hS.len
    have k1 := word_any hS.rdr (by rw [toB_size]; omega)
    rw [toB_toList] at k1
    have htd := take_drop l
    obtain ⟨wd, hwd⟩ : ∃ wd, l.takeWhile wc = wd := ⟨_, rfl⟩
    obtain ⟨rs, hrs⟩ : ∃ rs, l.dropWhile wc = rs := ⟨_, rfl⟩
    rw [hwd, hrs] at k1 htd
    have HWD : Hid (l.takeWhile wc = wd) := hwd
    have HRS : Hid (l.dropWhile wc = rs) := hrs
    have hll : wd.length + rs.length = l.length := by rw [← htd, List.length_append]
    have hS0 := hS.text rs (by omega)
    have hB0 := hB.mv (Mv.set1 W (w.heap.size + 3) 0 (.string (toB rs))) (by omega)
    obtain ⟨ca, cb, cc, ce, n0, n1, n2, n3⟩ := hB0.cells
    obtain ⟨nf, hRl⟩ := hB0.facts
    have nf0 := nf 0
    have nf1 := nf 1
    have nf2 := nf 2
    have nf3 := nf 3
    obtain ⟨q0, q1, qf, qr, hq⟩ := hS0.facts
    have hR0 := Nat.lt_of_le_of_lt (Nat.le_add_right w.heap.size 1) hRl
    have qf0 := qf 0
    have qf1 := qf 1
    have qr0 := qr 0
    have qr1 := qr 1
    have qr2 := qr 2
    have qr3 := qr 3
    obtain ⟨r0, r1, r2, r3⟩ := hS0.resc
    have HS0 : Hid (Sg _ _ _ _ _ _ _ _ _ _ _) := hS0
    have HB0 : Hid (NBox _ _) := hB0
    have HP1 : Hid _ := hp1
    have HG1 : Hid (g ≠ w.heap.size + 1) := hS.g1
    have hms : ms.length + l.length ≤ 256 := hlen
    have HLL : Hid _ := hll
    have hl256 : l.length ≤ 256 := by omega
    have kN := isName_any (toB wd)
    rw [toB_toList] at kN
    have kL := leaf_any wd (by omega)
    generalize hW0 : W.setCell ⟨w.heap.size + 3, 0, none⟩ (.string (toB rs)) = W0 at *
    clear hW0 htd hwd hrs hS hB hp1 nf qf qr hS0 hB0 hlen hll

    by_cases hw : wd = [] ∨ isName wd = true
    · by_cases hr40 : ∃ r, rs = 40 :: r
      · obtain ⟨r, rfl⟩ := hr40
        have HMM : Hid (M l st f none = M r (f :: st) ⟨wd, none, none⟩ none) := M_pushy HWD.out HRS.out hw st f
        have HW : Hid (wd = [] ∨ isName wd = true) := hw
        by_cases hwd0 : wd = []
        · have h1 : ((toB wd).toList == []) = true := by rw [toB_toList]; simpa using hwd0
          clear hw hwd0
          have HS1 : Hid (Sg _ _ _ _ _ _ _ _ _ _ _) := Sg.text HS0.out r (by simp)
          have HB1 : Hid (NBox _ _) := NBox.mv HB0.out (Mv.set1 W0 (w.heap.size + 3) 0 (.string (toB r))) (by omega)
          go_wp2_with (first
            | (go_at_call 88; refine k1.mono ?_; rintro x1 W1 ⟨rfl, hw1⟩; replace hw1 := hw1.symm; subst hw1)
            | (go_at_call 90; refine (take_yes (c := 40) (r := r) (Sg.rdr HS0.out) (by simp only [toB_size, List.length_cons]; have := HLL.out; simp only [List.length_cons] at this; omega) (toB_toList _)).mono ?_; rintro x3 W3 ⟨rfl, hw3⟩; subst hw3)
            | (at_builtin; refine frame_app_n rfl (.tmp 23) (.tmp 26) rfl HS1.out (Adds.refl _) wd rfl (by simp) rfl ?_; intro g' cap' w5 hown hgr hgg; obtain ⟨z1, z2, z3⟩ := grow_facts HS1.out (by repeat (first | with_reducible exact Adds.refl _ | with_reducible refine Adds.alloc ?_ _ | with_reducible refine Adds.more ?_ _ _ | with_reducible refine Adds.drew ?_ | with_reducible refine Adds.drewN ?_ _)) hgr))
          go_step3
          have hlz := HLL.out
          simp only [List.length_cons] at hlz
          have hz1 := Sg.push (nm := wd) HS1.out (by repeat (first | with_reducible exact Adds.refl _ | with_reducible refine Adds.alloc ?_ _ | with_reducible refine Adds.more ?_ _ _ | with_reducible refine Adds.drew ?_ | with_reducible refine Adds.drewN ?_ _)) hgr HW.out hown hgg (by omega)
          have hz2 : NBox w.heap.size (w5.setCell ⟨w.heap.size + 3, 1, none⟩ (.slice (some ⟨g', 0, none⟩) (ms.length + 1 + 1) cap')) := by
            refine NBox.mv (NBox.mv (NBox.mv (X := fun _ => False) HB1.out (Adds.mv (by repeat (first | with_reducible exact Adds.refl _ | with_reducible refine Adds.alloc ?_ _ | with_reducible refine Adds.more ?_ _ _ | with_reducible refine Adds.drew ?_ | with_reducible refine Adds.drewN ?_ _))) (fun h => h)) (X := fun b => b = g) ⟨hgr.os, hgr.tape, hgr.output, hgr.size, fun b hb hx => hgr.block b hb (fun e => hx (by simpa using e))⟩ (fun e => HG1.out e.symm)) (Mv.set1 _ _ _ _) (by omega)
          have hz3 := hz1.left
          exact .inl ⟨rfl, ⟨r, f :: st, ⟨wd, none, none⟩, g', cap', d, ms ++ [m], _, isAct, hz1, hz2, (by have := hR.out; rw [HMM.out] at this; exact this)⟩, (by show left _ _ < _; rw [hz3]; omega)⟩
        · have h1 : ((toB wd).toList == []) = false := by rw [toB_toList]; simpa using hwd0
          have h2 : isName wd = true := hw.resolve_left hwd0
          rw [h2] at kN
          clear hw hwd0
          have HS1 : Hid (Sg _ _ _ _ _ _ _ _ _ _ _) := Sg.text HS0.out r (by simp)
          have HB1 : Hid (NBox _ _) := NBox.mv HB0.out (Mv.set1 W0 (w.heap.size + 3) 0 (.string (toB r))) (by omega)
          go_wp2_with (first
            | (go_at_call 88; refine k1.mono ?_; rintro x1 W1 ⟨rfl, hw1⟩; replace hw1 := hw1.symm; subst hw1)
            | (go_at_call 89; refine (kN _).mono ?_; rintro x2 W2 ⟨rfl, hw2⟩; replace hw2 := hw2.symm; subst hw2)
            | (go_at_call 90; refine (take_yes (c := 40) (r := r) (Sg.rdr HS0.out) (by simp only [toB_size, List.length_cons]; have := HLL.out; simp only [List.length_cons] at this; omega) (toB_toList _)).mono ?_; rintro x3 W3 ⟨rfl, hw3⟩; subst hw3)
            | (at_builtin; refine frame_app_n rfl (.tmp 23) (.tmp 26) rfl HS1.out (Adds.refl _) wd rfl (by simp) rfl ?_; intro g' cap' w5 hown hgr hgg; obtain ⟨z1, z2, z3⟩ := grow_facts HS1.out (by repeat (first | with_reducible exact Adds.refl _ | with_reducible refine Adds.alloc ?_ _ | with_reducible refine Adds.more ?_ _ _ | with_reducible refine Adds.drew ?_ | with_reducible refine Adds.drewN ?_ _)) hgr))
          go_step3
          have hlz := HLL.out
          simp only [List.length_cons] at hlz
          have hz1 := Sg.push (nm := wd) HS1.out (by repeat (first | with_reducible exact Adds.refl _ | with_reducible refine Adds.alloc ?_ _ | with_reducible refine Adds.more ?_ _ _ | with_reducible refine Adds.drew ?_ | with_reducible refine Adds.drewN ?_ _)) hgr HW.out hown hgg (by omega)
          have hz2 : NBox w.heap.size (w5.setCell ⟨w.heap.size + 3, 1, none⟩ (.slice (some ⟨g', 0, none⟩) (ms.length + 1 + 1) cap')) := by
            refine NBox.mv (NBox.mv (NBox.mv (X := fun _ => False) HB1.out (Adds.mv (by repeat (first | with_reducible exact Adds.refl _ | with_reducible refine Adds.alloc ?_ _ | with_reducible refine Adds.more ?_ _ _ | with_reducible refine Adds.drew ?_ | with_reducible refine Adds.drewN ?_ _))) (fun h => h)) (X := fun b => b = g) ⟨hgr.os, hgr.tape, hgr.output, hgr.size, fun b hb hx => hgr.block b hb (fun e => hx (by simpa using e))⟩ (fun e => HG1.out e.symm)) (Mv.set1 _ _ _ _) (by omega)
          have hz3 := hz1.left
          exact .inl ⟨rfl, ⟨r, f :: st, ⟨wd, none, none⟩, g', cap', d, ms ++ [m], _, isAct, hz1, hz2, (by have := hR.out; rw [HMM.out] at this; exact this)⟩, (by show left _ _ < _; rw [hz3]; omega)⟩
      · have hno : ∀ r', rs ≠ 40 :: r' := fun r' h => hr40 ⟨r', h⟩
        have HMM : Hid (M l st f none = (leafE wd).bind fun n => M rs st f (some n)) := M_leafy HWD.out HRS.out (fun h => hr40 h.2) st f
        have HNO : Hid (∀ r', rs ≠ 40 :: r') := hno
        clear hr40 hno
        by_cases hwd0 : wd = []
        · have h1 : ((toB wd).toList == []) = true := by rw [toB_toList]; simpa using hwd0
          clear hw
          have HW0 : Hid (wd = []) := hwd0
          clear hwd0
          cases hle : leafE wd with
          | none =>
            rw [hle] at kL HMM
            have HLE : Hid (leafE wd = none) := hle
            clear hle
            go_wp2_with (first
              | (go_at_call 88; refine k1.mono ?_; rintro x1 W1 ⟨rfl, hw1⟩; replace hw1 := hw1.symm; subst hw1)
              | (go_at_call 90; refine (take_no (c := 40) (Sg.rdr HS0.out) (fun r' h => by rw [toB_toList] at h; exact HNO.out r' h)).mono ?_; rintro x3 W3 ⟨rfl, hw3⟩; replace hw3 := hw3.symm; subst hw3)
              | (go_at_call 91; refine (kL _).mono ?_; rintro x4 W4 ⟨⟨nl, ql, rfl, hql, hnl⟩, os4, k4, rfl⟩; simp only [Option.isSome_none] at hql; subst hql; clear hnl))
            have HZ := ret_end2 (HS0.out.mv (setN_mv W0 (w.heap.size + 1) nl nilV)) N.zero nilV os4 k4
            have hz0 : Rs = none := by
              have := hR.out
              rw [HMM.out] at this
              exact this.symm
            (try simp only [jump2])
            exact bodyPost_ret (ret13 rfl rfl HZ.2) rfl (.inr ⟨hz0, rfl, HZ.1⟩)
          | some x =>
            rw [hle] at kL HMM
            have HLE : Hid (leafE wd = some x) := hle
            clear hle
            go_wp2_with (first
              | (go_at_call 88; refine k1.mono ?_; rintro x1 W1 ⟨rfl, hw1⟩; replace hw1 := hw1.symm; subst hw1)
              | (go_at_call 90; refine (take_no (c := 40) (Sg.rdr HS0.out) (fun r' h => by rw [toB_toList] at h; exact HNO.out r' h)).mono ?_; rintro x3 W3 ⟨rfl, hw3⟩; replace hw3 := hw3.symm; subst hw3)
              | (go_at_call 91; refine (kL _).mono ?_; rintro x4 W4 ⟨⟨nl, ql, rfl, hql, hnl⟩, os4, k4, rfl⟩; obtain ⟨hnx, hargs⟩ := hnl x rfl; simp only [Option.isSome_some] at hql; subst hql; subst hnx; clear hnl))
            go_step3
            rename_i K9 hK9
            have hz2 := store_end (sr := nilV) (e := x) HS0.out HB0.out (by rw [hargs]; exact Tn.nil _ _ _)
            have hA : Adds (setN W0 (w.heap.size + 1) x.toN nilV) (more (setN W0 (w.heap.size + 1) x.toN nilV) os4 k4) := ⟨os4, k4, rfl⟩
            have hz3 := hz2.1.adds hA
            have hz4 : Hid (M rs st f (some x) = Rs) := by
              have := hR.out
              rw [HMM.out] at this
              exact this
            have hz5 : left w.heap.size (more (setN W0 (w.heap.size + 1) x.toN nilV) os4 k4) ≤ l.length := by
              rw [hz3.left]
              have := HLL.out
              omega
            exact hK9 _ _ (HP1.out _ _ ⟨rs, st, f, g, cap, d, ms, m, x, nilV, isAct, hz3, NB.adds hz2.2.1 hA, Tn.adds hz2.2.2.1 hA, leaf_ok HLE.out, hz4⟩ hz5)
        · have h1 : ((toB wd).toList == []) = false := by rw [toB_toList]; simpa using hwd0
          have h2 : isName wd = true := hw.resolve_left hwd0
          rw [h2] at kN
          clear hw hwd0
          cases hle : leafE wd with
          | none =>
            rw [hle] at kL HMM
            have HLE : Hid (leafE wd = none) := hle
            clear hle
            go_wp2_with (first
              | (go_at_call 88; refine k1.mono ?_; rintro x1 W1 ⟨rfl, hw1⟩; replace hw1 := hw1.symm; subst hw1)
              | (go_at_call 89; refine (kN _).mono ?_; rintro x2 W2 ⟨rfl, hw2⟩; replace hw2 := hw2.symm; subst hw2)
              | (go_at_call 90; refine (take_no (c := 40) (Sg.rdr HS0.out) (fun r' h => by rw [toB_toList] at h; exact HNO.out r' h)).mono ?_; rintro x3 W3 ⟨rfl, hw3⟩; replace hw3 := hw3.symm; subst hw3)
              | (go_at_call 91; refine (kL _).mono ?_; rintro x4 W4 ⟨⟨nl, ql, rfl, hql, hnl⟩, os4, k4, rfl⟩; simp only [Option.isSome_none] at hql; subst hql; clear hnl))
            have HZ := ret_end2 (HS0.out.mv (setN_mv W0 (w.heap.size + 1) nl nilV)) N.zero nilV os4 k4
            have hz0 : Rs = none := by
              have := hR.out
              rw [HMM.out] at this
              exact this.symm
            (try simp only [jump2])
            exact bodyPost_ret (ret13 rfl rfl HZ.2) rfl (.inr ⟨hz0, rfl, HZ.1⟩)
          | some x =>
            rw [hle] at kL HMM
            have HLE : Hid (leafE wd = some x) := hle
            clear hle
            go_wp2_with (first
              | (go_at_call 88; refine k1.mono ?_; rintro x1 W1 ⟨rfl, hw1⟩; replace hw1 := hw1.symm; subst hw1)
              | (go_at_call 89; refine (kN _).mono ?_; rintro x2 W2 ⟨rfl, hw2⟩; replace hw2 := hw2.symm; subst hw2)
              | (go_at_call 90; refine (take_no (c := 40) (Sg.rdr HS0.out) (fun r' h => by rw [toB_toList] at h; exact HNO.out r' h)).mono ?_; rintro x3 W3 ⟨rfl, hw3⟩; replace hw3 := hw3.symm; subst hw3)
              | (go_at_call 91; refine (kL _).mono ?_; rintro x4 W4 ⟨⟨nl, ql, rfl, hql, hnl⟩, os4, k4, rfl⟩; obtain ⟨hnx, hargs⟩ := hnl x rfl; simp only [Option.isSome_some] at hql; subst hql; subst hnx; clear hnl))
            go_step3
            rename_i K9 hK9
            have hz2 := store_end (sr := nilV) (e := x) HS0.out HB0.out (by rw [hargs]; exact Tn.nil _ _ _)
            have hA : Adds (setN W0 (w.heap.size + 1) x.toN nilV) (more (setN W0 (w.heap.size + 1) x.toN nilV) os4 k4) := ⟨os4, k4, rfl⟩
            have hz3 := hz2.1.adds hA
            have hz4 : Hid (M rs st f (some x) = Rs) := by
              have := hR.out
              rw [HMM.out] at this
              exact this
            have hz5 : left w.heap.size (more (setN W0 (w.heap.size + 1) x.toN nilV) os4 k4) ≤ l.length := by
              rw [hz3.left]
              have := HLL.out
              omega
            exact hK9 _ _ (HP1.out _ _ ⟨rs, st, f, g, cap, d, ms, m, x, nilV, isAct, hz3, NB.adds hz2.2.1 hA, Tn.adds hz2.2.2.1 hA, leaf_ok HLE.out, hz4⟩ hz5)
    · have h1 : ((toB wd).toList == []) = false := by rw [toB_toList]; simpa using fun h => hw (.inl h)
      have h2 : isName wd = false := by simpa using fun h => hw (.inr h)
      rw [h2] at kN
      have HMM : Hid (M l st f none = (leafE wd).bind fun n => M rs st f (some n)) := M_leafy HWD.out HRS.out (fun h => hw h.1) st f
      clear hw
      cases hle : leafE wd with
      | none =>
        rw [hle] at kL HMM
        have HLE : Hid (leafE wd = none) := hle
        clear hle
        go_wp2_with (first
          | (go_at_call 88; refine k1.mono ?_; rintro x1 W1 ⟨rfl, hw1⟩; replace hw1 := hw1.symm; subst hw1)
          | (go_at_call 89; refine (kN _).mono ?_; rintro x2 W2 ⟨rfl, hw2⟩; replace hw2 := hw2.symm; subst hw2)
          | (go_at_call 91; refine (kL _).mono ?_; rintro x4 W4 ⟨⟨nl, ql, rfl, hql, hnl⟩, os4, k4, rfl⟩; simp only [Option.isSome_none] at hql; subst hql; clear hnl))
        have HZ := ret_end2 (HS0.out.mv (setN_mv W0 (w.heap.size + 1) nl nilV)) N.zero nilV os4 k4
        have hz0 : Rs = none := by
          have := hR.out
          rw [HMM.out] at this
          exact this.symm
        (try simp only [jump2])
        exact bodyPost_ret (ret13 rfl rfl HZ.2) rfl (.inr ⟨hz0, rfl, HZ.1⟩)
      | some x =>
        rw [hle] at kL HMM
        have HLE : Hid (leafE wd = some x) := hle
        clear hle
        go_wp2_with (first
          | (go_at_call 88; refine k1.mono ?_; rintro x1 W1 ⟨rfl, hw1⟩; replace hw1 := hw1.symm; subst hw1)
          | (go_at_call 89; refine (kN _).mono ?_; rintro x2 W2 ⟨rfl, hw2⟩; replace hw2 := hw2.symm; subst hw2)
          | (go_at_call 91; refine (kL _).mono ?_; rintro x4 W4 ⟨⟨nl, ql, rfl, hql, hnl⟩, os4, k4, rfl⟩; obtain ⟨hnx, hargs⟩ := hnl x rfl; simp only [Option.isSome_some] at hql; subst hql; subst hnx; clear hnl))
        go_step3
        rename_i K9 hK9
        have hz2 := store_end (sr := nilV) (e := x) HS0.out HB0.out (by rw [hargs]; exact Tn.nil _ _ _)
        have hA : Adds (setN W0 (w.heap.size + 1) x.toN nilV) (more (setN W0 (w.heap.size + 1) x.toN nilV) os4 k4) := ⟨os4, k4, rfl⟩
        have hz3 := hz2.1.adds hA
        have hz4 : Hid (M rs st f (some x) = Rs) := by
          have := hR.out
          rw [HMM.out] at this
          exact this
        have hz5 : left w.heap.size (more (setN W0 (w.heap.size + 1) x.toN nilV) os4 k4) ≤ l.length := by
          rw [hz3.left]
          have := HLL.out
          omega
        exact hK9 _ _ (HP1.out _ _ ⟨rs, st, f, g, cap, d, ms, m, x, nilV, isAct, hz3, NB.adds hz2.2.1 hA, Tn.adds hz2.2.2.1 hA, leaf_ok HLE.out, hz4⟩ hz5)
  · -- the beginning
    intro hp0
    go_wp2
    go_step3
    rename_i K9 hK9
    have hl0 : s0.toList.length ≤ 256 := by rw [toList_length]; exact hs
    obtain ⟨z1, z2⟩ := Sg.begin (w := w) (l := s0.toList) hl0 rfl
    rw [toB_of] at z1 z2
    exact hK9 _ _ (hp0 _ _ ⟨s0.toList, [], Fr.none, w.heap.size + 2, 1, 0, [], _, isAct, z1, z2, HRs⟩)

end Go.Proofs.YtiacnmcdfpmcfaaGreatDoor

namespace Go.Proofs.YtiacnmcdfpmcfaaGreatDoor
open Go.RowKit

/-- What a sign does to the parentheses that are open. -/
def dl (x : UInt8) : Int := if x = 40 then 1 else if x = 41 then -1 else 0
def op (s : List UInt8) : Int := (s.map dl).sum

theorem op_nil : op [] = 0 := rfl
theorem op_cons (x : UInt8) (s : List UInt8) : op (x :: s) = dl x + op s := by simp [op]
theorem op_append (a b : List UInt8) : op (a ++ b) = op a + op b := by simp [op]

/-- The last one of a sign outside of parentheses. -/
def lastF (c : UInt8) : Int → Int → Nat → List UInt8 → Int
  | _, a, _, [] => a
  | k, a, i, x :: r => lastF c (k + dl x) (if k + dl x = 0 ∧ x = c then (i : Int) else a) (i + 1) r
def lastL (c : UInt8) (s : List UInt8) : Int := lastF c 0 (-1) 0 s

/-- No such sign stands outside of parentheses. -/
def noTop (c : UInt8) (k : Int) (s : List UInt8) : Prop := ∀ p q, s = p ++ c :: q → k + op p ≠ 0

theorem lastF_none {c : UInt8} (hc : dl c = 0) : ∀ (s : List UInt8) (k a : Int) (i : Nat), noTop c k s → lastF c k a i s = a := by
  intro s
  induction s with
  | nil => intro k a i _; rfl
  | cons x r ih =>
    intro k a i h
    simp only [lastF]
    have h1 : ¬ (k + dl x = 0 ∧ x = c) := by
      rintro ⟨h1, rfl⟩
      exact h [] r rfl (by rw [op_nil]; omega)
    rw [if_neg h1]
    exact ih _ _ _ (fun p q e => by have := h (x :: p) q (by rw [e]; rfl); rw [op_cons] at this; omega)

theorem lastF_some {c : UInt8} (hc : dl c = 0) : ∀ (p q : List UInt8) (k a : Int) (i : Nat), k + op p = 0 → noTop c 0 q → lastF c k a i (p ++ c :: q) = ((i + p.length : Nat) : Int) := by
  intro p
  induction p with
  | nil =>
    intro q k a i hk hq
    rw [op_nil] at hk
    have hk : k = 0 := by omega
    subst hk
    simp only [List.nil_append, lastF]
    rw [if_pos ⟨by rw [hc]; rfl, trivial⟩, lastF_none hc _ _ _ _ (by rw [hc]; exact hq)]
    simp
  | cons x p ih =>
    intro q k a i hk hq
    rw [op_cons] at hk
    simp only [List.cons_append, lastF]
    rw [ih q _ _ _ (by omega) hq]
    simp only [List.length_cons]
    omega

theorem ex_last {c : UInt8} (hc : dl c = 0) : ∀ (s : List UInt8) (k : Int), ¬ noTop c k s → ∃ p q, s = p ++ c :: q ∧ k + op p = 0 ∧ noTop c 0 q := by
  intro s
  induction s with
  | nil => intro k h; exact absurd (fun p q e => by simp at e) h
  | cons x r ih =>
    intro k h
    by_cases h1 : noTop c (k + dl x) r
    · have : ∃ p q, x :: r = p ++ c :: q ∧ k + op p = 0 := by
        apply Classical.byContradiction
        intro hn
        exact h (fun p q e hk => hn ⟨p, q, e, hk⟩)
      obtain ⟨p, q, e, hk⟩ := this
      cases p with
      | nil =>
        simp only [List.nil_append, List.cons.injEq] at e
        obtain ⟨rfl, rfl⟩ := e
        rw [op_nil] at hk
        refine ⟨[], r, rfl, by rw [op_nil]; exact hk, ?_⟩
        rw [hc] at h1
        have e0 : k + 0 = (0 : Int) := by omega
        rw [e0] at h1
        exact h1
      | cons y p =>
        simp only [List.cons_append, List.cons.injEq] at e
        obtain ⟨rfl, e⟩ := e
        rw [op_cons] at hk
        exact absurd (by omega) (h1 p q e)
    · obtain ⟨p, q, e, hk, hq⟩ := ih _ h1
      exact ⟨x :: p, q, by rw [e]; rfl, by rw [op_cons]; omega, hq⟩

theorem lastL_none {c : UInt8} (hc : dl c = 0) {s : List UInt8} (h : noTop c 0 s) : lastL c s = -1 := lastF_none hc s 0 (-1) 0 h
theorem lastL_some {c : UInt8} (hc : dl c = 0) {p q : List UInt8} (h : op p = 0) (hq : noTop c 0 q) : lastL c (p ++ c :: q) = (p.length : Int) := by
  have := lastF_some hc p q 0 (-1) 0 (by omega) hq
  rw [Nat.zero_add] at this
  exact this

/-- Two last ones are one. -/
theorem last_one {c : UInt8} (hc : dl c = 0) {p q p' q' : List UInt8} (e : p ++ c :: q = p' ++ c :: q') (h : op p = 0) (hq : noTop c 0 q) (h' : op p' = 0) (hq' : noTop c 0 q') : p = p' ∧ q = q' := by
  have h1 := lastL_some hc h hq
  rw [e, lastL_some hc h' hq'] at h1
  have hl : p.length = p'.length := by omega
  have := List.append_inj e hl
  exact ⟨this.1, by simpa using this.2⟩

/-- A text that begins with a parenthesis that its last sign closes. -/
def whl : Int → List UInt8 → Bool
  | k, [] => decide (k = 0)
  | k, x :: r => if k + dl x ≤ 0 ∧ r ≠ [] then false else whl (k + dl x) r
def wholeL (s : List UInt8) : Bool := whl 0 s && decide (2 ≤ s.length)

theorem dl_le (x : UInt8) : dl x ≤ 1 ∧ -1 ≤ dl x := by unfold dl; split <;> (try split) <;> omega
theorem dl_pos {x : UInt8} (h : 0 < dl x) : x = 40 := by
  unfold dl at h
  split at h
  · assumption
  · split at h <;> omega
theorem dl_neg {x : UInt8} (h : dl x < 0) : x = 41 := by
  unfold dl at h
  split at h
  · omega
  · split at h
    · assumption
    · omega

theorem whl_ends : ∀ (s : List UInt8) (k : Int), 0 < k → whl k s = true → ∃ a, s = a ++ [41] := by
  intro s
  induction s with
  | nil => intro k hk h; simp [whl] at h; omega
  | cons x r ih =>
    intro k hk h
    simp only [whl] at h
    split at h
    · cases h
    · rename_i hn
      cases r with
      | nil =>
        simp [whl] at h
        have : x = 41 := dl_neg (by omega)
        exact ⟨[], by rw [this]; rfl⟩
      | cons y t =>
        have h1 : 0 < k + dl x := by
          simp at hn
          omega
        obtain ⟨a, ha⟩ := ih _ h1 h
        exact ⟨x :: a, by rw [ha]; rfl⟩

theorem whole_sound {s : List UInt8} (h : wholeL s = true) : ∃ a, s = 40 :: (a ++ [41]) := by
  simp only [wholeL, Bool.and_eq_true, decide_eq_true_eq] at h
  obtain ⟨h, hl⟩ := h
  match s, hl, h with
  | x :: y :: t, _, h =>
    simp only [whl] at h
    split at h
    · cases h
    · rename_i hn
      simp at hn
      have h1 : x = 40 := dl_pos (by omega)
      obtain ⟨a, ha⟩ := whl_ends (y :: t) _ (by omega : 0 < 0 + dl x) h
      exact ⟨a, by rw [h1, ha]⟩

theorem whl_close : ∀ (a : List UInt8) (k : Int), (∀ p q, a = p ++ q → 0 < k + op p) → k + op a = 1 → whl k (a ++ [41]) = true := by
  intro a
  induction a with
  | nil =>
    intro k _ h
    rw [op_nil] at h
    have : k = 1 := by omega
    subst this
    decide
  | cons x r ih =>
    intro k h h1
    rw [op_cons] at h1
    have h2 := h [x] r rfl
    rw [op_cons, op_nil] at h2
    simp only [List.cons_append, whl]
    rw [if_neg (by omega)]
    exact ih _ (fun p q e => by have := h (x :: p) q (by rw [e]; rfl); rw [op_cons] at this; omega) (by omega)

/-- What parentheses a text of the grammar has. -/
structure Bal (lv : Lv) (s : List UInt8) : Prop where
  all : op s = 0
  pre : ∀ p q, s = p ++ q → 0 ≤ op p
  plus : lv ≠ .sum → noTop 43 0 s
  star : lv = .part → noTop 42 0 s

theorem whole_of {a : List UInt8} (h : op a = 0) (hp : ∀ p q, a = p ++ q → 0 ≤ op p) : wholeL (40 :: (a ++ [41])) = true := by
  simp only [wholeL, Bool.and_eq_true, decide_eq_true_eq]
  refine ⟨?_, by simp⟩
  simp only [whl]
  have h40 : dl 40 = 1 := by decide
  rw [h40, if_neg (by omega)]
  exact whl_close a _ (fun p q e => by have := hp p q e; omega) (by omega)

theorem wc_dl {c : UInt8} (h : wc c = true) : dl c = 0 ∧ c ≠ 40 ∧ c ≠ 41 ∧ c ≠ 42 ∧ c ≠ 43 := by
  have h1 : c ≠ 40 := by rintro rfl; exact absurd h (by decide)
  have h2 : c ≠ 41 := by rintro rfl; exact absurd h (by decide)
  have h3 : c ≠ 42 := by rintro rfl; exact absurd h (by decide)
  have h4 : c ≠ 43 := by rintro rfl; exact absurd h (by decide)
  exact ⟨by simp [dl, h1, h2], h1, h2, h3, h4⟩

theorem op_wc {s : List UInt8} (h : ∀ c ∈ s, wc c = true) : op s = 0 := by
  induction s with
  | nil => rfl
  | cons x r ih => rw [op_cons, ih (fun c hc => h c (by simp [hc])), (wc_dl (h x (by simp))).1]; rfl

theorem bal_word {lv : Lv} {s : List UInt8} (h : ∀ c ∈ s, wc c = true) : Bal lv s := by
  refine ⟨op_wc h, fun p q e => ?_, fun _ p q e => ?_, fun _ p q e => ?_⟩
  · rw [op_wc (fun c hc => h c (by rw [e]; simp [hc]))]; exact Int.le_refl _
  · exact absurd rfl (wc_dl (h 43 (by rw [e]; simp))).2.2.2.2
  · exact absurd rfl (wc_dl (h 42 (by rw [e]; simp))).2.2.2.1

theorem pre_app {a b p q : List UInt8} (e : a ++ b = p ++ q) : (∃ t, a = p ++ t) ∨ ∃ t, p = a ++ t ∧ b = t ++ q := by
  rcases List.append_eq_append_iff.1 e with ⟨t, h1, h2⟩ | ⟨t, h1, h2⟩
  · exact .inr ⟨t, h1, h2⟩
  · exact .inl ⟨t, h1⟩

/-- A sign within a text in parentheses. -/
theorem in_paren {a p q : List UInt8} {c : UInt8} (hc : c ≠ 40 ∧ c ≠ 41) (hp : ∀ p q, a = p ++ q → 0 ≤ op p) (e : 40 :: (a ++ [41]) = p ++ c :: q) : 0 < op p := by
  cases p with
  | nil => simp at e; exact absurd e.1.symm hc.1
  | cons x p =>
    simp only [List.cons_append, List.cons.injEq] at e
    obtain ⟨rfl, e⟩ := e
    have h40 : dl 40 = 1 := by decide
    rw [op_cons, h40]
    rcases pre_app e with ⟨t, h⟩ | ⟨t, h1, h2⟩
    · have := hp p t h; omega
    · cases t with
      | nil => simp at h2; exact absurd h2.1.symm hc.2
      | cons y t =>
        simp only [List.cons_append, List.cons.injEq] at h2
        have := h2.2
        simp at this

theorem paren_pre {a p q : List UInt8} (ha : op a = 0) (hp : ∀ p q, a = p ++ q → 0 ≤ op p) (e : 40 :: (a ++ [41]) = p ++ q) : 0 ≤ op p := by
  cases p with
  | nil => rw [op_nil]; exact Int.le_refl _
  | cons x p =>
    simp only [List.cons_append, List.cons.injEq] at e
    obtain ⟨rfl, e⟩ := e
    have h40 : dl 40 = 1 := by decide
    rw [op_cons, h40]
    rcases pre_app e with ⟨t, h⟩ | ⟨t, h1, h2⟩
    · have := hp p t h; omega
    · subst h1
      have h41 : dl 41 = -1 := by decide
      cases t with
      | nil => rw [op_append, ha, op_nil]; decide
      | cons y t =>
        simp only [List.cons_append, List.cons.injEq] at h2
        obtain ⟨rfl, h2⟩ := h2
        have : t = [] := by
          cases t with
          | nil => rfl
          | cons z t => simp at h2
        subst this
        rw [op_append, ha, op_cons, h41, op_nil]
        decide

theorem paren_all {a : List UInt8} (ha : op a = 0) : op (40 :: (a ++ [41])) = 0 := by
  have h40 : dl 40 = 1 := by decide
  have h41 : dl 41 = -1 := by decide
  rw [op_cons, op_append, op_cons, op_nil, h40, h41, ha]
  decide

theorem top_app {c x : UInt8} {k : Int} {a b : List UInt8} (hx : x ≠ c) (hdx : dl x = 0) (ha : noTop c k a) (hoa : op a = 0) (hb : noTop c k b) : noTop c k (a ++ x :: b) := by
  intro p q e
  rcases pre_app e with ⟨t, h⟩ | ⟨t, h1, h2⟩
  · subst h
    rw [List.append_assoc] at e
    have e := List.append_cancel_left e
    cases t with
    | nil => simp at e; exact absurd e.1 hx
    | cons y t =>
      simp only [List.cons_append, List.cons.injEq] at e
      obtain ⟨rfl, _⟩ := e
      exact ha p t rfl
  · subst h1
    rw [op_append, hoa]
    cases t with
    | nil => simp at h2; exact absurd h2.1 hx
    | cons y t =>
      simp only [List.cons_append, List.cons.injEq] at h2
      obtain ⟨rfl, h2⟩ := h2
      rw [op_cons, hdx]
      have := hb t q h2
      omega

theorem pre_mid {x : UInt8} {a b : List UInt8} (hdx : dl x = 0) (hoa : op a = 0) (ha : ∀ p q, a = p ++ q → 0 ≤ op p) (hb : ∀ p q, b = p ++ q → 0 ≤ op p) : ∀ p q, a ++ x :: b = p ++ q → 0 ≤ op p := by
  intro p q e
  rcases pre_app e with ⟨t, h⟩ | ⟨t, h1, h2⟩
  · exact ha p t h
  · subst h1
    rw [op_append, hoa]
    cases t with
    | nil => rw [op_nil]; decide
    | cons y t =>
      simp only [List.cons_append, List.cons.injEq] at h2
      obtain ⟨rfl, h2⟩ := h2
      rw [op_cons, hdx]
      have := hb t q h2
      omega

theorem G.bal {lv : Lv} {s : List UInt8} {e : E} (h : G lv s e) : Bal lv s := by
  have d42 : dl 42 = 0 := by decide
  have d43 : dl 43 = 0 := by decide
  induction h with
  | leaf h => exact bal_word (leaf_wc h).1
  | paren _ ih =>
    exact ⟨paren_all ih.all, fun p q e => paren_pre ih.all ih.pre e, fun _ p q e => by have := in_paren (by decide) ih.pre e; omega, fun _ p q e => by have := in_paren (by decide) ih.pre e; omega⟩
  | @call f a x hn _ ih =>
    have hf := (name_wc hn).1
    have ho := op_wc hf
    refine ⟨by rw [op_append, ho, paren_all ih.all]; decide, fun p q e => ?_, fun _ p q e => ?_, fun _ p q e => ?_⟩
    · rcases pre_app e with ⟨t, h⟩ | ⟨t, h1, h2⟩
      · rw [op_wc (fun c hc => hf c (by rw [h]; simp [hc]))]; exact Int.le_refl _
      · rw [h1, op_append, ho]
        have := paren_pre ih.all ih.pre h2
        omega
    · rcases pre_app e with ⟨t, h⟩ | ⟨t, h1, h2⟩
      · cases t with
        | nil =>
          rw [List.append_nil] at h
          subst h
          have := List.append_cancel_left e
          simp at this
        | cons y t =>
          subst h
          rw [List.append_assoc] at e
          have e := List.append_cancel_left e
          simp only [List.cons_append, List.cons.injEq] at e
          exact absurd e.1 (wc_dl (hf y (by simp))).2.2.2.2
      · rw [h1, op_append, ho]
        have := in_paren (by decide) ih.pre h2
        omega
    · rcases pre_app e with ⟨t, h⟩ | ⟨t, h1, h2⟩
      · cases t with
        | nil =>
          rw [List.append_nil] at h
          subst h
          have := List.append_cancel_left e
          simp at this
        | cons y t =>
          subst h
          rw [List.append_assoc] at e
          have e := List.append_cancel_left e
          simp only [List.cons_append, List.cons.injEq] at e
          exact absurd e.1 (wc_dl (hf y (by simp))).2.2.2.1
      · rw [h1, op_append, ho]
        have := in_paren (by decide) ih.pre h2
        omega
  | up1 _ ih => exact ⟨ih.all, ih.pre, fun _ => ih.plus (by simp), fun h => by cases h⟩
  | @mul a x b y _ _ iha ihb =>
    refine ⟨by rw [op_append, op_cons, iha.all, ihb.all, d42]; decide, pre_mid d42 iha.all iha.pre ihb.pre, fun _ => top_app (by decide) d42 (iha.plus (by simp)) iha.all (ihb.plus (by simp)), fun h => by cases h⟩
  | up2 _ ih => exact ⟨ih.all, ih.pre, fun h => absurd rfl h, fun h => by cases h⟩
  | @add a x b y _ _ iha ihb =>
    refine ⟨by rw [op_append, op_cons, iha.all, ihb.all, d43]; decide, pre_mid d43 iha.all iha.pre ihb.pre, fun h => absurd rfl h, fun h => by cases h⟩

theorem G.toMul {s : List UInt8} {e : E} (h : G .sum s e) (hn : noTop 43 0 s) : G .mul s e := by
  cases h with
  | up2 h => exact h
  | @add a x b y ha hb => exact absurd (by rw [ha.bal.all]; rfl) (hn a b rfl)

theorem G.toPart {s : List UInt8} {e : E} (h : G .mul s e) (hn : noTop 42 0 s) : G .part s e := by
  cases h with
  | up1 h => exact h
  | @mul a x b y ha hb => exact absurd (by rw [ha.bal.all]; rfl) (hn a b rfl)

theorem noTop_tail {c x : UInt8} (hdx : dl x = 0) {p q : List UInt8} (hp : op p = 0) (h : noTop c 0 (p ++ x :: q)) : noTop c 0 q := by
  intro p' q' e
  have := h (p ++ x :: p') q' (by rw [e]; simp)
  rw [op_append, op_cons, hp, hdx] at this
  omega

theorem noTop_head {c x : UInt8} {p q : List UInt8} (h : noTop c 0 (p ++ x :: q)) : noTop c 0 p := by
  intro p' q' e
  exact h p' (q' ++ x :: q) (by rw [e]; simp)

/-- A text with a '+' outside of parentheses. -/
theorem G_plus {p q : List UInt8} {e : E} (hp : op p = 0) (hq : noTop 43 0 q) : G .sum (p ++ 43 :: q) e ↔ ∃ x y, e = .sum x y ∧ G .sum p x ∧ G .sum q y := by
  have d43 : dl 43 = 0 := by decide
  constructor
  · intro h
    generalize hs : p ++ 43 :: q = s at h
    cases h with
    | up2 h => exact absurd (by rw [hp]; rfl) (h.bal.plus (by simp) p q hs.symm)
    | @add a x b y ha hb =>
      obtain ⟨rfl, rfl⟩ := last_one d43 hs hp hq ha.bal.all (hb.bal.plus (by simp))
      exact ⟨x, y, rfl, ha, .up2 hb⟩
  · rintro ⟨x, y, rfl, hx, hy⟩
    exact .add hx (hy.toMul hq)

/-- A text with a '*' outside of parentheses, and no '+'. -/
theorem G_star {p q : List UInt8} {e : E} (hn : noTop 43 0 (p ++ 42 :: q)) (hp : op p = 0) (hq : noTop 42 0 q) : G .sum (p ++ 42 :: q) e ↔ ∃ x y, e = .mul x y ∧ G .sum p x ∧ G .sum q y := by
  have d42 : dl 42 = 0 := by decide
  constructor
  · intro h
    have h := h.toMul hn
    generalize hs : p ++ 42 :: q = s at h
    cases h with
    | up1 h => exact absurd (by rw [hp]; rfl) (h.bal.star rfl p q hs.symm)
    | @mul a x b y ha hb =>
      obtain ⟨rfl, rfl⟩ := last_one d42 hs hp hq ha.bal.all (hb.bal.star rfl)
      exact ⟨x, y, rfl, .up2 ha, .up2 (.up1 hb)⟩
  · rintro ⟨x, y, rfl, hx, hy⟩
    exact .up2 (.mul (hx.toMul (noTop_head hn)) ((hy.toMul (noTop_tail d42 hp hn)).toPart hq))

theorem not_wc40 : wc 40 = false := by decide

theorem name_no40 {f : List UInt8} (h : isName f = true) : (40 : UInt8) ∉ f := fun hm => by have := (name_wc h).1 40 hm; rw [not_wc40] at this; cases this

theorem first_one {f t f' t' : List UInt8} (e : f ++ 40 :: t = f' ++ 40 :: t') (h : (40 : UInt8) ∉ f) (h' : (40 : UInt8) ∉ f') : f = f' ∧ t = t' := by
  rcases pre_app e with ⟨u, hu⟩ | ⟨u, hu, h2⟩
  · cases u with
    | nil => rw [List.append_nil] at hu; subst hu; have := List.append_cancel_left e; simp at this; exact ⟨rfl, this⟩
    | cons y u =>
      subst hu
      rw [List.append_assoc] at e
      have e := List.append_cancel_left e
      simp only [List.cons_append, List.cons.injEq] at e
      exact absurd (by rw [e.1]; simp) h
  · cases u with
    | nil => rw [List.append_nil] at hu; subst hu; have := List.append_cancel_left e; simp at this; exact ⟨rfl, this⟩
    | cons y u =>
      simp only [List.cons_append, List.cons.injEq] at h2
      exact absurd (by rw [hu, ← h2.1]; simp) h'

/-- A text in parentheses. -/
theorem G_paren {a : List UInt8} {e : E} (h1 : noTop 43 0 (40 :: (a ++ [41]))) (h2 : noTop 42 0 (40 :: (a ++ [41]))) : G .sum (40 :: (a ++ [41])) e ↔ G .sum a e := by
  constructor
  · intro h
    have h := (h.toMul h1).toPart h2
    generalize hs : 40 :: (a ++ [41]) = s at h
    cases h with
    | leaf h => have := (leaf_wc h).1 40 (by rw [← hs]; simp); rw [not_wc40] at this; cases this
    | paren h =>
      simp at hs
      subst hs
      exact h
    | call hn h =>
      have := first_one (f := []) hs (by simp) (name_no40 hn)
      exact absurd this.1.symm (name_wc hn).2
  · intro h
    exact .up2 (.up1 (.paren h))

/-- A text with a parenthesis behind a word. -/
theorem G_call {f t : List UInt8} {e : E} (h1 : noTop 43 0 (f ++ 40 :: t)) (h2 : noTop 42 0 (f ++ 40 :: t)) (hf : (40 : UInt8) ∉ f) (hw : wholeL (f ++ 40 :: t) = false) :
    G .sum (f ++ 40 :: t) e ↔ isName f = true ∧ wholeL (40 :: t) = true ∧ ∃ a x, t = a ++ [41] ∧ e = .call f x ∧ G .sum a x := by
  constructor
  · intro h
    have h := (h.toMul h1).toPart h2
    generalize hs : f ++ 40 :: t = s at h
    cases h with
    | leaf h => have := (leaf_wc h).1 40 (by rw [← hs]; simp); rw [not_wc40] at this; cases this
    | paren h =>
      rw [hs, whole_of h.bal.all h.bal.pre] at hw
      cases hw
    | @call g a x hn h5 =>
      obtain ⟨rfl, rfl⟩ := first_one hs hf (name_no40 hn)
      exact ⟨hn, whole_of h5.bal.all h5.bal.pre, a, x, rfl, rfl, h5⟩
  · rintro ⟨hn, _, a, x, rfl, rfl, h⟩
    exact .up2 (.up1 (.call hn h))

/-- A text without parentheses, '+' and '*' outside. -/
theorem G_leaf {s : List UInt8} {e : E} (h1 : noTop 43 0 s) (h2 : noTop 42 0 s) (hf : (40 : UInt8) ∉ s) : G .sum s e ↔ leafE s = some e := by
  constructor
  · intro h
    have h := (h.toMul h1).toPart h2
    cases h with
    | leaf h => exact h
    | paren h => simp at hf
    | call hn h => simp at hf
  · intro h
    exact .up2 (.up1 (.leaf h))

theorem G.ne {lv : Lv} {s : List UInt8} {e : E} (h : G lv s e) : s ≠ [] := by
  induction h with
  | leaf h => exact (leaf_wc h).2
  | paren _ _ => simp
  | call _ _ _ => simp
  | up1 _ ih => exact ih
  | mul _ _ _ _ => simp
  | up2 _ ih => exact ih
  | add _ _ _ _ => simp

/-- The digits of a number. -/
def digL (n : Nat) : List UInt8 := if h : n < 10 then [UInt8.ofNat (48 + n)] else digL (n / 10) ++ [UInt8.ofNat (48 + n % 10)]
termination_by n

theorem digL_one {n : Nat} (h : n < 10) : digL n = [UInt8.ofNat (48 + n)] := by rw [digL, dif_pos h]
theorem digL_more {n : Nat} (h : ¬ n < 10) : digL n = digL (n / 10) ++ [UInt8.ofNat (48 + n % 10)] := by rw [digL, dif_neg h]

theorem dig_back {c : UInt8} (h : isDig c = true) : UInt8.ofNat (48 + (c.toNat - 48)) = c := by
  simp [isDig] at h
  rw [show 48 + (c.toNat - 48) = c.toNat by omega]
  simp

theorem numOf_app (t : List UInt8) (c : UInt8) : numOf (t ++ [c]) = numOf t * 10 + (c.toNat - 48) := by simp [numOf]

theorem fold_ge (l : List UInt8) : ∀ n, n ≤ l.foldl (fun n c => n * 10 + (c.toNat - 48)) n := by
  induction l with
  | nil => intro n; exact Nat.le_refl _
  | cons c r ih => intro n; simp only [List.foldl_cons]; exact Nat.le_trans (by omega) (ih _)

theorem numOf_pos {c : UInt8} {r : List UInt8} (hd : isDig c = true) (h : c ≠ 48) : 1 ≤ numOf (c :: r) := by
  simp only [numOf, List.foldl_cons]
  have h1 := fold_ge r (0 * 10 + (c.toNat - 48))
  simp [isDig] at hd
  have h2 : c.toNat ≠ 48 := fun hc => h (UInt8.toNat_inj.1 (by rw [hc]; rfl))
  omega

theorem digL_back : ∀ (k : Nat) (s : List UInt8), s.length = k → (∀ c ∈ s, isDig c = true) → s ≠ [] → ¬ (s.length > 1 ∧ s.head? = some 48) → digL (numOf s) = s := by
  intro k
  induction k with
  | zero => intro s hl _ hne; exact absurd (List.length_eq_zero_iff.1 hl) hne
  | succ k ih =>
    intro s hl hd hne hz
    obtain ⟨t, c, rfl⟩ : ∃ t c, s = t ++ [c] := ⟨s.dropLast, s.getLast hne, (List.dropLast_concat_getLast hne).symm⟩
    have hc := hd c (by simp)
    have hc' := hc
    simp [isDig] at hc'
    rw [numOf_app]
    cases t with
    | nil =>
      have : numOf [] = 0 := rfl
      rw [this, digL_one (by omega)]
      have e : 48 + (0 * 10 + (c.toNat - 48)) = 48 + (c.toNat - 48) := by omega
      rw [e, dig_back hc]
      rfl
    | cons x r =>
      have hx : x ≠ 48 := by
        rintro rfl
        exact hz ⟨by simp, by simp⟩
      have h1 := numOf_pos (r := r) (hd x (by simp)) hx
      have hih := ih (x :: r) (by simp at hl ⊢; omega) (fun y hy => hd y (by simp at hy ⊢; rcases hy with h | h <;> simp [h])) (by simp) (fun h => hx (by simpa using h.2))
      rw [digL_more (by omega)]
      have e1 : (numOf (x :: r) * 10 + (c.toNat - 48)) / 10 = numOf (x :: r) := by omega
      have e2 : (numOf (x :: r) * 10 + (c.toNat - 48)) % 10 = c.toNat - 48 := by omega
      rw [e1, e2, hih, dig_back hc]

theorem digL_ne (n : Nat) : digL n ≠ [] := by
  rw [digL]
  split <;> simp

theorem digL_head : ∀ (n : Nat), 1 ≤ n → (digL n).head? ≠ some 48 := by
  intro n
  induction n using Nat.strongRecOn with
  | ind n ih =>
    intro hn
    by_cases h : n < 10
    · rw [digL_one h]
      simp only [List.head?_cons, ne_eq, Option.some.injEq]
      intro e
      have := congrArg UInt8.toNat e
      rw [UInt8.toNat_ofNat'] at this
      simp at this
      omega
    · rw [digL_more h]
      have h1 := ih (n / 10) (by omega) (by omega)
      cases hq : digL (n / 10) with
      | nil => exact absurd hq (digL_ne _)
      | cons y t => rw [hq] at h1; simpa using h1

theorem digL_iff {s : List UInt8} (hd : ∀ c ∈ s, isDig c = true) (hne : s ≠ []) : digL (numOf s) = s ↔ ¬ (s.length > 1 ∧ s.head? = some 48) := by
  constructor
  · rintro h ⟨h1, h2⟩
    have h3 : ¬ numOf s < 10 := by
      intro hlt
      rw [digL_one hlt] at h
      rw [← h] at h1
      simp at h1
    exact digL_head (numOf s) (by omega) (by rw [h]; exact h2)
  · exact digL_back s.length s rfl hd hne

theorem digL_len : ∀ (k n : Nat), n < 10 ^ k → (digL n).length ≤ max k 1 := by
  intro k
  induction k with
  | zero =>
    intro n h
    have h0 : n = 0 := by simpa using h
    subst h0
    rw [digL_one (by omega)]
    simp
  | succ k ih =>
    intro n h
    by_cases hn : n < 10
    · rw [digL_one hn]; simp
    · rw [digL_more hn, List.length_append]
      have h1 : n / 10 < 10 ^ k := by
        rw [Nat.pow_succ] at h
        omega
      have h2 := ih (n / 10) h1
      have h3 : 1 ≤ k := by
        rcases Nat.eq_zero_or_pos k with rfl | hk
        · simp at h1; omega
        · exact hk
      simp only [List.length_cons, List.length_nil]
      omega

/-- How deep an expression is. -/
def E.depth : E → Nat
  | .path _ => 1
  | .num _ => 1
  | .sum a b => max a.depth b.depth + 1
  | .mul a b => max a.depth b.depth + 1
  | .call _ a => a.depth + 1

end Go.Proofs.YtiacnmcdfpmcfaaGreatDoor
