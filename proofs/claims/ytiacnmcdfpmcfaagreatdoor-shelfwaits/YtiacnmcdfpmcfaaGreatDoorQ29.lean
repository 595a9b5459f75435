/-
  What the reference reads of a text.
  The reference's read of a text with a '+'.
  The reference's read of a text with a '*', and no '+'.
  The reference's read of a text in parentheses.
-/
import Derived.Test.YtiacnmcdfpmcfaaGreatDoorQ28
import Derived.Test.YtiacnmcdfpmcfaaGreatDoorRdep
import Derived.Test.YtiacnmcdfpmcfaaGreatDoorRdr2
import Derived.Test.YtiacnmcdfpmcfaaGreatDoorQ22
namespace Go.Proofs.YtiacnmcdfpmcfaaGreatDoor
open Go.RowKit
attribute [local go_sem] cell?_more frozen?_more setCell_more size_more tape_more drew_more drewN_more more_drew more_drewN one_out plus_out plus_end lt_one le_p2 le_p3 le_p4 le_p5 le_p6 le_p7 le_p8 le_p9 le_p10 le_p11 le_p12 le_p13 le_p14 le_p15 le_p16 le_p17 le_p18 le_p19 le_p20 le_p21 le_p22 le_p23 le_p24 le_q0 le_q1 lt_q1 le_q2 lt_q2 le_q3 lt_q3 le_q4 lt_q4 le_q5 lt_q5 le_q6 lt_q6 le_q7 lt_q7 le_q8 lt_q8 le_q9 lt_q9 le_q10 lt_q10 le_q11 lt_q11 le_q12 lt_q12 le_q13 lt_q13 le_q14 lt_q14 le_q15 lt_q15 le_q16 lt_q16 le_q17 lt_q17 le_q18 lt_q18 le_q19 lt_q19 le_q20 lt_q20 le_q21 lt_q21 le_q22 lt_q22 le_q23 lt_q23 le_q24 lt_q24


/-- But for one block nothing has turned. -/
structure But1 (k : Nat) (w w' : World) : Prop where
  size : w'.heap.size = w.heap.size
  block : ∀ b, b ≠ k → w'.heap[b]? = w.heap[b]?

theorem But1.box (w : World) (o o' : Obj) : But1 w.heap.size (w.alloc o) (w.alloc o') := by
  refine ⟨by simp, fun b hb => ?_⟩
  show (w.heap.push o')[b]? = (w.heap.push o)[b]?
  rw [Array.getElem?_push, Array.getElem?_push, if_neg hb, if_neg hb]
theorem But1.more {k : Nat} {w w' : World} (h : But1 k w w') (os : Array Obj) (n : Nat) : But1 k (more w os n) (more w' os n) := by
  refine ⟨by simp [size_more, h.size], fun b hb => ?_⟩
  show (w'.heap ++ os)[b]? = (w.heap ++ os)[b]?
  rw [Array.getElem?_append, Array.getElem?_append, h.size]
  split
  · exact h.block b hb
  · rfl
theorem But1.alloc {k : Nat} {w w' : World} (h : But1 k w w') (o : Obj) : But1 k (w.alloc o) (w'.alloc o) := by
  refine ⟨by simp [h.size], fun b hb => ?_⟩
  show (w'.heap.push o)[b]? = (w.heap.push o)[b]?
  rw [Array.getElem?_push, Array.getElem?_push, h.size]
  split
  · rfl
  · exact h.block b hb

theorem Tn.but1 {B k d : Nat} {w w' : World} {s : Value} {ts : List N} (h : Tn (fun b => B ≤ b) d w s ts) (hb : But1 k w w') (hk : k < B) : Tn (fun b => B ≤ b) d w' s ts :=
  h.frame (by rw [hb.size]; exact Nat.le_refl _) (fun b hB _ => ⟨hb.block b (fun e => by subst e; exact absurd hB (by omega)), hB⟩)

/-- What the reference reads of a text. -/
def RT (B : Nat) (l : List UInt8) (k : Int) (t : ByteArray) (m : Int) (s : Value) (q : Bool) (w' : World) : Prop :=
  (q = true → ∃ x D, G .sum l x ∧ x.toN.kind = k ∧ x.toN.text = t ∧ x.toN.num = m ∧ Tn (fun b => B ≤ b) D w' s x.toN.args) ∧ (q = false → ∀ x, ¬ G .sum l x)

/-- The reference's read told of a text. -/
def Reads (m : Nat) (l : List UInt8) : Prop := ∀ W, Calls Tryz.prog 52 #[.string (toB l), .int .i64 (m : Int)] W fun e w' =>
  (∃ k t mm ao n c q, e = .returned (.tuple #[.agg #[.int .i64 k, .string t, .int .i64 mm, .slice ao n c], .bool q]) ∧ Hid (RT W.heap.size l k t mm (.slice ao n c) q w')) ∧ Adds W w'

theorem RT.adds {B : Nat} {l : List UInt8} {k : Int} {t : ByteArray} {m : Int} {s : Value} {q : Bool} {w w' : World} (h : RT B l k t m s q w) (hA : Adds w w') : RT B l k t m s q w' :=
  ⟨fun e => by obtain ⟨x, D, h1, h2, h3, h4, h5⟩ := h.1 e; exact ⟨x, D, h1, h2, h3, h4, h5.adds hA⟩, h.2⟩
theorem RT.but1 {B b : Nat} {l : List UInt8} {k : Int} {t : ByteArray} {m : Int} {s : Value} {q : Bool} {w w' : World} (h : RT B l k t m s q w) (hb : But1 b w w') (hB : b < B) : RT B l k t m s q w' :=
  ⟨fun e => by obtain ⟨x, D, h1, h2, h3, h4, h5⟩ := h.1 e; exact ⟨x, D, h1, h2, h3, h4, h5.but1 hb hB⟩, h.2⟩
theorem RT.low {B B' : Nat} {l : List UInt8} {k : Int} {t : ByteArray} {m : Int} {s : Value} {q : Bool} {w : World} (h : RT B l k t m s q w) (hB : B' ≤ B) : RT B' l k t m s q w :=
  ⟨fun e => by obtain ⟨x, D, h1, h2, h3, h4, h5⟩ := h.1 e; exact ⟨x, D, h1, h2, h3, h4, h5.weak (fun b hb _ => Nat.le_trans hB hb)⟩, h.2⟩

theorem RT.no {B : Nat} {l : List UInt8} {k : Int} {t : ByteArray} {m : Int} {s : Value} {w : World} (h : ∀ x, ¬ G .sum l x) : RT B l k t m s false w := ⟨fun e => (by cases e), fun _ => h⟩

theorem G.small {l : List UInt8} {x : E} (h : G .sum l x) : x.toN.text.size ≤ 9223372036854775807 := ok_size h.ok

/-- A list of two that were read. -/
theorem rt_two {B : Nat} {p q : List UInt8} {k1 k2 m1 m2 : Int} {t1 t2 : ByteArray} {s1 s2 : Value} {W X : World} {g : Nat} (h1 : RT B p k1 t1 m1 s1 true W) (h2 : RT B q k2 t2 m2 s2 true W) (hA : Adds W X) (hg : g = X.heap.size) (hB : B ≤ g) :
    ∃ x y D, G .sum p x ∧ G .sum q y ∧ Tn (fun b => B ≤ b) D (X.alloc (.cells #[.int .i64 k1, .string t1, .int .i64 m1, s1, .int .i64 k2, .string t2, .int .i64 m2, s2] 81)) (.slice (some ⟨g, 0, none⟩) 2 2) [x.toN, y.toN] := by
  obtain ⟨x, D1, g1, rfl, rfl, rfl, T1⟩ := h1.1 rfl
  obtain ⟨y, D2, g2, rfl, rfl, rfl, T2⟩ := h2.1 rfl
  exact ⟨x, y, max D1 D2 + 1, g1, g2, two_end (T1.up (Nat.le_max_left _ _)) (T2.up (Nat.le_max_right _ _)) hA hg hB g1.small g2.small⟩

theorem rt_one {B : Nat} {p : List UInt8} {k1 m1 : Int} {t1 : ByteArray} {s1 : Value} {W X : World} {g : Nat} (h1 : RT B p k1 t1 m1 s1 true W) (hA : Adds W X) (hg : g = X.heap.size) (hB : B ≤ g) :
    ∃ x D, G .sum p x ∧ Tn (fun b => B ≤ b) D (X.alloc (.cells #[.int .i64 k1, .string t1, .int .i64 m1, s1] 81)) (.slice (some ⟨g, 0, none⟩) 1 1) [x.toN] := by
  obtain ⟨x, D1, g1, rfl, rfl, rfl, T1⟩ := h1.1 rfl
  exact ⟨x, D1 + 1, g1, one_end T1 hA hg hB g1.small⟩

/-- Of a sum or a product: the two behind each other, and the box of the answer set anew. -/
theorem rt_pair {W : World} {o o' : Obj} {os2 os3 : Array Obj} {d2 d3 : Nat} {l p q : List UInt8} {oa ob : Obj} {k1 k2 m1 m2 : Int} {t1 t2 : ByteArray} {s1 s2 : Value} {q2 : Bool} {g : Nat} {kd : Int} (mk : E → E → E) (hmk : ∀ x y, (mk x y).toN = .mk kd ⟨#[]⟩ 0 [x.toN, y.toN])
    (hI : ∀ e, G .sum l e ↔ ∃ x y, e = mk x y ∧ G .sum p x ∧ G .sum q y)
    (h1 : RT (W.alloc o).heap.size p k1 t1 m1 s1 true (more (W.alloc o) os2 d2)) (h2 : RT ((more (W.alloc o) os2 d2).alloc oa).heap.size q k2 t2 m2 s2 q2 (more ((more (W.alloc o) os2 d2).alloc oa) os3 d3)) (hg : g = ((more ((more (W.alloc o) os2 d2).alloc oa) os3 d3).alloc ob).heap.size) :
    RT W.heap.size l kd ⟨#[]⟩ 0 (.slice (some ⟨g, 0, none⟩) 2 2) q2 (((more ((more (W.alloc o') os2 d2).alloc oa) os3 d3).alloc ob).alloc (.cells #[.int .i64 k1, .string t1, .int .i64 m1, s1, .int .i64 k2, .string t2, .int .i64 m2, s2] 81)) := by
  have hb := ((But1.box W o o').more os2 d2)
  have hb3 := (hb.alloc oa).more os3 d3
  have e1 : W.heap.size < (W.alloc o).heap.size := by simp
  have e2 : W.heap.size < ((more (W.alloc o) os2 d2).alloc oa).heap.size := by simp [size_more]; omega
  have h1' := ((h1.but1 hb e1).adds ((((Adds.refl _).alloc oa).more os3 d3))).low (Nat.le_of_lt e1)
  have h2' := (h2.but1 hb3 e2).low (Nat.le_of_lt e2)
  cases q2 with
  | true =>
    obtain ⟨x, y, D, g1, g2, T⟩ := rt_two (X := (more ((more (W.alloc o') os2 d2).alloc oa) os3 d3).alloc ob) (g := g) h1' h2' ((Adds.refl _).alloc ob) (by rw [hg]; simp [size_more]) (by rw [hg]; simp [size_more]; omega)
    refine ⟨fun _ => ⟨mk x y, D, (hI _).2 ⟨x, y, rfl, g1, g2⟩, ?_⟩, fun h => by cases h⟩
    rw [hmk]
    exact ⟨rfl, rfl, rfl, T⟩
  | false =>
    refine RT.no (fun e he => ?_)
    obtain ⟨x, y, rfl, g1, g2⟩ := (hI e).1 he
    exact h2.2 rfl y g2

theorem ext_head {p q : List UInt8} {c : UInt8} : (toB (p ++ c :: q)).extract 0 p.length = toB p := toList_inj (by rw [extract_L, toB_toList, toB_toList]; simp)
theorem drop_mid {p q : List UInt8} {c : UInt8} : (p ++ c :: q).drop (p.length + 1) = q := by
  rw [show p ++ c :: q = (p ++ [c]) ++ q by simp, show p.length + 1 = (p ++ [c]).length by simp]
  exact List.drop_left
theorem ext_tail {p q : List UInt8} {c : UInt8} : (toB (p ++ c :: q)).extract (p.length + 1) (toB (p ++ c :: q)).size = toB q := toList_inj (by rw [extract_L, toB_toList, toB_toList, toB_size, List.take_length, drop_mid])

end Go.Proofs.YtiacnmcdfpmcfaaGreatDoor

namespace Go.Proofs.YtiacnmcdfpmcfaaGreatDoor
open Go.RowKit
attribute [local go_sem] cell?_more frozen?_more setCell_more size_more tape_more drew_more drewN_more more_drew more_drewN one_out plus_out plus_end lt_one le_p2 le_p3 le_p4 le_p5 le_p6 le_p7 le_p8 le_p9 le_p10 le_p11 le_p12 le_p13 le_p14 le_p15 le_p16 le_p17 le_p18 le_p19 le_p20 le_p21 le_p22 le_p23 le_p24 le_q0 le_q1 lt_q1 le_q2 lt_q2 le_q3 lt_q3 le_q4 lt_q4 le_q5 lt_q5 le_q6 lt_q6 le_q7 lt_q7 le_q8 lt_q8 le_q9 lt_q9 le_q10 lt_q10 le_q11 lt_q11 le_q12 lt_q12 le_q13 lt_q13 le_q14 lt_q14 le_q15 lt_q15 le_q16 lt_q16 le_q17 lt_q17 le_q18 lt_q18 le_q19 lt_q19 le_q20 lt_q20 le_q21 lt_q21 le_q22 lt_q22 le_q23 lt_q23 le_q24 lt_q24


set_option maxHeartbeats 4000000 in
set_option maxRecDepth 20000 in
theorem reads_plus {m : Nat} {p q : List UInt8} (hm : m ≤ 300) (hl : (p ++ 43 :: q).length ≤ 1000) (hp : op p = 0) (hq : noTop 43 0 q) (kA : Reads m p) (kB : Reads m q) : Reads (m + 1) (p ++ 43 :: q) := by
  intro W
  have hiff := fun e => G_plus (e := e) hp hq
  have kL := fun W => rLast_any (toB (p ++ 43 :: q)) (by rw [toB_size]; exact hl) 43 W
  rw [toB_toList, lastL_some (by decide) hp hq] at kL
  unfold Reads at kA kB
  rw [← ext_head (p := p) (q := q) (c := 43)] at kA
  rw [← ext_tail (p := p) (q := q) (c := 43)] at kB
  have hlt : p.length < (toB (p ++ 43 :: q)).size := by rw [toB_size]; simp
  have hsz : (toB (p ++ 43 :: q)).size ≤ 1000 := by rw [toB_size]; exact hl
  have he : ((toB (p ++ 43 :: q)).toList == []) = false := by rw [toB_toList]; simp
  have hm1 : ((m + 1 : Nat) : Int) = (m : Int) + 1 := by omega
  rw [hm1]
  have hmz : ((m : Int) + 1 == 0) = false := by simp; omega
  have HI : Hid (∀ e, G .sum (p ++ 43 :: q) e ↔ ∃ x y, e = E.sum x y ∧ G .sum p x ∧ G .sum q y) := hiff
  clear hiff hp hq hl hm1
  have h43 : (((43 : UInt8).toNat : Nat) : Int) = 43 := rfl
  rw [h43] at kL
  clear h43
  generalize toB (p ++ 43 :: q) = S at *
  generalize p.length = P at *
  have hP0 : (0 : Int) ≤ (P : Int) := by omega
  have hP1 : ¬ (P : Int) < 0 := by omega
  go_enter Tryz.func52, Tryz.ntmps52
  go_wp2_with (first
    | (go_at_call 69; (with_reducible refine (kL _).mono ?_); rintro e w1 ⟨rfl, hw⟩; subst w1)
    | (go_at_call 52; (with_reducible refine (kA _).mono ?_); rintro e w2 ⟨⟨k1, t1, m1, a1, n1, c1, q1, rfl, hR1⟩, os2, d2, rfl⟩; cases q1)
    | (go_at_call 52; (with_reducible refine (kB _).mono ?_); rintro e w3 ⟨⟨k2, t2, m2, a2, n2, c2, q2, rfl, hR2⟩, os3, d3, rfl⟩))
  · refine bodyPost_ret (v := .tuple #[.agg #[.int .i64 3, .string ⟨#[]⟩, .int .i64 0, .slice (some ⟨W.heap.size + os2.size + os3.size + 1 + 1 + 1, 0, none⟩) 2 2], .bool false]) (by simp [results, Tryz.results52, go_sem]) rfl ⟨⟨_, _, _, _, _, _, _, rfl, ?_⟩, by repeat (first | with_reducible exact Adds.refl _ | with_reducible refine Adds.alloc ?_ _ | with_reducible refine Adds.more ?_ _ _ | with_reducible refine Adds.drew ?_ | with_reducible refine Adds.drewN ?_ _)⟩
    refine RT.no (fun e he => ?_)
    obtain ⟨x, y, rfl, g1, g2⟩ := (HI.out e).1 he
    exact hR1.out.2 rfl x g1
  · refine bodyPost_ret (v := .tuple #[.agg #[.int .i64 3, .string ⟨#[]⟩, .int .i64 0, .slice (some ⟨W.heap.size + os2.size + os3.size + 1 + 1 + 1, 0, none⟩) 2 2], .bool q2]) (by simp [results, Tryz.results52, go_sem]) rfl ⟨⟨_, _, _, _, _, _, _, rfl, ?_⟩, by repeat (first | with_reducible exact Adds.refl _ | with_reducible refine Adds.alloc ?_ _ | with_reducible refine Adds.more ?_ _ _ | with_reducible refine Adds.drew ?_ | with_reducible refine Adds.drewN ?_ _)⟩
    exact rt_pair E.sum (fun x y => rfl) HI.out hR1.out hR2.out (by simp [size_more]; omega)

end Go.Proofs.YtiacnmcdfpmcfaaGreatDoor

namespace Go.Proofs.YtiacnmcdfpmcfaaGreatDoor
open Go.RowKit
attribute [local go_sem] cell?_more frozen?_more setCell_more size_more tape_more drew_more drewN_more more_drew more_drewN one_out plus_out plus_end lt_one le_p2 le_p3 le_p4 le_p5 le_p6 le_p7 le_p8 le_p9 le_p10 le_p11 le_p12 le_p13 le_p14 le_p15 le_p16 le_p17 le_p18 le_p19 le_p20 le_p21 le_p22 le_p23 le_p24 le_q0 le_q1 lt_q1 le_q2 lt_q2 le_q3 lt_q3 le_q4 lt_q4 le_q5 lt_q5 le_q6 lt_q6 le_q7 lt_q7 le_q8 lt_q8 le_q9 lt_q9 le_q10 lt_q10 le_q11 lt_q11 le_q12 lt_q12 le_q13 lt_q13 le_q14 lt_q14 le_q15 lt_q15 le_q16 lt_q16 le_q17 lt_q17 le_q18 lt_q18 le_q19 lt_q19 le_q20 lt_q20 le_q21 lt_q21 le_q22 lt_q22 le_q23 lt_q23 le_q24 lt_q24


set_option maxHeartbeats 4000000 in
set_option maxRecDepth 20000 in
theorem reads_star {m : Nat} {p q : List UInt8} (hm : m ≤ 300) (hl : (p ++ 42 :: q).length ≤ 1000) (hn : noTop 43 0 (p ++ 42 :: q)) (hp : op p = 0) (hq : noTop 42 0 q) (kA : Reads m p) (kB : Reads m q) : Reads (m + 1) (p ++ 42 :: q) := by
  intro W
  have hiff := fun e => G_star (e := e) hn hp hq
  have kN := fun W => rLast_any (toB (p ++ 42 :: q)) (by rw [toB_size]; exact hl) 43 W
  rw [toB_toList, lastL_none (by decide) hn] at kN
  have hn43 : (((43 : UInt8).toNat : Nat) : Int) = 43 := rfl
  rw [hn43] at kN
  clear hn43
  have kL := fun W => rLast_any (toB (p ++ 42 :: q)) (by rw [toB_size]; exact hl) 42 W
  rw [toB_toList, lastL_some (by decide) hp hq] at kL
  unfold Reads at kA kB
  rw [← ext_head (p := p) (q := q) (c := 42)] at kA
  rw [← ext_tail (p := p) (q := q) (c := 42)] at kB
  have hlt : p.length < (toB (p ++ 42 :: q)).size := by rw [toB_size]; simp
  have hsz : (toB (p ++ 42 :: q)).size ≤ 1000 := by rw [toB_size]; exact hl
  have he : ((toB (p ++ 42 :: q)).toList == []) = false := by rw [toB_toList]; simp
  have hm1 : ((m + 1 : Nat) : Int) = (m : Int) + 1 := by omega
  rw [hm1]
  have hmz : ((m : Int) + 1 == 0) = false := by simp; omega
  have HI : Hid (∀ e, G .sum (p ++ 42 :: q) e ↔ ∃ x y, e = E.mul x y ∧ G .sum p x ∧ G .sum q y) := hiff
  clear hiff hp hq hl hm1 hn
  have h43 : (((42 : UInt8).toNat : Nat) : Int) = 42 := rfl
  rw [h43] at kL
  clear h43
  generalize toB (p ++ 42 :: q) = S at *
  generalize p.length = P at *
  have hP0 : (0 : Int) ≤ (P : Int) := by omega
  have hP1 : ¬ (P : Int) < 0 := by omega
  go_enter Tryz.func52, Tryz.ntmps52
  go_wp2_with (first
    | (go_at_call 69; (with_reducible refine (kL _).mono ?_); rintro e w1 ⟨rfl, hw⟩; subst w1)
    | (go_at_call 69; (with_reducible refine (kN _).mono ?_); rintro e w1 ⟨rfl, hw⟩; subst w1)
    | (go_at_call 52; (with_reducible refine (kA _).mono ?_); rintro e w2 ⟨⟨k1, t1, m1, a1, n1, c1, q1, rfl, hR1⟩, os2, d2, rfl⟩; cases q1)
    | (go_at_call 52; (with_reducible refine (kB _).mono ?_); rintro e w3 ⟨⟨k2, t2, m2, a2, n2, c2, q2, rfl, hR2⟩, os3, d3, rfl⟩))
  · refine bodyPost_ret (v := .tuple #[.agg #[.int .i64 4, .string ⟨#[]⟩, .int .i64 0, .slice (some ⟨W.heap.size + os2.size + os3.size + 1 + 1 + 1, 0, none⟩) 2 2], .bool false]) (by simp [results, Tryz.results52, go_sem]) rfl ⟨⟨_, _, _, _, _, _, _, rfl, ?_⟩, by repeat (first | with_reducible exact Adds.refl _ | with_reducible refine Adds.alloc ?_ _ | with_reducible refine Adds.more ?_ _ _ | with_reducible refine Adds.drew ?_ | with_reducible refine Adds.drewN ?_ _)⟩
    refine RT.no (fun e he => ?_)
    obtain ⟨x, y, rfl, g1, g2⟩ := (HI.out e).1 he
    exact hR1.out.2 rfl x g1
  · refine bodyPost_ret (v := .tuple #[.agg #[.int .i64 4, .string ⟨#[]⟩, .int .i64 0, .slice (some ⟨W.heap.size + os2.size + os3.size + 1 + 1 + 1, 0, none⟩) 2 2], .bool q2]) (by simp [results, Tryz.results52, go_sem]) rfl ⟨⟨_, _, _, _, _, _, _, rfl, ?_⟩, by repeat (first | with_reducible exact Adds.refl _ | with_reducible refine Adds.alloc ?_ _ | with_reducible refine Adds.more ?_ _ _ | with_reducible refine Adds.drew ?_ | with_reducible refine Adds.drewN ?_ _)⟩
    exact rt_pair E.mul (fun x y => rfl) HI.out hR1.out hR2.out (by simp [size_more]; omega)

end Go.Proofs.YtiacnmcdfpmcfaaGreatDoor

namespace Go.Proofs.YtiacnmcdfpmcfaaGreatDoor
open Go.RowKit
attribute [local go_sem] cell?_more frozen?_more setCell_more size_more tape_more drew_more drewN_more more_drew more_drewN one_out plus_out plus_end lt_one le_p2 le_p3 le_p4 le_p5 le_p6 le_p7 le_p8 le_p9 le_p10 le_p11 le_p12 le_p13 le_p14 le_p15 le_p16 le_p17 le_p18 le_p19 le_p20 le_p21 le_p22 le_p23 le_p24 le_q0 le_q1 lt_q1 le_q2 lt_q2 le_q3 lt_q3 le_q4 lt_q4 le_q5 lt_q5 le_q6 lt_q6 le_q7 lt_q7 le_q8 lt_q8 le_q9 lt_q9 le_q10 lt_q10 le_q11 lt_q11 le_q12 lt_q12 le_q13 lt_q13 le_q14 lt_q14 le_q15 lt_q15 le_q16 lt_q16 le_q17 lt_q17 le_q18 lt_q18 le_q19 lt_q19 le_q20 lt_q20 le_q21 lt_q21 le_q22 lt_q22 le_q23 lt_q23 le_q24 lt_q24


theorem ext_in {a : List UInt8} : (toB (40 :: (a ++ [41]))).extract 1 ((toB (40 :: (a ++ [41]))).size - 1) = toB a := toList_inj (by rw [extract_L, toB_toList, toB_toList, toB_size]; simp)

theorem rt_same {W : World} {o o' : Obj} {os2 : Array Obj} {d2 : Nat} {l p : List UInt8} {k1 m1 : Int} {t1 : ByteArray} {s1 : Value} {q : Bool}
    (hI : ∀ e, G .sum l e ↔ G .sum p e) (h1 : RT (W.alloc o).heap.size p k1 t1 m1 s1 q (more (W.alloc o) os2 d2)) :
    RT W.heap.size l k1 t1 m1 s1 q (more (W.alloc o') os2 d2) := by
  have e1 : W.heap.size < (W.alloc o).heap.size := by simp
  have h1' := (h1.but1 ((But1.box W o o').more os2 d2) e1).low (Nat.le_of_lt e1)
  exact ⟨fun e => by obtain ⟨x, D, g, h⟩ := h1'.1 e; exact ⟨x, D, (hI x).2 g, h⟩, fun e x g => h1'.2 e x ((hI x).1 g)⟩

set_option maxHeartbeats 4000000 in
set_option maxRecDepth 20000 in
theorem reads_paren {m : Nat} {a : List UInt8} (hm : m ≤ 300) (hl : (40 :: (a ++ [41])).length ≤ 1000) (h1 : noTop 43 0 (40 :: (a ++ [41]))) (h2 : noTop 42 0 (40 :: (a ++ [41]))) (hw : wholeL (40 :: (a ++ [41])) = true) (kA : Reads m a) : Reads (m + 1) (40 :: (a ++ [41])) := by
  intro W
  have HI : Hid (∀ e, G .sum (40 :: (a ++ [41])) e ↔ G .sum a e) := fun e => G_paren h1 h2
  have kN := fun W => rLast_any (toB (40 :: (a ++ [41]))) (by rw [toB_size]; exact hl) 43 W
  rw [toB_toList, lastL_none (by decide) h1] at kN
  have kM := fun W => rLast_any (toB (40 :: (a ++ [41]))) (by rw [toB_size]; exact hl) 42 W
  rw [toB_toList, lastL_none (by decide) h2] at kM
  have hn43 : (((43 : UInt8).toNat : Nat) : Int) = 43 := rfl
  have hn42 : (((42 : UInt8).toNat : Nat) : Int) = 42 := rfl
  rw [hn43] at kN
  rw [hn42] at kM
  clear hn43 hn42
  have kW := fun W => rWhole_any (toB (40 :: (a ++ [41]))) (by rw [toB_size]; exact hl) W
  rw [toB_toList, hw] at kW
  have hsz : (toB (40 :: (a ++ [41]))).size ≤ 1000 := by rw [toB_size]; exact hl
  have he : ((toB (40 :: (a ++ [41]))).toList == []) = false := by rw [toB_toList]; rfl
  have hm1 : ((m + 1 : Nat) : Int) = (m : Int) + 1 := by omega
  rw [hm1]
  have hmz : ((m : Int) + 1 == 0) = false := by simp; omega

  unfold Reads at kA
  rw [← ext_in (a := a)] at kA
  have h2s : 2 ≤ (toB (40 :: (a ++ [41]))).size := by rw [toB_size]; simp
  clear h1 h2 hl hm1 hw
  generalize toB (40 :: (a ++ [41])) = S at *
  go_enter Tryz.func52, Tryz.ntmps52
  go_wp2_with (first
    | (go_at_call 69; (with_reducible refine (kN _).mono ?_); rintro e w1 ⟨rfl, hw⟩; subst w1)
    | (go_at_call 69; (with_reducible refine (kM _).mono ?_); rintro e w1 ⟨rfl, hw⟩; subst w1)
    | (go_at_call 70; (with_reducible refine (kW _).mono ?_); rintro e w1 ⟨rfl, hw⟩; subst w1)
    | (go_at_call 52; (with_reducible refine (kA _).mono ?_); rintro e w2 ⟨⟨k1, t1, m1, a1, n1, c1, q1, rfl, hR1⟩, os2, d2, rfl⟩))
  refine bodyPost_ret (v := .tuple #[.agg #[.int .i64 k1, .string t1, .int .i64 m1, .slice a1 n1 c1], .bool q1]) (by simp [results, Tryz.results52, go_sem]) rfl ⟨⟨_, _, _, _, _, _, _, rfl, ?_⟩, by repeat (first | with_reducible exact Adds.refl _ | with_reducible refine Adds.alloc ?_ _ | with_reducible refine Adds.more ?_ _ _ | with_reducible refine Adds.drew ?_ | with_reducible refine Adds.drewN ?_ _)⟩
  exact rt_same HI.out hR1.out

end Go.Proofs.YtiacnmcdfpmcfaaGreatDoor
