/-
  The reference's Digits, by a contract.
  What the reference reads of a text.
  The reference's read of a text with a '+'.
  The reference's read of a text with a '*', and no '+'.
-/
import Derived.Test.YtiacnmcdfpmcfaaGreatDoorGref
import Derived.Test.YtiacnmcdfpmcfaaGreatDoorNode
import Derived.Test.YtiacnmcdfpmcfaaGreatDoorRlast
import Derived.Test.YtiacnmcdfpmcfaaGreatDoorRdep
import Derived.Test.YtiacnmcdfpmcfaaGreatDoorRdr2
import Derived.Test.YtiacnmcdfpmcfaaGreatDoorEvals
namespace Go.Proofs.YtiacnmcdfpmcfaaGreatDoor
open Go.RowKit
attribute [local go_sem] cell?_more frozen?_more setCell_more size_more tape_more drew_more drewN_more more_drew more_drewN one_out plus_out plus_end lt_one le_p2 le_p3 le_p4 le_p5 le_p6 le_p7 le_p8 le_p9 le_p10 le_p11 le_p12 le_p13 le_p14 le_p15 le_p16 le_p17 le_p18 le_p19 le_p20 le_p21 le_p22 le_p23 le_p24 le_q0 le_q1 lt_q1 le_q2 lt_q2 le_q3 lt_q3 le_q4 lt_q4 le_q5 lt_q5 le_q6 lt_q6 le_q7 lt_q7 le_q8 lt_q8 le_q9 lt_q9 le_q10 lt_q10 le_q11 lt_q11 le_q12 lt_q12 le_q13 lt_q13 le_q14 lt_q14 le_q15 lt_q15 le_q16 lt_q16 le_q17 lt_q17 le_q18 lt_q18 le_q19 lt_q19 le_q20 lt_q20 le_q21 lt_q21 le_q22 lt_q22 le_q23 lt_q23 le_q24 lt_q24


theorem dig_cut {n : Nat} (h : n < 10) : (⟨#[48, 49, 50, 51, 52, 53, 54, 55, 56, 57]⟩ : ByteArray).extract n (n + 1) = toB [UInt8.ofNat (48 + n)] := by
  have : n = 0 ∨ n = 1 ∨ n = 2 ∨ n = 3 ∨ n = 4 ∨ n = 5 ∨ n = 6 ∨ n = 7 ∨ n = 8 ∨ n = 9 := by omega
  rcases this with rfl | rfl | rfl | rfl | rfl | rfl | rfl | rfl | rfl | rfl <;> rfl

theorem toB_app (a b : List UInt8) : toB a ++ toB b = toB (a ++ b) := toList_inj (by rw [ByteArray.toList_eq, ByteArray.toList_eq, ByteArray.data_append]; simp [toB])

set_option maxHeartbeats 2000000 in
theorem rDigits_one {n : Nat} (h : n < 10) (w : World) : Calls Tryz.prog 73 #[.int .i64 (n : Int)] w fun e w' => e = .returned (.string (toB (digL n))) ∧ Adds w w' := by
  have hc := dig_cut h
  have h' : (n : Int) < 10 := by omega
  rw [digL_one h]
  generalize toB [UInt8.ofNat (48 + n)] = r at *
  go_enter Tryz.func73, Tryz.ntmps73
  go_wp2
  go_ret
  exact ⟨by rw [← hc]; rfl, by repeat (first | with_reducible exact Adds.refl _ | with_reducible refine Adds.alloc ?_ _ | with_reducible refine Adds.more ?_ _ _ | with_reducible refine Adds.drew ?_ | with_reducible refine Adds.drewN ?_ _)⟩

set_option maxHeartbeats 2000000 in
set_option maxRecDepth 20000 in
theorem rDigits_any : ∀ (k n : Nat), n < 10 ^ (k + 1) → k ≤ 16 → ∀ w, Calls Tryz.prog 73 #[.int .i64 (n : Int)] w fun e w' => e = .returned (.string (toB (digL n))) ∧ Adds w w' := by
  intro k
  induction k with
  | zero => intro n hn _ w; exact rDigits_one (by simpa using hn) w
  | succ k ih =>
    intro n hn hk w
    by_cases h : n < 10
    · exact rDigits_one h w
    · have kA := ih (n / 10) (by rw [Nat.pow_succ] at hn; omega) (by omega)
      have kB := fun W => rDigits_one (n := n % 10) (Nat.mod_lt _ (by decide)) W
      rw [digL_one (Nat.mod_lt _ (by decide))] at kB
      rw [digL_more h, ← toB_app]
      have h' : ¬ (n : Int) < 10 := by omega
      have hb : (n : Int) < 9223372036854775807 := by
        have h1 : 10 ^ (k + 1 + 1) ≤ 10 ^ 17 := Nat.pow_le_pow_right (by decide) (by omega)
        have h2 : (10 : Nat) ^ 17 = 100000000000000000 := by decide
        omega
      rw [show ((n / 10 : Nat) : Int) = (n : Int) / 10 by omega] at kA
      rw [show ((n % 10 : Nat) : Int) = (n : Int) % 10 by omega] at kB
      have hsum : ¬ 9223372036854775807 < (toB (digL (n / 10))).size + (toB [UInt8.ofNat (48 + n % 10)]).size := by
        rw [toB_size, toB_size]
        have h1 := digL_len (k + 1) (n / 10) (by rw [Nat.pow_succ] at hn; omega)
        simp only [List.length_cons, List.length_nil]
        omega
      generalize toB (digL (n / 10)) = r1 at *
      generalize toB [UInt8.ofNat (48 + n % 10)] = r2 at *
      clear hn ih
      go_enter Tryz.func73, Tryz.ntmps73
      go_wp2_with fail
      refine (kA _).mono ?_
      rintro e w1 ⟨rfl, os1, n1, rfl⟩
      clear kA hb
      go_wp2_with fail
      refine (kB _).mono ?_
      rintro e w2 ⟨rfl, os2, n2, rfl⟩
      clear kB
      go_wp2
      go_ret
      exact ⟨rfl, by repeat (first | with_reducible exact Adds.refl _ | with_reducible refine Adds.alloc ?_ _ | with_reducible refine Adds.more ?_ _ _ | with_reducible refine Adds.drew ?_ | with_reducible refine Adds.drewN ?_ _)⟩

end Go.Proofs.YtiacnmcdfpmcfaaGreatDoor

namespace Go.Proofs.YtiacnmcdfpmcfaaGreatDoor
open Go.RowKit
attribute [local go_sem] cell?_more frozen?_more setCell_more size_more tape_more drew_more drewN_more more_drew more_drewN one_out plus_out plus_end lt_one le_p2 le_p3 le_p4 le_p5 le_p6 le_p7 le_p8 le_p9 le_p10 le_p11 le_p12 le_p13 le_p14 le_p15 le_p16 le_p17 le_p18 le_p19 le_p20 le_p21 le_p22 le_p23 le_p24 le_q0 le_q1 lt_q1 le_q2 lt_q2 le_q3 lt_q3 le_q4 lt_q4 le_q5 lt_q5 le_q6 lt_q6 le_q7 lt_q7 le_q8 lt_q8 le_q9 lt_q9 le_q10 lt_q10 le_q11 lt_q11 le_q12 lt_q12 le_q13 lt_q13 le_q14 lt_q14 le_q15 lt_q15 le_q16 lt_q16 le_q17 lt_q17 le_q18 lt_q18 le_q19 lt_q19 le_q20 lt_q20 le_q21 lt_q21 le_q22 lt_q22 le_q23 lt_q23 le_q24 lt_q24


/-- But for one block nothing has turned. -/
structure But1 (k : Nat) (w w' : World) : Prop where
  size : w'.heap.size = w.heap.size
  block : ∀ b, b ≠ k → w'.heap[b]? = w.heap[b]?

theorem But1.box (w : World) (o o' : Obj) : But1 w.heap.size (w.alloc o) (w.alloc o') := by
  refine ⟨by simp, fun b hb => ?_⟩
  show (w.heap.push o')[b]? = (w.heap.push o)[b]?
  rw [Array.getElem?_push, Array.getElem?_push, if_neg hb, if_neg hb]
theorem But1.more {k : Nat} {w w' : World} (h : But1 k w w') (os : Array Obj) (n : Nat) : But1 k (more w os n) (more w' os n) := by
  refine ⟨by simp [size_more, h.size], fun b hb => ?_⟩
  show (w'.heap ++ os)[b]? = (w.heap ++ os)[b]?
  rw [Array.getElem?_append, Array.getElem?_append, h.size]
  split
  · exact h.block b hb
  · rfl
theorem But1.alloc {k : Nat} {w w' : World} (h : But1 k w w') (o : Obj) : But1 k (w.alloc o) (w'.alloc o) := by
  refine ⟨by simp [h.size], fun b hb => ?_⟩
  show (w'.heap.push o)[b]? = (w.heap.push o)[b]?
  rw [Array.getElem?_push, Array.getElem?_push, h.size]
  split
  · rfl
  · exact h.block b hb

theorem Tn.but1 {B k d : Nat} {w w' : World} {s : Value} {ts : List N} (h : Tn (fun b => B ≤ b) d w s ts) (hb : But1 k w w') (hk : k < B) : Tn (fun b => B ≤ b) d w' s ts :=
  h.frame (by rw [hb.size]; exact Nat.le_refl _) (fun b hB _ => ⟨hb.block b (fun e => by subst e; exact absurd hB (by omega)), hB⟩)

/-- What the reference reads of a text. -/
def RT (B : Nat) (l : List UInt8) (k : Int) (t : ByteArray) (m : Int) (s : Value) (q : Bool) (w' : World) : Prop :=
  (q = true → ∃ x D, G .sum l x ∧ x.toN.kind = k ∧ x.toN.text = t ∧ x.toN.num = m ∧ Tn (fun b => B ≤ b) D w' s x.toN.args) ∧ (q = false → ∀ x, ¬ G .sum l x)

/-- The reference's read told of a text. -/
def Reads (m : Nat) (l : List UInt8) : Prop := ∀ W, Calls Tryz.prog 52 #[.string (toB l), .int .i64 (m : Int)] W fun e w' =>
  (∃ k t mm ao n c q, e = .returned (.tuple #[.agg #[.int .i64 k, .string t, .int .i64 mm, .slice ao n c], .bool q]) ∧ Hid (RT W.heap.size l k t mm (.slice ao n c) q w')) ∧ Adds W w'

theorem RT.adds {B : Nat} {l : List UInt8} {k : Int} {t : ByteArray} {m : Int} {s : Value} {q : Bool} {w w' : World} (h : RT B l k t m s q w) (hA : Adds w w') : RT B l k t m s q w' :=
  ⟨fun e => by obtain ⟨x, D, h1, h2, h3, h4, h5⟩ := h.1 e; exact ⟨x, D, h1, h2, h3, h4, h5.adds hA⟩, h.2⟩
theorem RT.but1 {B b : Nat} {l : List UInt8} {k : Int} {t : ByteArray} {m : Int} {s : Value} {q : Bool} {w w' : World} (h : RT B l k t m s q w) (hb : But1 b w w') (hB : b < B) : RT B l k t m s q w' :=
  ⟨fun e => by obtain ⟨x, D, h1, h2, h3, h4, h5⟩ := h.1 e; exact ⟨x, D, h1, h2, h3, h4, h5.but1 hb hB⟩, h.2⟩
theorem RT.low {B B' : Nat} {l : List UInt8} {k : Int} {t : ByteArray} {m : Int} {s : Value} {q : Bool} {w : World} (h : RT B l k t m s q w) (hB : B' ≤ B) : RT B' l k t m s q w :=
  ⟨fun e => by obtain ⟨x, D, h1, h2, h3, h4, h5⟩ := h.1 e; exact ⟨x, D, h1, h2, h3, h4, h5.weak (fun b hb _ => Nat.le_trans hB hb)⟩, h.2⟩

theorem RT.no {B : Nat} {l : List UInt8} {k : Int} {t : ByteArray} {m : Int} {s : Value} {w : World} (h : ∀ x, ¬ G .sum l x) : RT B l k t m s false w := ⟨fun e => (by cases e), fun _ => h⟩

theorem G.small {l : List UInt8} {x : E} (h : G .sum l x) : x.toN.text.size ≤ 9223372036854775807 := ok_size h.ok

/-- A list of two that were read. -/
theorem rt_two {B : Nat} {p q : List UInt8} {k1 k2 m1 m2 : Int} {t1 t2 : ByteArray} {s1 s2 : Value} {W X : World} {g : Nat} (h1 : RT B p k1 t1 m1 s1 true W) (h2 : RT B q k2 t2 m2 s2 true W) (hA : Adds W X) (hg : g = X.heap.size) (hB : B ≤ g) :
    ∃ x y D, G .sum p x ∧ G .sum q y ∧ Tn (fun b => B ≤ b) D (X.alloc (.cells #[.int .i64 k1, .string t1, .int .i64 m1, s1, .int .i64 k2, .string t2, .int .i64 m2, s2] 81)) (.slice (some ⟨g, 0, none⟩) 2 2) [x.toN, y.toN] := by
  obtain ⟨x, D1, g1, rfl, rfl, rfl, T1⟩ := h1.1 rfl
  obtain ⟨y, D2, g2, rfl, rfl, rfl, T2⟩ := h2.1 rfl
  exact ⟨x, y, max D1 D2 + 1, g1, g2, two_end (T1.up (Nat.le_max_left _ _)) (T2.up (Nat.le_max_right _ _)) hA hg hB g1.small g2.small⟩

theorem rt_one {B : Nat} {p : List UInt8} {k1 m1 : Int} {t1 : ByteArray} {s1 : Value} {W X : World} {g : Nat} (h1 : RT B p k1 t1 m1 s1 true W) (hA : Adds W X) (hg : g = X.heap.size) (hB : B ≤ g) :
    ∃ x D, G .sum p x ∧ Tn (fun b => B ≤ b) D (X.alloc (.cells #[.int .i64 k1, .string t1, .int .i64 m1, s1] 81)) (.slice (some ⟨g, 0, none⟩) 1 1) [x.toN] := by
  obtain ⟨x, D1, g1, rfl, rfl, rfl, T1⟩ := h1.1 rfl
  exact ⟨x, D1 + 1, g1, one_end T1 hA hg hB g1.small⟩

/-- Of a sum or a product: the two behind each other, and the box of the answer set anew. -/
theorem rt_pair {W : World} {o o' : Obj} {os2 os3 : Array Obj} {d2 d3 : Nat} {l p q : List UInt8} {oa ob : Obj} {k1 k2 m1 m2 : Int} {t1 t2 : ByteArray} {s1 s2 : Value} {q2 : Bool} {g : Nat} {kd : Int} (mk : E → E → E) (hmk : ∀ x y, (mk x y).toN = .mk kd ⟨#[]⟩ 0 [x.toN, y.toN])
    (hI : ∀ e, G .sum l e ↔ ∃ x y, e = mk x y ∧ G .sum p x ∧ G .sum q y)
    (h1 : RT (W.alloc o).heap.size p k1 t1 m1 s1 true (more (W.alloc o) os2 d2)) (h2 : RT ((more (W.alloc o) os2 d2).alloc oa).heap.size q k2 t2 m2 s2 q2 (more ((more (W.alloc o) os2 d2).alloc oa) os3 d3)) (hg : g = ((more ((more (W.alloc o) os2 d2).alloc oa) os3 d3).alloc ob).heap.size) :
    RT W.heap.size l kd ⟨#[]⟩ 0 (.slice (some ⟨g, 0, none⟩) 2 2) q2 (((more ((more (W.alloc o') os2 d2).alloc oa) os3 d3).alloc ob).alloc (.cells #[.int .i64 k1, .string t1, .int .i64 m1, s1, .int .i64 k2, .string t2, .int .i64 m2, s2] 81)) := by
  have hb := ((But1.box W o o').more os2 d2)
  have hb3 := (hb.alloc oa).more os3 d3
  have e1 : W.heap.size < (W.alloc o).heap.size := by simp
  have e2 : W.heap.size < ((more (W.alloc o) os2 d2).alloc oa).heap.size := by simp [size_more]; omega
  have h1' := ((h1.but1 hb e1).adds ((((Adds.refl _).alloc oa).more os3 d3))).low (Nat.le_of_lt e1)
  have h2' := (h2.but1 hb3 e2).low (Nat.le_of_lt e2)
  cases q2 with
  | true =>
    obtain ⟨x, y, D, g1, g2, T⟩ := rt_two (X := (more ((more (W.alloc o') os2 d2).alloc oa) os3 d3).alloc ob) (g := g) h1' h2' ((Adds.refl _).alloc ob) (by rw [hg]; simp [size_more]) (by rw [hg]; simp [size_more]; omega)
    refine ⟨fun _ => ⟨mk x y, D, (hI _).2 ⟨x, y, rfl, g1, g2⟩, ?_⟩, fun h => by cases h⟩
    rw [hmk]
    exact ⟨rfl, rfl, rfl, T⟩
  | false =>
    refine RT.no (fun e he => ?_)
    obtain ⟨x, y, rfl, g1, g2⟩ := (hI e).1 he
    exact h2.2 rfl y g2

theorem ext_head {p q : List UInt8} {c : UInt8} : (toB (p ++ c :: q)).extract 0 p.length = toB p := toList_inj (by rw [extract_L, toB_toList, toB_toList]; simp)
theorem drop_mid {p q : List UInt8} {c : UInt8} : (p ++ c :: q).drop (p.length + 1) = q := by
  rw [show p ++ c :: q = (p ++ [c]) ++ q by simp, show p.length + 1 = (p ++ [c]).length by simp]
  exact List.drop_left
theorem ext_tail {p q : List UInt8} {c : UInt8} : (toB (p ++ c :: q)).extract (p.length + 1) (toB (p ++ c :: q)).size = toB q := toList_inj (by rw [extract_L, toB_toList, toB_toList, toB_size, List.take_length, drop_mid])

end Go.Proofs.YtiacnmcdfpmcfaaGreatDoor

namespace Go.Proofs.YtiacnmcdfpmcfaaGreatDoor
open Go.RowKit
attribute [local go_sem] cell?_more frozen?_more setCell_more size_more tape_more drew_more drewN_more more_drew more_drewN one_out plus_out plus_end lt_one le_p2 le_p3 le_p4 le_p5 le_p6 le_p7 le_p8 le_p9 le_p10 le_p11 le_p12 le_p13 le_p14 le_p15 le_p16 le_p17 le_p18 le_p19 le_p20 le_p21 le_p22 le_p23 le_p24 le_q0 le_q1 lt_q1 le_q2 lt_q2 le_q3 lt_q3 le_q4 lt_q4 le_q5 lt_q5 le_q6 lt_q6 le_q7 lt_q7 le_q8 lt_q8 le_q9 lt_q9 le_q10 lt_q10 le_q11 lt_q11 le_q12 lt_q12 le_q13 lt_q13 le_q14 lt_q14 le_q15 lt_q15 le_q16 lt_q16 le_q17 lt_q17 le_q18 lt_q18 le_q19 lt_q19 le_q20 lt_q20 le_q21 lt_q21 le_q22 lt_q22 le_q23 lt_q23 le_q24 lt_q24


set_option maxHeartbeats 4000000 in
set_option maxRecDepth 20000 in
theorem reads_plus {m : Nat} {p q : List UInt8} (hm : m ≤ 300) (hl : (p ++ 43 :: q).length ≤ 1000) (hp : op p = 0) (hq : noTop 43 0 q) (kA : Reads m p) (kB : Reads m q) : Reads (m + 1) (p ++ 43 :: q) := by
  intro W
  have hiff := fun e => G_plus (e := e) hp hq
  have kL := fun W => rLast_any (toB (p ++ 43 :: q)) (by rw [toB_size]; exact hl) 43 W
  rw [toB_toList, lastL_some (by decide) hp hq] at kL
  unfold Reads at kA kB
  rw [← ext_head (p := p) (q := q) (c := 43)] at kA
  rw [← ext_tail (p := p) (q := q) (c := 43)] at kB
  have hlt : p.length < (toB (p ++ 43 :: q)).size := by rw [toB_size]; simp
  have hsz : (toB (p ++ 43 :: q)).size ≤ 1000 := by rw [toB_size]; exact hl
  have he : ((toB (p ++ 43 :: q)).toList == []) = false := by rw [toB_toList]; simp
  have hm1 : ((m + 1 : Nat) : Int) = (m : Int) + 1 := by omega
  rw [hm1]
  have hmz : ((m : Int) + 1 == 0) = false := by simp; omega
  have HI : Hid (∀ e, G .sum (p ++ 43 :: q) e ↔ ∃ x y, e = E.sum x y ∧ G .sum p x ∧ G .sum q y) := hiff
  clear hiff hp hq hl hm1
  have h43 : (((43 : UInt8).toNat : Nat) : Int) = 43 := rfl
  rw [h43] at kL
  clear h43
  generalize toB (p ++ 43 :: q) = S at *
  generalize p.length = P at *
  have hP0 : (0 : Int) ≤ (P : Int) := by omega
  have hP1 : ¬ (P : Int) < 0 := by omega
  go_enter Tryz.func52, Tryz.ntmps52
  go_wp2_with (first
    | (go_at_call 69; (with_reducible refine (kL _).mono ?_); rintro e w1 ⟨rfl, hw⟩; subst w1)
    | (go_at_call 52; (with_reducible refine (kA _).mono ?_); rintro e w2 ⟨⟨k1, t1, m1, a1, n1, c1, q1, rfl, hR1⟩, os2, d2, rfl⟩; cases q1)
    | (go_at_call 52; (with_reducible refine (kB _).mono ?_); rintro e w3 ⟨⟨k2, t2, m2, a2, n2, c2, q2, rfl, hR2⟩, os3, d3, rfl⟩))
  · refine bodyPost_ret (v := .tuple #[.agg #[.int .i64 3, .string ⟨#[]⟩, .int .i64 0, .slice (some ⟨W.heap.size + os2.size + os3.size + 1 + 1 + 1, 0, none⟩) 2 2], .bool false]) (by simp [results, Tryz.results52, go_sem]) rfl ⟨⟨_, _, _, _, _, _, _, rfl, ?_⟩, by repeat (first | with_reducible exact Adds.refl _ | with_reducible refine Adds.alloc ?_ _ | with_reducible refine Adds.more ?_ _ _ | with_reducible refine Adds.drew ?_ | with_reducible refine Adds.drewN ?_ _)⟩
    refine RT.no (fun e he => ?_)
    obtain ⟨x, y, rfl, g1, g2⟩ := (HI.out e).1 he
    exact hR1.out.2 rfl x g1
  · refine bodyPost_ret (v := .tuple #[.agg #[.int .i64 3, .string ⟨#[]⟩, .int .i64 0, .slice (some ⟨W.heap.size + os2.size + os3.size + 1 + 1 + 1, 0, none⟩) 2 2], .bool q2]) (by simp [results, Tryz.results52, go_sem]) rfl ⟨⟨_, _, _, _, _, _, _, rfl, ?_⟩, by repeat (first | with_reducible exact Adds.refl _ | with_reducible refine Adds.alloc ?_ _ | with_reducible refine Adds.more ?_ _ _ | with_reducible refine Adds.drew ?_ | with_reducible refine Adds.drewN ?_ _)⟩
    exact rt_pair E.sum (fun x y => rfl) HI.out hR1.out hR2.out (by simp [size_more]; omega)

end Go.Proofs.YtiacnmcdfpmcfaaGreatDoor

namespace Go.Proofs.YtiacnmcdfpmcfaaGreatDoor
open Go.RowKit
attribute [local go_sem] cell?_more frozen?_more setCell_more size_more tape_more drew_more drewN_more more_drew more_drewN one_out plus_out plus_end lt_one le_p2 le_p3 le_p4 le_p5 le_p6 le_p7 le_p8 le_p9 le_p10 le_p11 le_p12 le_p13 le_p14 le_p15 le_p16 le_p17 le_p18 le_p19 le_p20 le_p21 le_p22 le_p23 le_p24 le_q0 le_q1 lt_q1 le_q2 lt_q2 le_q3 lt_q3 le_q4 lt_q4 le_q5 lt_q5 le_q6 lt_q6 le_q7 lt_q7 le_q8 lt_q8 le_q9 lt_q9 le_q10 lt_q10 le_q11 lt_q11 le_q12 lt_q12 le_q13 lt_q13 le_q14 lt_q14 le_q15 lt_q15 le_q16 lt_q16 le_q17 lt_q17 le_q18 lt_q18 le_q19 lt_q19 le_q20 lt_q20 le_q21 lt_q21 le_q22 lt_q22 le_q23 lt_q23 le_q24 lt_q24


set_option maxHeartbeats 4000000 in
set_option maxRecDepth 20000 in
theorem reads_star {m : Nat} {p q : List UInt8} (hm : m ≤ 300) (hl : (p ++ 42 :: q).length ≤ 1000) (hn : noTop 43 0 (p ++ 42 :: q)) (hp : op p = 0) (hq : noTop 42 0 q) (kA : Reads m p) (kB : Reads m q) : Reads (m + 1) (p ++ 42 :: q) := by
  intro W
  have hiff := fun e => G_star (e := e) hn hp hq
  have kN := fun W => rLast_any (toB (p ++ 42 :: q)) (by rw [toB_size]; exact hl) 43 W
  rw [toB_toList, lastL_none (by decide) hn] at kN
  have hn43 : (((43 : UInt8).toNat : Nat) : Int) = 43 := rfl
  rw [hn43] at kN
  clear hn43
  have kL := fun W => rLast_any (toB (p ++ 42 :: q)) (by rw [toB_size]; exact hl) 42 W
  rw [toB_toList, lastL_some (by decide) hp hq] at kL
  unfold Reads at kA kB
  rw [← ext_head (p := p) (q := q) (c := 42)] at kA
  rw [← ext_tail (p := p) (q := q) (c := 42)] at kB
  have hlt : p.length < (toB (p ++ 42 :: q)).size := by rw [toB_size]; simp
  have hsz : (toB (p ++ 42 :: q)).size ≤ 1000 := by rw [toB_size]; exact hl
  have he : ((toB (p ++ 42 :: q)).toList == []) = false := by rw [toB_toList]; simp
  have hm1 : ((m + 1 : Nat) : Int) = (m : Int) + 1 := by omega
  rw [hm1]
  have hmz : ((m : Int) + 1 == 0) = false := by simp; omega
  have HI : Hid (∀ e, G .sum (p ++ 42 :: q) e ↔ ∃ x y, e = E.mul x y ∧ G .sum p x ∧ G .sum q y) := hiff
  clear hiff hp hq hl hm1 hn
  have h43 : (((42 : UInt8).toNat : Nat) : Int) = 42 := rfl
  rw [h43] at kL
  clear h43
  generalize toB (p ++ 42 :: q) = S at *
  generalize p.length = P at *
  have hP0 : (0 : Int) ≤ (P : Int) := by omega
  have hP1 : ¬ (P : Int) < 0 := by omega
  go_enter Tryz.func52, Tryz.ntmps52
  go_wp2_with (first
    | (go_at_call 69; (with_reducible refine (kL _).mono ?_); rintro e w1 ⟨rfl, hw⟩; subst w1)
    | (go_at_call 69; (with_reducible refine (kN _).mono ?_); rintro e w1 ⟨rfl, hw⟩; subst w1)
    | (go_at_call 52; (with_reducible refine (kA _).mono ?_); rintro e w2 ⟨⟨k1, t1, m1, a1, n1, c1, q1, rfl, hR1⟩, os2, d2, rfl⟩; cases q1)
    | (go_at_call 52; (with_reducible refine (kB _).mono ?_); rintro e w3 ⟨⟨k2, t2, m2, a2, n2, c2, q2, rfl, hR2⟩, os3, d3, rfl⟩))
  · refine bodyPost_ret (v := .tuple #[.agg #[.int .i64 4, .string ⟨#[]⟩, .int .i64 0, .slice (some ⟨W.heap.size + os2.size + os3.size + 1 + 1 + 1, 0, none⟩) 2 2], .bool false]) (by simp [results, Tryz.results52, go_sem]) rfl ⟨⟨_, _, _, _, _, _, _, rfl, ?_⟩, by repeat (first | with_reducible exact Adds.refl _ | with_reducible refine Adds.alloc ?_ _ | with_reducible refine Adds.more ?_ _ _ | with_reducible refine Adds.drew ?_ | with_reducible refine Adds.drewN ?_ _)⟩
    refine RT.no (fun e he => ?_)
    obtain ⟨x, y, rfl, g1, g2⟩ := (HI.out e).1 he
    exact hR1.out.2 rfl x g1
  · refine bodyPost_ret (v := .tuple #[.agg #[.int .i64 4, .string ⟨#[]⟩, .int .i64 0, .slice (some ⟨W.heap.size + os2.size + os3.size + 1 + 1 + 1, 0, none⟩) 2 2], .bool q2]) (by simp [results, Tryz.results52, go_sem]) rfl ⟨⟨_, _, _, _, _, _, _, rfl, ?_⟩, by repeat (first | with_reducible exact Adds.refl _ | with_reducible refine Adds.alloc ?_ _ | with_reducible refine Adds.more ?_ _ _ | with_reducible refine Adds.drew ?_ | with_reducible refine Adds.drewN ?_ _)⟩
    exact rt_pair E.mul (fun x y => rfl) HI.out hR1.out hR2.out (by simp [size_more]; omega)

end Go.Proofs.YtiacnmcdfpmcfaaGreatDoor
