/-
  Worlds that a call has added blocks to, and drawn in, and nothing else: 'more w os k'.
  The small functions of package rank by contracts: Num, Text, Point, within; values of package api.
  The functions fits and Check of package rank, and the document's own Check, by contracts.
-/
import Derived.Test.YtiacnmcdfpmcfaaGreatDoorRows
import Derived.WalkKit
import Derived.WalkSpells
import Derived.WalkLawsBesides
import Derived.Deep.QuietTactic
import Derived.BigQuiet
import Derived.Deep.RegionWith
import Derived.Deep.Draws
namespace Go.Proofs.YtiacnmcdfpmcfaaGreatDoor
open Go.RowKit

/-- w with the blocks os behind its heap, k draws made in all. -/
def more (w : World) (os : Array Obj) (k : Nat) : World := { w with heap := w.heap ++ os, drawn := k }

section
variable {w : World}
theorem more_block (os : Array Obj) (k : Nat) {n : Nat} (h : n < w.heap.size) : (more w os k).heap[n]? = w.heap[n]? := by simp [more, Array.getElem?_append, h]
theorem cell?_more (os : Array Obj) (k n i : Nat) (h : n < w.heap.size) : (more w os k).cell? ⟨n, i, none⟩ = w.cell? ⟨n, i, none⟩ := World.cell?_of_block (more_block os k h)
theorem frozen?_more (os : Array Obj) (k n i : Nat) (h : n < w.heap.size) : (more w os k).frozen? ⟨n, i, none⟩ = w.frozen? ⟨n, i, none⟩ := World.frozen?_of_block (more_block os k h)
theorem setCell_more (os : Array Obj) (k n i : Nat) (v : Value) (h : n < w.heap.size) : (more w os k).setCell ⟨n, i, none⟩ v = more (w.setCell ⟨n, i, none⟩ v) os k := by
  unfold World.setCell more
  congr 1
  apply Array.ext_getElem?
  intro j
  simp only [Array.getElem?_modify, Array.getElem?_append, Array.size_modify]
  by_cases hj : j < w.heap.size
  · simp [hj]
  · have : n ≠ j := by omega
    simp [hj, this]
theorem size_more (os : Array Obj) (k : Nat) : (more w os k).heap.size = w.heap.size + os.size := by simp [more]
theorem tape_more (os : Array Obj) (k : Nat) : (more w os k).tape = w.tape := rfl
theorem drew_more (os : Array Obj) (k : Nat) : (more w os k).drew = more w os (k + 1) := rfl
theorem drewN_more (os : Array Obj) (k n : Nat) : (more w os k).drewN n = more w os (k + n) := rfl
theorem more_drew (os : Array Obj) (k : Nat) : more w.drew os k = more w os k := rfl
theorem more_drewN (os : Array Obj) (k n : Nat) : more (w.drewN n) os k = more w os k := rfl
theorem more_more (os os' : Array Obj) (k k' : Nat) : more (more w os k) os' k' = more w (os ++ os') k' := by simp [more, Array.append_assoc]
end

/- For the walk's side conditions: ones behind, and a block that is there stays ahead of the heap's end. -/
theorem one_out (a : Nat) (os : Array Obj) : a + 1 + os.size = a + os.size + 1 := by omega
theorem plus_out (a t : Nat) (os : Array Obj) : a + (os.size + t) = a + os.size + t := by omega
theorem lt_one (a b : Nat) : (a < b + 1) = (a ≤ b) := by simp; omega
theorem le_p2 (a x1 x2 : Nat) : (a ≤ a + x1 + x2) = True := by simp; omega
theorem le_p3 (a x1 x2 x3 : Nat) : (a ≤ a + x1 + x2 + x3) = True := by simp; omega
theorem le_p4 (a x1 x2 x3 x4 : Nat) : (a ≤ a + x1 + x2 + x3 + x4) = True := by simp; omega
theorem le_p5 (a x1 x2 x3 x4 x5 : Nat) : (a ≤ a + x1 + x2 + x3 + x4 + x5) = True := by simp; omega
theorem le_p6 (a x1 x2 x3 x4 x5 x6 : Nat) : (a ≤ a + x1 + x2 + x3 + x4 + x5 + x6) = True := by simp; omega
theorem le_p7 (a x1 x2 x3 x4 x5 x6 x7 : Nat) : (a ≤ a + x1 + x2 + x3 + x4 + x5 + x6 + x7) = True := by simp; omega
theorem le_p8 (a x1 x2 x3 x4 x5 x6 x7 x8 : Nat) : (a ≤ a + x1 + x2 + x3 + x4 + x5 + x6 + x7 + x8) = True := by simp; omega
theorem le_p9 (a x1 x2 x3 x4 x5 x6 x7 x8 x9 : Nat) : (a ≤ a + x1 + x2 + x3 + x4 + x5 + x6 + x7 + x8 + x9) = True := by simp; omega
theorem le_p10 (a x1 x2 x3 x4 x5 x6 x7 x8 x9 y1 : Nat) : (a ≤ a + x1 + x2 + x3 + x4 + x5 + x6 + x7 + x8 + x9 + y1) = True := by simp; omega
theorem le_p11 (a x1 x2 x3 x4 x5 x6 x7 x8 x9 y1 y2 : Nat) : (a ≤ a + x1 + x2 + x3 + x4 + x5 + x6 + x7 + x8 + x9 + y1 + y2) = True := by simp; omega
theorem le_p12 (a x1 x2 x3 x4 x5 x6 x7 x8 x9 y1 y2 y3 : Nat) : (a ≤ a + x1 + x2 + x3 + x4 + x5 + x6 + x7 + x8 + x9 + y1 + y2 + y3) = True := by simp; omega

/-- A call has added blocks and drawn, and nothing else. -/
def Adds (w w' : World) : Prop := ∃ os k, w' = more w os k

theorem Adds.refl (w : World) : Adds w w := ⟨#[], w.drawn, by simp [more]⟩
theorem Adds.alloc {w X : World} (h : Adds w X) (o : Obj) : Adds w (X.alloc o) := by
  obtain ⟨os, k, rfl⟩ := h
  exact ⟨os.push o, k, by simp [more, World.alloc]⟩
theorem Adds.drew {w X : World} (h : Adds w X) : Adds w X.drew := by
  obtain ⟨os, k, rfl⟩ := h
  exact ⟨os, k + 1, rfl⟩
theorem Adds.drewN {w X : World} (h : Adds w X) (n : Nat) : Adds w (X.drewN n) := by
  obtain ⟨os, k, rfl⟩ := h
  exact ⟨os, k + n, drewN_more ..⟩
theorem Adds.more {w X : World} (h : Adds w X) (os : Array Obj) (k : Nat) : Adds w (more X os k) := by
  obtain ⟨os', k', rfl⟩ := h
  exact ⟨_, _, more_more ..⟩
theorem Adds.below {w w' : World} (h : Adds w w') : Below w.heap.size w w' := by
  obtain ⟨os, k, rfl⟩ := h
  exact ⟨rfl, rfl, rfl, by simp [YtiacnmcdfpmcfaaGreatDoor.more], fun n hn => more_block os k hn⟩

theorem more_nil (w : World) : more w #[] w.drawn = w := by simp [more]

/-- The worlds of a region that draws its order, all of whose calls add alone. -/
structure Plus where
  os : Array Obj
  draws : Nat

instance : Nonempty Plus := ⟨⟨#[], 0⟩⟩

def addTo (w : World) (p : Plus) : World := more w p.os p.draws

theorem cell?_addTo {w : World} (p : Plus) (n i : Nat) (h : n < w.heap.size) : (addTo w p).cell? ⟨n, i, none⟩ = w.cell? ⟨n, i, none⟩ := cell?_more _ _ _ _ h

theorem wp_region_adds {P : Program} {id : Nat} {Q : Exit → Act → World → Prop} {a : Act} {w : World} {l : List Oper} (hm : P.follows .mixedOrders = true) (hB : Region.lexB .any l.toArray = true)
    (h : wpQuiet P l.toArray (fun w' => ∃ p : Plus, w' = addTo w p) (fun a' => ∀ w', (∃ p : Plus, w' = addTo w p) → Q .normal a' w') l a) : (Code.region id l.toArray true).wp P Q a w :=
  wp_region_quiet (C := fun w' => ∃ p : Plus, w' = addTo w p) hm hB ⟨⟨#[], w.drawn + 1⟩, by show w.drew = more w #[] (w.drawn + 1); rw [← drew_more, more_nil]⟩ (by simpa using h)

theorem Calls.adds_of {P : Program} {f : FuncId} {args : Array Value} {w : World} {p : Plus} {v : Value}
    (h : Calls P f args (addTo w p) fun e w' => e = .returned v ∧ Adds (addTo w p) w') : Calls P f args (addTo w p) fun e w'' => e = .returned v ∧ ∃ p : Plus, w'' = addTo w p :=
  h.mono fun _ _ ⟨he, os, k, hw⟩ => ⟨he, ⟨p.os ++ os, k⟩, by rw [hw]; exact more_more ..⟩

/-- Nothing below the old heap's end has turned: then it is an adding. -/
theorem Adds.of {w w' : World} (h : Below w.heap.size w w') : Adds w w' := by
  refine ⟨w'.heap.extract w.heap.size w'.heap.size, w'.drawn, ?_⟩
  obtain ⟨heap, tape, drawn, os, output⟩ := w
  obtain ⟨heap', tape', drawn', os', output'⟩ := w'
  obtain ⟨h1, h2, h3, h4, h5⟩ := h
  simp only at h1 h2 h3 h4 h5
  subst h1 h2 h3
  simp only [YtiacnmcdfpmcfaaGreatDoor.more, World.mk.injEq, and_true]
  apply Array.ext_getElem?
  intro j
  by_cases hj : j < heap.size
  · simp [Array.getElem?_append, hj, h5 j hj]
  · simp only [Array.getElem?_append, hj, if_false, Array.getElem?_extract]
    by_cases hj' : j < heap'.size
    · have : j - heap.size < min heap'.size heap'.size - heap.size := by simp; omega
      simp only [this, if_true]
      congr 1
      omega
    · rw [Array.getElem?_eq_none (by omega)]
      have : ¬ (j - heap.size < min heap'.size heap'.size - heap.size) := by simp; omega
      simp only [this, if_false]

theorem Adds.trans {a b c : World} (h : Adds a b) (k : Adds b c) : Adds a c := by
  obtain ⟨os, n, rfl⟩ := k
  exact h.more os n

end Go.Proofs.YtiacnmcdfpmcfaaGreatDoor

namespace Go.Proofs.YtiacnmcdfpmcfaaGreatDoor
open Go.RowKit
attribute [local go_sem] cell?_more frozen?_more setCell_more size_more tape_more drew_more drewN_more more_drew more_drewN more_more one_out plus_out lt_one le_p2 le_p3 le_p4 le_p5 le_p6 le_p7 le_p8 le_p9 le_p10 le_p11 le_p12

/-- A value of package api, as the model holds it. -/
structure V where
  kind : Int
  num : Int
  text : ByteArray
  re : Int
  im : Int

def V.val (v : V) : Value := .agg #[.int .i64 v.kind, .int .i64 v.num, .string v.text, .int .i64 v.re, .int .i64 v.im]

def V.mkNum (n : Int) : V := ⟨1, n, ⟨#[]⟩, 0, 0⟩
def V.mkText (s : ByteArray) : V := ⟨2, 0, s, 0, 0⟩
def V.mkPoint (re im : Int) : V := ⟨3, 0, ⟨#[]⟩, re, im⟩

theorem num_any (n : Int) (w : World) :
    Calls Tryz.prog 166 #[.int .i64 n] w fun e w' => e = .returned (.agg #[.int .i64 1, .int .i64 n, .string ⟨#[]⟩, .int .i64 0, .int .i64 0]) ∧ Adds w w' := by
  go_enter Tryz.func166, Tryz.ntmps166
  go_wp2
  exact bodyPost_ret (v := (V.mkNum n).val) (by simp [results, Tryz.results166, go_sem, V.val, V.mkNum]) rfl ⟨rfl, (Adds.refl _).alloc _⟩

theorem text_any (s : ByteArray) (w : World) :
    Calls Tryz.prog 168 #[.string s] w fun e w' => e = .returned (.agg #[.int .i64 2, .int .i64 0, .string s, .int .i64 0, .int .i64 0]) ∧ Adds w w' := by
  go_enter Tryz.func168, Tryz.ntmps168
  go_wp2
  exact bodyPost_ret (v := (V.mkText s).val) (by simp [results, Tryz.results168, go_sem, V.val, V.mkText]) rfl ⟨rfl, (Adds.refl _).alloc _⟩

theorem point_any (x y : Int) (w : World) :
    Calls Tryz.prog 169 #[.int .i64 x, .int .i64 y] w fun e w' => e = .returned (.agg #[.int .i64 3, .int .i64 0, .string ⟨#[]⟩, .int .i64 x, .int .i64 y]) ∧ Adds w w' := by
  go_enter Tryz.func169, Tryz.ntmps169
  go_wp2
  exact bodyPost_ret (v := (V.mkPoint x y).val) (by simp [results, Tryz.results169, go_sem, V.val, V.mkPoint]) rfl ⟨rfl, (Adds.refl _).alloc _⟩

theorem within_any (n m : Int) (hm : 0 ≤ m) (hm' : m ≤ 9223372036854775807) (w : World) :
    Calls Tryz.prog 167 #[.int .i64 n, .int .i64 m] w fun e w' => e = .returned (.bool (decide (-m ≤ n ∧ n ≤ m))) ∧ Adds w w' := by
  go_enter Tryz.func167, Tryz.ntmps167
  go_wp2
  all_goals (go_ret; refine ⟨?_, Adds.refl _⟩)
  · have h : -m ≤ n := by assumption
    simp [h]
  · have h : n < -m := by assumption
    have h' : ¬ -m ≤ n := by omega
    simp [h']

end Go.Proofs.YtiacnmcdfpmcfaaGreatDoor

namespace Go.Proofs.YtiacnmcdfpmcfaaGreatDoor
open Go.RowKit
attribute [local go_sem] cell?_more frozen?_more setCell_more size_more tape_more drew_more drewN_more more_drew more_drewN more_more one_out plus_out lt_one le_p2 le_p3 le_p4 le_p5 le_p6 le_p7 le_p8 le_p9 le_p10 le_p11 le_p12
attribute [local go_sem] cell?_addTo

/-- Two values alike, part by part. -/
def V.eqv (a b : V) : Bool := decide (a.kind = b.kind ∧ a.num = b.num ∧ a.text.toList = b.text.toList ∧ a.re = b.re ∧ a.im = b.im)

theorem toList_inj {a b : ByteArray} (h : a.toList = b.toList) : a = b := by
  rw [ByteArray.toList_eq, ByteArray.toList_eq] at h
  obtain ⟨⟨x⟩⟩ := a
  obtain ⟨⟨y⟩⟩ := b
  simp at h
  rw [h]

theorem V.eqv_iff (a b : V) : a.eqv b = true ↔ a = b := by
  obtain ⟨ak, an, ax, ar, ai⟩ := a
  obtain ⟨bk, bn, bx, br, bi⟩ := b
  simp only [V.eqv, decide_eq_true_eq, V.mk.injEq]
  constructor
  · rintro ⟨h1, h2, h3, h4, h5⟩
    exact ⟨h1, h2, toList_inj h3, h4, h5⟩
  · rintro ⟨h1, h2, h3, h4, h5⟩
    exact ⟨h1, h2, by rw [h3], h4, h5⟩

theorem run_eql34 (ak an : Int) (ax : ByteArray) (ar ai bk bn : Int) (bx : ByteArray) (br bi : Int) (w : World) :
    (binOp .eql 87 (.agg #[.int .i64 ak, .int .i64 an, .string ax, .int .i64 ar, .int .i64 ai]) (.agg #[.int .i64 bk, .int .i64 bn, .string bx, .int .i64 br, .int .i64 bi])).run Tryz.prog w
      = .ok (.bool (V.eqv ⟨ak, an, ax, ar, ai⟩ ⟨bk, bn, bx, br, bi⟩)) w := by
  go_simp
  simp only [V.eqv]
  by_cases h1 : ak = bk <;> by_cases h2 : an = bn <;> by_cases h3 : ax.toList = bx.toList <;> by_cases h4 : ar = br <;> by_cases h5 : ai = bi <;> simp [h1, h2, h3, h4, h5]

theorem run_neq34 (ak an : Int) (ax : ByteArray) (ar ai bk bn : Int) (bx : ByteArray) (br bi : Int) (w : World) :
    (binOp .neq 87 (.agg #[.int .i64 ak, .int .i64 an, .string ax, .int .i64 ar, .int .i64 ai]) (.agg #[.int .i64 bk, .int .i64 bn, .string bx, .int .i64 br, .int .i64 bi])).run Tryz.prog w
      = .ok (.bool (!V.eqv ⟨ak, an, ax, ar, ai⟩ ⟨bk, bn, bx, br, bi⟩)) w := by
  go_simp
  simp only [V.eqv]
  by_cases h1 : ak = bk <;> by_cases h2 : an = bn <;> by_cases h3 : ax.toList = bx.toList <;> by_cases h4 : ar = br <;> by_cases h5 : ai = bi <;> simp [h1, h2, h3, h4, h5]

def V.fits (v : V) : Bool :=
  if v.kind = 1 then decide (v.text.toList = [] ∧ v.re = 0 ∧ v.im = 0 ∧ -9007199254740992 ≤ v.num ∧ v.num ≤ 9007199254740992)
  else if v.kind = 2 then decide (v.num = 0 ∧ v.re = 0 ∧ v.im = 0)
  else if v.kind = 3 then decide (v.num = 0 ∧ v.text.toList = [] ∧ -1048576 ≤ v.re ∧ v.re ≤ 1048576 ∧ -1048576 ≤ v.im ∧ v.im ≤ 1048576)
  else false

set_option maxHeartbeats 1000000 in
theorem fits_num (num : Int) (text : ByteArray) (re im : Int) (w : World) (b : Bool) (hd : V.eqv ⟨1, num, text, re, im⟩ ⟨1, num, ⟨#[]⟩, 0, 0⟩ = b) :
    Calls Tryz.prog 152 #[.agg #[.int .i64 1, .int .i64 num, .string text, .int .i64 re, .int .i64 im]] w fun e w' => e = .returned (.bool (b && decide (-9007199254740992 ≤ num ∧ num ≤ 9007199254740992))) ∧ Adds w w' := by
  have he := run_eql34 1 num text re im 1 num ⟨#[]⟩ 0 0
  rw [hd] at he
  clear hd
  cases b
  all_goals
    go_enter Tryz.func152, Tryz.ntmps152
    go_wp2
    refine wp_region_adds (by kernel_rfl) (by kernel_rfl) ?_
    repeat (go_big_quiet_step ((first | (go_at_call 166; exact Calls.adds_of (num_any _ _)) | (go_at_call 167; exact Calls.adds_of (within_any _ _ (by decide) (by decide) _)))))
    refine wpQuiet_nil ?_
    rintro _ ⟨p, rfl⟩
    unfold addTo
    go_wp2
    go_ret
    refine ⟨by simp, ?_⟩
    repeat (first | with_reducible exact Adds.refl _ | with_reducible refine Adds.alloc ?_ _ | with_reducible refine Adds.more ?_ _ _ | with_reducible refine Adds.drew ?_)

set_option maxHeartbeats 1000000 in
theorem fits_text (num : Int) (text : ByteArray) (re im : Int) (w : World) (b : Bool) (hd : V.eqv ⟨2, num, text, re, im⟩ ⟨2, 0, text, 0, 0⟩ = b) :
    Calls Tryz.prog 152 #[.agg #[.int .i64 2, .int .i64 num, .string text, .int .i64 re, .int .i64 im]] w fun e w' => e = .returned (.bool (b)) ∧ Adds w w' := by
  have he := run_eql34 2 num text re im 2 0 text 0 0
  rw [hd] at he
  clear hd
  skip
  all_goals
    go_enter Tryz.func152, Tryz.ntmps152
    go_wp2
    refine wp_region_adds (by kernel_rfl) (by kernel_rfl) ?_
    repeat (go_big_quiet_step ((first | (go_at_call 168; exact Calls.adds_of (text_any _ _)))))
    refine wpQuiet_nil ?_
    rintro _ ⟨p, rfl⟩
    unfold addTo
    go_wp2
    go_ret
    refine ⟨by simp, ?_⟩
    repeat (first | with_reducible exact Adds.refl _ | with_reducible refine Adds.alloc ?_ _ | with_reducible refine Adds.more ?_ _ _ | with_reducible refine Adds.drew ?_)

set_option maxHeartbeats 1000000 in
theorem fits_point (num : Int) (text : ByteArray) (re im : Int) (w : World) (b : Bool) (hd : V.eqv ⟨3, num, text, re, im⟩ ⟨3, 0, ⟨#[]⟩, re, im⟩ = b) :
    Calls Tryz.prog 152 #[.agg #[.int .i64 3, .int .i64 num, .string text, .int .i64 re, .int .i64 im]] w fun e w' => e = .returned (.bool (b && (decide (-1048576 ≤ re ∧ re ≤ 1048576) && decide (-1048576 ≤ im ∧ im ≤ 1048576)))) ∧ Adds w w' := by
  have he := run_eql34 3 num text re im 3 0 ⟨#[]⟩ re im
  rw [hd] at he
  clear hd
  obtain ⟨c, hc⟩ : ∃ c, decide (-1048576 ≤ re ∧ re ≤ 1048576) = c := ⟨_, rfl⟩
  rw [hc]
  have hw : ∀ w, Calls Tryz.prog 167 #[.int .i64 re, .int .i64 1048576] w fun e w' => e = .returned (.bool c) ∧ Adds w w' := by
    rw [← hc]
    exact within_any re 1048576 (by decide) (by decide)
  clear hc
  cases b <;> cases c
  all_goals
    go_enter Tryz.func152, Tryz.ntmps152
    go_wp2
    refine wp_region_adds (by kernel_rfl) (by kernel_rfl) ?_
    repeat (go_big_quiet_step ((first | (go_at_call 169; exact Calls.adds_of (point_any _ _ _)) | (go_at_call_of 167 (Value.int .i64 re); exact Calls.adds_of (hw _)) | (go_at_call 167; exact Calls.adds_of (within_any _ _ (by decide) (by decide) _)))))
    refine wpQuiet_nil ?_
    rintro _ ⟨p, rfl⟩
    unfold addTo
    go_wp2
    go_ret
    refine ⟨by simp, ?_⟩
    repeat (first | with_reducible exact Adds.refl _ | with_reducible refine Adds.alloc ?_ _ | with_reducible refine Adds.more ?_ _ _ | with_reducible refine Adds.drew ?_)

theorem fits_any (v : V) (w : World) :
    Calls Tryz.prog 152 #[v.val] w fun e w' => e = .returned (.bool v.fits) ∧ Adds w w' := by
  obtain ⟨kind, num, text, re, im⟩ := v
  by_cases h1 : kind = 1
  · subst h1
    refine (fits_num num text re im w _ rfl).mono ?_
    rintro e w' ⟨rfl, hb⟩
    refine ⟨?_, hb⟩
    simp [V.fits, V.eqv, Bool.decide_and, Bool.and_assoc]
  · by_cases h2 : kind = 2
    · subst h2
      refine (fits_text num text re im w _ rfl).mono ?_
      rintro e w' ⟨rfl, hb⟩
      refine ⟨?_, hb⟩
      simp [V.fits, V.eqv, Bool.decide_and]
    · by_cases h3 : kind = 3
      · subst h3
        refine (fits_point num text re im w _ rfl).mono ?_
        rintro e w' ⟨rfl, hb⟩
        refine ⟨?_, hb⟩
        simp [V.fits, V.eqv, Bool.decide_and, Bool.and_assoc]
      · have hf : V.fits ⟨kind, num, text, re, im⟩ = false := by simp [V.fits, h1, h2, h3]
        rw [hf]
        simp only [V.val]
        go_enter Tryz.func152, Tryz.ntmps152
        go_wp2
        go_ret
        exact ⟨rfl, (Adds.refl _).alloc _⟩

def V.check (v : V) : Int := if v.kind = 2 ∧ 256 < v.text.size then 3 else if v.fits then 0 else 1

theorem check_any (v : V) (w : World) :
    Calls Tryz.prog 127 #[v.val] w fun e w' => e = .returned (.int .i64 v.check) ∧ Adds w w' := by
  have hf := fits_any v
  obtain ⟨kind, num, text, re, im⟩ := v
  simp only [V.val] at *
  generalize hF : V.fits ⟨kind, num, text, re, im⟩ = f at hf
  have HF : Hid (V.fits ⟨kind, num, text, re, im⟩ = f) := hF
  clear hF
  by_cases hk : kind = 2
  · subst hk
    cases f
    all_goals
      go_enter Tryz.func127, Tryz.ntmps127
      go_wp2_with (go_at_call 152; refine (hf _).mono ?_; rintro e w' ⟨rfl, os, k, rfl⟩)
    all_goals
      go_ret
      have hF := HF.out
      first
        | exact ⟨by simp [V.check, hF]; omega, ((Adds.refl _).alloc _).more _ _⟩
        | exact ⟨by simp [V.check, hF]; omega, (Adds.refl _).alloc _⟩
  · cases f
    all_goals
      go_enter Tryz.func127, Tryz.ntmps127
      go_wp2_with (go_at_call 152; refine (hf _).mono ?_; rintro e w' ⟨rfl, os, k, rfl⟩)
      go_ret
      have hF := HF.out
      exact ⟨by simp [V.check, hF, hk], ((Adds.refl _).alloc _).more _ _⟩

theorem run_eql32 (a b c d : Int) (w : World) : (binOp .eql 85 (.agg #[.int .i64 a, .int .i64 b]) (.agg #[.int .i64 c, .int .i64 d])).run Tryz.prog w = .ok (.bool (decide (a = c ∧ b = d))) w := by
  go_simp
  by_cases h1 : a = c <;> by_cases h2 : b = d <;> simp [h1, h2]

theorem V.check_num (num : Int) (text : ByteArray) (re im : Int) : V.check ⟨1, num, text, re, im⟩ = if text.toList = [] ∧ (re = 0 ∧ im = 0) ∧ num ≤ 9007199254740992 ∧ -9007199254740992 ≤ num then 0 else 1 := by
  simp only [V.check, V.fits]
  by_cases h1 : text.toList = [] <;> by_cases h2 : re = 0 <;> by_cases h3 : im = 0 <;> by_cases h4 : num ≤ 9007199254740992 <;> by_cases h5 : -9007199254740992 ≤ num <;> simp [h1, h2, h3, h4, h5]

theorem V.check_point (num : Int) (text : ByteArray) (re im : Int) : V.check ⟨3, num, text, re, im⟩ = if num = 0 ∧ text.toList = [] ∧ (re ≤ 1048576 ∧ -1048576 ≤ re) ∧ im ≤ 1048576 ∧ -1048576 ≤ im then 0 else 1 := by
  have h : V.fits ⟨3, num, text, re, im⟩ = decide (num = 0 ∧ text.toList = [] ∧ (re ≤ 1048576 ∧ -1048576 ≤ re) ∧ im ≤ 1048576 ∧ -1048576 ≤ im) := by
    simp only [V.fits]
    simp only [show ((3 : Int) = 1) = False from by simp, show ((3 : Int) = 2) = False from by simp, if_false, if_true]
    apply decide_eq_decide.2
    constructor
    · rintro ⟨h1, h2, h3, h4, h5, h6⟩; exact ⟨h1, h2, ⟨h4, h3⟩, h6, h5⟩
    · rintro ⟨h1, h2, ⟨h4, h3⟩, h6, h5⟩; exact ⟨h1, h2, h3, h4, h5, h6⟩
  simp only [V.check, h, decide_eq_true_eq, show ((3 : Int) = 2) = False from by simp, false_and, if_false]

theorem V.check_text (num : Int) (text : ByteArray) (re im : Int) : V.check ⟨2, num, text, re, im⟩ = if 256 < text.size then 3 else if num = 0 ∧ re = 0 ∧ im = 0 then 0 else 1 := by
  simp only [V.check, V.fits]
  simp only [show ((2 : Int) = 1) = False from by simp, if_false, if_true, true_and, decide_eq_true_eq]

set_option maxHeartbeats 1000000 in
theorem refCheck_num (num : Int) (text : ByteArray) (re im : Int) (w : World) :
    Calls Tryz.prog 40 #[.agg #[.int .i64 1, .int .i64 num, .string text, .int .i64 re, .int .i64 im]] w fun e w' => e = .returned (.int .i64 (V.check ⟨1, num, text, re, im⟩)) ∧ Adds w w' := by
  have he := run_eql32 re im 0 0
  go_enter Tryz.func40, Tryz.ntmps40
  go_wp2
  all_goals
    go_ret
    refine ⟨?_, ((Adds.refl _).alloc _).alloc _⟩
    rw [V.check_num]
    first
      | (rw [if_pos ⟨by assumption, by assumption, by assumption, by assumption⟩]; rfl)
      | (rw [if_neg (by rintro ⟨a, b, c, d⟩; first | omega | exact absurd a (by assumption) | exact absurd b (by assumption))]; rfl)

set_option maxHeartbeats 1000000 in
theorem refCheck_point (num : Int) (text : ByteArray) (re im : Int) (w : World) :
    Calls Tryz.prog 40 #[.agg #[.int .i64 3, .int .i64 num, .string text, .int .i64 re, .int .i64 im]] w fun e w' => e = .returned (.int .i64 (V.check ⟨3, num, text, re, im⟩)) ∧ Adds w w' := by
  go_enter Tryz.func40, Tryz.ntmps40
  go_wp2
  all_goals
    go_ret
    refine ⟨?_, (((Adds.refl _).alloc _).alloc _).alloc _⟩
    rw [V.check_point]
    first
      | (rw [if_pos ⟨by assumption, by assumption, ⟨by assumption, by assumption⟩, by assumption, by assumption⟩]; rfl)
      | (rw [if_neg (by rintro ⟨a, b, ⟨c, d⟩, e, f⟩; first | omega | exact absurd a (by assumption) | exact absurd b (by assumption))]; rfl)

set_option maxHeartbeats 1000000 in
theorem refCheck_text (num : Int) (text : ByteArray) (re im : Int) (w : World) :
    Calls Tryz.prog 40 #[.agg #[.int .i64 2, .int .i64 num, .string text, .int .i64 re, .int .i64 im]] w fun e w' => e = .returned (.int .i64 (V.check ⟨2, num, text, re, im⟩)) ∧ Adds w w' := by
  have he := run_eql32 re im 0 0
  by_cases hs : 256 < text.size
  · have hi : (256 : Int) < (text.size : Int) := by omega
    go_enter Tryz.func40, Tryz.ntmps40
    go_wp2
    go_ret
    refine ⟨?_, (Adds.refl _).alloc _⟩
    rw [V.check_text, if_pos hs]
    rfl
  · have hi : ¬ (256 : Int) < (text.size : Int) := by omega
    go_enter Tryz.func40, Tryz.ntmps40
    go_wp2
    all_goals
      go_ret
      refine ⟨?_, ((Adds.refl _).alloc _).alloc _⟩
      rw [V.check_text, if_neg hs]
      first
        | (rw [if_pos (by refine ⟨?_, ?_, ?_⟩ <;> omega)]; rfl)
        | (rw [if_neg (by rintro ⟨a, b, c⟩; omega)]; rfl)

theorem refCheck_any (v : V) (w : World) :
    Calls Tryz.prog 40 #[v.val] w fun e w' => e = .returned (.int .i64 v.check) ∧ Adds w w' := by
  obtain ⟨kind, num, text, re, im⟩ := v
  by_cases h1 : kind = 1
  · subst h1; exact refCheck_num num text re im w
  by_cases h2 : kind = 2
  · subst h2; exact refCheck_text num text re im w
  by_cases h3 : kind = 3
  · subst h3; exact refCheck_point num text re im w
  have hc : V.check ⟨kind, num, text, re, im⟩ = 1 := by simp [V.check, V.fits, h1, h2, h3]
  rw [hc]
  simp only [V.val]
  go_enter Tryz.func40, Tryz.ntmps40
  go_wp2
  go_ret
  exact ⟨rfl, ((Adds.refl _).alloc _).alloc _⟩

end Go.Proofs.YtiacnmcdfpmcfaaGreatDoor
