/-
  Worlds that a call has added blocks to, and drawn in, and nothing else: 'more w os k'.
-/
import Derived.Test.YtccddgohagakoaaRows
import Derived.WalkKit
import Derived.WalkSpells
import Derived.WalkLawsBesides
import Derived.Deep.QuietTactic
import Derived.BigQuiet
import Derived.Deep.RegionWith
import Derived.Deep.Draws
namespace Go.Proofs.Ytccddgohagakoaa
open Go.RowKit

/-- w with the blocks os behind its heap, k draws made in all. -/
def more (w : World) (os : Array Obj) (k : Nat) : World := { w with heap := w.heap ++ os, drawn := k }

section
variable {w : World}
theorem more_block (os : Array Obj) (k : Nat) {n : Nat} (h : n < w.heap.size) : (more w os k).heap[n]? = w.heap[n]? := by simp [more, Array.getElem?_append, h]
theorem cell?_more (os : Array Obj) (k n i : Nat) (h : n < w.heap.size) : (more w os k).cell? ⟨n, i, none⟩ = w.cell? ⟨n, i, none⟩ := World.cell?_of_block (more_block os k h)
theorem frozen?_more (os : Array Obj) (k n i : Nat) (h : n < w.heap.size) : (more w os k).frozen? ⟨n, i, none⟩ = w.frozen? ⟨n, i, none⟩ := World.frozen?_of_block (more_block os k h)
theorem setCell_more (os : Array Obj) (k n i : Nat) (v : Value) (h : n < w.heap.size) : (more w os k).setCell ⟨n, i, none⟩ v = more (w.setCell ⟨n, i, none⟩ v) os k := by
  unfold World.setCell more
  congr 1
  apply Array.ext_getElem?
  intro j
  simp only [Array.getElem?_modify, Array.getElem?_append, Array.size_modify]
  by_cases hj : j < w.heap.size
  · simp [hj]
  · have : n ≠ j := by omega
    simp [hj, this]
theorem size_more (os : Array Obj) (k : Nat) : (more w os k).heap.size = w.heap.size + os.size := by simp [more]
theorem tape_more (os : Array Obj) (k : Nat) : (more w os k).tape = w.tape := rfl
theorem drew_more (os : Array Obj) (k : Nat) : (more w os k).drew = more w os (k + 1) := rfl
theorem drewN_more (os : Array Obj) (k n : Nat) : (more w os k).drewN n = more w os (k + n) := rfl
theorem more_drew (os : Array Obj) (k : Nat) : more w.drew os k = more w os k := rfl
theorem more_drewN (os : Array Obj) (k n : Nat) : more (w.drewN n) os k = more w os k := rfl
theorem more_more (os os' : Array Obj) (k k' : Nat) : more (more w os k) os' k' = more w (os ++ os') k' := by simp [more, Array.append_assoc]
end

/- For the walk's side conditions: ones behind, and a block that is there stays ahead of the heap's end. -/
theorem one_out (a : Nat) (os : Array Obj) : a + 1 + os.size = a + os.size + 1 := by omega
theorem plus_out (a t : Nat) (os : Array Obj) : a + (os.size + t) = a + os.size + t := by omega
theorem lt_one (a b : Nat) : (a < b + 1) = (a ≤ b) := by simp; omega
theorem le_p2 (a x1 x2 : Nat) : (a ≤ a + x1 + x2) = True := by simp; omega
theorem le_p3 (a x1 x2 x3 : Nat) : (a ≤ a + x1 + x2 + x3) = True := by simp; omega
theorem le_p4 (a x1 x2 x3 x4 : Nat) : (a ≤ a + x1 + x2 + x3 + x4) = True := by simp; omega
theorem le_p5 (a x1 x2 x3 x4 x5 : Nat) : (a ≤ a + x1 + x2 + x3 + x4 + x5) = True := by simp; omega
theorem le_p6 (a x1 x2 x3 x4 x5 x6 : Nat) : (a ≤ a + x1 + x2 + x3 + x4 + x5 + x6) = True := by simp; omega
theorem le_p7 (a x1 x2 x3 x4 x5 x6 x7 : Nat) : (a ≤ a + x1 + x2 + x3 + x4 + x5 + x6 + x7) = True := by simp; omega
theorem le_p8 (a x1 x2 x3 x4 x5 x6 x7 x8 : Nat) : (a ≤ a + x1 + x2 + x3 + x4 + x5 + x6 + x7 + x8) = True := by simp; omega
theorem le_p9 (a x1 x2 x3 x4 x5 x6 x7 x8 x9 : Nat) : (a ≤ a + x1 + x2 + x3 + x4 + x5 + x6 + x7 + x8 + x9) = True := by simp; omega
theorem le_p10 (a x1 x2 x3 x4 x5 x6 x7 x8 x9 y1 : Nat) : (a ≤ a + x1 + x2 + x3 + x4 + x5 + x6 + x7 + x8 + x9 + y1) = True := by simp; omega
theorem le_p11 (a x1 x2 x3 x4 x5 x6 x7 x8 x9 y1 y2 : Nat) : (a ≤ a + x1 + x2 + x3 + x4 + x5 + x6 + x7 + x8 + x9 + y1 + y2) = True := by simp; omega
theorem le_p12 (a x1 x2 x3 x4 x5 x6 x7 x8 x9 y1 y2 y3 : Nat) : (a ≤ a + x1 + x2 + x3 + x4 + x5 + x6 + x7 + x8 + x9 + y1 + y2 + y3) = True := by simp; omega

/-- A call has added blocks and drawn, and nothing else. -/
def Adds (w w' : World) : Prop := ∃ os k, w' = more w os k

theorem Adds.refl (w : World) : Adds w w := ⟨#[], w.drawn, by simp [more]⟩
theorem Adds.alloc {w X : World} (h : Adds w X) (o : Obj) : Adds w (X.alloc o) := by
  obtain ⟨os, k, rfl⟩ := h
  exact ⟨os.push o, k, by simp [more, World.alloc]⟩
theorem Adds.drew {w X : World} (h : Adds w X) : Adds w X.drew := by
  obtain ⟨os, k, rfl⟩ := h
  exact ⟨os, k + 1, rfl⟩
theorem Adds.drewN {w X : World} (h : Adds w X) (n : Nat) : Adds w (X.drewN n) := by
  obtain ⟨os, k, rfl⟩ := h
  exact ⟨os, k + n, drewN_more ..⟩
theorem Adds.more {w X : World} (h : Adds w X) (os : Array Obj) (k : Nat) : Adds w (more X os k) := by
  obtain ⟨os', k', rfl⟩ := h
  exact ⟨_, _, more_more ..⟩
theorem Adds.below {w w' : World} (h : Adds w w') : Below w.heap.size w w' := by
  obtain ⟨os, k, rfl⟩ := h
  exact ⟨rfl, rfl, rfl, by simp [Ytccddgohagakoaa.more], fun n hn => more_block os k hn⟩

theorem more_nil (w : World) : more w #[] w.drawn = w := by simp [more]

/-- The worlds of a region that draws its order, all of whose calls add alone. -/
structure Plus where
  os : Array Obj
  draws : Nat

instance : Nonempty Plus := ⟨⟨#[], 0⟩⟩

def addTo (w : World) (p : Plus) : World := more w p.os p.draws

theorem cell?_addTo {w : World} (p : Plus) (n i : Nat) (h : n < w.heap.size) : (addTo w p).cell? ⟨n, i, none⟩ = w.cell? ⟨n, i, none⟩ := cell?_more _ _ _ _ h

theorem wp_region_adds {P : Program} {id : Nat} {Q : Exit → Act → World → Prop} {a : Act} {w : World} {l : List Oper} (hm : P.follows .mixedOrders = true) (hB : Region.lexB .any l.toArray = true)
    (h : wpQuiet P l.toArray (fun w' => ∃ p : Plus, w' = addTo w p) (fun a' => ∀ w', (∃ p : Plus, w' = addTo w p) → Q .normal a' w') l a) : (Code.region id l.toArray true).wp P Q a w :=
  wp_region_quiet (C := fun w' => ∃ p : Plus, w' = addTo w p) hm hB ⟨⟨#[], w.drawn + 1⟩, by show w.drew = more w #[] (w.drawn + 1); rw [← drew_more, more_nil]⟩ (by simpa using h)

theorem Calls.adds_of {P : Program} {f : FuncId} {args : Array Value} {w : World} {p : Plus} {v : Value}
    (h : Calls P f args (addTo w p) fun e w' => e = .returned v ∧ Adds (addTo w p) w') : Calls P f args (addTo w p) fun e w'' => e = .returned v ∧ ∃ p : Plus, w'' = addTo w p :=
  h.mono fun _ _ ⟨he, os, k, hw⟩ => ⟨he, ⟨p.os ++ os, k⟩, by rw [hw]; exact more_more ..⟩

/-- Nothing below the old heap's end has turned: then it is an adding. -/
theorem Adds.of {w w' : World} (h : Below w.heap.size w w') : Adds w w' := by
  refine ⟨w'.heap.extract w.heap.size w'.heap.size, w'.drawn, ?_⟩
  obtain ⟨heap, tape, drawn, os, output⟩ := w
  obtain ⟨heap', tape', drawn', os', output'⟩ := w'
  obtain ⟨h1, h2, h3, h4, h5⟩ := h
  simp only at h1 h2 h3 h4 h5
  subst h1 h2 h3
  simp only [Ytccddgohagakoaa.more, World.mk.injEq, and_true]
  apply Array.ext_getElem?
  intro j
  by_cases hj : j < heap.size
  · simp [Array.getElem?_append, hj, h5 j hj]
  · simp only [Array.getElem?_append, hj, if_false, Array.getElem?_extract]
    by_cases hj' : j < heap'.size
    · have : j - heap.size < min heap'.size heap'.size - heap.size := by simp; omega
      simp only [this, if_true]
      congr 1
      omega
    · rw [Array.getElem?_eq_none (by omega)]
      have : ¬ (j - heap.size < min heap'.size heap'.size - heap.size) := by simp; omega
      simp only [this, if_false]

theorem Adds.trans {a b c : World} (h : Adds a b) (k : Adds b c) : Adds a c := by
  obtain ⟨os, n, rfl⟩ := k
  exact h.more os n

end Go.Proofs.Ytccddgohagakoaa
