/-
  What of package wire reads: must, num, text, parts, by contracts where nothing is wrong.
-/
import Derived.Test.YtccddgohagakoaaWri
namespace Go.Proofs.Ytccddgohagakoaa
open Go.RowKit
attribute [local go_sem] cell?_more frozen?_more setCell_more size_more tape_more drew_more drewN_more more_drew more_drewN one_out plus_out plus_end lt_one le_p2 le_p3 le_p4 le_p5 le_p6 le_p7 le_p8 le_p9 le_p10 le_p11 le_p12 le_p13 le_p14 le_p15 le_p16 le_p17 le_p18 le_p19 le_p20 le_p21 le_p22 le_p23 le_p24 le_q0 le_q1 lt_q1 le_q2 lt_q2 le_q3 lt_q3 le_q4 lt_q4 le_q5 lt_q5 le_q6 lt_q6 le_q7 lt_q7 le_q8 lt_q8 le_q9 lt_q9 le_q10 lt_q10 le_q11 lt_q11 le_q12 lt_q12 le_q13 lt_q13 le_q14 lt_q14 le_q15 lt_q15 le_q16 lt_q16 le_q17 lt_q17 le_q18 lt_q18 le_q19 lt_q19 le_q20 lt_q20 le_q21 lt_q21 le_q22 lt_q22 le_q23 lt_q23 le_q24 lt_q24

theorem set_id {c : Array Value} {i : Nat} {v : Value} (h : c[i]? = some v) : c.setIfInBounds i v = c := by
  apply Array.ext_getElem?
  intro k
  rw [Array.getElem?_setIfInBounds]
  by_cases hk : i = k
  · subst hk
    rw [if_pos rfl, if_pos (Array.getElem?_eq_some_iff.1 h).1, h]
  · rw [if_neg hk]

theorem setCell_id {w : World} {P i : Nat} {v : Value} {c : Array Value} {t : TypeId} {fz : Nat × Nat} (hh : w.heap[P]? = some (.cells c t fz)) (h : c[i]? = some v) : w.setCell ⟨P, i, none⟩ v = w := by
  have e : (w.setCell ⟨P, i, none⟩ v).heap = w.heap := by
    apply Array.ext_getElem?
    intro j
    by_cases hj : j = P
    · subst hj
      simp [World.setCell, Array.getElem?_modify, hh, set_id h]
    · exact heap_setCell_other w ⟨P, i, none⟩ j v hj
  cases w
  simp only [World.setCell] at e ⊢
  rw [e]

/-- The reader's box. -/
def Rb (P : Nat) (w : World) (fv : Value) : Prop := w.heap[P]? = some (.cells #[fv, .bool false] 64 (0, 0))

theorem Rb.cells {P : Nat} {w : World} {fv : Value} (h : Rb P w fv) : P < w.heap.size ∧ w.cell? ⟨P, 1, none⟩ = some (.bool false) ∧ w.frozen? ⟨P, 1, none⟩ = false := by
  unfold Rb at h
  exact ⟨(Array.getElem?_eq_some_iff.1 h).1, by simp [World.cell?, h], by simp [World.frozen?, h]⟩

theorem Rb.adds {P : Nat} {w w' : World} {fv : Value} (h : Rb P w fv) (hA : Adds w w') : Rb P w' fv := by
  have hl := h.cells.1
  unfold Rb at h ⊢
  rw [hA.below.block P hl]
  exact h

set_option maxRecDepth 20000 in
theorem rmust_any (P : Nat) (fv : Value) (w : World) (h : Rb P w fv) :
    Calls Try.prog 48 #[.pointer (some ⟨P, 0, none⟩), .bool true] w fun e w' => e = .returned (.tuple #[]) ∧ w' = w := by
  obtain ⟨hl, q1, f1⟩ := h.cells
  have hid : w.setCell ⟨P, 1, none⟩ (.bool false) = w := setCell_id h (by simp)
  go_enter Try.func48, Try.ntmps48
  go_wp2
  exact bodyPost_end (results_none rfl _ _ _) rfl ⟨rfl, rfl⟩

set_option maxRecDepth 20000 in
theorem rnumP_any (P : Nat) (fv : Value) (n : Int) (x : ByteArray) (s : Option Addr) (sn sc : Nat) (w : World) (h : Rb P w fv) :
    Calls Try.prog 31 #[.pointer (some ⟨P, 0, none⟩), .agg #[.int .i64 1, .int .i64 n, .string x, .slice s sn sc]] w fun e w' => e = .returned (.int .i64 n) ∧ Adds w w' := by
  have kM := fun W (hA : Adds w W) => rmust_any P fv W (h.adds hA)
  have hP := h.cells.1
  go_enter Try.func31, Try.ntmps31
  go_wp2_with (go_at_call 48; refine (kM _ (by repeat (first | with_reducible exact Adds.refl _ | with_reducible refine Adds.alloc ?_ _ | with_reducible refine Adds.more ?_ _ _ | with_reducible refine Adds.drew ?_ | with_reducible refine Adds.drewN ?_ _))).mono ?_; rintro e w2 ⟨rfl, rfl⟩)
  go_ret
  exact ⟨rfl, (by repeat (first | with_reducible exact Adds.refl _ | with_reducible refine Adds.alloc ?_ _ | with_reducible refine Adds.more ?_ _ _ | with_reducible refine Adds.drew ?_ | with_reducible refine Adds.drewN ?_ _))⟩

set_option maxRecDepth 20000 in
theorem rtextP_any (P : Nat) (fv : Value) (n : Int) (x : ByteArray) (s : Option Addr) (sn sc : Nat) (w : World) (h : Rb P w fv) :
    Calls Try.prog 32 #[.pointer (some ⟨P, 0, none⟩), .agg #[.int .i64 2, .int .i64 n, .string x, .slice s sn sc]] w fun e w' => e = .returned (.string x) ∧ Adds w w' := by
  have kM := fun W (hA : Adds w W) => rmust_any P fv W (h.adds hA)
  go_enter Try.func32, Try.ntmps32
  go_wp2_with (go_at_call 48; refine (kM _ (by repeat (first | with_reducible exact Adds.refl _ | with_reducible refine Adds.alloc ?_ _ | with_reducible refine Adds.more ?_ _ _ | with_reducible refine Adds.drew ?_ | with_reducible refine Adds.drewN ?_ _))).mono ?_; rintro e w2 ⟨rfl, rfl⟩)
  go_ret
  exact ⟨rfl, (by repeat (first | with_reducible exact Adds.refl _ | with_reducible refine Adds.alloc ?_ _ | with_reducible refine Adds.more ?_ _ _ | with_reducible refine Adds.drew ?_ | with_reducible refine Adds.drewN ?_ _))⟩

set_option maxRecDepth 20000 in
theorem partsP_any (P : Nat) (x : ByteArray) (m : Int) (s : Option Addr) (n sc : Nat) (w : World) :
    Calls Try.prog 30 #[.pointer (some ⟨P, 0, none⟩), .agg #[.int .i64 3, .int .i64 m, .string x, .slice s n sc], .int .i64 (n : Int)] w fun e w' => e = .returned (.slice s n sc) ∧ Adds w w' := by
  go_enter Try.func30, Try.ntmps30
  go_wp2
  go_ret
  exact ⟨rfl, (by repeat (first | with_reducible exact Adds.refl _ | with_reducible refine Adds.alloc ?_ _ | with_reducible refine Adds.more ?_ _ _ | with_reducible refine Adds.drew ?_ | with_reducible refine Adds.drewN ?_ _))⟩

end Go.Proofs.Ytccddgohagakoaa
