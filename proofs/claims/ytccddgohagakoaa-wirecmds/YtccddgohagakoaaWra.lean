/-
  Commands, as they lie, and their cells; what of package wire writes them: must, take, list, by contracts.
-/
import Derived.Test.YtccddgohagakoaaLrm
import Derived.Test.YtccddgohagakoaaSbz
import Derived.Test.YtccddgohagakoaaLdd
namespace Go.Proofs.Ytccddgohagakoaa
open Go.RowKit
attribute [local go_sem] cell?_more frozen?_more setCell_more size_more tape_more drew_more drewN_more more_drew more_drewN one_out plus_out plus_end lt_one le_p2 le_p3 le_p4 le_p5 le_p6 le_p7 le_p8 le_p9 le_p10 le_p11 le_p12 le_p13 le_p14 le_p15 le_p16 le_p17 le_p18 le_p19 le_p20 le_p21 le_p22 le_p23 le_p24 le_q0 le_q1 lt_q1 le_q2 lt_q2 le_q3 lt_q3 le_q4 lt_q4 le_q5 lt_q5 le_q6 lt_q6 le_q7 lt_q7 le_q8 lt_q8 le_q9 lt_q9 le_q10 lt_q10 le_q11 lt_q11 le_q12 lt_q12 le_q13 lt_q13 le_q14 lt_q14 le_q15 lt_q15 le_q16 lt_q16 le_q17 lt_q17 le_q18 lt_q18 le_q19 lt_q19 le_q20 lt_q20 le_q21 lt_q21 le_q22 lt_q22 le_q23 lt_q23 le_q24 lt_q24

/-- A command. -/
structure Cm where
  kind : Int
  chain : Int
  epoch : Int
  node : Int
  df : ByteArray
  ns : List Int

def Cm.val (c : Cm) (v : Value) : Value := .agg #[.int .i64 c.kind, .int .i64 c.chain, .int .i64 c.epoch, .int .i64 c.node, .string c.df, v]

def intsV (ns : List Int) : List Value := ns.map (Value.int .i64 ·)

theorem intsV_length (ns : List Int) : (intsV ns).length = ns.length := by simp [intsV]

/-- The slice value v reads as the numbers ns. -/
def LstI (w : World) (v : Value) (ns : List Int) : Prop := LstV w v (intsV ns)

theorem LstI.adds {w w' : World} {v : Value} {ns : List Int} (h : LstI w v ns) (hA : Adds w w') : LstI w' v ns := LstV.adds h hA

theorem LstI.open {w : World} {v : Value} {ns : List Int} (h : LstI w v ns) : ∃ ao cap, v = .slice ao ns.length cap ∧ ns.length ≤ cap ∧ (ns = [] ∨ ∃ b off, ao = some ⟨b, off, none⟩ ∧ b < w.heap.size ∧ ∀ j (hj : j < ns.length), w.cell? ⟨b, off + j, none⟩ = some (.int .i64 ns[j])) := by
  obtain ⟨ao, cap, rfl, hc, hx⟩ := h
  rw [intsV_length] at hc
  refine ⟨ao, cap, by rw [intsV_length], hc, ?_⟩
  rcases hx with hx | ⟨b, off, rfl, hb, hl⟩
  · left
    have := congrArg List.length hx
    rw [intsV_length] at this
    exact List.length_eq_zero_iff.1 (by simpa using this)
  · refine .inr ⟨b, off, rfl, hb, fun j hj => ?_⟩
    have := hl j (by rw [intsV_length]; exact hj)
    rw [this]
    simp [intsV]

def cmdT (c : Cm) : T := tList [tNum c.kind, tNum c.chain, tNum c.epoch, tNum c.node, tText c.df, tList (c.ns.map tNum)]

/-- The writer's box. -/
def Wb (P : Nat) (w : World) (fv : Value) (room : Int) (bad : Bool) : Prop := w.heap[P]? = some (.cells #[fv, .int .i64 room, .bool bad] 50 (0, 0))

theorem Wb.cells {P : Nat} {w : World} {fv : Value} {room : Int} {bad : Bool} (h : Wb P w fv room bad) : P < w.heap.size ∧ w.cell? ⟨P, 0, none⟩ = some fv ∧ w.cell? ⟨P, 1, none⟩ = some (.int .i64 room) ∧ w.cell? ⟨P, 2, none⟩ = some (.bool bad) ∧ w.frozen? ⟨P, 1, none⟩ = false ∧ w.frozen? ⟨P, 2, none⟩ = false := by
  unfold Wb at h
  exact ⟨(Array.getElem?_eq_some_iff.1 h).1, by simp [World.cell?, h], by simp [World.cell?, h], by simp [World.cell?, h], by simp [World.frozen?, h], by simp [World.frozen?, h]⟩

theorem Wb.adds {P : Nat} {w w' : World} {fv : Value} {room : Int} {bad : Bool} (h : Wb P w fv room bad) (hA : Adds w w') : Wb P w' fv room bad := by
  have hl := h.cells.1
  unfold Wb at h ⊢
  rw [hA.below.block P hl]
  exact h

theorem Wb.set {P : Nat} {w w' : World} {fv : Value} {room r2 : Int} {bad b2 : Bool} (h : Wb P w fv room bad) (hA : Adds ((w.setCell ⟨P, 1, none⟩ (.int .i64 r2)).setCell ⟨P, 2, none⟩ (.bool b2)) w') : Wb P w' fv r2 b2 ∧ w.grownBy w' (some P) := by
  have hl := h.cells.1
  unfold Wb at h
  have h1 := heap_setCell_same w P 1 _ 50 (.int .i64 r2) h
  have h2 := heap_setCell_same _ P 2 _ 50 (.bool b2) h1
  constructor
  · unfold Wb
    rw [hA.below.block P (by simpa using hl), h2]
    simp
  · refine grownBy_adds ?_ hA
    refine ⟨rfl, rfl, rfl, by simp, fun j _ hj => ?_⟩
    have hne : j ≠ P := fun e => hj (by rw [e])
    rw [heap_setCell_other _ ⟨P, 2, none⟩ j _ hne, heap_setCell_other _ ⟨P, 1, none⟩ j _ hne]

theorem wb_room {P : Nat} {w w' : World} {fv : Value} {room r2 : Int} {bad : Bool} (h : Wb P w fv room bad) (hA : Adds (w.setCell ⟨P, 1, none⟩ (.int .i64 r2)) w') : Wb P w' fv r2 bad := by
  have hl := h.cells.1
  unfold Wb at h
  have h2 := heap_setCell_same w P 1 _ 50 (.int .i64 r2) h
  unfold Wb
  rw [hA.below.block P (by simpa using hl), h2]
  simp

theorem wb_bad {P : Nat} {w w' : World} {fv : Value} {room : Int} {bad b2 : Bool} (h : Wb P w fv room bad) (hA : Adds (w.setCell ⟨P, 2, none⟩ (.bool b2)) w') : Wb P w' fv room b2 ∧ w.grownBy w' (some P) := by
  have hl := h.cells.1
  unfold Wb at h
  have h2 := heap_setCell_same w P 2 _ 50 (.bool b2) h
  constructor
  · unfold Wb
    rw [hA.below.block P (by simpa using hl), h2]
    simp
  · refine grownBy_adds ?_ hA
    refine ⟨rfl, rfl, rfl, by simp, fun j _ hj => ?_⟩
    have hne : j ≠ P := fun e => hj (by rw [e])
    rw [heap_setCell_other _ ⟨P, 2, none⟩ j _ hne]

set_option maxRecDepth 20000 in
set_option maxHeartbeats 1000000 in
theorem must_any (P : Nat) (fv : Value) (room : Int) (b : Bool) (w : World) (h : Wb P w fv room false) :
    Calls Try.prog 54 #[.pointer (some ⟨P, 0, none⟩), .bool b] w fun e w' => e = .returned (.tuple #[]) ∧ w' = w.setCell ⟨P, 2, none⟩ (.bool !b) := by
  obtain ⟨hl, q0, q1, q2, f1, f2⟩ := h.cells
  cases b
  all_goals
    go_enter Try.func54, Try.ntmps54
    go_wp2
    exact bodyPost_end (results_none rfl _ _ _) rfl ⟨rfl, rfl⟩

set_option maxRecDepth 20000 in
set_option maxHeartbeats 1000000 in
theorem take_any (P : Nat) (fv : Value) (room n : Int) (w : World) (h : Wb P w fv room false) (h1 : 0 ≤ n) (h2 : n ≤ room) (h3 : room ≤ 16384) :
    Calls Try.prog 40 #[.pointer (some ⟨P, 0, none⟩), .int .i64 n] w fun e w' => e = .returned (.bool true) ∧ Wb P w' fv (room - n) false ∧ w.grownBy w' (some P) := by
  obtain ⟨hl, q0, q1, q2, f1, f2⟩ := h.cells
  have hc : (0 : Int) ≤ room - n := by omega
  go_enter Try.func40, Try.ntmps40
  have kM := fun W (hW : Wb P W fv (room - n) false) => must_any P fv (room - n) true W hW
  go_wp2_with (go_at_call 54; refine (kM _ (wb_room h (Adds.refl _))).mono ?_; rintro e w2 ⟨rfl, rfl⟩)
  go_ret
  exact ⟨rfl, h.set (by repeat (first | with_reducible exact Adds.refl _ | with_reducible refine Adds.alloc ?_ _ | with_reducible refine Adds.more ?_ _ _ | with_reducible refine Adds.drew ?_ | with_reducible refine Adds.drewN ?_ _))⟩

end Go.Proofs.Ytccddgohagakoaa
