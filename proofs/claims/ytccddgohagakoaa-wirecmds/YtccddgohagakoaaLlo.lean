/-
  The checker of package cell: look, by contract, of any tree whose numbers may be too great.
-/
import Derived.Test.YtccddgohagakoaaLen
namespace Go.Proofs.Ytccddgohagakoaa
open Go.RowKit
attribute [local go_sem] cell?_more frozen?_more setCell_more size_more tape_more drew_more drewN_more more_drew more_drewN one_out plus_out plus_end lt_one le_p2 le_p3 le_p4 le_p5 le_p6 le_p7 le_p8 le_p9 le_p10 le_p11 le_p12 le_p13 le_p14 le_p15 le_p16 le_p17 le_p18 le_p19 le_p20 le_p21 le_p22 le_p23 le_p24 le_q0 le_q1 lt_q1 le_q2 lt_q2 le_q3 lt_q3 le_q4 lt_q4 le_q5 lt_q5 le_q6 lt_q6 le_q7 lt_q7 le_q8 lt_q8 le_q9 lt_q9 le_q10 lt_q10 le_q11 lt_q11 le_q12 lt_q12 le_q13 lt_q13 le_q14 lt_q14 le_q15 lt_q15 le_q16 lt_q16 le_q17 lt_q17 le_q18 lt_q18 le_q19 lt_q19 le_q20 lt_q20 le_q21 lt_q21 le_q22 lt_q22 le_q23 lt_q23 le_q24 lt_q24

/-- A cell with no part too many, no deeper than that; its numbers are any. -/
def plT : Nat → T → Prop
  | 0, _ => False
  | lv + 1, t => (t.kind = 1 ∧ t.text = ⟨#[]⟩ ∧ t.list = []) ∨ (t.kind = 2 ∧ t.num = 0 ∧ t.text.size ≤ 65536 ∧ t.list = []) ∨ (t.kind = 3 ∧ t.num = 0 ∧ t.text = ⟨#[]⟩ ∧ ∀ x ∈ t.list, plT lv x)

def bigN (n : Int) : Bool := !(decide (-9007199254740992 ≤ n) && decide (n ≤ 9007199254740992))

/-- One of its numbers is too great. -/
def oddT : Nat → T → Bool
  | 0, _ => false
  | lv + 1, t => if t.kind = 1 then bigN t.num else t.list.any (oddT lv)

theorem okT_of : ∀ (lv : Nat) (t : T), plT lv t → oddT lv t = false → okT lv t
  | 0, _, h, _ => h.elim
  | lv + 1, t, h, ho => by
    unfold oddT at ho
    rcases h with ⟨h1, h2, h3⟩ | ⟨h1, h2, h3, h4⟩ | ⟨h1, h2, h3, h4⟩
    · rw [if_pos h1] at ho
      simp [bigN] at ho
      exact .inl ⟨h1, ho.1, ho.2, h2, h3⟩
    · exact .inr (.inl ⟨h1, h2, h3, h4⟩)
    · rw [if_neg (by omega)] at ho
      refine .inr (.inr ⟨h1, h2, h3, fun x hx => okT_of lv x (h4 x hx) ?_⟩)
      have := List.any_eq_false.1 ho x hx
      simpa using this

theorem fits_num (n : Int) (ao : Option Addr) (cap : Nat) (w : World) : Calls Try.prog 64 #[.agg #[.int .i64 1, .int .i64 n, .string ⟨#[]⟩, .slice ao 0 cap]] w fun e w' => e = .returned (.bool (!bigN n)) ∧ Adds w w' := by
  by_cases h1 : -9007199254740992 ≤ n
  · by_cases h2 : n ≤ 9007199254740992
    · have e : bigN n = false := by simp [bigN, h1, h2]
      rw [e]
      exact fitc_num n ao cap w ⟨h1, h2⟩
    · have e : bigN n = true := by simp [bigN, h2]
      rw [e]
      go_enter Try.func64, Try.ntmps64
      go_wp2
      go_ret
      exact ⟨rfl, (by repeat (first | with_reducible exact Adds.refl _ | with_reducible refine Adds.alloc ?_ _ | with_reducible refine Adds.more ?_ _ _ | with_reducible refine Adds.drew ?_ | with_reducible refine Adds.drewN ?_ _))⟩
  · have e : bigN n = true := by simp [bigN, h1]
    rw [e]
    go_enter Try.func64, Try.ntmps64
    go_wp2
    go_ret
    exact ⟨rfl, (by repeat (first | with_reducible exact Adds.refl _ | with_reducible refine Adds.alloc ?_ _ | with_reducible refine Adds.more ?_ _ _ | with_reducible refine Adds.drew ?_ | with_reducible refine Adds.drewN ?_ _))⟩

theorem chk_put {P c : Nat} {od b : Bool} {w w' : World} (h : Chk P w c od false) (hP : P < w.heap.size) (ha : Adds (((w.setCell ⟨P, 0, none⟩ (.int .i64 ((c : Int) + 1))).setCell ⟨P, 1, none⟩ (.bool b)).setCell ⟨P, 2, none⟩ (.bool false)) w') :
    Chk P w' (c + 1) b false ∧ w.grownBy w' (some P) := by
  have h0 := heap_setCell_same w P 0 _ 98 (.int .i64 ((c : Int) + 1)) h
  have h1 := heap_setCell_same _ P 1 _ 98 (.bool b) h0
  have h2 := heap_setCell_same _ P 2 _ 98 (.bool false) h1
  constructor
  · unfold Chk
    rw [ha.below.block P (by simpa using hP), h2]
    simp
  · refine grownBy_adds ?_ ha
    refine ⟨rfl, rfl, rfl, by simp, fun j _ hj => ?_⟩
    have hne : j ≠ P := fun e => hj (by rw [e])
    rw [heap_setCell_other _ ⟨P, 2, none⟩ j _ hne, heap_setCell_other _ ⟨P, 1, none⟩ j _ hne, heap_setCell_other _ ⟨P, 0, none⟩ j _ hne]

set_option maxRecDepth 20000 in
set_option maxHeartbeats 1000000 in
theorem look_leaf (P : Nat) (c level : Nat) (od : Bool) (k n : Int) (x : ByteArray) (ao : Option Addr) (cap : Nat) (ft : Bool) (w : World) (h : Chk P w c od false) (hP : P < w.heap.size) (hk : k ≠ 3) (hf : ∀ W, Calls Try.prog 64 #[.agg #[.int .i64 k, .int .i64 n, .string x, .slice ao 0 cap]] W fun e w' => e = .returned (.bool ft) ∧ Adds W w') (hm : x.size ≤ 65536) (hc : c ≤ 4096) (hl : level ≤ 12) :
    Calls Try.prog 51 #[.pointer (some ⟨P, 0, none⟩), .agg #[.int .i64 k, .int .i64 n, .string x, .slice ao 0 cap], .int .i64 (level : Int)] w fun e w' => e = .returned (.bool true) ∧ Chk P w' (c + 1) (od || !ft) false ∧ w.grownBy w' (some P) := by
  have hlg : decide ((65536 : Int) < (x.size : Int)) = false := by simp; omega
  have hk' : (k != 3) = true := by simpa using hk
  have q0 : w.cell? ⟨P, 0, none⟩ = some (.int .i64 (c : Int)) := by unfold Chk at h; simp [World.cell?, h]
  have q1 : w.cell? ⟨P, 1, none⟩ = some (.bool od) := by unfold Chk at h; simp [World.cell?, h]
  have q2 : w.cell? ⟨P, 2, none⟩ = some (.bool false) := by unfold Chk at h; simp [World.cell?, h]
  have f0 : w.frozen? ⟨P, 0, none⟩ = false := by unfold Chk at h; simp [World.frozen?, h]
  have f1 : w.frozen? ⟨P, 1, none⟩ = false := by unfold Chk at h; simp [World.frozen?, h]
  have f2 : w.frozen? ⟨P, 2, none⟩ = false := by unfold Chk at h; simp [World.frozen?, h]
  have hl12 : ¬ (12 : Int) < (level : Int) := by omega
  cases od with
  | true =>
    go_enter Try.func51, Try.ntmps51
    go_wp2
    go_ret
    exact ⟨rfl, chk_put h hP (by repeat (first | with_reducible exact Adds.refl _ | with_reducible refine Adds.alloc ?_ _ | with_reducible refine Adds.more ?_ _ _ | with_reducible refine Adds.drew ?_ | with_reducible refine Adds.drewN ?_ _))⟩
  | false =>
    go_enter Try.func51, Try.ntmps51
    go_wp2_with (go_at_call 64; refine (hf _).mono ?_; rintro e w1 ⟨rfl, os1, n1, rfl⟩)
    go_ret
    rw [Bool.false_or]
    exact ⟨rfl, chk_put h hP (by repeat (first | with_reducible exact Adds.refl _ | with_reducible refine Adds.alloc ?_ _ | with_reducible refine Adds.more ?_ _ _ | with_reducible refine Adds.drew ?_ | with_reducible refine Adds.drewN ?_ _))⟩

end Go.Proofs.Ytccddgohagakoaa
