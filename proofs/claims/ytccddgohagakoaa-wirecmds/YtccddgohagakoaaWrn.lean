/-
  The reference's comparisons of lists of numbers, and of commands, where both are the same, by contracts.
-/
import Derived.Test.YtccddgohagakoaaWrm
namespace Go.Proofs.Ytccddgohagakoaa
open Go.RowKit
attribute [local go_sem] cell?_more frozen?_more setCell_more size_more tape_more drew_more drewN_more more_drew more_drewN one_out plus_out plus_end lt_one le_p2 le_p3 le_p4 le_p5 le_p6 le_p7 le_p8 le_p9 le_p10 le_p11 le_p12 le_p13 le_p14 le_p15 le_p16 le_p17 le_p18 le_p19 le_p20 le_p21 le_p22 le_p23 le_p24 le_q0 le_q1 lt_q1 le_q2 lt_q2 le_q3 lt_q3 le_q4 lt_q4 le_q5 lt_q5 le_q6 lt_q6 le_q7 lt_q7 le_q8 lt_q8 le_q9 lt_q9 le_q10 lt_q10 le_q11 lt_q11 le_q12 lt_q12 le_q13 lt_q13 le_q14 lt_q14 le_q15 lt_q15 le_q16 lt_q16 le_q17 lt_q17 le_q18 lt_q18 le_q19 lt_q19 le_q20 lt_q20 le_q21 lt_q21 le_q22 lt_q22 le_q23 lt_q23 le_q24 lt_q24

set_option maxRecDepth 20000 in
set_option maxHeartbeats 4000000 in
theorem ints_any (v u : Value) (ns : List Int) (w : World) (h : LstI w v ns) (h' : LstI w u ns) (h100 : ns.length ≤ 100) :
    Calls Try.prog 34 #[v, u] w fun e w' => e = .returned (.bool true) ∧ Adds w w' := by
  obtain ⟨ao, cap, rfl, hcap, hlo⟩ := h.open
  obtain ⟨bo, bap, rfl, hbap, hlo2⟩ := h'.open
  clear h h'
  go_enter Try.func34, Try.ntmps34
  go_wp2
  go_loopw [5] (fun iv wr => ∃ k : Nat, k ≤ ns.length ∧ iv = .int .i64 k ∧ Hid (Adds w wr)) (fun iv _ => ns.length - (intOf iv).toNat)
  case atStart => exact ⟨0, by omega, rfl, Adds.refl _⟩
  case round =>
    obtain ⟨k, hk, rfl, hA⟩ := hrel
    by_cases hlt : k < ns.length
    · have hltI : (k : Int) < (ns.length : Int) := by omega
      rcases hlo with rfl | ⟨b, off, rfl, hb, hcl⟩
      · simp at hlt
      rcases hlo2 with rfl | ⟨b2, off2, rfl, hb2, hcl2⟩
      · simp at hlt
      have c0 : wr.cell? ⟨b, off + k, none⟩ = some (.int .i64 ns[k]) := (hA.out.below.cell (p := ⟨b, off + k, none⟩) hb).trans (hcl k hlt)
      have d0 : wr.cell? ⟨b2, off2 + k, none⟩ = some (.int .i64 ns[k]) := (hA.out.below.cell (p := ⟨b2, off2 + k, none⟩) hb2).trans (hcl2 k hlt)
      have hbs : b < wr.heap.size := Nat.lt_of_lt_of_le hb hA.out.below.size
      have hbs2 : b2 < wr.heap.size := Nat.lt_of_lt_of_le hb2 hA.out.below.size
      clear hcl hcl2
      generalize ns[k] = m at *
      go_wp2
      go_region_held3 (fun w' => w'.cell? ⟨b, off + k, none⟩ = some (.int .i64 m) ∧ w'.cell? ⟨b2, off2 + k, none⟩ = some (.int .i64 m)) (simp [go_sem, *]) (fail)
      go_wp2
      all_goals
        go_roundw
        case rel => exact ⟨k + 1, by omega, by go_num, Adds.trans hA.out (by repeat (first | with_reducible exact Adds.refl _ | with_reducible refine Adds.alloc ?_ _ | with_reducible refine Adds.more ?_ _ _ | with_reducible refine Adds.drew ?_ | with_reducible refine Adds.drewN ?_ _))⟩
        case measure => simp [intOf]; omega
    · have hkI : ¬ (k : Int) < (ns.length : Int) := by omega
      go_wp2
      go_ret
      exact ⟨rfl, hA.out.trans (by repeat (first | with_reducible exact Adds.refl _ | with_reducible refine Adds.alloc ?_ _ | with_reducible refine Adds.more ?_ _ _ | with_reducible refine Adds.drew ?_ | with_reducible refine Adds.drewN ?_ _))⟩

set_option maxRecDepth 20000 in
set_option maxHeartbeats 4000000 in
theorem sameCmd_any (c : Cm) (v u : Value) (w : World) (h : LstI w v c.ns) (h' : LstI w u c.ns) (h100 : c.ns.length ≤ 100) :
    Calls Try.prog 15 #[c.val v, c.val u] w fun e w' => e = .returned (.bool true) ∧ Adds w w' := by
  have kI := fun W (hA : Adds w W) => ints_any v u c.ns W (h.adds hA) (h'.adds hA) h100
  obtain ⟨ao, cap, rfl, _, _⟩ := h.open
  obtain ⟨bo, bap, rfl, _, _⟩ := h'.open
  obtain ⟨kind, chain, epoch, node, df, ns⟩ := c
  simp only [Cm.val] at *
  clear h h'
  go_enter Try.func15, Try.ntmps15
  go_wp2_with (go_at_call 34; refine (kI _ (by repeat (first | with_reducible exact Adds.refl _ | with_reducible refine Adds.alloc ?_ _ | with_reducible refine Adds.more ?_ _ _ | with_reducible refine Adds.drew ?_ | with_reducible refine Adds.drewN ?_ _))).mono ?_; rintro e w2 ⟨rfl, os2, n2, rfl⟩)
  go_ret
  exact ⟨rfl, (by repeat (first | with_reducible exact Adds.refl _ | with_reducible refine Adds.alloc ?_ _ | with_reducible refine Adds.more ?_ _ _ | with_reducible refine Adds.drew ?_ | with_reducible refine Adds.drewN ?_ _))⟩

set_option maxRecDepth 20000 in
set_option maxHeartbeats 4000000 in
theorem cmds_any (c : Cm) (v u : Value) (w : World) (h : LstI w v c.ns) (h' : LstI w u c.ns) (h100 : c.ns.length ≤ 100) :
    Calls Try.prog 8 #[c.val v, c.val u] w fun e w' => e = .returned (.bool true) ∧ Adds w w' := by
  have kI := fun W (hA : Adds w W) => sameCmd_any c v u W (h.adds hA) (h'.adds hA) h100
  obtain ⟨ao, cap, rfl, _, _⟩ := h.open
  obtain ⟨bo, bap, rfl, _, _⟩ := h'.open
  obtain ⟨kind, chain, epoch, node, df, ns⟩ := c
  simp only [Cm.val] at *
  clear h h'
  go_enter Try.func8, Try.ntmps8
  go_wp2_with (go_at_call 15; refine (kI _ (by repeat (first | with_reducible exact Adds.refl _ | with_reducible refine Adds.alloc ?_ _ | with_reducible refine Adds.more ?_ _ _ | with_reducible refine Adds.drew ?_ | with_reducible refine Adds.drewN ?_ _))).mono ?_; rintro e w2 ⟨rfl, os2, n2, rfl⟩)
  go_ret
  exact ⟨rfl, (by repeat (first | with_reducible exact Adds.refl _ | with_reducible refine Adds.alloc ?_ _ | with_reducible refine Adds.more ?_ _ _ | with_reducible refine Adds.drew ?_ | with_reducible refine Adds.drewN ?_ _))⟩

end Go.Proofs.Ytccddgohagakoaa
