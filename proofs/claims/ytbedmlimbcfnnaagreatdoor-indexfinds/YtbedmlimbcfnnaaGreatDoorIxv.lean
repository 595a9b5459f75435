/-
  The statements' own documents, by contract.
-/
import Derived.Test.YtbedmlimbcfnnaaGreatDoorM50
namespace Go.Proofs.YtbedmlimbcfnnaaGreatDoor
open Go.RowKit
attribute [local go_sem] cell?_more frozen?_more setCell_more size_more tape_more drew_more drewN_more more_drew more_drewN one_out plus_out plus_end lt_one le_p2 le_p3 le_p4 le_p5 le_p6 le_p7 le_p8 le_p9 le_p10 le_p11 le_p12 le_p13 le_p14 le_p15 le_p16 le_p17 le_p18 le_p19 le_p20 le_p21 le_p22 le_p23 le_p24 le_q0 le_q1 lt_q1 le_q2 lt_q2 le_q3 lt_q3 le_q4 lt_q4 le_q5 lt_q5 le_q6 lt_q6 le_q7 lt_q7 le_q8 lt_q8 le_q9 lt_q9 le_q10 lt_q10 le_q11 lt_q11 le_q12 lt_q12 le_q13 lt_q13 le_q14 lt_q14 le_q15 lt_q15 le_q16 lt_q16 le_q17 lt_q17 le_q18 lt_q18 le_q19 lt_q19 le_q20 lt_q20 le_q21 lt_q21 le_q22 lt_q22 le_q23 lt_q23 le_q24 lt_q24


theorem lst_fA {X : World} {k : Nat} {n : Int} (hk : k = X.heap.size) : Lst (X.alloc (.cells #[.string ⟨#[97]⟩, .int .i64 1, .int .i64 n, .string ⟨#[]⟩, .int .i64 0, .int .i64 0] 77)) (.slice (some ⟨k, 0, none⟩) 1 1) [fA n] := by
  refine ⟨_, 1, rfl, Nat.le_refl _, .inr ⟨k, 0, rfl, by rw [World.size_alloc]; omega, fun j hj => ?_⟩⟩
  have hj0 : j = 0 := by simpa using hj
  subst hj0
  exact ⟨cell_new hk rfl, cell_new hk rfl, cell_new hk rfl, cell_new hk rfl, cell_new hk rfl, cell_new hk rfl⟩

set_option maxHeartbeats 2000000 in
theorem one_any (n : Int) (w : World) : Calls Tryz.prog 22 #[.int .i64 n] w fun e w' => (∃ k, e = .returned (.slice (some ⟨k, 0, none⟩) 1 1) ∧ Hid (Lst w' (.slice (some ⟨k, 0, none⟩) 1 1) [fA n])) ∧ Adds w w' := by
  go_enter Tryz.func22, Tryz.ntmps22
  go_wp2
  go_ret
  refine ⟨⟨_, rfl, ?_⟩, ?_⟩
  · show Lst _ _ _
    exact lst_fA (by simp [go_sem])
  · repeat (first | with_reducible exact Adds.refl _ | with_reducible refine Adds.alloc ?_ _ | with_reducible refine Adds.more ?_ _ _ | with_reducible refine Adds.drew ?_ | with_reducible refine Adds.drewN ?_ _)

end Go.Proofs.YtbedmlimbcfnnaaGreatDoor
