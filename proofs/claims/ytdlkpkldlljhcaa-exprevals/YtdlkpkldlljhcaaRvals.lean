/-
  The reference's values, by contracts.
-/
import Derived.Test.YtdlkpkldlljhcaaCalled
import Derived.Test.YtdlkpkldlljhcaaVals2
import Derived.Test.YtdlkpkldlljhcaaGring
import Derived.Test.YtdlkpkldlljhcaaGturn
namespace Go.Proofs.Ytdlkpkldlljhcaa
open Go.RowKit
attribute [local go_sem] cell?_more frozen?_more setCell_more size_more tape_more drew_more drewN_more more_drew more_drewN one_out plus_out plus_end lt_one le_p2 le_p3 le_p4 le_p5 le_p6 le_p7 le_p8 le_p9 le_p10 le_p11 le_p12 le_p13 le_p14 le_p15 le_p16 le_p17 le_p18 le_p19 le_p20 le_p21 le_p22 le_p23 le_p24 le_q0 le_q1 lt_q1 le_q2 lt_q2 le_q3 lt_q3 le_q4 lt_q4 le_q5 lt_q5 le_q6 lt_q6 le_q7 lt_q7 le_q8 lt_q8 le_q9 lt_q9 le_q10 lt_q10 le_q11 lt_q11 le_q12 lt_q12 le_q13 lt_q13 le_q14 lt_q14 le_q15 lt_q15 le_q16 lt_q16 le_q17 lt_q17 le_q18 lt_q18 le_q19 lt_q19 le_q20 lt_q20 le_q21 lt_q21 le_q22 lt_q22 le_q23 lt_q23 le_q24 lt_q24


theorem rNum_any (n : Int) (w : World) :
    Calls Try.prog 64 #[.int .i64 n] w fun e w' => e = .returned (.agg #[.int .i64 1, .int .i64 n, .string ⟨#[]⟩, .int .i64 0, .int .i64 0]) ∧ Adds w w' := by
  go_enter Try.func64, Try.ntmps64
  go_wp2
  exact bodyPost_ret (v := (V.mkNum n).val) (by simp [results, Try.results64, go_sem, V.val, V.mkNum]) rfl ⟨rfl, by repeat (first | with_reducible exact Adds.refl _ | with_reducible refine Adds.alloc ?_ _ | with_reducible refine Adds.more ?_ _ _ | with_reducible refine Adds.drew ?_ | with_reducible refine Adds.drewN ?_ _)⟩

theorem rText_any (s : ByteArray) (w : World) :
    Calls Try.prog 66 #[.string s] w fun e w' => e = .returned (.agg #[.int .i64 2, .int .i64 0, .string s, .int .i64 0, .int .i64 0]) ∧ Adds w w' := by
  go_enter Try.func66, Try.ntmps66
  go_wp2
  exact bodyPost_ret (v := (V.mkText s).val) (by simp [results, Try.results66, go_sem, V.val, V.mkText]) rfl ⟨rfl, by repeat (first | with_reducible exact Adds.refl _ | with_reducible refine Adds.alloc ?_ _ | with_reducible refine Adds.more ?_ _ _ | with_reducible refine Adds.drew ?_ | with_reducible refine Adds.drewN ?_ _)⟩

theorem rPoint_any (x y : Int) (w : World) :
    Calls Try.prog 67 #[Gs.pt x y] w fun e w' => e = .returned (.agg #[.int .i64 3, .int .i64 0, .string ⟨#[]⟩, .int .i64 x, .int .i64 y]) ∧ Adds w w' := by
  go_enter Try.func67, Try.ntmps67
  go_wp2
  exact bodyPost_ret (v := (V.mkPoint x y).val) (by simp [results, Try.results67, go_sem, V.val, V.mkPoint]) rfl ⟨rfl, by repeat (first | with_reducible exact Adds.refl _ | with_reducible refine Adds.alloc ?_ _ | with_reducible refine Adds.more ?_ _ _ | with_reducible refine Adds.drew ?_ | with_reducible refine Adds.drewN ?_ _)⟩

set_option maxHeartbeats 1000000 in
theorem rAs_any (v : V) (w : World) :
    Calls Try.prog 79 #[v.val] w fun e w' => e = .returned (.tuple #[Gs.pt (asRe v) (asIm v), .bool (if v.kind = 1 then decide (Gs.May v.num 0) else (v.kind == 3))]) ∧ Adds w w' := by
  obtain ⟨k, n, t, re, im⟩ := v
  simp only [V.val, asRe, asIm]
  by_cases hk : k = 1
  · subst hk
    have kM := Gs.rmay_any n 0
    rw [if_pos rfl, if_pos rfl, if_pos rfl]
    generalize decide (Gs.May n 0) = q at *
    go_enter Try.func79, Try.ntmps79
    go_wp2
    go_region_with (first
      | (go_at_call 87; refine (kM _).mono ?_; rintro e w1 ⟨rfl, os1, n1, rfl⟩))
    all_goals
      go_wp2
      exact bodyPost_ret (v := .tuple #[Gs.pt n 0, .bool q]) (by simp [results, Try.results79, go_sem]) rfl ⟨rfl, by repeat (first | with_reducible exact Adds.refl _ | with_reducible refine Adds.alloc ?_ _ | with_reducible refine Adds.more ?_ _ _ | with_reducible refine Adds.drew ?_ | with_reducible refine Adds.drewN ?_ _)⟩
  · have hk' : (k == 1) = false := by simpa using hk
    rw [if_neg hk, if_neg hk, if_neg hk]
    clear hk
    generalize hk3 : (k == 3) = q at *
    go_enter Try.func79, Try.ntmps79
    go_wp2
    go_region
    all_goals
      go_wp2
      exact bodyPost_ret (v := .tuple #[Gs.pt re im, .bool q]) (by simp [results, Try.results79, go_sem]) rfl ⟨rfl, by repeat (first | with_reducible exact Adds.refl _ | with_reducible refine Adds.alloc ?_ _ | with_reducible refine Adds.more ?_ _ _ | with_reducible refine Adds.drew ?_ | with_reducible refine Adds.drewN ?_ _)⟩


end Go.Proofs.Ytdlkpkldlljhcaa
