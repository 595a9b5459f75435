/-
  Add of package feed onto the empty feed, by contract.
-/
import Derived.Test.YtpjhohmbifpogaaAwa
import Derived.Test.YtpjhohmbifpogaaFck
import Derived.Deep.RegionLaw
namespace Go.Proofs.Ytpjhohmbifpogaa
open Go.RowKit
attribute [local go_sem] cell?_more frozen?_more setCell_more size_more tape_more drew_more drewN_more more_drew more_drewN one_out plus_out plus_end lt_one le_p2 le_p3 le_p4 le_p5 le_p6 le_p7 le_p8 le_p9 le_p10 le_p11 le_p12 le_p13 le_p14 le_p15 le_p16 le_p17 le_p18 le_p19 le_p20 le_p21 le_p22 le_p23 le_p24 le_q0 le_q1 lt_q1 le_q2 lt_q2 le_q3 lt_q3 le_q4 lt_q4 le_q5 lt_q5 le_q6 lt_q6 le_q7 lt_q7 le_q8 lt_q8 le_q9 lt_q9 le_q10 lt_q10 le_q11 lt_q11 le_q12 lt_q12 le_q13 lt_q13 le_q14 lt_q14 le_q15 lt_q15 le_q16 lt_q16 le_q17 lt_q17 le_q18 lt_q18 le_q19 lt_q19 le_q20 lt_q20 le_q21 lt_q21 le_q22 lt_q22 le_q23 lt_q23 le_q24 lt_q24

theorem mayF_zero : MayF ⟨0, 0, [], []⟩ := ⟨Int.le_refl _, Int.le_refl _, by decide, rfl, fun k h => absurd h (by simp), by simp, fun k h => absurd h (by simp)⟩

set_option maxHeartbeats 2000000 in
set_option maxRecDepth 20000 in
theorem add_zero (x : Value) (l : List Ch) (w : World) (hx : LstH w x l) (hF : Follow l 0) (hl0 : 0 < l.length) (hl : l.length ≤ 1000) (hld : ∀ d ∈ l, d.doc.length ≤ 1000) :
    Calls Try.prog 11 #[.agg #[.int .i64 0, .int .i64 0, .slice none 0 0, .slice none 0 0], x] w fun e w' => (∃ vo vc rs, e = .returned (.tuple #[.agg #[.int .i64 0, .int .i64 (l.length : Int), .slice vo l.length vc, .slice none 0 0], .int .i64 0]) ∧ Hid (OwnH w.heap.size (.slice vo l.length vc) rs w' w' ∧ rs.map (·.1) = l)) ∧ Adds w w' := by
  have kC := fun w' => checkF_any (.agg #[.int .i64 0, .int .i64 0, .slice none 0 0, .slice none 0 0]) ⟨0, 0, [], []⟩ w' ⟨_, _, rfl, ⟨_, _, rfl, Nat.le_refl _, .inl rfl⟩, ⟨_, _, rfl, Nat.le_refl _, .inl rfl⟩⟩ (by simp)
  rw [err_ok mayF_zero] at kC
  have kO := fun w' => copyOf_zero w'
  have kF := fun w' (hA : Adds w w') => follow_any x l 0 w' (hx.adds hA) hl (by omega) (by omega)
  rw [decide_eq_true hF] at kF
  have kN := fun w' (hA : Adds w w') => copyNews_row x l w' (hx.adds hA) hl hld
  obtain ⟨xo, xc, rfl, _, _⟩ := hx
  have hle : ¬ 2147483647 < (l.length : Int) := by omega
  clear hld hF
  go_enter Try.func11, Try.ntmps11
  go_wp2_with (first
    | (go_at_call 13; refine (kC _).mono ?_; rintro e w1 ⟨rfl, os1, n1, rfl⟩)
    | (go_at_call 31; refine (kO _).mono ?_; rintro e w2 ⟨rfl, os2, n2, rfl⟩)
    | (go_at_call 32; refine (kF _ (by repeat (first | with_reducible exact Adds.refl _ | with_reducible refine Adds.alloc ?_ _ | with_reducible refine Adds.more ?_ _ _ | with_reducible refine Adds.drew ?_ | with_reducible refine Adds.drewN ?_ _))).mono ?_; rintro e w3 ⟨rfl, os3, n3, rfl⟩))
  go_region_law (first
    | (refine call_step rfl 33 (.tmp 29) 22 rfl _ rfl (kN _ (by repeat (first | with_reducible exact Adds.refl _ | with_reducible refine Adds.alloc ?_ _ | with_reducible refine Adds.more ?_ _ _ | with_reducible refine Adds.drew ?_ | with_reducible refine Adds.drewN ?_ _))) (by rintro e w' ⟨⟨v5, c5, r5, h, _⟩, _⟩; exact ⟨_, h⟩) (by go_simp) ?_; rintro u5 w5 ⟨⟨v5, c5, r5, he5, HL5⟩, os5, n5, rfl⟩; obtain rfl := Ending.returned.inj he5; clear he5; have HL5q := HL5.out; (try simp only [more_drew] at HL5q); clear HL5; have HL5 : Hid _ := HL5q; clear HL5q)
    | (refine app_nil_step rfl (.tmp 28) (.tmp 30) rfl rfl rfl (OwnH.adds HL5.out.1 (Adds.refl _)) (by have hq := congrArg List.length HL5.out.2; simpa using hq) hl0 hl ?_; rintro v6 c6 os6 d6 H6))
  all_goals
    go_wp2
    refine bodyPost_ret (v := .tuple #[.agg #[.int .i64 0, .int .i64 (l.length : Int), .slice v6 l.length c6, .slice none 0 0], .int .i64 0]) (by simp [results, Try.results11, go_sem]) rfl ⟨⟨v6, c6, r5, rfl, ?_, HL5.out.2⟩, (by repeat (first | with_reducible exact Adds.refl _ | with_reducible refine Adds.alloc ?_ _ | with_reducible refine Adds.more ?_ _ _ | with_reducible refine Adds.drew ?_ | with_reducible refine Adds.drewN ?_ _))⟩
    refine H6.out.far ?_ (by simp [go_sem] <;> omega)
    repeat (first | with_reducible exact Far.refl _ _ | with_reducible refine Far.mores ?_ (by simp [go_sem]) _ _ _ | with_reducible refine Far.allocs ?_ (by simp [go_sem]) _ | with_reducible refine Far.low ?_ (by simp [go_sem]) (by simp [go_sem] <;> omega) _ _ | with_reducible refine Far.more ?_ _ _ | with_reducible refine Far.alloc ?_ _)

end Go.Proofs.Ytpjhohmbifpogaa
