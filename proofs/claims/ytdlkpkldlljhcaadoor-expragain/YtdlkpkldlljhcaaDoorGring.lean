/-
  Sums and products by contracts: quarter, Norm, Mirror, Add, Mul; the document's May, Mul, Norm; none and awake.
-/
import Derived.Test.YtdlkpkldlljhcaaDoorGtimes
namespace Go.Proofs.YtdlkpkldlljhcaaDoor.Gs
open Go.RowKit
attribute [local go_sem] cell?_more frozen?_more setCell_more size_more tape_more drew_more drewN_more more_drew more_drewN more_more one_out plus_out lt_one le_p2 le_p3 le_p4 le_p5 le_p6 le_p7 le_p8 le_p9 le_p10 le_p11 le_p12

theorem quarter_any (a b : Int) (ha : May a b) (w : World) :
    Calls Tryd.prog 79 #[pt a b] w fun e w' => e = .returned (pt (-b) a) ∧ Adds w w' := by
  have h := times_any a b 0 1 ha (by decide)
  have e1 : a * 0 - b * 1 = -b := by omega
  have e2 : a * 1 + b * 0 = a := by omega
  rw [e1, e2] at h
  clear e1 e2
  go_enter Tryd.func79, Tryd.ntmps79
  go_wp2_with (go_at_call 73; refine (h _).mono ?_; rintro e w1 ⟨rfl, os, k, rfl⟩)
  refine bodyPost_ret (v := pt (-b) a) (by simp [results, Tryd.results79, go_sem]) rfl ⟨rfl, ?_⟩
  repeat (first | exact Adds.refl _ | refine Adds.alloc ?_ _ | refine Adds.more ?_ _ _ | refine Adds.drew ?_)

theorem norm_may (a b : Int) (ha : May a b) (w : World) :
    Calls Tryd.prog 67 #[pt a b] w fun e w' => e = .returned (.int .i64 (a * a + b * b)) ∧ Adds w w' := by
  have h := check_may a b ha
  obtain ⟨⟨m1, m2⟩, ⟨m3, m4⟩, ⟨m5, m6⟩, ⟨m7, m8⟩⟩ := may_mul ha ha
  go_enter Tryd.func67, Tryd.ntmps67
  go_wp2_with (go_at_call 78; refine (h _).mono ?_; rintro e w1 ⟨rfl, os, k, rfl⟩)
  go_ret
  refine ⟨rfl, ?_⟩
  repeat (first | exact Adds.refl _ | refine Adds.alloc ?_ _ | refine Adds.more ?_ _ _ | refine Adds.drew ?_)

theorem norm_not (a b : Int) (ha : ¬ May a b) (w : World) :
    Calls Tryd.prog 67 #[pt a b] w fun e w' => e = .returned (.int .i64 0) ∧ Adds w w' := by
  have h := check_not a b ha
  go_enter Tryd.func67, Tryd.ntmps67
  go_wp2_with (go_at_call 78; refine (h _).mono ?_; rintro e w1 ⟨rfl, os, k, rfl⟩)
  go_ret
  refine ⟨rfl, ?_⟩
  repeat (first | exact Adds.refl _ | refine Adds.alloc ?_ _ | refine Adds.more ?_ _ _ | refine Adds.drew ?_)

theorem mirror_may (a b : Int) (ha : May a b) (w : World) :
    Calls Tryd.prog 68 #[pt a b] w fun e w' => e = .returned (pt a (-b)) ∧ Adds w w' := by
  have h := check_may a b ha
  obtain ⟨⟨m1, m2⟩, ⟨m3, m4⟩⟩ := ha
  go_enter Tryd.func68, Tryd.ntmps68
  go_wp2_with (go_at_call 78; refine (h _).mono ?_; rintro e w1 ⟨rfl, os, k, rfl⟩)
  refine bodyPost_ret (v := pt a (-b)) (by simp [results, Tryd.results68, go_sem]) rfl ⟨rfl, ?_⟩
  repeat (first | exact Adds.refl _ | refine Adds.alloc ?_ _ | refine Adds.more ?_ _ _ | refine Adds.drew ?_)

theorem mirror_not (a b : Int) (ha : ¬ May a b) (w : World) :
    Calls Tryd.prog 68 #[pt a b] w fun e w' => e = .returned (pt 0 0) ∧ Adds w w' := by
  have h := check_not a b ha
  go_enter Tryd.func68, Tryd.ntmps68
  go_wp2_with (go_at_call 78; refine (h _).mono ?_; rintro e w1 ⟨rfl, os, k, rfl⟩)
  refine bodyPost_ret (v := pt 0 0) (by simp [results, Tryd.results68, go_sem]) rfl ⟨rfl, ?_⟩
  repeat (first | exact Adds.refl _ | refine Adds.alloc ?_ _ | refine Adds.more ?_ _ _ | refine Adds.drew ?_)

theorem add_arg (a b c d : Int) (h : ¬ (May a b ∧ May c d)) (w : World) :
    Calls Tryd.prog 60 #[pt a b, pt c d] w fun e w' => e = .returned (.tuple #[pt 0 0, .int .i64 1]) ∧ Adds w w' := by
  have h1 := checkBoth_not a b c d h
  go_enter Tryd.func60, Tryd.ntmps60
  go_wp2_with (go_at_call 71; refine (h1 _).mono ?_; rintro e w1 ⟨rfl, os, k, rfl⟩)
  refine bodyPost_ret (v := .tuple #[pt 0 0, .int .i64 1]) (by simp [results, Tryd.results60, go_sem]) rfl ⟨rfl, ?_⟩
  repeat (first | exact Adds.refl _ | refine Adds.alloc ?_ _ | refine Adds.more ?_ _ _ | refine Adds.drew ?_)

theorem add_may (a b c d : Int) (ha : May a b) (hb : May c d) (w : World) :
    Calls Tryd.prog 60 #[pt a b, pt c d] w fun e w' => e = .returned (if May (a + c) (b + d) then .tuple #[pt (a + c) (b + d), .int .i64 0] else .tuple #[pt 0 0, .int .i64 3]) ∧ Adds w w' := by
  have h1 := checkBoth_may a b c d ha hb
  obtain ⟨⟨m1, m2⟩, ⟨m3, m4⟩⟩ := ha
  obtain ⟨⟨n1, n2⟩, ⟨n3, n4⟩⟩ := hb
  have f1 : -9223372036854775808 ≤ a + c := by omega
  have f2 : a + c ≤ 9223372036854775807 := by omega
  have f3 : -9223372036854775808 ≤ b + d := by omega
  have f4 : b + d ≤ 9223372036854775807 := by omega
  by_cases hs : May (a + c) (b + d)
  · have h2 := fit_may _ _ hs
    rw [if_pos hs]
    clear hs
    go_enter Tryd.func60, Tryd.ntmps60
    go_wp2_with (first | (go_at_call 71; refine (h1 _).mono ?_; rintro e w1 ⟨rfl, os, k, rfl⟩) | (go_at_call 72; refine (h2 _).mono ?_; rintro e w1 ⟨rfl, os, k, rfl⟩))
    refine bodyPost_ret (v := .tuple #[pt (a + c) (b + d), .int .i64 0]) (by simp [results, Tryd.results60, go_sem]) rfl ⟨rfl, ?_⟩
    repeat (first | exact Adds.refl _ | refine Adds.alloc ?_ _ | refine Adds.more ?_ _ _ | refine Adds.drew ?_)
  · have h2 := fit_not _ _ hs
    rw [if_neg hs]
    clear hs
    go_enter Tryd.func60, Tryd.ntmps60
    go_wp2_with (first | (go_at_call 71; refine (h1 _).mono ?_; rintro e w1 ⟨rfl, os, k, rfl⟩) | (go_at_call 72; refine (h2 _).mono ?_; rintro e w1 ⟨rfl, os, k, rfl⟩))
    refine bodyPost_ret (v := .tuple #[pt 0 0, .int .i64 3]) (by simp [results, Tryd.results60, go_sem]) rfl ⟨rfl, ?_⟩
    repeat (first | exact Adds.refl _ | refine Adds.alloc ?_ _ | refine Adds.more ?_ _ _ | refine Adds.drew ?_)

theorem mul_arg (a b c d : Int) (h : ¬ (May a b ∧ May c d)) (w : World) :
    Calls Tryd.prog 62 #[pt a b, pt c d] w fun e w' => e = .returned (.tuple #[pt 0 0, .int .i64 1]) ∧ Adds w w' := by
  have h1 := checkBoth_not a b c d h
  go_enter Tryd.func62, Tryd.ntmps62
  go_wp2_with (go_at_call 71; refine (h1 _).mono ?_; rintro e w1 ⟨rfl, os, k, rfl⟩)
  refine bodyPost_ret (v := .tuple #[pt 0 0, .int .i64 1]) (by simp [results, Tryd.results62, go_sem]) rfl ⟨rfl, ?_⟩
  repeat (first | exact Adds.refl _ | refine Adds.alloc ?_ _ | refine Adds.more ?_ _ _ | refine Adds.drew ?_)

theorem mul_may (a b c d : Int) (ha : May a b) (hb : May c d) (w : World) :
    Calls Tryd.prog 62 #[pt a b, pt c d] w fun e w' => e = .returned (if May (a * c - b * d) (a * d + b * c) then .tuple #[pt (a * c - b * d) (a * d + b * c), .int .i64 0] else .tuple #[pt 0 0, .int .i64 3]) ∧ Adds w w' := by
  have h1 := checkBoth_may a b c d ha hb
  have h3 := times_any a b c d ha hb
  by_cases hs : May (a * c - b * d) (a * d + b * c)
  · have h2 := fit_may _ _ hs
    rw [if_pos hs]
    clear hs
    generalize a * c - b * d = u at *
    generalize a * d + b * c = v at *
    go_enter Tryd.func62, Tryd.ntmps62
    go_wp2_with (first | (go_at_call 71; refine (h1 _).mono ?_; rintro e w1 ⟨rfl, os, k, rfl⟩) | (go_at_call 72; refine (h2 _).mono ?_; rintro e w1 ⟨rfl, os, k, rfl⟩) | (go_at_call 73; refine (h3 _).mono ?_; rintro e w1 ⟨rfl, os, k, rfl⟩))
    refine bodyPost_ret (v := .tuple #[pt u v, .int .i64 0]) (by simp [results, Tryd.results62, go_sem]) rfl ⟨rfl, ?_⟩
    repeat (first | exact Adds.refl _ | refine Adds.alloc ?_ _ | refine Adds.more ?_ _ _ | refine Adds.drew ?_)
  · have h2 := fit_not _ _ hs
    rw [if_neg hs]
    clear hs
    generalize a * c - b * d = u at *
    generalize a * d + b * c = v at *
    go_enter Tryd.func62, Tryd.ntmps62
    go_wp2_with (first | (go_at_call 71; refine (h1 _).mono ?_; rintro e w1 ⟨rfl, os, k, rfl⟩) | (go_at_call 72; refine (h2 _).mono ?_; rintro e w1 ⟨rfl, os, k, rfl⟩) | (go_at_call 73; refine (h3 _).mono ?_; rintro e w1 ⟨rfl, os, k, rfl⟩))
    refine bodyPost_ret (v := .tuple #[pt 0 0, .int .i64 3]) (by simp [results, Tryd.results62, go_sem]) rfl ⟨rfl, ?_⟩
    repeat (first | exact Adds.refl _ | refine Adds.alloc ?_ _ | refine Adds.more ?_ _ _ | refine Adds.drew ?_)

end Go.Proofs.YtdlkpkldlljhcaaDoor.Gs
