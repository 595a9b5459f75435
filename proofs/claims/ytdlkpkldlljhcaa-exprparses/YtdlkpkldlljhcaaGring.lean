/-
  Sums and products by contracts: quarter, Norm, Mirror, Add, Mul; the document's May, Mul, Norm; none and awake.
-/
import Derived.Test.YtdlkpkldlljhcaaGtimes
namespace Go.Proofs.Ytdlkpkldlljhcaa.Gs
open Go.RowKit
attribute [local go_sem] cell?_more frozen?_more setCell_more size_more tape_more drew_more drewN_more more_drew more_drewN more_more one_out plus_out lt_one le_p2 le_p3 le_p4 le_p5 le_p6 le_p7 le_p8 le_p9 le_p10 le_p11 le_p12

theorem quarter_any (a b : Int) (ha : May a b) (w : World) :
    Calls Try.prog 84 #[pt a b] w fun e w' => e = .returned (pt (-b) a) ∧ Adds w w' := by
  have h := times_any a b 0 1 ha (by decide)
  have e1 : a * 0 - b * 1 = -b := by omega
  have e2 : a * 1 + b * 0 = a := by omega
  rw [e1, e2] at h
  clear e1 e2
  go_enter Try.func84, Try.ntmps84
  go_wp2_with (go_at_call 78; refine (h _).mono ?_; rintro e w1 ⟨rfl, os, k, rfl⟩)
  refine bodyPost_ret (v := pt (-b) a) (by simp [results, Try.results84, go_sem]) rfl ⟨rfl, ?_⟩
  repeat (first | exact Adds.refl _ | refine Adds.alloc ?_ _ | refine Adds.more ?_ _ _ | refine Adds.drew ?_)

theorem norm_may (a b : Int) (ha : May a b) (w : World) :
    Calls Try.prog 72 #[pt a b] w fun e w' => e = .returned (.int .i64 (a * a + b * b)) ∧ Adds w w' := by
  have h := check_may a b ha
  obtain ⟨⟨m1, m2⟩, ⟨m3, m4⟩, ⟨m5, m6⟩, ⟨m7, m8⟩⟩ := may_mul ha ha
  go_enter Try.func72, Try.ntmps72
  go_wp2_with (go_at_call 83; refine (h _).mono ?_; rintro e w1 ⟨rfl, os, k, rfl⟩)
  go_ret
  refine ⟨rfl, ?_⟩
  repeat (first | exact Adds.refl _ | refine Adds.alloc ?_ _ | refine Adds.more ?_ _ _ | refine Adds.drew ?_)

theorem norm_not (a b : Int) (ha : ¬ May a b) (w : World) :
    Calls Try.prog 72 #[pt a b] w fun e w' => e = .returned (.int .i64 0) ∧ Adds w w' := by
  have h := check_not a b ha
  go_enter Try.func72, Try.ntmps72
  go_wp2_with (go_at_call 83; refine (h _).mono ?_; rintro e w1 ⟨rfl, os, k, rfl⟩)
  go_ret
  refine ⟨rfl, ?_⟩
  repeat (first | exact Adds.refl _ | refine Adds.alloc ?_ _ | refine Adds.more ?_ _ _ | refine Adds.drew ?_)

theorem mirror_may (a b : Int) (ha : May a b) (w : World) :
    Calls Try.prog 73 #[pt a b] w fun e w' => e = .returned (pt a (-b)) ∧ Adds w w' := by
  have h := check_may a b ha
  obtain ⟨⟨m1, m2⟩, ⟨m3, m4⟩⟩ := ha
  go_enter Try.func73, Try.ntmps73
  go_wp2_with (go_at_call 83; refine (h _).mono ?_; rintro e w1 ⟨rfl, os, k, rfl⟩)
  refine bodyPost_ret (v := pt a (-b)) (by simp [results, Try.results73, go_sem]) rfl ⟨rfl, ?_⟩
  repeat (first | exact Adds.refl _ | refine Adds.alloc ?_ _ | refine Adds.more ?_ _ _ | refine Adds.drew ?_)

theorem mirror_not (a b : Int) (ha : ¬ May a b) (w : World) :
    Calls Try.prog 73 #[pt a b] w fun e w' => e = .returned (pt 0 0) ∧ Adds w w' := by
  have h := check_not a b ha
  go_enter Try.func73, Try.ntmps73
  go_wp2_with (go_at_call 83; refine (h _).mono ?_; rintro e w1 ⟨rfl, os, k, rfl⟩)
  refine bodyPost_ret (v := pt 0 0) (by simp [results, Try.results73, go_sem]) rfl ⟨rfl, ?_⟩
  repeat (first | exact Adds.refl _ | refine Adds.alloc ?_ _ | refine Adds.more ?_ _ _ | refine Adds.drew ?_)

theorem add_arg (a b c d : Int) (h : ¬ (May a b ∧ May c d)) (w : World) :
    Calls Try.prog 59 #[pt a b, pt c d] w fun e w' => e = .returned (.tuple #[pt 0 0, .int .i64 1]) ∧ Adds w w' := by
  have h1 := checkBoth_not a b c d h
  go_enter Try.func59, Try.ntmps59
  go_wp2_with (go_at_call 76; refine (h1 _).mono ?_; rintro e w1 ⟨rfl, os, k, rfl⟩)
  refine bodyPost_ret (v := .tuple #[pt 0 0, .int .i64 1]) (by simp [results, Try.results59, go_sem]) rfl ⟨rfl, ?_⟩
  repeat (first | exact Adds.refl _ | refine Adds.alloc ?_ _ | refine Adds.more ?_ _ _ | refine Adds.drew ?_)

theorem add_may (a b c d : Int) (ha : May a b) (hb : May c d) (w : World) :
    Calls Try.prog 59 #[pt a b, pt c d] w fun e w' => e = .returned (if May (a + c) (b + d) then .tuple #[pt (a + c) (b + d), .int .i64 0] else .tuple #[pt 0 0, .int .i64 3]) ∧ Adds w w' := by
  have h1 := checkBoth_may a b c d ha hb
  obtain ⟨⟨m1, m2⟩, ⟨m3, m4⟩⟩ := ha
  obtain ⟨⟨n1, n2⟩, ⟨n3, n4⟩⟩ := hb
  have f1 : -9223372036854775808 ≤ a + c := by omega
  have f2 : a + c ≤ 9223372036854775807 := by omega
  have f3 : -9223372036854775808 ≤ b + d := by omega
  have f4 : b + d ≤ 9223372036854775807 := by omega
  by_cases hs : May (a + c) (b + d)
  · have h2 := fit_may _ _ hs
    rw [if_pos hs]
    clear hs
    go_enter Try.func59, Try.ntmps59
    go_wp2_with (first | (go_at_call 76; refine (h1 _).mono ?_; rintro e w1 ⟨rfl, os, k, rfl⟩) | (go_at_call 77; refine (h2 _).mono ?_; rintro e w1 ⟨rfl, os, k, rfl⟩))
    refine bodyPost_ret (v := .tuple #[pt (a + c) (b + d), .int .i64 0]) (by simp [results, Try.results59, go_sem]) rfl ⟨rfl, ?_⟩
    repeat (first | exact Adds.refl _ | refine Adds.alloc ?_ _ | refine Adds.more ?_ _ _ | refine Adds.drew ?_)
  · have h2 := fit_not _ _ hs
    rw [if_neg hs]
    clear hs
    go_enter Try.func59, Try.ntmps59
    go_wp2_with (first | (go_at_call 76; refine (h1 _).mono ?_; rintro e w1 ⟨rfl, os, k, rfl⟩) | (go_at_call 77; refine (h2 _).mono ?_; rintro e w1 ⟨rfl, os, k, rfl⟩))
    refine bodyPost_ret (v := .tuple #[pt 0 0, .int .i64 3]) (by simp [results, Try.results59, go_sem]) rfl ⟨rfl, ?_⟩
    repeat (first | exact Adds.refl _ | refine Adds.alloc ?_ _ | refine Adds.more ?_ _ _ | refine Adds.drew ?_)

theorem mul_arg (a b c d : Int) (h : ¬ (May a b ∧ May c d)) (w : World) :
    Calls Try.prog 61 #[pt a b, pt c d] w fun e w' => e = .returned (.tuple #[pt 0 0, .int .i64 1]) ∧ Adds w w' := by
  have h1 := checkBoth_not a b c d h
  go_enter Try.func61, Try.ntmps61
  go_wp2_with (go_at_call 76; refine (h1 _).mono ?_; rintro e w1 ⟨rfl, os, k, rfl⟩)
  refine bodyPost_ret (v := .tuple #[pt 0 0, .int .i64 1]) (by simp [results, Try.results61, go_sem]) rfl ⟨rfl, ?_⟩
  repeat (first | exact Adds.refl _ | refine Adds.alloc ?_ _ | refine Adds.more ?_ _ _ | refine Adds.drew ?_)

theorem mul_may (a b c d : Int) (ha : May a b) (hb : May c d) (w : World) :
    Calls Try.prog 61 #[pt a b, pt c d] w fun e w' => e = .returned (if May (a * c - b * d) (a * d + b * c) then .tuple #[pt (a * c - b * d) (a * d + b * c), .int .i64 0] else .tuple #[pt 0 0, .int .i64 3]) ∧ Adds w w' := by
  have h1 := checkBoth_may a b c d ha hb
  have h3 := times_any a b c d ha hb
  by_cases hs : May (a * c - b * d) (a * d + b * c)
  · have h2 := fit_may _ _ hs
    rw [if_pos hs]
    clear hs
    generalize a * c - b * d = u at *
    generalize a * d + b * c = v at *
    go_enter Try.func61, Try.ntmps61
    go_wp2_with (first | (go_at_call 76; refine (h1 _).mono ?_; rintro e w1 ⟨rfl, os, k, rfl⟩) | (go_at_call 77; refine (h2 _).mono ?_; rintro e w1 ⟨rfl, os, k, rfl⟩) | (go_at_call 78; refine (h3 _).mono ?_; rintro e w1 ⟨rfl, os, k, rfl⟩))
    refine bodyPost_ret (v := .tuple #[pt u v, .int .i64 0]) (by simp [results, Try.results61, go_sem]) rfl ⟨rfl, ?_⟩
    repeat (first | exact Adds.refl _ | refine Adds.alloc ?_ _ | refine Adds.more ?_ _ _ | refine Adds.drew ?_)
  · have h2 := fit_not _ _ hs
    rw [if_neg hs]
    clear hs
    generalize a * c - b * d = u at *
    generalize a * d + b * c = v at *
    go_enter Try.func61, Try.ntmps61
    go_wp2_with (first | (go_at_call 76; refine (h1 _).mono ?_; rintro e w1 ⟨rfl, os, k, rfl⟩) | (go_at_call 77; refine (h2 _).mono ?_; rintro e w1 ⟨rfl, os, k, rfl⟩) | (go_at_call 78; refine (h3 _).mono ?_; rintro e w1 ⟨rfl, os, k, rfl⟩))
    refine bodyPost_ret (v := .tuple #[pt 0 0, .int .i64 3]) (by simp [results, Try.results61, go_sem]) rfl ⟨rfl, ?_⟩
    repeat (first | exact Adds.refl _ | refine Adds.alloc ?_ _ | refine Adds.more ?_ _ _ | refine Adds.drew ?_)

theorem rmay_any (a b : Int) (w : World) :
    Calls Try.prog 87 #[pt a b] w fun e w' => e = .returned (.bool (decide (May a b))) ∧ Adds w w' := by
  go_enter Try.func87, Try.ntmps87
  go_wp2
  all_goals
    go_ret
    refine ⟨?_, (Adds.refl _).alloc _⟩
    first
      | (have h : ¬ May a b := fun h => by unfold May at h; omega
         simp [h])
      | (have h : May a b ↔ b ≤ 1048576 := by unfold May; omega
         simp [h])

theorem rmul_any (a b c d : Int) (ha : May a b) (hb : May c d) (w : World) :
    Calls Try.prog 80 #[pt a b, pt c d] w fun e w' => e = .returned (pt (a * c - b * d) (a * d + b * c)) ∧ Adds w w' := by
  obtain ⟨⟨m1, m2⟩, ⟨m3, m4⟩, ⟨m5, m6⟩, ⟨m7, m8⟩⟩ := may_mul ha hb
  go_enter Try.func80, Try.ntmps80
  go_wp2
  refine bodyPost_ret (v := pt (a * c - b * d) (a * d + b * c)) (by simp [results, Try.results80, go_sem]) rfl ⟨rfl, ?_⟩
  repeat (first | exact Adds.refl _ | refine Adds.alloc ?_ _ | refine Adds.more ?_ _ _ | refine Adds.drew ?_)

theorem rnorm_any (a b : Int) (ha : May a b) (w : World) :
    Calls Try.prog 81 #[pt a b] w fun e w' => e = .returned (.int .i64 (a * a + b * b)) ∧ Adds w w' := by
  obtain ⟨⟨m1, m2⟩, ⟨m3, m4⟩, ⟨m5, m6⟩, ⟨m7, m8⟩⟩ := may_mul ha ha
  go_enter Try.func81, Try.ntmps81
  go_wp2
  go_ret
  refine ⟨rfl, ?_⟩
  repeat (first | exact Adds.refl _ | refine Adds.alloc ?_ _ | refine Adds.more ?_ _ _ | refine Adds.drew ?_)

end Go.Proofs.Ytdlkpkldlljhcaa.Gs
