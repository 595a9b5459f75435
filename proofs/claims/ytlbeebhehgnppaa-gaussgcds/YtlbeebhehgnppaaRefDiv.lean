/-
  The document's Div and Divides by contracts.
-/
import Derived.Test.YtlbeebhehgnppaaDivide
namespace Go.Proofs.Ytlbeebhehgnppaa
open Go.RowKit
attribute [local go_sem] cell?_addTo cell?_more frozen?_more setCell_more size_more tape_more drew_more drewN_more more_drew more_drewN more_more one_out plus_out lt_one le_p2 le_p3 le_p4 le_p5 le_p6 le_p7 le_p8 le_p9 le_p10 le_p11 le_p12
attribute [local go_sem] plus_end le_p13 le_p14 le_p15 le_p16 le_p17 le_p18 le_p19 le_p20 le_p21 le_p22 le_p23 le_p24 le_p25 le_p26 le_p27 le_p28 le_p29 le_p30

set_option maxHeartbeats 3000000 in
theorem rdiv_any (a b c d : Int) (ha : May a b) (hb : May c d) (h0 : ¬ (c = 0 ∧ d = 0)) (w : World) :
    Calls Try.prog 22 #[pt a b, pt c d] w fun e w' => e = .returned (.tuple #[pt (quoRe a b c d) (quoIm a b c d), pt (resRe a b c d) (resIm a b c d)]) ∧ Adds w w' := by
  have hs := cre_small ha hb
  have hT := rmul_any a b c (-d) ha (may_mirror hb)
  change ∀ w, Calls Try.prog 14 #[pt a b, pt c (-d)] w fun e w' => e = .returned (pt (cre a b c d) (cim a b c d)) ∧ Adds w w' at hT
  have hN := rnorm_any c d hb
  have q1 := rnearest_any (cre a b c d) (c * c + d * d) (norm_pos h0) (norm_le hb) hs.1.1 hs.1.2
  have q2 := rnearest_any (cim a b c d) (c * c + d * d) (norm_pos h0) (norm_le hb) hs.2.1 hs.2.2
  change ∀ w, Calls Try.prog 33 #[.int .i64 (cre a b c d), .int .i64 (c * c + d * d)] w fun e w' => e = .returned (.int .i64 (quoRe a b c d)) ∧ Adds w w' at q1
  change ∀ w, Calls Try.prog 33 #[.int .i64 (cim a b c d), .int .i64 (c * c + d * d)] w fun e w' => e = .returned (.int .i64 (quoIm a b c d)) ∧ Adds w w' at q2
  have hP := rmul_any _ _ c d (quo_may ha h0) hb
  have hr := res_may (a := a) (b := b) hb h0
  have e1 : a - (quoRe a b c d * c - quoIm a b c d * d) = resRe a b c d := rfl
  have e2 : b - (quoRe a b c d * d + quoIm a b c d * c) = resIm a b c d := rfl
  obtain ⟨⟨r1, r2⟩, ⟨r3, r4⟩⟩ := hr
  obtain ⟨m1, m2⟩ := hb.2
  clear hs ha hb h0
  generalize resRe a b c d = C at *
  generalize resIm a b c d = D at *
  generalize cre a b c d = U at *
  generalize cim a b c d = V at *
  generalize c * c + d * d = N at *
  generalize quoRe a b c d = A at *
  generalize quoIm a b c d = B at *
  generalize A * c - B * d = X at *
  generalize A * d + B * c = Y at *
  have f1 : -9223372036854775808 ≤ a - X := by omega
  have f2 : a - X ≤ 9223372036854775807 := by omega
  have f3 : -9223372036854775808 ≤ b - Y := by omega
  have f4 : b - Y ≤ 9223372036854775807 := by omega
  subst e1 e2
  clear r1 r2 r3 r4
  go_enter Try.func22, Try.ntmps22
  go_wp2_with (first
    | (go_at_call 14; refine (hT _).mono ?_; rintro e w1 ⟨rfl, oT, kT, rfl⟩)
    | (go_at_call 20; refine (hN _).mono ?_; rintro e w1 ⟨rfl, oN, kN, rfl⟩))
  go_cut [8] from 10 (fun p wc => ∃ (o1 : Array Obj) (k1 : Nat) (o2 : Array Obj) (k2 : Nat), p = .pointer (some ⟨w.heap.size + oT.size + o1.size + 1 + 1 + 1 + 1 + 1, 0, none⟩) ∧ wc = more ((more ((more ((((w.alloc (box a b)).alloc (box c d)).alloc (box 0 0)).alloc (box 0 0)) oT kT).alloc (box U V)) o1 k1).alloc (box A B)) o2 k2)
  case rest =>
    obtain ⟨o1, k1, o2, k2, rfl, rfl⟩ := hcut
    go_wp2_with (first
      | (go_at_call 14; refine (hP _).mono ?_; rintro e w1 ⟨rfl, oP, kP, rfl⟩))
    go_region
    all_goals go_wp2
    all_goals
      refine bodyPost_ret (v := .tuple #[pt A B, pt (a - X) (b - Y)]) (by simp [results, Try.results22, go_sem]) rfl ⟨rfl, ?_⟩
      repeat (first | with_reducible exact Adds.refl _ | with_reducible refine Adds.alloc ?_ _ | with_reducible refine Adds.more ?_ _ _ | with_reducible refine Adds.drew ?_)
  case first =>
    go_region_held3 (fun w' => w'.cell? ⟨w.heap.size + oT.size + 1 + 1 + 1 + 1, 0, none⟩ = some (.int .i64 U) ∧ w'.cell? ⟨w.heap.size + oT.size + 1 + 1 + 1 + 1, 1, none⟩ = some (.int .i64 V) ∧ w.heap.size + oT.size + 1 + 1 + 1 + 1 < w'.heap.size)
      (refine ⟨?_, ?_, ?_⟩ <;> simp [go_sem, *])
      (first
      | (go_at_call 33; (with_reducible refine (q1 _).mono ?_); rintro e w1 ⟨rfl, os, k, rfl⟩)
      | (go_at_call 33; (with_reducible refine (q2 _).mono ?_); rintro e w1 ⟨rfl, os, k, rfl⟩))
    all_goals go_wp2
    all_goals go_meet
    · exact ⟨_, _, #[], 0, ptr_eq (by simp; omega), (more_nil _).symm⟩
    · exact ⟨_, _, _, _, ptr_eq (by simp; omega), rfl⟩
    · exact ⟨_, _, _, _, ptr_eq rfl, rfl⟩

theorem divides_any (a b c d : Int) (ha : May a b) (hb : May c d) (h0 : ¬ (c = 0 ∧ d = 0)) (w : World) :
    Calls Try.prog 25 #[pt c d, pt a b] w fun e w' => e = .returned (.bool (decide (resRe a b c d = 0 ∧ resIm a b c d = 0))) ∧ Adds w w' := by
  have h := rdiv_any a b c d ha hb h0
  clear ha hb h0
  generalize quoRe a b c d = A at *
  generalize quoIm a b c d = B at *
  generalize resRe a b c d = C at *
  generalize resIm a b c d = D at *
  go_enter Try.func25, Try.ntmps25
  go_wp2_with (go_at_call 22; refine (h _).mono ?_; rintro e w1 ⟨rfl, os, k, rfl⟩)
  all_goals
    go_ret
    refine ⟨by simp_all, ?_⟩
    repeat (first | with_reducible exact Adds.refl _ | with_reducible refine Adds.alloc ?_ _ | with_reducible refine Adds.more ?_ _ _ | with_reducible refine Adds.drew ?_)

end Go.Proofs.Ytlbeebhehgnppaa
