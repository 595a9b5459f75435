/-
  The quotient and the rest by contracts: gauss.divide, gauss.Div.
-/
import Derived.Test.YtlbeebhehgnppaaNearest
import Derived.Test.YtlbeebhehgnppaaSums
import Derived.Deep.Cut
import Derived.Deep.RegionHeld3
namespace Go.Proofs.Ytlbeebhehgnppaa
open Go.RowKit
attribute [local go_sem] cell?_addTo cell?_more frozen?_more setCell_more size_more tape_more drew_more drewN_more more_drew more_drewN more_more one_out plus_out lt_one le_p2 le_p3 le_p4 le_p5 le_p6 le_p7 le_p8 le_p9 le_p10 le_p11 le_p12
attribute [local go_sem] plus_end le_p13 le_p14 le_p15 le_p16 le_p17 le_p18 le_p19 le_p20 le_p21 le_p22 le_p23 le_p24 le_p25 le_p26 le_p27 le_p28 le_p29 le_p30

theorem ptr_eq {m n : Nat} (h : m = n) : Value.pointer (some ⟨m, 0, none⟩) = Value.pointer (some ⟨n, 0, none⟩) := by rw [h]

theorem more_back {X : World} {o : Obj} {os : Array Obj} {k : Nat} : more (X.alloc o) os k = more ((more X #[] 0).alloc o) os k := by rw [more_nil]

theorem may_mirror {c d : Int} (h : May c d) : May c (-d) := by unfold May at *; omega

theorem norm_le {c d : Int} (h : May c d) : c * c + d * d ≤ 2199023255552 := by
  have := may_mul h h
  omega

theorem cre_small {a b c d : Int} (ha : May a b) (hb : May c d) : (-4398046511104 ≤ cre a b c d ∧ cre a b c d ≤ 4398046511104) ∧ (-4398046511104 ≤ cim a b c d ∧ cim a b c d ≤ 4398046511104) := by
  have := may_mul ha (may_mirror hb)
  unfold cre cim
  omega

/-- The rest, as the model's floats have it. -/
theorem sub_exact (a b c d : Int) (ha : May a b) (hb : May c d) (h0 : ¬ (c = 0 ∧ d = 0)) : ∃ re im re' im', cMulBits (floatOfInt .f64 (quoRe a b c d)) (floatOfInt .f64 (quoIm a b c d)) (floatOfInt .f64 c) (floatOfInt .f64 d) = some (re, im) ∧
    cSumBits .sub .f64 (floatOfInt .f64 a) (floatOfInt .f64 b) re im = some (re', im') ∧ floatToIntVal .f64 re' .i64 = some (resRe a b c d) ∧ floatToIntVal .f64 im' .i64 = some (resIm a b c d) := by
  obtain ⟨re, im, h1, h2, h3⟩ := mul_exact _ _ c d (quo_may ha h0) hb
  have hr := res_may (a := a) (b := b) hb h0
  obtain ⟨⟨r1, r2⟩, ⟨r3, r4⟩⟩ := hr
  obtain ⟨⟨a1, a2⟩, ⟨b1, b2⟩⟩ := ha
  have fa := isF_ofInt a (small53 (by omega) (by omega))
  have fb := isF_ofInt b (small53 (by omega) (by omega))
  obtain ⟨x, e1, g1⟩ := isF_sub fa h2 (small53 (by unfold resRe at r1; omega) (by unfold resRe at r2; omega))
  obtain ⟨y, e2, g2⟩ := isF_sub fb h3 (small53 (by unfold resIm at r3; omega) (by unfold resIm at r4; omega))
  refine ⟨re, im, x, y, h1, ?_, isF_int (n := resRe a b c d) g1 (small53 (by omega) (by omega)), isF_int (n := resIm a b c d) g2 (small53 (by omega) (by omega))⟩
  unfold cSumBits
  rw [e1, e2]
  rfl

set_option maxHeartbeats 3000000 in
theorem divide_any (a b c d : Int) (ha : May a b) (hb : May c d) (h0 : ¬ (c = 0 ∧ d = 0)) (w : World) :
    Calls Try.prog 32 #[pt a b, pt c d] w fun e w' => e = .returned (.tuple #[pt (quoRe a b c d) (quoIm a b c d), pt (resRe a b c d) (resIm a b c d)]) ∧ Adds w w' := by
  obtain ⟨re, im, re', im', x1, x2, x3, x4⟩ := sub_exact a b c d ha hb h0
  have hs := cre_small ha hb
  have hM := mirror_may c d hb
  have hT := times_any a b c (-d) ha (may_mirror hb)
  change ∀ w, Calls Try.prog 29 #[pt a b, pt c (-d)] w fun e w' => e = .returned (pt (cre a b c d) (cim a b c d)) ∧ Adds w w' at hT
  have hN := norm_may c d hb
  have q1 := nearest_any (cre a b c d) (c * c + d * d) (norm_pos h0) (norm_le hb) hs.1.1 hs.1.2
  have q2 := nearest_any (cim a b c d) (c * c + d * d) (norm_pos h0) (norm_le hb) hs.2.1 hs.2.2
  change ∀ w, Calls Try.prog 37 #[.int .i64 (cre a b c d), .int .i64 (c * c + d * d)] w fun e w' => e = .returned (.int .i64 (quoRe a b c d)) ∧ Adds w w' at q1
  change ∀ w, Calls Try.prog 37 #[.int .i64 (cim a b c d), .int .i64 (c * c + d * d)] w fun e w' => e = .returned (.int .i64 (quoIm a b c d)) ∧ Adds w w' at q2
  have n1 := number_any a b
  have n2 := number_any (quoRe a b c d) (quoIm a b c d)
  have n3 := number_any c d
  have n4 := point_any re' im' _ _ x3 x4
  clear hs ha hb h0 x3 x4
  generalize cre a b c d = U at *
  generalize cim a b c d = V at *
  generalize c * c + d * d = N at *
  generalize quoRe a b c d = A at *
  generalize quoIm a b c d = B at *
  generalize resRe a b c d = C at *
  generalize resIm a b c d = D at *
  generalize floatOfInt .f64 a = fa at *
  generalize floatOfInt .f64 b = fb at *
  generalize floatOfInt .f64 c = fc at *
  generalize floatOfInt .f64 d = fd at *
  generalize floatOfInt .f64 A = fA at *
  generalize floatOfInt .f64 B = fB at *
  have r1 : ∀ (t : TypeId) (w : World), (binOp .mul t (.complex .f64 fA fB) (.complex .f64 fc fd)).run Try.prog w = .ok (.complex .f64 re im) w := fun t w => run_complex_mul (P := Try.prog) w t _ _ _ _ _ _ x1
  have r2 : ∀ (t : TypeId) (w : World), (binOp .sub t (.complex .f64 fa fb) (.complex .f64 re im)).run Try.prog w = .ok (.complex .f64 re' im') w := fun t w => run_complex_sum (P := Try.prog) w .sub (.inr rfl) t _ _ _ _ _ _ _ x2
  clear x1 x2
  go_enter Try.func32, Try.ntmps32
  go_wp2
  go_cut [6, 7] from 8 (fun p n wc => ∃ (o1 : Array Obj) (k1 : Nat) (o2 : Array Obj) (k2 : Nat), p = .pointer (some ⟨w.heap.size + o1.size + 1 + 1 + 1 + 1, 0, none⟩) ∧ n = .int .i64 N ∧ wc = more ((more ((((w.alloc (box a b)).alloc (box c d)).alloc (box 0 0)).alloc (box 0 0)) o1 k1).alloc (box U V)) o2 k2)
  case rest =>
    obtain ⟨o1, k1, o2, k2, rfl, rfl, rfl⟩ := hcut
    go_wp2
    go_region_held3 (fun w' => w'.cell? ⟨w.heap.size + o1.size + 1 + 1 + 1 + 1, 0, none⟩ = some (.int .i64 U) ∧ w'.cell? ⟨w.heap.size + o1.size + 1 + 1 + 1 + 1, 1, none⟩ = some (.int .i64 V) ∧ w.heap.size + o1.size + 1 + 1 + 1 + 1 < w'.heap.size)
      (refine ⟨?_, ?_, ?_⟩ <;> simp [go_sem, *])
      (first
      | (go_at_call 37; (with_reducible refine (q1 _).mono ?_); rintro e w1 ⟨rfl, os, k, rfl⟩)
      | (go_at_call 37; (with_reducible refine (q2 _).mono ?_); rintro e w1 ⟨rfl, os, k, rfl⟩))
    go_wp2
    go_region_held3 (fun w' => w'.cell? ⟨w.heap.size, 0, none⟩ = some (.int .i64 a) ∧ w'.cell? ⟨w.heap.size, 1, none⟩ = some (.int .i64 b) ∧ w'.cell? ⟨w.heap.size + 1, 0, none⟩ = some (.int .i64 c) ∧ w'.cell? ⟨w.heap.size + 1, 1, none⟩ = some (.int .i64 d) ∧ w'.cell? ⟨w.heap.size + 1 + 1, 0, none⟩ = some (.int .i64 A) ∧ w'.cell? ⟨w.heap.size + 1 + 1, 1, none⟩ = some (.int .i64 B) ∧ w.heap.size + 1 + 1 < w'.heap.size)
      (refine ⟨?_, ?_, ?_, ?_, ?_, ?_, ?_⟩ <;> simp [go_sem, *])
      (first
      | (go_at_call 36; (with_reducible refine (n1 _).mono ?_); rintro e w1 ⟨rfl, os, k, rfl⟩)
      | (go_at_call 36; (with_reducible refine (n2 _).mono ?_); rintro e w1 ⟨rfl, os, k, rfl⟩)
      | (go_at_call 36; (with_reducible refine (n3 _).mono ?_); rintro e w1 ⟨rfl, os, k, rfl⟩)
      | (go_at_call 35; (with_reducible refine (n4 _).mono ?_); rintro e w1 ⟨rfl, os, k, rfl⟩))
    go_wp2
    go_region
    all_goals go_wp2
    all_goals
      refine bodyPost_ret (v := .tuple #[pt A B, pt C D]) (by simp [results, Try.results32, go_sem]) rfl ⟨rfl, ?_⟩
      repeat (first | with_reducible exact Adds.refl _ | with_reducible refine Adds.alloc ?_ _ | with_reducible refine Adds.more ?_ _ _ | with_reducible refine Adds.drew ?_)
  case first =>
    go_region_held3 (fun w' => w'.cell? ⟨w.heap.size, 0, none⟩ = some (.int .i64 a) ∧ w'.cell? ⟨w.heap.size, 1, none⟩ = some (.int .i64 b) ∧ w'.cell? ⟨w.heap.size + 1, 0, none⟩ = some (.int .i64 c) ∧ w'.cell? ⟨w.heap.size + 1, 1, none⟩ = some (.int .i64 d) ∧ w.heap.size + 1 < w'.heap.size)
      (refine ⟨?_, ?_, ?_, ?_, ?_⟩ <;> simp [go_sem, *])
      (first
      | (go_at_call 16; refine (hM _).mono ?_; rintro e w1 ⟨rfl, os, k, rfl⟩)
      | (go_at_call 29; refine (hT _).mono ?_; rintro e w1 ⟨rfl, os, k, rfl⟩)
      | (go_at_call 15; refine (hN _).mono ?_; rintro e w1 ⟨rfl, os, k, rfl⟩))
    all_goals go_wp2
    all_goals go_meet
    · exact ⟨_, _, #[], 0, ptr_eq (by simp; omega), rfl, (more_nil _).symm⟩
    · exact ⟨_, _, _, _, ptr_eq (by simp; omega), rfl, rfl⟩
    · exact ⟨_, _, _, _, ptr_eq rfl, rfl, rfl⟩
    · exact ⟨#[], 0, _, _, ptr_eq (by simp), rfl, more_back⟩

end Go.Proofs.Ytlbeebhehgnppaa
