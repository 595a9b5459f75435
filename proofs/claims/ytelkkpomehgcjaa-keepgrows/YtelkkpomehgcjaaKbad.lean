/-
  The methods of nobody's reel and of nobody's keep by contracts; the law KeepNobody.
-/
import Derived.Test.YtelkkpomehgcjaaKawake
namespace Go.Proofs.Ytelkkpomehgcjaa
open Go.RowKit Go.Maps
attribute [local go_sem] cell?_more frozen?_more setCell_more size_more tape_more drew_more drewN_more more_drew more_drewN more_more one_out plus_out plus_end lt_one le_p2 le_p3 le_p4 le_p5 le_p6 le_p7 le_p8 le_p9 le_p10 le_p11 le_p12 le_p13 le_p14 le_p15 le_p16 le_p17 le_p18 le_p19 le_p20 le_p21 le_p22 le_p23 le_p24 le_q0 le_q1 lt_q1 le_q2 lt_q2 le_q3 lt_q3 le_q4 lt_q4 le_q5 lt_q5 le_q6 lt_q6 le_q7 lt_q7 le_q8 lt_q8 le_q9 lt_q9 le_q10 lt_q10 le_q11 lt_q11 le_q12 lt_q12 le_q13 lt_q13 le_q14 lt_q14 le_q15 lt_q15 le_q16 lt_q16 le_q17 lt_q17 le_q18 lt_q18 le_q19 lt_q19 le_q20 lt_q20 le_q21 lt_q21 le_q22 lt_q22 le_q23 lt_q23 le_q24 lt_q24

/-- A pointer to a reel that New did not give. -/
def Bad (z : Value) (w : World) : Prop := Calls Try.prog 38 #[z] w fun e w' => e = .returned (.bool false) ∧ w' = w

theorem bad_nil (w : World) : Bad (.pointer none) w := by
  unfold Bad
  go_enter Try.func38, Try.ntmps38
  go_wp2
  go_ret
  exact ⟨rfl, rfl⟩

theorem bad_drop {z : Value} {w : World} (h : Bad z w) (k : Int) : Calls Try.prog 47 #[z, .int .i64 k] w fun e w' => e = .returned (.int .i64 1) ∧ w' = w := by
  go_enter Try.func47, Try.ntmps47
  go_wp2_with (go_at_call 38; refine Calls.mono h ?_; rintro e w1 ⟨rfl, rfl⟩)
  go_ret
  exact ⟨rfl, rfl⟩

theorem bad_given {z : Value} {w : World} (h : Bad z w) : Calls Try.prog 31 #[z] w fun e w' => e = .returned (.bool false) ∧ w' = w := by
  have k := bad_drop h (-1)
  go_enter Try.func31, Try.ntmps31
  go_wp2_with (go_at_call 47; refine k.mono ?_; rintro e w1 ⟨rfl, rfl⟩)
  go_ret
  exact ⟨rfl, rfl⟩

theorem bad_open {z : Value} {w : World} (h : Bad z w) : Calls Try.prog 21 #[z] w fun e w' => e = .returned (.tuple #[.pointer none, .int .i64 1]) ∧ w' = w := by
  have k := bad_given h
  go_enter Try.func21, Try.ntmps21
  go_wp2_with (go_at_call 31; refine k.mono ?_; rintro e w1 ⟨rfl, rfl⟩)
  go_ret2
  exact ⟨rfl, rfl⟩

theorem bad_left {z : Value} {w : World} (h : Bad z w) : Calls Try.prog 43 #[z] w fun e w' => e = .returned (.int .i64 0) ∧ w' = w := by
  go_enter Try.func43, Try.ntmps43
  go_wp2_with (go_at_call 38; refine Calls.mono h ?_; rintro e w1 ⟨rfl, rfl⟩)
  go_ret
  exact ⟨rfl, rfl⟩

theorem bad_files {z : Value} {w : World} (h : Bad z w) : Calls Try.prog 44 #[z] w fun e w' => e = .returned (.slice none 0 0) ∧ w' = w := by
  go_enter Try.func44, Try.ntmps44
  go_wp2_with (go_at_call 38; refine Calls.mono h ?_; rintro e w1 ⟨rfl, rfl⟩)
  go_ret
  exact ⟨rfl, rfl⟩

set_option maxRecDepth 20000 in
theorem bad_twin (w : World) : Calls Try.prog 29 #[.pointer none] w fun e w' => ∃ R, e = .returned (ptr R.p) ∧ St w' w.heap.size R (calm [] 0) ∧ R.room = 0 ∧ R.bulk = 0 ∧ Adds w w' := by
  have kL := bad_left (bad_nil w)
  have kF : ∀ W, Calls Try.prog 44 #[.pointer none] W fun e w' => e = .returned (.slice none 0 0) ∧ w' = W := fun W => bad_files (bad_nil W)
  have kN := st_new 0 (by decide) w
  rw [show ((0 : Nat) : Int) = 0 from rfl] at kN
  go_enter Try.func29, Try.ntmps29
  go_wp2_with (first
    | (go_at_call 43; refine kL.mono ?_; rintro e w1 ⟨rfl, hw1⟩; subst hw1)
    | (go_at_call 44; refine (kF _).mono ?_; rintro e w2 ⟨rfl, hw2⟩; subst hw2))
  go_loopw [3, 19] (fun r i W => r = .int .i64 0 ∧ i = .int .i64 0 ∧ W = w2) (fun _ _ _ => 0)
  case atStart => exact ⟨rfl, rfl, rfl⟩
  case round =>
    obtain ⟨rfl, rfl, rfl⟩ := hrel
    go_wp2_with (first
      | (go_at_call 12; refine kN.mono ?_; rintro e w3 ⟨rfl, R3, p3, s3, r3, b3, a3⟩)
      | (go_at_call 44; refine (kF _).mono ?_; rintro e w4 ⟨rfl, hw4⟩; subst hw4))
    have HP : Hid _ := p3
    have HE : Hid (∃ R, ptr (wr.heap.size + 1) = ptr R.p ∧ St w4 wr.heap.size R (calm [] 0) ∧ R.room = 0 ∧ R.bulk = 0 ∧ Adds wr w4) := ⟨R3, by rw [HP.out], s3, r3, b3, a3⟩
    clear p3 s3 r3 b3 a3 kF kN kL HP
    obtain ⟨W0, hW0⟩ : ∃ W0, W0 = wr := ⟨_, rfl⟩
    rw [← hW0] at HE ⊢
    have HW0 : Hid _ := hW0
    clear hW0
    go_loopw [42] (fun i W => i = .int .i64 0 ∧ W = w4) (fun _ _ => 0)
    case atStart => exact ⟨rfl, rfl⟩
    case round =>
      obtain ⟨rfl, rfl⟩ := hrel
      go_wp2
      go_ret
      obtain ⟨R, e1, e2⟩ := HE.out
      rw [HW0.out] at e2
      exact ⟨R, by rw [← e1]; rfl, e2⟩

theorem bad_strange (w : World) : Calls Try.prog 20 #[.pointer none] w fun e w' => e = .returned (.bool false) ∧ Adds w w' := by
  have kT := bad_twin w
  have kO : ∀ w1 R, St w1 w.heap.size R (calm [] 0) → R.room = 0 → R.bulk = 0 → Adds w w1 → Calls Try.prog 21 #[ptr R.p] w1 fun e w' => e = .returned (.tuple #[.pointer none, .int .i64 2]) ∧ Adds w w' := fun w1 R hs hr hb ha => by
    refine (open_full hs (K := []) (by simp [SrtK]) rfl (by omega) (by simp [sizeK]) (fun s hs => by cases hs) ?_).mono ?_
    · unfold roomy
      rw [show newK [] = none from rfl, hr]
      simp
    · rintro e w' ⟨rfl, a⟩
      exact ⟨rfl, ha.trans a⟩
  go_enter Try.func20, Try.ntmps20
  go_wp2_with (first
    | (go_at_call 29; refine kT.mono ?_; rintro e w1 ⟨R1, rfl, x1, x2, x3, x4⟩; have k1 := kO w1 R1 x1 x2 x3 x4; clear x1 x2 x3 x4)
    | (go_at_call 21; refine k1.mono ?_; rintro e w2 ⟨rfl, a2⟩))
  go_ret
  exact ⟨rfl, a2⟩

theorem bad_openK (w : World) : Calls Try.prog 10 #[.pointer none] w fun e w' => e = .returned (.tuple #[.pointer none, .int .i64 1]) ∧ Adds w w' := by
  have kS := bad_strange w
  have kO : ∀ W, Calls Try.prog 21 #[.pointer none] W fun e w' => e = .returned (.tuple #[.pointer none, .int .i64 1]) ∧ w' = W := fun W => bad_open (bad_nil W)
  go_enter Try.func10, Try.ntmps10
  go_wp2_with (first
    | (go_at_call 20; refine kS.mono ?_; rintro e w1 ⟨rfl, a1⟩)
    | (go_at_call 21; refine (kO _).mono ?_; rintro e w2 ⟨rfl, hw2⟩; subst hw2))
  go_ret2
  exact ⟨rfl, a1⟩

/-- A pointer to a keep that Open did not give. -/
def BadK (z : Value) (w : World) : Prop := Calls Try.prog 19 #[z] w fun e w' => e = .returned (.bool false) ∧ w' = w

theorem badK_nil (w : World) : BadK (.pointer none) w := by
  unfold BadK
  go_enter Try.func19, Try.ntmps19
  go_wp2
  go_ret
  exact ⟨rfl, rfl⟩

theorem badK_empty {w : World} {p : Nat} (c0 : w.cell? ⟨p, 0, none⟩ = some (.pointer none)) : BadK (ptr p) w := by
  unfold BadK
  go_enter Try.func19, Try.ntmps19
  go_wp2
  go_ret
  exact ⟨rfl, rfl⟩

section
variable {z : Value} {w : World} (h : BadK z w)
include h

theorem badK_do (c : Int) (x : Value) : Calls Try.prog 26 #[z, .int .u8 c, x] w fun e w' => e = .returned (.int .i64 1) ∧ w' = w := by
  go_enter Try.func26, Try.ntmps26
  go_wp2_with (go_at_call 19; refine Calls.mono h ?_; rintro e w1 ⟨rfl, rfl⟩)
  go_ret
  exact ⟨rfl, rfl⟩

theorem badK_cut (n : Int) : Calls Try.prog 18 #[z, .int .i64 n] w fun e w' => e = .returned (.int .i64 1) ∧ w' = w := by
  go_enter Try.func18, Try.ntmps18
  go_wp2_with (go_at_call 19; refine Calls.mono h ?_; rintro e w1 ⟨rfl, rfl⟩)
  go_ret
  exact ⟨rfl, rfl⟩

theorem badK_noted : Calls Try.prog 7 #[z] w fun e w' => e = .returned (.slice none 0 0) ∧ w' = w := by
  go_enter Try.func7, Try.ntmps7
  go_wp2_with (go_at_call 19; refine Calls.mono h ?_; rintro e w1 ⟨rfl, rfl⟩)
  go_ret
  exact ⟨rfl, rfl⟩

theorem badK_len : Calls Try.prog 8 #[z] w fun e w' => e = .returned (.int .i64 0) ∧ w' = w := by
  go_enter Try.func8, Try.ntmps8
  go_wp2_with (go_at_call 19; refine Calls.mono h ?_; rintro e w1 ⟨rfl, rfl⟩)
  go_ret
  exact ⟨rfl, rfl⟩

theorem badK_get : Calls Try.prog 5 #[z, .int .i64 0] w fun e w' => e = .returned (.tuple #[.slice none 0 0, .bool false]) ∧ w' = w := by
  have k := badK_len h
  go_enter Try.func5, Try.ntmps5
  go_wp2_with (go_at_call 8; refine k.mono ?_; rintro e w1 ⟨rfl, rfl⟩)
  go_ret2
  exact ⟨rfl, rfl⟩

end

theorem badK_does {z : Value} {w : World} (h : ∀ W, Adds w W → BadK z W) (a n : Int) (b : Value) : Calls Try.prog 6 #[z, .agg #[.int .i64 a, b, .int .i64 n]] w fun e w' => e = .returned (.int .i64 1) ∧ Adds w w' := by
  have k0 : ∀ W, Adds w W → Calls Try.prog 13 #[z, b] W fun e w' => e = .returned (.int .i64 1) ∧ w' = W := fun W hW => add_of (badK_do (h W hW) 0 b)
  have k1 : ∀ W, Adds w W → Calls Try.prog 16 #[z, b] W fun e w' => e = .returned (.int .i64 1) ∧ w' = W := fun W hW => note_of (badK_do (h W hW) 1 b)
  have k2 : ∀ W, Adds w W → Calls Try.prog 17 #[z] W fun e w' => e = .returned (.int .i64 1) ∧ w' = W := fun W hW => clear_of (badK_do (h W hW) 2 _)
  have k3 : ∀ W, Adds w W → Calls Try.prog 18 #[z, .int .i64 n] W fun e w' => e = .returned (.int .i64 1) ∧ w' = W := fun W hW => badK_cut (h W hW) n
  by_cases e0 : a = 0
  · subst e0
    go_enter Try.func6, Try.ntmps6
    go_wp2_with (go_at_call 13; refine (k0 _ (by repeat (first | with_reducible exact Adds.refl _ | with_reducible refine Adds.alloc ?_ _ | with_reducible refine Adds.more ?_ _ _ | with_reducible refine Adds.drew ?_ | with_reducible refine Adds.drewN ?_ _))).mono ?_; rintro e w1 ⟨rfl, hw1⟩; subst hw1)
    go_ret
    exact ⟨rfl, (by repeat (first | with_reducible exact Adds.refl _ | with_reducible refine Adds.alloc ?_ _ | with_reducible refine Adds.more ?_ _ _ | with_reducible refine Adds.drew ?_ | with_reducible refine Adds.drewN ?_ _))⟩
  by_cases e1 : a = 1
  · subst e1
    go_enter Try.func6, Try.ntmps6
    go_wp2_with (go_at_call 16; refine (k1 _ (by repeat (first | with_reducible exact Adds.refl _ | with_reducible refine Adds.alloc ?_ _ | with_reducible refine Adds.more ?_ _ _ | with_reducible refine Adds.drew ?_ | with_reducible refine Adds.drewN ?_ _))).mono ?_; rintro e w1 ⟨rfl, hw1⟩; subst hw1)
    go_ret
    exact ⟨rfl, (by repeat (first | with_reducible exact Adds.refl _ | with_reducible refine Adds.alloc ?_ _ | with_reducible refine Adds.more ?_ _ _ | with_reducible refine Adds.drew ?_ | with_reducible refine Adds.drewN ?_ _))⟩
  by_cases e2 : a = 2
  · subst e2
    go_enter Try.func6, Try.ntmps6
    go_wp2_with (go_at_call 17; refine (k2 _ (by repeat (first | with_reducible exact Adds.refl _ | with_reducible refine Adds.alloc ?_ _ | with_reducible refine Adds.more ?_ _ _ | with_reducible refine Adds.drew ?_ | with_reducible refine Adds.drewN ?_ _))).mono ?_; rintro e w1 ⟨rfl, hw1⟩; subst hw1)
    go_ret
    exact ⟨rfl, (by repeat (first | with_reducible exact Adds.refl _ | with_reducible refine Adds.alloc ?_ _ | with_reducible refine Adds.more ?_ _ _ | with_reducible refine Adds.drew ?_ | with_reducible refine Adds.drewN ?_ _))⟩
  have n0 : (a == 0) = false := by simpa using e0
  have n1 : (a == 1) = false := by simpa using e1
  have n2 : (a == 2) = false := by simpa using e2
  clear e0 e1 e2
  go_enter Try.func6, Try.ntmps6
  go_wp2_with (go_at_call 18; refine (k3 _ (by repeat (first | with_reducible exact Adds.refl _ | with_reducible refine Adds.alloc ?_ _ | with_reducible refine Adds.more ?_ _ _ | with_reducible refine Adds.drew ?_ | with_reducible refine Adds.drewN ?_ _))).mono ?_; rintro e w1 ⟨rfl, hw1⟩; subst hw1)
  go_ret
  exact ⟨rfl, (by repeat (first | with_reducible exact Adds.refl _ | with_reducible refine Adds.alloc ?_ _ | with_reducible refine Adds.more ?_ _ _ | with_reducible refine Adds.drew ?_ | with_reducible refine Adds.drewN ?_ _))⟩

set_option maxRecDepth 20000 in
theorem badK_all {z : Value} {w : World} (h : BadK z w) : Calls Try.prog 9 #[z] w fun e w' => (∃ ao c, e = .returned (.slice ao 0 c)) ∧ Adds w w' := by
  have kL := badK_len h
  obtain ⟨w0, hr, ho⟩ := make_rows w 0 (by decide)
  have hA := ho.added
  rw [show ((0 : Nat) : Int) = 0 from rfl] at hr
  go_enter Try.func9, Try.ntmps9
  go_wp2_with (go_at_call 8; refine kL.mono ?_; rintro e w1 ⟨rfl, hw1⟩; subst hw1)
  have HA : Hid _ := hA
  clear hr ho hA kL h
  obtain ⟨W1, hW1⟩ : ∃ W1, W1 = w1 := ⟨_, rfl⟩
  go_loopw [10] (fun i W => i = .int .i64 0 ∧ W = w0) (fun _ _ => 0)
  case atStart => exact ⟨rfl, rfl⟩
  case round =>
    obtain ⟨rfl, rfl⟩ := hrel
    go_wp2
    go_ret
    exact ⟨⟨_, _, rfl⟩, HA.out⟩

end Go.Proofs.Ytelkkpomehgcjaa
