/-
  The reference's Digits, by a contract.
-/
import Derived.Test.YtdlkpkldlljhcaaGref
import Derived.Test.YtdlkpkldlljhcaaNode
namespace Go.Proofs.Ytdlkpkldlljhcaa
open Go.RowKit
attribute [local go_sem] cell?_more frozen?_more setCell_more size_more tape_more drew_more drewN_more more_drew more_drewN one_out plus_out plus_end lt_one le_p2 le_p3 le_p4 le_p5 le_p6 le_p7 le_p8 le_p9 le_p10 le_p11 le_p12 le_p13 le_p14 le_p15 le_p16 le_p17 le_p18 le_p19 le_p20 le_p21 le_p22 le_p23 le_p24 le_q0 le_q1 lt_q1 le_q2 lt_q2 le_q3 lt_q3 le_q4 lt_q4 le_q5 lt_q5 le_q6 lt_q6 le_q7 lt_q7 le_q8 lt_q8 le_q9 lt_q9 le_q10 lt_q10 le_q11 lt_q11 le_q12 lt_q12 le_q13 lt_q13 le_q14 lt_q14 le_q15 lt_q15 le_q16 lt_q16 le_q17 lt_q17 le_q18 lt_q18 le_q19 lt_q19 le_q20 lt_q20 le_q21 lt_q21 le_q22 lt_q22 le_q23 lt_q23 le_q24 lt_q24


theorem dig_cut {n : Nat} (h : n < 10) : (⟨#[48, 49, 50, 51, 52, 53, 54, 55, 56, 57]⟩ : ByteArray).extract n (n + 1) = toB [UInt8.ofNat (48 + n)] := by
  have : n = 0 ∨ n = 1 ∨ n = 2 ∨ n = 3 ∨ n = 4 ∨ n = 5 ∨ n = 6 ∨ n = 7 ∨ n = 8 ∨ n = 9 := by omega
  rcases this with rfl | rfl | rfl | rfl | rfl | rfl | rfl | rfl | rfl | rfl <;> rfl

theorem toB_app (a b : List UInt8) : toB a ++ toB b = toB (a ++ b) := toList_inj (by rw [ByteArray.toList_eq, ByteArray.toList_eq, ByteArray.data_append]; simp [toB])

set_option maxHeartbeats 2000000 in
theorem rDigits_one {n : Nat} (h : n < 10) (w : World) : Calls Try.prog 36 #[.int .i64 (n : Int)] w fun e w' => e = .returned (.string (toB (digL n))) ∧ Adds w w' := by
  have hc := dig_cut h
  have h' : (n : Int) < 10 := by omega
  rw [digL_one h]
  generalize toB [UInt8.ofNat (48 + n)] = r at *
  go_enter Try.func36, Try.ntmps36
  go_wp2
  go_ret
  exact ⟨by rw [← hc]; rfl, by repeat (first | with_reducible exact Adds.refl _ | with_reducible refine Adds.alloc ?_ _ | with_reducible refine Adds.more ?_ _ _ | with_reducible refine Adds.drew ?_ | with_reducible refine Adds.drewN ?_ _)⟩

set_option maxHeartbeats 2000000 in
set_option maxRecDepth 20000 in
theorem rDigits_any : ∀ (k n : Nat), n < 10 ^ (k + 1) → k ≤ 16 → ∀ w, Calls Try.prog 36 #[.int .i64 (n : Int)] w fun e w' => e = .returned (.string (toB (digL n))) ∧ Adds w w' := by
  intro k
  induction k with
  | zero => intro n hn _ w; exact rDigits_one (by simpa using hn) w
  | succ k ih =>
    intro n hn hk w
    by_cases h : n < 10
    · exact rDigits_one h w
    · have kA := ih (n / 10) (by rw [Nat.pow_succ] at hn; omega) (by omega)
      have kB := fun W => rDigits_one (n := n % 10) (Nat.mod_lt _ (by decide)) W
      rw [digL_one (Nat.mod_lt _ (by decide))] at kB
      rw [digL_more h, ← toB_app]
      have h' : ¬ (n : Int) < 10 := by omega
      have hb : (n : Int) < 9223372036854775807 := by
        have h1 : 10 ^ (k + 1 + 1) ≤ 10 ^ 17 := Nat.pow_le_pow_right (by decide) (by omega)
        have h2 : (10 : Nat) ^ 17 = 100000000000000000 := by decide
        omega
      rw [show ((n / 10 : Nat) : Int) = (n : Int) / 10 by omega] at kA
      rw [show ((n % 10 : Nat) : Int) = (n : Int) % 10 by omega] at kB
      have hsum : ¬ 9223372036854775807 < (toB (digL (n / 10))).size + (toB [UInt8.ofNat (48 + n % 10)]).size := by
        rw [toB_size, toB_size]
        have h1 := digL_len (k + 1) (n / 10) (by rw [Nat.pow_succ] at hn; omega)
        simp only [List.length_cons, List.length_nil]
        omega
      generalize toB (digL (n / 10)) = r1 at *
      generalize toB [UInt8.ofNat (48 + n % 10)] = r2 at *
      clear hn ih
      go_enter Try.func36, Try.ntmps36
      go_wp2_with fail
      refine (kA _).mono ?_
      rintro e w1 ⟨rfl, os1, n1, rfl⟩
      clear kA hb
      go_wp2_with fail
      refine (kB _).mono ?_
      rintro e w2 ⟨rfl, os2, n2, rfl⟩
      clear kB
      go_wp2
      go_ret
      exact ⟨rfl, by repeat (first | with_reducible exact Adds.refl _ | with_reducible refine Adds.alloc ?_ _ | with_reducible refine Adds.more ?_ _ _ | with_reducible refine Adds.drew ?_ | with_reducible refine Adds.drewN ?_ _)⟩

end Go.Proofs.Ytdlkpkldlljhcaa
