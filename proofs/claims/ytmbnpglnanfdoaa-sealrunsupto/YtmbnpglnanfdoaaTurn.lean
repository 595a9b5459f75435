/-
  The function turn by contract: a sum with one byte more.
-/
import Derived.Test.YtmbnpglnanfdoaaRec
import Derived.Laws.BitsLemmas
namespace Go.Proofs.Ytmbnpglnanfdoaa
open Go.RowKit
attribute [local go_sem] cell?_more frozen?_more setCell_more size_more tape_more drew_more drewN_more more_drew more_drewN more_more one_out plus_out plus_end lt_one le_p2 le_p3 le_p4 le_p5 le_p6 le_p7 le_p8 le_p9 le_p10 le_p11 le_p12 le_p13 le_p14 le_p15 le_p16 le_p17 le_p18 le_p19 le_p20 le_p21 le_p22 le_p23 le_p24 le_q0 le_q1 lt_q1 le_q2 lt_q2 le_q3 lt_q3 le_q4 lt_q4 le_q5 lt_q5 le_q6 lt_q6 le_q7 lt_q7 le_q8 lt_q8 le_q9 lt_q9 le_q10 lt_q10 le_q11 lt_q11 le_q12 lt_q12 le_q13 lt_q13 le_q14 lt_q14 le_q15 lt_q15 le_q16 lt_q16 le_q17 lt_q17 le_q18 lt_q18 le_q19 lt_q19 le_q20 lt_q20 le_q21 lt_q21 le_q22 lt_q22 le_q23 lt_q23 le_q24 lt_q24

theorem wraps32 (n : Int) (h₀ : 0 ≤ n) (h₁ : n < 2 ^ 32) : IntKind.u32.wrap n = n := by rw [IntKind.wrap_u32]; omega

theorem xor32 (a b : Nat) (ha : a < 4294967296) (hb : b < 4294967296) : bits .xor .u32 (a : Int) (b : Int) = ((a ^^^ b : Nat) : Int) := by
  show IntKind.u32.wrap ((BitVec.ofInt 32 (a : Int) ^^^ BitVec.ofInt 32 (b : Int)).toNat : Int) = _
  have h := Nat.xor_lt_two_pow (n := 32) ha hb
  have e : (BitVec.ofInt 32 (a : Int) ^^^ BitVec.ofInt 32 (b : Int)).toNat = a ^^^ b := by
    rw [BitVec.toNat_xor, BitVec.ofInt_natCast, BitVec.ofInt_natCast, BitVec.toNat_ofNat, BitVec.toNat_ofNat, Nat.mod_eq_of_lt ha, Nat.mod_eq_of_lt hb]
  rw [e]
  exact wraps32 _ (by omega) (by exact_mod_cast h)

theorem and32 (a b : Nat) (ha : a < 4294967296) (hb : b < 4294967296) : bits .and .u32 (a : Int) (b : Int) = ((a &&& b : Nat) : Int) :=
  (bits_nat .u32 32 (by decide) wraps32 a b ha hb).1

theorem and_top (x : Nat) (hx : x < 16777216) : bits .and .u32 (x : Int) 8388608 = if x.testBit 23 then 8388608 else 0 := by
  have h := and32 x 8388608 (by omega) (by decide)
  have e : x &&& 8388608 = if x.testBit 23 then 8388608 else 0 := by
    apply Nat.eq_of_testBit_eq
    intro j
    rw [Nat.testBit_and, show (8388608 : Nat) = 2 ^ 23 from rfl, Nat.testBit_two_pow]
    by_cases hj : 23 = j
    · subst hj
      cases hb : x.testBit 23
      · simp
      · rw [if_pos rfl]
        decide
    · cases hb : x.testBit 23
      · simp [hj]
      · rw [if_pos rfl, Nat.testBit_two_pow]
        simp [hj]
  rw [e] at h
  rw [show (8388608 : Int) = ((8388608 : Nat) : Int) from rfl, h]
  split <;> rfl

theorem and_full (x : Nat) (hx : x < 4294967296) : bits .and .u32 (x : Int) 16777215 = ((x % 16777216 : Nat) : Int) := by
  have h := and32 x 16777215 hx (by decide)
  rw [show (16777215 : Int) = ((16777215 : Nat) : Int) from rfl, h]
  have := Nat.and_two_pow_sub_one_eq_mod x 24
  simp at this
  rw [this]

theorem steps_succ (k x : Nat) : steps (k + 1) x = step (steps k x) := by rw [steps_add k 1]; rfl

theorem turn_any (r c : Nat) (hr : r < 16777216) (hc : c < 256) (w : World) :
    Calls Try.prog 22 #[.int .u32 r, .int .u8 c] w fun e w' => e = .returned (.int .u32 (steps 8 (r ^^^ c * 65536) : Nat)) ∧ w' = w := by
  have hx : r ^^^ c * 65536 < 16777216 := xor_lt hr (by omega)
  have h0 : bits .xor .u32 (r : Int) ((c : Int) * 65536) = ((r ^^^ c * 65536 : Nat) : Int) := by
    rw [show ((c : Int) * 65536) = ((c * 65536 : Nat) : Int) by omega]
    exact xor32 r (c * 65536) (by omega) (by omega)
  go_enter Try.func22, Try.ntmps22
  go_wp2
  go_loopw [0, 11] (fun v i wr => ∃ k : Nat, k ≤ 8 ∧ i = .int .i64 k ∧ v = .int .u32 (steps k (r ^^^ c * 65536) : Nat) ∧ wr = w) (fun _ i _ => (8 - intOf i).toNat)
  case atStart => exact ⟨0, by omega, rfl, rfl, rfl⟩
  case round =>
    obtain ⟨k, hk, rfl, rfl, rfl⟩ := hrel
    have hs : steps k (r ^^^ c * 65536) < 16777216 := steps_lt hx
    by_cases h8 : k = 8
    · subst h8
      go_wp2
      go_ret
      exact ⟨rfl, rfl⟩
    have hk8 : k < 8 := by omega
    have e := steps_succ k (r ^^^ c * 65536)
    generalize steps k (r ^^^ c * 65536) = x at *
    have ht := and_top x hs
    have hs2 : step x = 2 * x % 16777216 ^^^ (if x.testBit 23 then 8801531 else 0) := rfl
    obtain ⟨y, hy⟩ : ∃ y, y = 2 * x % 16777216 := ⟨_, rfl⟩
    have hf : bits .and .u32 ((x : Int) * 2) 16777215 = (y : Int) := by
      rw [hy, show ((x : Int) * 2) = ((2 * x : Nat) : Int) by omega]
      exact and_full _ (by omega)
    have hp : bits .xor .u32 (y : Int) 8801531 = ((y ^^^ 8801531 : Nat) : Int) := xor32 _ 8801531 (by omega) (by omega)
    rw [← hy] at hs2
    clear hy
    by_cases hb : x.testBit 23
    · rw [if_pos hb] at ht hs2
      go_wp2
      · go_roundw
        case rel => exact ⟨k + 1, by omega, by go_num, by rw [e, hs2], trivial⟩
        case measure => simp [intOf]; omega
    · rw [if_neg hb] at ht hs2
      rw [Nat.xor_zero] at hs2
      go_wp2
      · go_roundw
        case rel => exact ⟨k + 1, by omega, by go_num, by rw [e, hs2], trivial⟩
        case measure => simp [intOf]; omega

end Go.Proofs.Ytmbnpglnanfdoaa
