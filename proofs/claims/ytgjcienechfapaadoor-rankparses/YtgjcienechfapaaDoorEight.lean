/-
  The document's reading of eight bytes, by a contract.
-/
import Derived.Test.YtgjcienechfapaaDoorLoose
namespace Go.Proofs.YtgjcienechfapaaDoor
open Go.RowKit

theorem eight_any (t : ByteArray) (w : World) (ht8 : 8 ≤ t.size) :
    Calls Tryd.prog 20 #[.string t] w fun e w' => e = .returned (.int .i64 (eightOf (beNat (t.toList.take 8)))) ∧ w' = w := by
  go_enter Tryd.func20, Tryd.ntmps20
  go_wp2
  go_loopw [3, 4] (fun u i wr => ∃ k : Nat, k ≤ 8 ∧ i = .int .i64 k ∧ u = .int .u64 (beNat (t.toList.take k) : Nat) ∧ wr = w) (fun _ i _ => 8 - (intOf i).toNat)
  case atStart => exact ⟨0, by omega, rfl, rfl, rfl⟩
  case round =>
    obtain ⟨k, hk, rfl, rfl, rfl⟩ := hrel
    obtain ⟨U, hU⟩ : ∃ U, U = beNat (t.toList.take k) := ⟨_, rfl⟩
    rw [← hU]
    have HU : Hid (U = beNat (t.toList.take k)) := hU
    clear hU
    have hUb : U < 256 ^ k := by
      rw [HU.out]
      have := beNat_lt (t.toList.take k)
      rwa [List.length_take, toList_length, Nat.min_eq_left (by omega)] at this
    have hU8 : U < 18446744073709551616 := Nat.lt_of_lt_of_le hUb (Nat.pow_le_pow_right (n := 256) (by decide) hk)
    have HB : Hid (k ≤ 7 → U < 72057594037927936) := fun h => Nat.lt_of_lt_of_le hUb (Nat.pow_le_pow_right (n := 256) (by decide) h)
    clear hUb
    by_cases hlt : k < 8
    · have hkt : k < t.size := by omega
      have hi : (k : Int) < 8 := by omega
      go_wp2
      go_roundw
      case rel =>
        refine ⟨k + 1, by omega, by go_num, ?_, trivial⟩
        have hkt : k < t.toList.length := by rw [toList_length]; omega
        rw [List.take_succ_eq_append_getElem hkt, beNat_snoc, ← HU.out, toList_get]
        have := HB.out (by omega)
        have hb : t[k].toNat < 256 := UInt8.toNat_lt _
        rw [wrap_u64 ((U : Int) * 256) (by omega) (by omega), wrap_u64 (t[k].toNat : Int) (by omega) (by omega), wrap_u64 _ (by omega) (by omega)]
        simp
      case measure => simp [intOf]; omega
    · have hk8 : k = 8 := by omega
      subst hk8
      by_cases h1 : U < 2305843009213693952
      · have h1i : (U : Int) < 2305843009213693952 := by omega
        go_wp2
        go_ret
        exact ⟨by rw [← HU.out]; simp [eightOf, h1], rfl⟩
      · by_cases h2 : 6917529027641081856 < U
        · have h1i : ¬ (U : Int) < 2305843009213693952 := by omega
          have h2i : (6917529027641081856 : Int) < U := by omega
          go_wp2
          go_ret
          exact ⟨by rw [← HU.out]; simp [eightOf, h2], rfl⟩
        · have h1i : ¬ (U : Int) < 2305843009213693952 := by omega
          have h2i : ¬ (6917529027641081856 : Int) < U := by omega
          go_wp2
          go_ret
          refine ⟨?_, rfl⟩
          rw [← HU.out]
          simp [eightOf, h1, h2]
          omega

end Go.Proofs.YtgjcienechfapaaDoor
