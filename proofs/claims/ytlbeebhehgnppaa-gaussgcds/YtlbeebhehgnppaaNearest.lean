/-
  The nearest whole number by contracts: gauss.nearest, the document's Near and nearest.
-/
import Derived.Test.YtlbeebhehgnppaaRing
import Derived.Test.YtlbeebhehgnppaaNear
namespace Go.Proofs.Ytlbeebhehgnppaa
open Go.RowKit
attribute [local go_sem] cell?_addTo cell?_more frozen?_more setCell_more size_more tape_more drew_more drewN_more more_drew more_drewN more_more one_out plus_out lt_one le_p2 le_p3 le_p4 le_p5 le_p6 le_p7 le_p8 le_p9 le_p10 le_p11 le_p12

theorem near_tdiv {x n : Int} (hn : 0 < n) : near x n = if (2 * x + n).tmod (2 * n) < 0 then (2 * x + n).tdiv (2 * n) - 1 else (2 * x + n).tdiv (2 * n) := by
  have h1 := Int.mul_tdiv_add_tmod (2 * x + n) (2 * n)
  have h2 := Int.tmod_lt_of_pos (2 * x + n) (b := 2 * n) (by omega)
  have h3 := Int.tmod_lt_of_pos (-(2 * x + n)) (b := 2 * n) (by omega)
  rw [Int.neg_tmod] at h3
  generalize (2 * x + n).tmod (2 * n) = r at *
  generalize (2 * x + n).tdiv (2 * n) = q at *
  symm
  split
  · exact near_unique hn (by grind) (by grind)
  · exact near_unique hn (by grind) (by grind)

theorem tdiv_near {a n : Int} (hn : 0 < n) : a.tdiv n - 1 ≤ near a n ∧ near a n ≤ a.tdiv n + 1 ∧ a - n < a.tdiv n * n ∧ a.tdiv n * n < a + n := by
  have h1 := Int.mul_tdiv_add_tmod a n
  have h2 := Int.tmod_lt_of_pos a (b := n) hn
  have h3 := Int.tmod_lt_of_pos (-a) (b := n) hn
  rw [Int.neg_tmod] at h3
  have l1 := near_le (x := a) hn
  have l2 := near_gt (x := a) hn
  generalize a.tmod n = r at *
  generalize a.tdiv n = q at *
  generalize near a n = k at *
  have a1 : 2 * n * k < 2 * n * (q + 2) := by grind
  have a2 : 2 * n * (q - 2) < 2 * n * k := by grind
  have b1 := Int.lt_of_mul_lt_mul_left a1 (by omega)
  have b2 := Int.lt_of_mul_lt_mul_left a2 (by omega)
  exact ⟨by omega, by omega, by grind, by grind⟩

theorem near_wide {x n : Int} (hn : 0 < n) (h1 : -4398046511104 ≤ x) (h2 : x ≤ 4398046511104) : -4398046511104 ≤ near x n ∧ near x n ≤ 4398046511104 := by
  have p := Int.mul_nonneg (a := 4398046511104) (b := n - 1) (by decide) (by omega)
  exact near_bound hn (by grind) (by grind)

theorem nearest_any (x n : Int) (hn : 0 < n) (hn' : n ≤ 2199023255552) (h1 : -4398046511104 ≤ x) (h2 : x ≤ 4398046511104) (w : World) :
    Calls Try.prog 37 #[.int .i64 x, .int .i64 n] w fun e w' => e = .returned (.int .i64 (near x n)) ∧ Adds w w' := by
  have hw := near_wide hn h1 h2
  rw [near_tdiv hn] at hw ⊢
  obtain ⟨Q, hQ⟩ : ∃ Q, (2 * x + n).tdiv (2 * n) = Q := ⟨_, rfl⟩
  obtain ⟨R, hR⟩ : ∃ R, (2 * x + n).tmod (2 * n) = R := ⟨_, rfl⟩
  rw [hQ, hR] at hw ⊢
  have q1 : -9223372036854775807 ≤ Q := by split at hw <;> omega
  have q2 : Q ≤ 9223372036854775807 := by split at hw <;> omega
  clear hw
  go_enter Try.func37, Try.ntmps37
  go_wp2
  all_goals
    go_ret
    exact ⟨rfl, Adds.refl _⟩

theorem rnear_any (q a n : Int) (hn : 0 < n) (hn' : n ≤ 2199023255552) (h1 : -4398046511104 ≤ a) (h2 : a ≤ 4398046511104) (h3 : -17592186044416 ≤ q * n) (h4 : q * n ≤ 17592186044416) (w : World) :
    Calls Try.prog 38 #[.int .i64 q, .int .i64 a, .int .i64 n] w fun e w' => e = .returned (.bool (decide (2 * (a - q * n) < n ∧ -n ≤ 2 * (a - q * n)))) ∧ Adds w w' := by
  go_enter Try.func38, Try.ntmps38
  go_wp2
  · go_ret
    refine ⟨?_, Adds.refl _⟩
    have h : 2 * (a - q * n) < n := by assumption
    simp [h]
  · go_ret
    refine ⟨?_, Adds.refl _⟩
    have h : n ≤ 2 * (a - q * n) := by assumption
    have h' : ¬ 2 * (a - q * n) < n := by omega
    simp [h']

set_option maxHeartbeats 4000000 in
theorem rnearest_any (a n : Int) (hn : 0 < n) (hn' : n ≤ 2199023255552) (h1 : -4398046511104 ≤ a) (h2 : a ≤ 4398046511104) (w : World) :
    Calls Try.prog 33 #[.int .i64 a, .int .i64 n] w fun e w' => e = .returned (.int .i64 (near a n)) ∧ Adds w w' := by
  obtain ⟨t1, t2, t3, t4⟩ := tdiv_near (a := a) hn
  have hw := near_wide hn h1 h2
  have hu : ∀ q : Int, 2 * (a - q * n) < n → -n ≤ 2 * (a - q * n) → q = near a n := fun q => near_unique hn
  have hs := near_near (x := a) hn
  have hr := fun q => rnear_any q a n hn hn' h1 h2
  generalize near a n = Q at *
  obtain ⟨T, hT⟩ : ∃ T, a.tdiv n = T := ⟨_, rfl⟩
  rw [hT] at t1 t2 t3 t4
  obtain ⟨K, hK⟩ : ∃ K : Nat, Q = T - 2 + (K : Int) := ⟨(Q - T + 2).toNat, by omega⟩
  have k3 : K ≤ 3 := by omega
  have HU : Hid (∀ q : Int, 2 * (a - q * n) < n → -n ≤ 2 * (a - q * n) → q = Q) := hu
  have HS : Hid (2 * (a - Q * n) < n ∧ -n ≤ 2 * (a - Q * n)) := hs
  have HK : Hid (Q = T - 2 + (K : Int)) := hK
  have HR : Hid (∀ q, -17592186044416 ≤ q * n → q * n ≤ 17592186044416 → ∀ w, Calls Try.prog 38 #[.int .i64 q, .int .i64 a, .int .i64 n] w fun e w' => e = .returned (.bool (decide (2 * (a - q * n) < n ∧ -n ≤ 2 * (a - q * n)))) ∧ Adds w w') := hr
  have b1 : -5398046511104 ≤ T := by omega
  have b2 : T ≤ 5398046511104 := by omega
  have H3 : Hid (a - n < T * n ∧ T * n < a + n) := ⟨t3, t4⟩
  clear hu hs hK hr t1 t2 t3 t4 hw
  go_enter Try.func33, Try.ntmps33
  go_wp2
  go_loopw [6] (fun i wr => ∃ (k : Nat) (os : Array Obj) (q : Nat), k ≤ K ∧ i = .int .i64 (k : Int) ∧ wr = more w os q) (fun i _ => K - (intOf i).toNat)
  case atStart => exact ⟨0, #[], 0, by omega, rfl, by rw [more_nil]⟩
  case round =>
    obtain ⟨k, os, q, hk, rfl, rfl⟩ := hrel
    have k5 : (k : Int) < 5 := by omega
    have hc := HR.out (T - 2 + k) (by have := H3.out; have p := Int.mul_nonneg (a := (k : Int)) (b := n) (by omega) (by omega); grind) (by have := H3.out; have p := Int.mul_nonneg (a := 3 - (k : Int)) (b := n) (by omega) (by omega); grind)
    by_cases hkk : k = K
    · subst hkk
      rw [← HK.out, decide_eq_true HS.out] at hc
      rw [HK.out] at hc
      clear HU HS HR
      go_wp2_with (go_at_call 38; refine (hc _).mono ?_; rintro e w1 ⟨rfl, os1, q1, rfl⟩)
      go_ret
      refine ⟨by rw [HK.out]; rfl, ?_⟩
      exact ⟨_, _, rfl⟩
    · have hne : ¬ (2 * (a - (T - 2 + k) * n) < n ∧ -n ≤ 2 * (a - (T - 2 + k) * n)) := fun h => hkk (by have := HU.out _ h.1 h.2; have := HK.out; omega)
      rw [decide_eq_false hne] at hc
      clear hne HU HS HR
      go_wp2_with (go_at_call 38; refine (hc _).mono ?_; rintro e w1 ⟨rfl, os1, q1, rfl⟩)
      go_roundw
      case rel => exact ⟨k + 1, _, _, by omega, by go_num, rfl⟩
      case measure => simp [intOf]; omega

end Go.Proofs.Ytlbeebhehgnppaa
