/-
  Turns by contracts: gauss.Turn and the document's Turn.
-/
import Derived.Test.YtdlkpkldlljhcaaDoorGring
namespace Go.Proofs.YtdlkpkldlljhcaaDoor.Gs
open Go.RowKit
attribute [local go_sem] cell?_more frozen?_more setCell_more size_more tape_more drew_more drewN_more more_drew more_drewN more_more one_out plus_out lt_one le_p2 le_p3 le_p4 le_p5 le_p6 le_p7 le_p8 le_p9 le_p10 le_p11 le_p12

/-- A point, turned by so many quarters. -/
def rot : Nat → Int → Int → Int × Int
  | 0, a, b => (a, b)
  | k + 1, a, b => (-(rot k a b).2, (rot k a b).1)

theorem may_quarter {a b : Int} (h : May a b) : May (-b) a := by unfold May at *; omega
theorem may_rot {a b : Int} (h : May a b) : ∀ k, May (rot k a b).1 (rot k a b).2
  | 0 => h
  | k + 1 => may_quarter (may_rot h k)
theorem norm_rot (a b : Int) : ∀ k, (rot k a b).1 * (rot k a b).1 + (rot k a b).2 * (rot k a b).2 = a * a + b * b
  | 0 => rfl
  | k + 1 => by
    have := norm_rot a b k
    simp only [rot]
    grind

/-- How many quarters a number is. -/
def quarters (n : Int) : Nat := (n % 4).toNat

theorem quarters_lt (n : Int) : quarters n < 4 := by unfold quarters; omega

theorem tmod4 (n : Int) : n.tmod 4 = if n.tmod 4 < 0 then (quarters n : Int) - 4 else (quarters n : Int) := by
  unfold quarters
  rw [Int.tmod_eq_emod]
  split <;> split <;> simp_all <;> omega

theorem tmod4_bounds (n : Int) : -4 < n.tmod 4 ∧ n.tmod 4 < 4 := by
  have h1 := Int.tmod_lt_of_pos n (b := 4) (by decide)
  have h2 := Int.tmod_lt_of_pos (-n) (b := 4) (by decide)
  rw [Int.neg_tmod] at h2
  generalize n.tmod 4 = t at *
  omega

set_option maxHeartbeats 4000000 in
theorem turn_may (a b n : Int) (ha : May a b) (w : World) :
    Calls Tryd.prog 69 #[pt a b, .int .i64 n] w fun e w' => e = .returned (pt (rot (quarters n) a b).1 (rot (quarters n) a b).2) ∧ Adds w w' := by
  have h1 := check_may a b ha
  have hq := quarters_lt n
  have ht := tmod4 n
  obtain ⟨b1, b2⟩ := tmod4_bounds n
  have h5 : (n.tmod 4 + 4).tmod 4 = (quarters n : Int) := by
    rw [Int.tmod_eq_emod_of_nonneg (by omega)]
    split at ht <;> omega
  have hr : ∀ k, ∀ w, Calls Tryd.prog 79 #[pt (rot k a b).1 (rot k a b).2] w fun e w' => e = .returned (pt (rot (k + 1) a b).1 (rot (k + 1) a b).2) ∧ Adds w w' := fun k w => quarter_any _ _ (may_rot ha k) w
  clear ht
  generalize quarters n = K at *
  obtain ⟨R, hR⟩ : ∃ R, rot K a b = R := ⟨_, rfl⟩
  rw [hR]
  have HR : Hid (rot K a b = R) := hR
  clear hR
  obtain ⟨m, hm⟩ : ∃ m, n.tmod 4 = m := ⟨_, rfl⟩
  rw [hm] at h5 b1 b2
  go_enter Tryd.func69, Tryd.ntmps69
  go_wp2_with (first
    | (go_at_call 78; refine (h1 _).mono ?_; rintro e w1 ⟨rfl, os, k, rfl⟩))
  go_loopw [13] (fun i wr => ∃ (k : Nat) (os : Array Obj) (q : Nat), k ≤ K ∧ i = .int .i64 (k : Int) ∧ wr = more ((w.alloc (box (rot k a b).1 (rot k a b).2)).alloc (box 0 0)) os q) (fun i _ => K - (intOf i).toNat)
  case atStart => exact ⟨0, os, k, by omega, rfl, rfl⟩
  case round =>
    obtain ⟨k', os', q, hk, rfl, rfl⟩ := hrel
    have hr1 := hr k'
    obtain ⟨S, hS⟩ : ∃ S, rot (k' + 1) a b = S := ⟨_, rfl⟩
    rw [hS] at hr1
    have HS : Hid (rot (k' + 1) a b = S) := hS
    clear hS hr
    go_wp2_with (go_at_call 79; refine (hr1 _).mono ?_; rintro e w1 ⟨rfl, os1, q1, rfl⟩)
    · go_roundw
      case rel =>
        exact ⟨k' + 1, _, _, by omega, by go_num, by rw [HS.out]⟩
      case measure => simp [intOf]; omega
    · have hkk : k' = K := by omega
      subst hkk
      rw [HR.out]
      refine bodyPost_ret (v := pt R.1 R.2) (by simp [results, Tryd.results69, go_sem]) rfl ⟨rfl, ?_⟩
      repeat (first | exact Adds.refl _ | refine Adds.alloc ?_ _ | refine Adds.more ?_ _ _ | refine Adds.drew ?_)

theorem turn_not (a b n : Int) (ha : ¬ May a b) (w : World) :
    Calls Tryd.prog 69 #[pt a b, .int .i64 n] w fun e w' => e = .returned (pt 0 0) ∧ Adds w w' := by
  have h1 := check_not a b ha
  go_enter Tryd.func69, Tryd.ntmps69
  go_wp2_with (first
    | (go_at_call 78; refine (h1 _).mono ?_; rintro e w1 ⟨rfl, os, k, rfl⟩))
  refine bodyPost_ret (v := pt 0 0) (by simp [results, Tryd.results69, go_sem]) rfl ⟨rfl, ?_⟩
  repeat (first | exact Adds.refl _ | refine Adds.alloc ?_ _ | refine Adds.more ?_ _ _ | refine Adds.drew ?_)

end Go.Proofs.YtdlkpkldlljhcaaDoor.Gs
