/-
  The first corner: which turn leads there, and gauss.corner by a contract.
-/
import Derived.Test.YtlbeebhehgnppaaTurn
import Derived.Test.YtlbeebhehgnppaaEuclid
import Derived.Deep.LoopGhost
namespace Go.Proofs.Ytlbeebhehgnppaa
open Go.RowKit
attribute [local go_sem] cell?_addTo cell?_more frozen?_more setCell_more size_more tape_more drew_more drewN_more more_drew more_drewN more_more one_out plus_out lt_one le_p2 le_p3 le_p4 le_p5 le_p6 le_p7 le_p8 le_p9 le_p10 le_p11 le_p12

/-- How many quarters a point is off the first corner. -/
def off (x y : Int) : Nat :=
  if x = 0 ∧ y = 0 then 0 else if 0 < x ∧ 0 ≤ y then 0 else if 0 < -y ∧ 0 ≤ x then 1 else if 0 < -x ∧ 0 ≤ -y then 2 else 3

theorem off_le (x y : Int) : off x y ≤ 3 := by
  unfold off
  repeat' split
  all_goals omega

theorem rot0 (x y : Int) : rot 0 x y = (x, y) := rfl
theorem rot1 (x y : Int) : rot 1 x y = (-y, x) := rfl
theorem rot2 (x y : Int) : rot 2 x y = (-x, -y) := rfl
theorem rot3 (x y : Int) : rot 3 x y = (- -y, -x) := rfl

/-- There it stands in the first corner. -/
theorem off_there {x y : Int} (h : ¬ (x = 0 ∧ y = 0)) : 0 < (rot (off x y) x y).1 ∧ 0 ≤ (rot (off x y) x y).2 := by
  unfold off
  rw [if_neg h]
  split
  · assumption
  split
  · assumption
  split
  · assumption
  · rw [rot3]
    simp only
    omega

/-- Ahead of it, it does not. -/
theorem off_ahead {x y : Int} {k : Nat} (hk : k < off x y) : ¬ (0 < (rot k x y).1 ∧ 0 ≤ (rot k x y).2) ∧ ¬ ((rot k x y).1 = 0 ∧ (rot k x y).2 = 0) := by
  unfold off at hk
  split at hk
  · omega
  split at hk
  · omega
  split at hk
  · have : k = 0 := by omega
    subst this
    rw [rot0]
    simp only
    omega
  split at hk
  · have : k = 0 ∨ k = 1 := by omega
    rcases this with rfl | rfl
    · rw [rot0]; simp only; omega
    · rw [rot1]; simp only; omega
  · have : k = 0 ∨ k = 1 ∨ k = 2 := by omega
    rcases this with rfl | rfl | rfl
    · rw [rot0]; simp only; omega
    · rw [rot1]; simp only; omega
    · rw [rot2]; simp only; omega

theorem off_zero : off 0 0 = 0 := rfl

theorem dv_rot {x y a b : Int} (h : Dv x y a b) : ∀ k, Dv (rot k x y).1 (rot k x y).2 a b
  | 0 => h
  | k + 1 => (dv_rot h k).turn
theorem dv_rotted {x y a b : Int} (h : Dv x y a b) : ∀ k, Dv x y (rot k a b).1 (rot k a b).2
  | 0 => h
  | k + 1 => (dv_rotted h k).turned

set_option maxHeartbeats 2000000 in
theorem corner_any (a b : Int) (ha : May a b) (w : World) :
    Calls Try.prog 34 #[pt a b] w fun e w' => e = .returned (pt (rot (off a b) a b).1 (rot (off a b) a b).2) ∧ Adds w w' := by
  have hr : ∀ k, ∀ w, Calls Try.prog 30 #[pt (rot k a b).1 (rot k a b).2] w fun e w' => e = .returned (pt (rot (k + 1) a b).1 (rot (k + 1) a b).2) ∧ Adds w w' := fun k w => quarter_any _ _ (may_rot ha k) w
  have hA : ∀ k, k < off a b → ¬ (0 < (rot k a b).1 ∧ 0 ≤ (rot k a b).2) ∧ ¬ ((rot k a b).1 = 0 ∧ (rot k a b).2 = 0) := fun k => off_ahead
  have hT : (0 < (rot (off a b) a b).1 ∧ 0 ≤ (rot (off a b) a b).2) ∨ ((rot (off a b) a b).1 = 0 ∧ (rot (off a b) a b).2 = 0) := by
    by_cases h : a = 0 ∧ b = 0
    · obtain ⟨rfl, rfl⟩ := h
      exact .inr ⟨rfl, rfl⟩
    · exact .inl (off_there h)
  have HA : Hid (∀ k, k < off a b → ¬ (0 < (rot k a b).1 ∧ 0 ≤ (rot k a b).2) ∧ ¬ ((rot k a b).1 = 0 ∧ (rot k a b).2 = 0)) := hA
  have HT : Hid ((0 < (rot (off a b) a b).1 ∧ 0 ≤ (rot (off a b) a b).2) ∨ ((rot (off a b) a b).1 = 0 ∧ (rot (off a b) a b).2 = 0)) := hT
  clear hA hT ha
  generalize off a b = K at *
  obtain ⟨R, hR⟩ : ∃ R, rot K a b = R := ⟨_, rfl⟩
  rw [hR]
  have HR : Hid (rot K a b = R) := hR
  clear hR
  go_enter Try.func34, Try.ntmps34
  go_wp2
  go_loopg [] K (fun gk wr => ∃ (k : Nat) (os : Array Obj) (q : Nat), k + gk = K ∧ wr = more ((w.alloc (box (rot k a b).1 (rot k a b).2)).alloc (box 0 0)) os q)
  case atStart => exact ⟨0, #[], 0, by omega, by rw [more_nil]; rfl⟩
  case round =>
    obtain ⟨k', os', q, hk, rfl⟩ := hrel
    have hr1 := hr k'
    obtain ⟨S, hS⟩ : ∃ S, rot (k' + 1) a b = S := ⟨_, rfl⟩
    rw [hS] at hr1
    have HS : Hid (rot (k' + 1) a b = S) := hS
    clear hS hr
    by_cases hkk : k' = K
    · subst hkk
      have ht := HT.out
      rw [HR.out] at ht
      rw [HR.out]
      clear HA hr1 HR HT HS
      obtain ⟨x, y⟩ := R
      simp only at ht ⊢
      rcases ht with ⟨t1, t2⟩ | ⟨t1, t2⟩
      · have t3 : ¬ x = 0 := by omega
        go_wp2
        refine bodyPost_ret (v := pt x y) (by simp [results, Try.results34, go_sem]) rfl ⟨rfl, ?_⟩
        repeat (first | with_reducible exact Adds.refl _ | with_reducible refine Adds.alloc ?_ _ | with_reducible refine Adds.more ?_ _ _ | with_reducible refine Adds.drew ?_)
      · subst t1 t2
        go_wp2
        refine bodyPost_ret (v := pt 0 0) (by simp [results, Try.results34, go_sem]) rfl ⟨rfl, ?_⟩
        repeat (first | with_reducible exact Adds.refl _ | with_reducible refine Adds.alloc ?_ _ | with_reducible refine Adds.more ?_ _ _ | with_reducible refine Adds.drew ?_)
    · obtain ⟨u1, u2⟩ := HA.out k' (by omega)
      clear HA HT HR
      generalize rot k' a b = T at *
      obtain ⟨x, y⟩ := T
      simp only at u1 u2 hr1 ⊢
      have hlt : k' + 1 + (gk - 1) = K := by omega
      have hlt2 : gk - 1 < gk := by omega
      by_cases hx : x = 0
      · have hy : ¬ y = 0 := fun hy => u2 ⟨hx, hy⟩
        subst hx
        clear u1 u2
        go_wp2_with (go_at_call 30; refine (hr1 _).mono ?_; rintro e w1 ⟨rfl, os1, q1, rfl⟩)
        go_roundg (gk - 1)
        case measure => exact hlt2
        case rel => exact ⟨k' + 1, _, _, hlt, by rw [HS.out]⟩
      · by_cases hx' : x ≤ 0
        · clear u1 u2
          go_wp2_with (go_at_call 30; refine (hr1 _).mono ?_; rintro e w1 ⟨rfl, os1, q1, rfl⟩)
          go_roundg (gk - 1)
          case measure => exact hlt2
          case rel => exact ⟨k' + 1, _, _, hlt, by rw [HS.out]⟩
        · have hy : y < 0 := by omega
          clear u1 u2
          go_wp2_with (go_at_call 30; refine (hr1 _).mono ?_; rintro e w1 ⟨rfl, os1, q1, rfl⟩)
          go_roundg (gk - 1)
          case measure => exact hlt2
          case rel => exact ⟨k' + 1, _, _, hlt, by rw [HS.out]⟩

end Go.Proofs.Ytlbeebhehgnppaa
