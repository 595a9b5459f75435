/-
  Powers: gauss.Pow by a contract, and the walk of the statement GaussPows.
-/
import Derived.Test.YtlbeebhehgnppaaMuls
import Derived.Test.YtlbeebhehgnppaaSums
namespace Go.Proofs.Ytlbeebhehgnppaa
open Go.RowKit
attribute [local go_sem] cell?_addTo cell?_more frozen?_more setCell_more size_more tape_more drew_more drewN_more more_drew more_drewN more_more one_out plus_out lt_one le_p2 le_p3 le_p4 le_p5 le_p6 le_p7 le_p8 le_p9 le_p10 le_p11 le_p12
attribute [local go_sem] plus_end le_p13 le_p14 le_p15 le_p16 le_p17 le_p18 le_p19 le_p20 le_p21 le_p22 le_p23 le_p24 le_p25 le_p26 le_p27 le_p28 le_p29 le_p30

/-- The powers of a point. -/
def pw (a b : Int) : Nat → Int × Int
  | 0 => (1, 0)
  | k + 1 => ((pw a b k).1 * a - (pw a b k).2 * b, (pw a b k).1 * b + (pw a b k).2 * a)

/-- The first powers, up to k, all may be. -/
def PwMay (a b : Int) (k : Nat) : Prop := ∀ j, j ≤ k → May (pw a b j).1 (pw a b j).2

theorem PwMay.zero (a b : Int) : PwMay a b 0 := fun j hj => by
  have : j = 0 := by omega
  subst this
  show May 1 0
  decide

theorem PwMay.succ {a b : Int} {k : Nat} (h : PwMay a b k) (h' : May (pw a b (k + 1)).1 (pw a b (k + 1)).2) : PwMay a b (k + 1) := fun j hj => by
  by_cases hk : j = k + 1
  · subst hk; exact h'
  · exact h j (by omega)

theorem pow_arg (a b n : Int) (h : ¬ May a b ∨ n < 0 ∨ 64 < n) (w : World) :
    Calls Try.prog 26 #[pt a b, .int .i64 n] w fun e w' => e = .returned (.tuple #[pt 0 0, .int .i64 1]) ∧ Adds w w' := by
  by_cases ha : May a b
  · have h1 := check_may a b ha
    have h' : n < 0 ∨ 64 < n := h.resolve_left (fun k => k ha)
    clear h ha
    rcases h' with h' | h'
    · go_enter Try.func26, Try.ntmps26
      go_wp2_with (go_at_call 18; refine (h1 _).mono ?_; rintro e w1 ⟨rfl, os, k, rfl⟩)
      refine bodyPost_ret (v := .tuple #[pt 0 0, .int .i64 1]) (by simp [results, Try.results26, go_sem]) rfl ⟨rfl, ?_⟩
      repeat (first | exact Adds.refl _ | refine Adds.alloc ?_ _ | refine Adds.more ?_ _ _ | refine Adds.drew ?_)
    · have h'' : ¬ n < 0 := by omega
      go_enter Try.func26, Try.ntmps26
      go_wp2_with (go_at_call 18; refine (h1 _).mono ?_; rintro e w1 ⟨rfl, os, k, rfl⟩)
      refine bodyPost_ret (v := .tuple #[pt 0 0, .int .i64 1]) (by simp [results, Try.results26, go_sem]) rfl ⟨rfl, ?_⟩
      repeat (first | exact Adds.refl _ | refine Adds.alloc ?_ _ | refine Adds.more ?_ _ _ | refine Adds.drew ?_)
  · have h1 := check_not a b ha
    clear h ha
    go_enter Try.func26, Try.ntmps26
    go_wp2_with (go_at_call 18; refine (h1 _).mono ?_; rintro e w1 ⟨rfl, os, k, rfl⟩)
    refine bodyPost_ret (v := .tuple #[pt 0 0, .int .i64 1]) (by simp [results, Try.results26, go_sem]) rfl ⟨rfl, ?_⟩
    repeat (first | exact Adds.refl _ | refine Adds.alloc ?_ _ | refine Adds.more ?_ _ _ | refine Adds.drew ?_)

set_option maxHeartbeats 4000000 in
theorem pow_may (a b : Int) (N : Nat) (ha : May a b) (hN : N ≤ 64) (x y e : Int) (g1 : PwMay a b N → x = (pw a b N).1 ∧ y = (pw a b N).2 ∧ e = 0) (g2 : ¬ PwMay a b N → x = 0 ∧ y = 0 ∧ e = 3) (w : World) :
    Calls Try.prog 26 #[pt a b, .int .i64 (N : Int)] w fun e' w' => e' = .returned (.tuple #[pt x y, .int .i64 e]) ∧ Adds w w' := by
  have h1 := check_may a b ha
  have n1 : (0 : Int) ≤ (N : Int) := by omega
  have n2 : (N : Int) ≤ 64 := by omega
  have HA : Hid (May a b) := ha
  have G1 : Hid (PwMay a b N → x = (pw a b N).1 ∧ y = (pw a b N).2 ∧ e = 0) := g1
  have G2 : Hid (¬ PwMay a b N → x = 0 ∧ y = 0 ∧ e = 3) := g2
  clear ha g1 g2
  go_enter Try.func26, Try.ntmps26
  go_wp2_with (go_at_call 18; refine (h1 _).mono ?_; rintro e w1 ⟨rfl, os, k, rfl⟩)
  go_loopw [22] (fun i wr => ∃ (k' : Nat) (os' : Array Obj) (q : Nat), k' ≤ N ∧ Hid (PwMay a b k') ∧ i = .int .i64 (k' : Int) ∧ wr = more ((more ((w.alloc (box a b)).alloc (box 0 0)) os k).alloc (box (pw a b k').1 (pw a b k').2)) os' q) (fun i _ => N - (intOf i).toNat)
  case atStart => exact ⟨0, #[], 0, by omega, PwMay.zero a b, rfl, by rw [more_nil]; rfl⟩
  case round =>
    obtain ⟨k', os', q, hk, hp, rfl, rfl⟩ := hrel
    have ht := times_any _ _ a b (hp.out k' (Nat.le_refl _)) HA.out
    change ∀ w, Calls Try.prog 29 #[pt (pw a b k').1 (pw a b k').2, pt a b] w fun e w' => e = .returned (pt (pw a b (k' + 1)).1 (pw a b (k' + 1)).2) ∧ Adds w w' at ht
    by_cases hm : May (pw a b (k' + 1)).1 (pw a b (k' + 1)).2
    · have hf := fit_may _ _ hm
      have hp' : Hid (PwMay a b (k' + 1)) := hp.out.succ hm
      clear hm
      obtain ⟨S, hS⟩ : ∃ S, pw a b (k' + 1) = S := ⟨_, rfl⟩
      rw [hS] at ht hf
      have HS : Hid (pw a b (k' + 1) = S) := hS
      clear hS
      go_wp2_with (first
        | (go_at_call 29; refine (ht _).mono ?_; rintro e w1 ⟨rfl, os1, q1, rfl⟩)
        | (go_at_call 28; refine (hf _).mono ?_; rintro e w1 ⟨rfl, os2, q2, rfl⟩))
      · go_roundw
        case rel => exact ⟨k' + 1, _, _, by omega, hp', by go_num, by rw [HS.out]⟩
        case measure => simp [intOf]; omega
      · have hkk : k' = N := by omega
        subst hkk
        obtain ⟨rfl, rfl, rfl⟩ := G1.out hp.out
        refine bodyPost_ret (v := .tuple #[pt (pw a b k').1 (pw a b k').2, .int .i64 0]) (by simp [results, Try.results26, go_sem]) rfl ⟨rfl, ?_⟩
        repeat (first | exact Adds.refl _ | refine Adds.alloc ?_ _ | refine Adds.more ?_ _ _ | refine Adds.drew ?_)
    · have hf := fit_not _ _ hm
      have HM : Hid (¬ May (pw a b (k' + 1)).1 (pw a b (k' + 1)).2) := hm
      clear hm
      generalize pw a b (k' + 1) = S at ht hf
      go_wp2_with (first
        | (go_at_call 29; refine (ht _).mono ?_; rintro e w1 ⟨rfl, os1, q1, rfl⟩)
        | (go_at_call 28; refine (hf _).mono ?_; rintro e w1 ⟨rfl, os2, q2, rfl⟩))
      · obtain ⟨rfl, rfl, rfl⟩ := G2.out (fun h => HM.out (h (k' + 1) (by omega)))
        refine bodyPost_ret (v := .tuple #[pt 0 0, .int .i64 3]) (by simp [results, Try.results26, go_sem]) rfl ⟨rfl, ?_⟩
        repeat (first | exact Adds.refl _ | refine Adds.alloc ?_ _ | refine Adds.more ?_ _ _ | refine Adds.drew ?_)
      · have hkk : k' = N := by omega
        subst hkk
        obtain ⟨rfl, rfl, rfl⟩ := G1.out hp.out
        refine bodyPost_ret (v := .tuple #[pt (pw a b k').1 (pw a b k').2, .int .i64 0]) (by simp [results, Try.results26, go_sem]) rfl ⟨rfl, ?_⟩
        repeat (first | exact Adds.refl _ | refine Adds.alloc ?_ _ | refine Adds.more ?_ _ _ | refine Adds.drew ?_)

end Go.Proofs.Ytlbeebhehgnppaa
