/-
  The walk of the statement GaussPows: it returns true, whatever point and number are handed in.
-/
import Derived.Test.YtlbeebhehgnppaaPow
namespace Go.Proofs.Ytlbeebhehgnppaa
open Go.RowKit
attribute [local go_sem] cell?_addTo cell?_more frozen?_more setCell_more size_more tape_more drew_more drewN_more more_drew more_drewN more_more one_out plus_out lt_one le_p2 le_p3 le_p4 le_p5 le_p6 le_p7 le_p8 le_p9 le_p10 le_p11 le_p12
attribute [local go_sem] plus_end le_p13 le_p14 le_p15 le_p16 le_p17 le_p18 le_p19 le_p20 le_p21 le_p22 le_p23 le_p24 le_p25 le_p26 le_p27 le_p28 le_p29 le_p30

set_option maxHeartbeats 4000000 in
theorem pows_arg (a b n : Int) (h : ¬ May a b ∨ n < 0 ∨ 64 < n) (w : World) :
    Calls Try.prog 7 #[pt a b, .int .i64 n] w fun e w' => e = .returned (.bool true) ∧ Adds w w' := by
  have h1 := pow_arg a b n h
  have h2 := none_true 1
  have h3 := awake_any
  by_cases ha : May a b
  · have m1 := fun w => rmay_true ha w
    have h' : n < 0 ∨ 64 < n := h.resolve_left (fun k => k ha)
    clear h ha
    rcases h' with h' | h'
    · go_enter Try.func7, Try.ntmps7
      go_wp2_with (first
        | (go_at_call 26; refine (h1 _).mono ?_; rintro e w1 ⟨rfl, os, k, rfl⟩)
        | (go_at_call 11; refine (m1 _).mono ?_; rintro e w1 ⟨rfl, os, k, rfl⟩)
        | (go_at_call 12; refine (h2 _).mono ?_; rintro e w1 ⟨rfl, os, k, rfl⟩)
        | (go_at_call 13; refine (h3 _).mono ?_; rintro e w1 ⟨rfl, os, k, rfl⟩))
      go_ret
      refine ⟨rfl, ?_⟩
      repeat (first | exact Adds.refl _ | refine Adds.alloc ?_ _ | refine Adds.more ?_ _ _ | refine Adds.drew ?_)
    · have h'' : ¬ n < 0 := by omega
      go_enter Try.func7, Try.ntmps7
      go_wp2_with (first
        | (go_at_call 26; refine (h1 _).mono ?_; rintro e w1 ⟨rfl, os, k, rfl⟩)
        | (go_at_call 11; refine (m1 _).mono ?_; rintro e w1 ⟨rfl, os, k, rfl⟩)
        | (go_at_call 12; refine (h2 _).mono ?_; rintro e w1 ⟨rfl, os, k, rfl⟩)
        | (go_at_call 13; refine (h3 _).mono ?_; rintro e w1 ⟨rfl, os, k, rfl⟩))
      go_ret
      refine ⟨rfl, ?_⟩
      repeat (first | exact Adds.refl _ | refine Adds.alloc ?_ _ | refine Adds.more ?_ _ _ | refine Adds.drew ?_)
  · have m1 := fun w => rmay_false ha w
    clear h ha
    go_enter Try.func7, Try.ntmps7
    go_wp2_with (first
      | (go_at_call 26; refine (h1 _).mono ?_; rintro e w1 ⟨rfl, os, k, rfl⟩)
      | (go_at_call 11; refine (m1 _).mono ?_; rintro e w1 ⟨rfl, os, k, rfl⟩)
      | (go_at_call 12; refine (h2 _).mono ?_; rintro e w1 ⟨rfl, os, k, rfl⟩)
      | (go_at_call 13; refine (h3 _).mono ?_; rintro e w1 ⟨rfl, os, k, rfl⟩))
    go_ret
    refine ⟨rfl, ?_⟩
    repeat (first | exact Adds.refl _ | refine Adds.alloc ?_ _ | refine Adds.more ?_ _ _ | refine Adds.drew ?_)

set_option maxRecDepth 20000 in
set_option maxHeartbeats 4000000 in
theorem pows_may (a b : Int) (N : Nat) (ha : May a b) (hN : N ≤ 64) (x y e : Int) (g1 : PwMay a b N → x = (pw a b N).1 ∧ y = (pw a b N).2 ∧ e = 0) (g2 : ¬ PwMay a b N → x = 0 ∧ y = 0 ∧ e = 3) (w : World) :
    Calls Try.prog 7 #[pt a b, .int .i64 (N : Int)] w fun e w' => e = .returned (.bool true) ∧ Adds w w' := by
  have h1 := pow_may a b N ha hN x y e g1 g2
  have h2 := none_true 3
  have h3 := awake_any
  have m1 := fun w => rmay_true ha w
  have n1 : (0 : Int) ≤ (N : Int) := by omega
  have n2 : (N : Int) ≤ 64 := by omega
  have HA : Hid (May a b) := ha
  have G1 : Hid (PwMay a b N → x = (pw a b N).1 ∧ y = (pw a b N).2 ∧ e = 0) := g1
  have G2 : Hid (¬ PwMay a b N → x = 0 ∧ y = 0 ∧ e = 3) := g2
  clear ha g1 g2
  go_enter Try.func7, Try.ntmps7
  go_wp2_with (first
    | (go_at_call 26; refine (h1 _).mono ?_; rintro e w1 ⟨rfl, os1, k1, rfl⟩)
    | (go_at_call 11; refine (m1 _).mono ?_; rintro e w1 ⟨rfl, os2, k2, rfl⟩))
  go_loopw [8] (fun i wr => ∃ (k' : Nat) (os' : Array Obj) (q : Nat), k' ≤ N ∧ Hid (PwMay a b k') ∧ i = .int .i64 (k' : Int) ∧ wr = more ((more ((more (w.alloc (box a b)) os1 k1).alloc (box x y)) os2 k2).alloc (box (pw a b k').1 (pw a b k').2)) os' q) (fun i _ => N - (intOf i).toNat)
  case atStart => exact ⟨0, #[], 0, by omega, PwMay.zero a b, rfl, by rw [more_nil]; rfl⟩
  case round =>
    obtain ⟨k', os', q, hk, hp, rfl, rfl⟩ := hrel
    have ht := rmul_any _ _ a b (hp.out k' (Nat.le_refl _)) HA.out
    change ∀ w, Calls Try.prog 14 #[pt (pw a b k').1 (pw a b k').2, pt a b] w fun e w' => e = .returned (pt (pw a b (k' + 1)).1 (pw a b (k' + 1)).2) ∧ Adds w w' at ht
    by_cases hkk : k' = N
    · subst hkk
      obtain ⟨rfl, rfl, rfl⟩ := G1.out hp.out
      generalize pw a b k' = S at *
      go_wp2_with (first
        | (go_at_call 13; refine (h3 _).mono ?_; rintro e w1 ⟨rfl, os, k, rfl⟩))
      go_ret
      refine ⟨rfl, ?_⟩
      repeat (first | exact Adds.refl _ | refine Adds.alloc ?_ _ | refine Adds.more ?_ _ _ | refine Adds.drew ?_)
    · have hlt : (k' : Int) < (N : Int) := by omega
      by_cases hm : May (pw a b (k' + 1)).1 (pw a b (k' + 1)).2
      · have hf := fun w => rmay_true hm w
        have hp' : Hid (PwMay a b (k' + 1)) := hp.out.succ hm
        clear hm
        obtain ⟨S, hS⟩ : ∃ S, pw a b (k' + 1) = S := ⟨_, rfl⟩
        rw [hS] at ht hf
        have HS : Hid (pw a b (k' + 1) = S) := hS
        clear hS
        go_wp2_with (first
          | (go_at_call 14; refine (ht _).mono ?_; rintro e w1 ⟨rfl, os3, q1, rfl⟩)
          | (go_at_call 11; refine (hf _).mono ?_; rintro e w1 ⟨rfl, os4, q2, rfl⟩))
        go_roundw
        case rel => exact ⟨k' + 1, _, _, by omega, hp', by go_num, by rw [HS.out]⟩
        case measure => simp [intOf]; omega
      · have hf := fun w => rmay_false hm w
        obtain ⟨rfl, rfl, rfl⟩ := G2.out (fun h => hm (h (k' + 1) (by omega)))
        clear hm
        generalize pw a b (k' + 1) = S at ht hf
        go_wp2_with (first
          | (go_at_call 14; refine (ht _).mono ?_; rintro e w1 ⟨rfl, os3, q1, rfl⟩)
          | (go_at_call 11; refine (hf _).mono ?_; rintro e w1 ⟨rfl, os4, q2, rfl⟩)
          | (go_at_call 12; refine (h2 _).mono ?_; rintro e w1 ⟨rfl, os, k, rfl⟩)
          | (go_at_call 13; refine (h3 _).mono ?_; rintro e w1 ⟨rfl, os, k, rfl⟩))
        go_ret
        refine ⟨rfl, ?_⟩
        repeat (first | exact Adds.refl _ | refine Adds.alloc ?_ _ | refine Adds.more ?_ _ _ | refine Adds.drew ?_)

theorem pows_any (a b n : Int) (w : World) :
    Calls Try.prog 7 #[pt a b, .int .i64 n] w fun e w' => e = .returned (.bool true) ∧ Adds w w' := by
  by_cases h : ¬ May a b ∨ n < 0 ∨ 64 < n
  · exact pows_arg a b n h w
  · have ha : May a b := Decidable.byContradiction fun k => h (.inl k)
    have hn : n = ((n.toNat : Nat) : Int) := by omega
    rw [hn]
    by_cases hp : PwMay a b n.toNat
    · exact pows_may a b n.toNat ha (by omega) _ _ _ (fun _ => ⟨rfl, rfl, rfl⟩) (fun k => absurd hp k) w
    · exact pows_may a b n.toNat ha (by omega) _ _ _ (fun k => absurd k hp) (fun _ => ⟨rfl, rfl, rfl⟩) w

end Go.Proofs.Ytlbeebhehgnppaa
