/-
  The document's Gcd by a contract.
-/
import Derived.Test.YtlbeebhehgnppaaRefDiv
import Derived.Test.YtlbeebhehgnppaaCorner
namespace Go.Proofs.Ytlbeebhehgnppaa
open Go.RowKit
attribute [local go_sem] cell?_addTo cell?_more frozen?_more setCell_more size_more tape_more drew_more drewN_more more_drew more_drewN more_more one_out plus_out lt_one le_p2 le_p3 le_p4 le_p5 le_p6 le_p7 le_p8 le_p9 le_p10 le_p11 le_p12
attribute [local go_sem] plus_end le_p13 le_p14 le_p15 le_p16 le_p17 le_p18 le_p19 le_p20 le_p21 le_p22 le_p23 le_p24 le_p25 le_p26 le_p27 le_p28 le_p29 le_p30

theorem rot_nought : ∀ k, rot k 0 0 = (0, 0)
  | 0 => rfl
  | k + 1 => by simp [rot, rot_nought k]

theorem turns_needed (x y : Int) : ∃ K, K ≤ 4 ∧ rot K x y = rot (off x y) x y ∧ (∀ k, k < K → ¬ (0 < (rot k x y).1 ∧ 0 ≤ (rot k x y).2)) ∧ (K = 4 ∨ (0 < (rot K x y).1 ∧ 0 ≤ (rot K x y).2)) := by
  by_cases h : x = 0 ∧ y = 0
  · obtain ⟨rfl, rfl⟩ := h
    exact ⟨4, by omega, by rw [rot_nought, rot_nought], fun k _ => by rw [rot_nought]; simp, .inl rfl⟩
  · exact ⟨off x y, by have := off_le x y; omega, rfl, fun k hk => (off_ahead hk).1, .inr (off_there h)⟩

theorem steps_bound {k : Nat} {n : Int} (hn : 0 < n) (h : 2 ^ k * n ≤ 2199023255552) : k ≤ 41 := by
  refine Nat.not_lt.1 fun hk => ?_
  have h1 : (2 : Int) ^ 42 ≤ 2 ^ k := by
    have e : k = 42 + (k - 42) := by omega
    rw [e, Int.pow_add]
    have := Int.pow_pos (n := 2) (m := k - 42) (by decide)
    have e42 : (2 : Int) ^ 42 = 4398046511104 := by decide
    rw [e42]
    omega
  have e42 : (2 : Int) ^ 42 = 4398046511104 := by decide
  rw [e42] at h1
  have h2 := Int.mul_le_mul h1 (show (1 : Int) ≤ n by omega) (by decide) (by omega)
  omega

set_option maxHeartbeats 1000000 in
theorem rgcd_may (a b c d : Int) (ha : May a b) (hb : May c d) (E : Int × Int) (hE : eu a b c d = E) (w : World) :
    Calls Try.prog 24 #[pt a b, pt c d] w fun e w' => e = .returned (pt (rot (off E.1 E.2) E.1 E.2).1 (rot (off E.1 E.2) E.1 E.2).2) ∧ Adds w w' := by
  have hI : Hid (eu a b c d = E ∧ May a b ∧ May c d ∧ 2 ^ 0 * (c * c + d * d) ≤ 2199023255552) := ⟨hE, ha, hb, by have := norm_le hb; omega⟩
  clear hE ha hb
  go_enter Try.func24, Try.ntmps24
  go_wp2
  go_loopw [5] (fun i wr => ∃ (x y u v : Int) (k : Nat), i = .int .i64 (k : Int) ∧ k ≤ 42 ∧ Adds (((w.alloc (box x y)).alloc (box u v)).alloc (box 0 0)) wr ∧ Hid (eu x y u v = E ∧ May x y ∧ May u v ∧ 2 ^ k * (u * u + v * v) ≤ 2199023255552)) (fun i _ => 200 - (intOf i).toNat)
  case atStart => exact ⟨a, b, c, d, 0, rfl, by omega, Adds.refl _, hI⟩
  case round =>
    obtain ⟨x, y, u, v, k, rfl, hk, ⟨os, q, rfl⟩, hi⟩ := hrel
    have hk' : (k : Int) < 200 := by omega
    clear hI
    by_cases hz : u = 0 ∧ v = 0
    · obtain ⟨hz1, hz2⟩ := hz
      have hE : (x, y) = E := by have := hi.out.1; rw [hz1, hz2, eu_zero] at this; exact this
      have hm := hi.out.2.1
      have ht : ∀ k, ∀ w, Calls Try.prog 19 #[pt (rot k x y).1 (rot k x y).2, .int .i64 1] w fun e w' => e = .returned (pt (rot (k + 1) x y).1 (rot (k + 1) x y).2) ∧ Adds w w' := fun k w => rturn_may _ _ 1 (may_rot hm k) w
      subst hz1 hz2
      subst hE
      obtain ⟨K, k4, kE, kA, kT⟩ := turns_needed x y
      have KE : Hid (rot K x y = rot (off x y) x y) := kE
      have KA : Hid (∀ k, k < K → ¬ (0 < (rot k x y).1 ∧ 0 ≤ (rot k x y).2)) := kA
      have KT : Hid (K = 4 ∨ (0 < (rot K x y).1 ∧ 0 ≤ (rot K x y).2)) := kT
      clear kE kA kT hi hm
      go_wp2
      go_loopw [8] (fun i wr => ∃ (j : Nat) (o1 : Array Obj) (q1 : Nat), i = .int .i64 (j : Int) ∧ j ≤ K ∧ wr = more (((w.alloc (box (rot j x y).1 (rot j x y).2)).alloc (box 0 0)).alloc (box 0 0)) o1 q1) (fun i _ => 4 - (intOf i).toNat)
      case atStart => exact ⟨0, os, q, rfl, by omega, rfl⟩
      case round =>
        obtain ⟨j, o1, q1, rfl, hj, rfl⟩ := hrel
        by_cases hjj : j = K
        · subst hjj
          have kt := KT.out
          have ke := KE.out
          rcases kt with rfl | ⟨t1, t2⟩
          · have HKE : Hid (rot 4 x y = rot (off x y) x y) := ke
            clear ke KE KA KT
            go_wp2
            refine bodyPost_ret (v := pt (rot 4 x y).1 (rot 4 x y).2) (by simp [results, Try.results24, go_sem]) rfl ⟨by rw [HKE.out], ?_⟩
            repeat (first | with_reducible exact Adds.refl _ | with_reducible refine Adds.alloc ?_ _ | with_reducible refine Adds.more ?_ _ _ | with_reducible refine Adds.drew ?_)
          · have HKE : Hid (rot j x y = rot (off x y) x y) := ke
            clear ke KE KA KT ht
            generalize rot j x y = S at *
            obtain ⟨s1, s2⟩ := S
            simp only at t1 t2 ⊢
            by_cases hj4 : (j : Int) < 4
            · go_wp2
              refine bodyPost_ret (v := pt s1 s2) (by simp [results, Try.results24, go_sem]) rfl ⟨by rw [← HKE.out], ?_⟩
              repeat (first | with_reducible exact Adds.refl _ | with_reducible refine Adds.alloc ?_ _ | with_reducible refine Adds.more ?_ _ _ | with_reducible refine Adds.drew ?_)
            · obtain rfl : j = 4 := by omega
              clear hj4
              go_wp2
              refine bodyPost_ret (v := pt s1 s2) (by simp [results, Try.results24, go_sem]) rfl ⟨by rw [← HKE.out], ?_⟩
              repeat (first | with_reducible exact Adds.refl _ | with_reducible refine Adds.alloc ?_ _ | with_reducible refine Adds.more ?_ _ _ | with_reducible refine Adds.drew ?_)
        · have hj4 : (j : Int) < 4 := by omega
          have ka := KA.out j (by omega)
          have ht1 := ht j
          obtain ⟨S, hS⟩ : ∃ S, rot (j + 1) x y = S := ⟨_, rfl⟩
          rw [hS] at ht1
          have HS : Hid (rot (j + 1) x y = S) := hS
          clear hS ht KE KA KT
          by_cases hx : 0 < (rot j x y).1
          · have hy : ¬ 0 ≤ (rot j x y).2 := fun hy => ka ⟨hx, hy⟩
            clear ka
            go_wp2_with (go_at_call 19; refine (ht1 _).mono ?_; rintro e w1 ⟨rfl, o2, q2, rfl⟩)
            go_roundw
            case rel => exact ⟨j + 1, _, _, by go_num, by omega, by rw [HS.out]⟩
            case measure => simp [intOf]; omega
          · clear ka
            go_wp2_with (go_at_call 19; refine (ht1 _).mono ?_; rintro e w1 ⟨rfl, o2, q2, rfl⟩)
            go_roundw
            case rel => exact ⟨j + 1, _, _, by go_num, by omega, by rw [HS.out]⟩
            case measure => simp [intOf]; omega
    · have hd := rdiv_any x y u v hi.out.2.1 hi.out.2.2.1 hz
      have k41 := steps_bound (norm_pos hz) hi.out.2.2.2
      have hn := res_norm (a := x) (b := y) hz
      have hnew : Hid (eu u v (resRe x y u v) (resIm x y u v) = E ∧ May u v ∧ May (resRe x y u v) (resIm x y u v) ∧ 2 ^ (k + 1) * (resRe x y u v * resRe x y u v + resIm x y u v * resIm x y u v) ≤ 2199023255552) := by
        refine ⟨by rw [← eu_step hz]; exact hi.out.1, hi.out.2.2.1, res_may hi.out.2.2.1 hz, ?_⟩
        have h4 := hi.out.2.2.2
        have hp := Int.pow_pos (n := 2) (m := k) (by decide)
        have := Int.mul_le_mul_of_nonneg_left hn (Int.le_of_lt hp)
        rw [Int.pow_succ]
        grind
      clear hn hi
      generalize quoRe x y u v = A at *
      generalize quoIm x y u v = B at *
      generalize resRe x y u v = C at *
      generalize resIm x y u v = D at *
      by_cases hu : u = 0
      · have hv : ¬ v = 0 := fun hv => hz ⟨hu, hv⟩
        clear hz
        subst hu
        go_wp2_with (go_at_call 22; refine (hd _).mono ?_; rintro e w1 ⟨rfl, o1, k1, rfl⟩)
        go_roundw
        case rel => exact ⟨0, v, C, D, k + 1, by go_num, by omega, by repeat (first | with_reducible exact Adds.refl _ | with_reducible refine Adds.alloc ?_ _ | with_reducible refine Adds.more ?_ _ _ | with_reducible refine Adds.drew ?_), hnew⟩
        case measure => simp [intOf]; omega
      · clear hz
        go_wp2_with (go_at_call 22; refine (hd _).mono ?_; rintro e w1 ⟨rfl, o1, k1, rfl⟩)
        go_roundw
        case rel => exact ⟨u, v, C, D, k + 1, by go_num, by omega, by repeat (first | with_reducible exact Adds.refl _ | with_reducible refine Adds.alloc ?_ _ | with_reducible refine Adds.more ?_ _ _ | with_reducible refine Adds.drew ?_), hnew⟩
        case measure => simp [intOf]; omega

end Go.Proofs.Ytlbeebhehgnppaa
