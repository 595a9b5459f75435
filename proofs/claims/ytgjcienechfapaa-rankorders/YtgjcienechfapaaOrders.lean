/-
  The walk of the statement RankOrders: it returns true, whatever lists are handed in, and leaves all that was there as it was.
-/
import Derived.Test.YtgjcienechfapaaBegins
namespace Go.Proofs.Ytgjcienechfapaa
open Go.RowKit

/-- What the walk's end wants of the two keys. -/
theorem orders_facts {l t : List V} (ha : firstBad l = 0) (hb : firstBad t = 0) :
    lessAll l t = decide (cmpAll l t < 0) ∧ sameAll l t = decide (cmpAll l t = 0) ∧ Op.bytesLess (keyStr l).toList (keyStr t).toList = decide (cmpAll l t < 0) ∧ ((keyStr l).toList == (keyStr t).toList) = decide (cmpAll l t = 0) := by
  have hl := firstBad_ok ha
  have ht := firstBad_ok hb
  refine ⟨lessAll_cmp hl ht, ?_, ?_, ?_⟩
  · rw [sameAll_eq]
    exact decide_eq_decide.2 (cmpAll_zero l t).symm
  · rw [bytesLess_cmpL, (keyStr_ok ha).1, (keyStr_ok hb).1, keys_cmp hl ht]
  · rw [(keyStr_ok ha).1, (keyStr_ok hb).1, ← keys_cmp hl ht]
    by_cases h : keyBytes l = keyBytes t
    · rw [h]; simp [cmpL_self]
    · have h' : cmpL (keyBytes l) (keyBytes t) ≠ 0 := fun e => h ((cmpL_is.zero _ _).1 e)
      simp [h, h']

theorem V.eqv_cmp' (a b : V) : V.eqv a b = (a.cmp b == 0) := by
  rw [V.eqv_cmp]
  by_cases h : a.cmp b = 0 <;> simp [h]

set_option maxHeartbeats 4000000 in
theorem rankOrders_main (ao bo : Option Addr) (cap cap' : Nat) (l t : List V) (w : World) (hlo : l = [] ∨ ∃ b off, ao = some ⟨b, off, none⟩ ∧ b < w.heap.size ∧ Lies w b off l) (hto : t = [] ∨ ∃ b off, bo = some ⟨b, off, none⟩ ∧ b < w.heap.size ∧ Lies w b off t)
    (h16 : l.length ≤ 16) (h16' : t.length ≤ 16) (hea : firstBad l = 0) (heb : firstBad t = 0) :
    Calls Try.prog 3 #[.slice ao l.length cap, .slice bo t.length cap'] w fun e w' => e = .returned (.bool true) ∧ Below w.heap.size w w' := by
  have hl : Lst w (.slice ao l.length cap) l := ⟨ao, cap, rfl, hlo⟩
  have ht : Lst w (.slice bo t.length cap') t := ⟨bo, cap', rfl, hto⟩
  have ka := fun w' (hb : Below w.heap.size w w') => key_any _ _ w' (hl.below hb) h16
  have kb := fun w' (hb : Below w.heap.size w w') => key_any _ _ w' (ht.below hb) h16'
  have ks := fun w' (hb : Below w.heap.size w w') => same_any _ _ _ _ w' (hl.below hb) (ht.below hb) (by omega) (by omega)
  have kl := fun w' (hb : Below w.heap.size w w') => lessAll_any _ _ _ _ w' (hl.below hb) (ht.below hb) (by omega) (by omega)
  have kc := fun w' (hb : Below w.heap.size w w') => cmpAll_any _ _ _ _ w' (hl.below hb) (ht.below hb) (by omega) (by omega)
  obtain ⟨f1, f2, f3, f4⟩ := orders_facts hea heb
  have hr := cmpAll_range l t
  rw [hea] at ka
  rw [heb] at kb
  rw [f1] at kl
  rw [f2] at ks
  have HOK : Hid ((∀ v ∈ l, v.check = 0) ∧ (∀ v ∈ t, v.check = 0)) := ⟨firstBad_ok hea, firstBad_ok heb⟩
  clear f1 f2 hea heb
  generalize keyStr l = X at *
  generalize keyStr t = Y at *
  generalize cmpAll l t = C at *
  have hc1 : -1 ≤ C := by omega
  have hc2 : C ≤ 1 := by omega
  clear hr hl ht
  have hi1 : (l.length : Int) ≤ 16 := by omega
  have hi2 : (t.length : Int) ≤ 16 := by omega
  go_enter Try.func3, Try.ntmps3
  go_wp2_with (first
    | (go_at_call 8; first | (with_reducible refine (ka _ (Below.refl _ _)).mono ?_; rintro e w1 ⟨rfl, hb1⟩) | (with_reducible refine (kb _ hb1).mono ?_; rintro e w2 ⟨rfl, hb2⟩; replace hb2 := since_on hb1 hb2))
    | (go_at_call 9; refine (kl _ hb2).mono ?_; rintro e w3 ⟨rfl, hb3⟩; replace hb3 := since_on hb2 hb3)
    | (go_at_call 10; refine (ks _ hb3).mono ?_; rintro e w4 ⟨rfl, hb4⟩; replace hb4 := since_on hb3 hb4)
    | (go_at_call 11; refine (kc _ hb4).mono ?_; rintro e w5 ⟨rfl, hb5⟩; replace hb5 := since_on hb4 hb5))
  go_loopw [12] (fun i wr => ∃ k : Nat, k ≤ l.length ∧ k ≤ t.length ∧ i = .int .i64 k ∧ Below w.heap.size w wr) (fun i _ => l.length - (intOf i).toNat)
  case atStart => exact ⟨0, Nat.zero_le _, Nat.zero_le _, rfl, hb5⟩
  case round =>
    obtain ⟨k, hk, hk', rfl, hbl⟩ := hrel
    by_cases hlt : k < l.length ∧ k < t.length
    · obtain ⟨hlt, hlt'⟩ := hlt
      rcases hlo with rfl | ⟨b, off, rfl, hb, hll⟩
      · simp at hlt
      rcases hto with rfl | ⟨b', off', rfl, hb', hlt2⟩
      · simp at hlt'
      clear ka kb ks kl kc f3 f4
      have hcl := fun W hW => cells_later (W := W) hll hb hW hlt
      have hcl' := fun W hW => cells_later (W := W) hlt2 hb' hW hlt'
      have hx := HOK.out.1 l[k] (by simp)
      have hy := HOK.out.2 t[k] (by simp)
      generalize l[k] = x at *
      generalize t[k] = y at *
      have kcmp := compare_any x y
      have kless := less_any x y
      have he := run_eql33 x.kind x.num x.text x.re x.im y.kind y.num y.text y.re y.im
      rw [V.less_cmp hx hy] at kless
      rw [V.eqv_cmp'] at he
      clear hx hy
      generalize x.cmp y = D at *
      simp only [V.val] at kcmp kless
      have hi3 : (k : Int) < (l.length : Int) := by omega
      have hi4 : (k : Int) < (t.length : Int) := by omega
      go_wp2
      have q0 := fun p => (hcl wr hbl p).1
      have q1 := fun p => (hcl wr hbl p).2.1
      have q2 := fun p => (hcl wr hbl p).2.2.1
      have q3 := fun p => (hcl wr hbl p).2.2.2.1
      have q4 := fun p => (hcl wr hbl p).2.2.2.2
      have r0 := fun p => (hcl' wr hbl p).1
      have r1 := fun p => (hcl' wr hbl p).2.1
      have r2 := fun p => (hcl' wr hbl p).2.2.1
      have r3 := fun p => (hcl' wr hbl p).2.2.2.1
      have r4 := fun p => (hcl' wr hbl p).2.2.2.2
      refine wp_region_quiet_later (by kernel_rfl) (by kernel_rfl) ?_
      repeat (go_big_quiet_step ((go_at_call 12; exact Calls.later_of (kcmp _))))
      refine wpQuiet_nil ?_
      rintro _ ⟨p, rfl⟩
      clear q0 q1 q2 q3 q4 r0 r1 r2 r3 r4
      replace hbl := since_on hbl p.below
      generalize p.world = wp at *
      have q0 := fun p => (hcl wp hbl p).1
      have q1 := fun p => (hcl wp hbl p).2.1
      have q2 := fun p => (hcl wp hbl p).2.2.1
      have q3 := fun p => (hcl wp hbl p).2.2.2.1
      have q4 := fun p => (hcl wp hbl p).2.2.2.2
      have r0 := fun p => (hcl' wp hbl p).1
      have r1 := fun p => (hcl' wp hbl p).2.1
      have r2 := fun p => (hcl' wp hbl p).2.2.1
      have r3 := fun p => (hcl' wp hbl p).2.2.2.1
      have r4 := fun p => (hcl' wp hbl p).2.2.2.2
      go_wp2
      refine wp_region_quiet_later (by kernel_rfl) (by kernel_rfl) ?_
      repeat (go_big_quiet_step ((go_at_call 13; exact Calls.later_of (kless _))))
      refine wpQuiet_nil ?_
      rintro _ ⟨p, rfl⟩
      clear q0 q1 q2 q3 q4 r0 r1 r2 r3 r4
      replace hbl := since_on hbl p.below
      go_wp2
      go_roundw
      case rel => exact ⟨k + 1, by omega, by omega, by go_num, hbl⟩
      case measure => simp [intOf]; omega
    · by_cases h1 : k < l.length
      · have h2 : k = t.length := by omega
        have h3 : (t.length : Int) < (l.length : Int) := by omega
        subst h2
        clear hlt
        go_wp2_with (go_at_call 7; refine (awake_any _).mono ?_; rintro e w6 ⟨rfl, hb6⟩)
        go_ret
        exact ⟨rfl, since_on hbl hb6⟩
      · have h2 : k = l.length := by omega
        subst h2
        clear hlt h1
        go_wp2_with (go_at_call 7; refine (awake_any _).mono ?_; rintro e w6 ⟨rfl, hb6⟩)
        go_ret
        exact ⟨rfl, since_on hbl hb6⟩

set_option maxHeartbeats 2000000 in
theorem rankOrders_any (s s' : Value) (l t : List V) (w : World) (hl : Lst w s l) (ht : Lst w s' t) :
    Calls Try.prog 3 #[s, s'] w fun e w' => e = .returned (.bool true) ∧ Below w.heap.size w w' := by
  obtain ⟨ao, cap, rfl, hlo⟩ := hl
  obtain ⟨bo, cap', rfl, hto⟩ := ht
  by_cases h16 : l.length ≤ 16 ∧ t.length ≤ 16
  · obtain ⟨h16, h16'⟩ := h16
    by_cases he : firstBad l = 0 ∧ firstBad t = 0
    · exact rankOrders_main ao bo cap cap' l t w hlo hto h16 h16' he.1 he.2
    · have hl : Lst w (.slice ao l.length cap) l := ⟨ao, cap, rfl, hlo⟩
      have ht : Lst w (.slice bo t.length cap') t := ⟨bo, cap', rfl, hto⟩
      have ka := fun w' (hb : Below w.heap.size w w') => key_any _ _ w' (hl.below hb) h16
      have kb := fun w' (hb : Below w.heap.size w w') => key_any _ _ w' (ht.below hb) h16'
      generalize keyStr l = X at *
      generalize keyStr t = Y at *
      generalize firstBad l = ea at *
      generalize firstBad t = eb at *
      clear hl ht hlo hto
      have hi1 : (l.length : Int) ≤ 16 := by omega
      have hi2 : (t.length : Int) ≤ 16 := by omega
      go_enter Try.func3, Try.ntmps3
      go_wp2_with (first
        | (go_at_call 8; first | (with_reducible refine (ka _ (Below.refl _ _)).mono ?_; rintro e w1 ⟨rfl, hb1⟩) | (with_reducible refine (kb _ hb1).mono ?_; rintro e w2 ⟨rfl, hb2⟩; replace hb2 := since_on hb1 hb2))
        | (go_at_call 7; refine (awake_any _).mono ?_; rintro e w3 ⟨rfl, hb3⟩))
      all_goals
        go_ret
        exact ⟨rfl, since_on hb2 hb3⟩
  · go_enter Try.func3, Try.ntmps3
    go_wp2_with (go_at_call 7; refine (awake_any _).mono ?_; rintro e w1 ⟨rfl, hb1⟩)
    all_goals
      go_ret
      exact ⟨rfl, hb1⟩

end Go.Proofs.Ytgjcienechfapaa
