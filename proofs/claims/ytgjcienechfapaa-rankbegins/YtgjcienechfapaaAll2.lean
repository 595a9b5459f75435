/-
  The functions LessAll and CompareAll on two lists of values, by contracts.
-/
import Derived.Test.YtgjcienechfapaaAll
namespace Go.Proofs.Ytgjcienechfapaa
open Go.RowKit

def lessAll (l t : List V) : Bool := walkL V.less (fun m n => decide (m < n)) l t
def cmpAll (l t : List V) : Int := walkL V.cmp (fun m n => cmpInt m n) l t

theorem cells_later {w W : World} {b off : Nat} {l : List V} (h : Lies w b off l) (hb : b < w.heap.size) (hbl : Below w.heap.size w W) {k : Nat} (hk : k < l.length) (p : Later W) :
    p.world.cell? ⟨b, off + k * 5, none⟩ = some (.int .i64 l[k].kind) ∧ p.world.cell? ⟨b, off + k * 5 + 1, none⟩ = some (.int .i64 l[k].num) ∧ p.world.cell? ⟨b, off + k * 5 + 2, none⟩ = some (.string l[k].text) ∧
    p.world.cell? ⟨b, off + k * 5 + 3, none⟩ = some (.int .i64 l[k].re) ∧ p.world.cell? ⟨b, off + k * 5 + 4, none⟩ = some (.int .i64 l[k].im) :=
  h.below (since_on hbl p.below) hb k hk

set_option maxHeartbeats 1000000 in
theorem lessAll_any (s s' : Value) (l t : List V) (w : World) (hl : Lst w s l) (ht : Lst w s' t) (hl6 : l.length ≤ 1000) (ht6 : t.length ≤ 1000) :
    Calls Try.prog 9 #[s, s'] w fun e w' => e = .returned (.bool (lessAll l t)) ∧ Below w.heap.size w w' := by
  obtain ⟨ao, cap, rfl, hlo⟩ := hl
  obtain ⟨bo, cap', rfl, hto⟩ := ht
  go_enter Try.func9, Try.ntmps9
  go_wp2
  go_loopw [5] (fun i wr => ∃ k : Nat, k ≤ l.length ∧ k ≤ t.length ∧ i = .int .i64 k ∧ l.take k = t.take k ∧ Below w.heap.size w wr) (fun i _ => l.length - (intOf i).toNat)
  case atStart => exact ⟨0, Nat.zero_le _, Nat.zero_le _, rfl, by simp, Below.refl _ _⟩
  case round =>
    obtain ⟨k, hk, hk', rfl, hp, hbl⟩ := hrel
    by_cases hlt : k < l.length ∧ k < t.length
    · obtain ⟨hlt, hlt'⟩ := hlt
      rcases hlo with rfl | ⟨b, off, rfl, hb, hll⟩
      · simp at hlt
      rcases hto with rfl | ⟨b', off', rfl, hb', hlt2⟩
      · simp at hlt'
      have hc := hll.below hbl hb k hlt
      have hc' := hlt2.below hbl hb' k hlt'
      have hd := walkL_diff V.less (fun m n => decide (m < n)) hlt hlt' hp
      have hn := take_next hlt hlt' hp
      have hcl := fun n => cells_later hll hb (below_drewN hbl n) hlt
      have hcl' := fun n => cells_later hlt2 hb' (below_drewN hbl n) hlt'
      generalize l[k] = x at *
      generalize t[k] = y at *
      obtain ⟨c0, c1, c2, c3, c4⟩ := hc
      obtain ⟨d0, d1, d2, d3, d4⟩ := hc'
      have he := run_neq33 x.kind x.num x.text x.re x.im y.kind y.num y.text y.re y.im
      rw [V.eqv_decide] at he
      have hi1 : (k : Int) < (l.length : Int) := by omega
      have hi2 : (k : Int) < (t.length : Int) := by omega
      by_cases hxy : x = y
      · subst hxy
        simp only [decide_true, Bool.not_true] at he
        clear hd hcl hcl'
        have HN : Hid (l.take (k + 1) = t.take (k + 1)) := hn rfl
        clear hn
        go_wp2
        go_quiet (fail)
        go_wp2
        go_roundw
        case rel => exact ⟨k + 1, by omega, by omega, by go_num, HN.out, below_drewN hbl _⟩
        case measure => simp [intOf]; omega
      · have HD : Hid (lessAll l t = x.less y) := hd hxy
        clear hd hn
        simp only [hxy, decide_false, Bool.not_false] at he
        have hcall := less_any x y
        simp only [V.val] at hcall
        go_wp2
        go_quiet (fail)
        have f0 := fun p => (hcl nq p).1
        have f1 := fun p => (hcl nq p).2.1
        have f2 := fun p => (hcl nq p).2.2.1
        have f3 := fun p => (hcl nq p).2.2.2.1
        have f4 := fun p => (hcl nq p).2.2.2.2
        have g0 := fun p => (hcl' nq p).1
        have g1 := fun p => (hcl' nq p).2.1
        have g2 := fun p => (hcl' nq p).2.2.1
        have g3 := fun p => (hcl' nq p).2.2.2.1
        have g4 := fun p => (hcl' nq p).2.2.2.2
        clear hcl hcl'
        go_wp2
        refine wp_region_quiet_later (by kernel_rfl) (by kernel_rfl) ?_
        repeat (go_big_quiet_step ((go_at_call 13; exact Calls.later_of (hcall _))))
        refine wpQuiet_nil ?_
        rintro _ ⟨p, rfl⟩
        go_wp2
        go_ret
        exact ⟨by rw [HD.out]; rfl, since_on (below_drewN hbl _) p.below⟩
    · have HE : Hid (lessAll l t = decide (l.length < t.length)) := walkL_end _ _ hk hk' hp (by omega)
      by_cases h1 : k < l.length
      · have h2 : k = t.length := by omega
        have h3 : (t.length : Int) < (l.length : Int) := by omega
        subst h2
        clear hlt
        go_wp2
        go_ret
        refine ⟨?_, hbl⟩
        have hne : ¬ l.length < t.length := by omega
        rw [HE.out]
        simp [hne]
      · have h2 : k = l.length := by omega
        subst h2
        clear hlt h1
        go_wp2
        go_ret
        refine ⟨?_, hbl⟩
        rw [HE.out]
        by_cases h : l.length < t.length <;> simp [h]

set_option maxHeartbeats 1000000 in
theorem cmpAll_any (s s' : Value) (l t : List V) (w : World) (hl : Lst w s l) (ht : Lst w s' t) (hl6 : l.length ≤ 1000) (ht6 : t.length ≤ 1000) :
    Calls Try.prog 11 #[s, s'] w fun e w' => e = .returned (.int .i64 (cmpAll l t)) ∧ Below w.heap.size w w' := by
  obtain ⟨ao, cap, rfl, hlo⟩ := hl
  obtain ⟨bo, cap', rfl, hto⟩ := ht
  go_enter Try.func11, Try.ntmps11
  go_wp2
  go_loopw [11] (fun i wr => ∃ k : Nat, k ≤ l.length ∧ k ≤ t.length ∧ i = .int .i64 k ∧ l.take k = t.take k ∧ Below w.heap.size w wr) (fun i _ => l.length - (intOf i).toNat)
  case atStart => exact ⟨0, Nat.zero_le _, Nat.zero_le _, rfl, by simp, Below.refl _ _⟩
  case round =>
    obtain ⟨k, hk, hk', rfl, hp, hbl⟩ := hrel
    by_cases hlt : k < l.length ∧ k < t.length
    · obtain ⟨hlt, hlt'⟩ := hlt
      rcases hlo with rfl | ⟨b, off, rfl, hb, hll⟩
      · simp at hlt
      rcases hto with rfl | ⟨b', off', rfl, hb', hlt2⟩
      · simp at hlt'
      have hc := hll.below hbl hb k hlt
      have hc' := hlt2.below hbl hb' k hlt'
      have hd := walkL_diff V.cmp (fun m n => cmpInt m n) hlt hlt' hp
      have hn := take_next hlt hlt' hp
      have hcl := fun n => cells_later hll hb (below_drewN hbl n) hlt
      have hcl' := fun n => cells_later hlt2 hb' (below_drewN hbl n) hlt'
      generalize l[k] = x at *
      generalize t[k] = y at *
      obtain ⟨c0, c1, c2, c3, c4⟩ := hc
      obtain ⟨d0, d1, d2, d3, d4⟩ := hc'
      have he := run_neq33 x.kind x.num x.text x.re x.im y.kind y.num y.text y.re y.im
      rw [V.eqv_decide] at he
      have hi1 : (k : Int) < (l.length : Int) := by omega
      have hi2 : (k : Int) < (t.length : Int) := by omega
      have hi3 : (k : Int) < min (l.length : Int) (t.length : Int) := by omega
      by_cases hxy : x = y
      · subst hxy
        simp only [decide_true, Bool.not_true] at he
        clear hd hcl hcl'
        have HN : Hid (l.take (k + 1) = t.take (k + 1)) := hn rfl
        clear hn
        go_wp2
        go_quiet (fail)
        go_wp2
        go_roundw
        case rel => exact ⟨k + 1, by omega, by omega, by go_num, HN.out, below_drewN hbl _⟩
        case measure => simp [intOf]; omega
      · have HD : Hid (cmpAll l t = x.cmp y) := hd hxy
        clear hd hn
        simp only [hxy, decide_false, Bool.not_false] at he
        have hcall := compare_any x y
        simp only [V.val] at hcall
        go_wp2
        go_quiet (fail)
        have f0 := fun p => (hcl nq p).1
        have f1 := fun p => (hcl nq p).2.1
        have f2 := fun p => (hcl nq p).2.2.1
        have f3 := fun p => (hcl nq p).2.2.2.1
        have f4 := fun p => (hcl nq p).2.2.2.2
        have g0 := fun p => (hcl' nq p).1
        have g1 := fun p => (hcl' nq p).2.1
        have g2 := fun p => (hcl' nq p).2.2.1
        have g3 := fun p => (hcl' nq p).2.2.2.1
        have g4 := fun p => (hcl' nq p).2.2.2.2
        clear hcl hcl'
        go_wp2
        refine wp_region_quiet_later (by kernel_rfl) (by kernel_rfl) ?_
        repeat (go_big_quiet_step ((go_at_call 12; exact Calls.later_of (hcall _))))
        refine wpQuiet_nil ?_
        rintro _ ⟨p, rfl⟩
        go_wp2
        go_ret
        exact ⟨by rw [HD.out]; rfl, since_on (below_drewN hbl _) p.below⟩
    · have HE : Hid (cmpAll l t = cmpInt l.length t.length) := walkL_end _ _ hk hk' hp (by omega)
      have hi3 : ¬ (k : Int) < min (l.length : Int) (t.length : Int) := by omega
      go_wp2_with (go_at_call 19; refine (cmpInt_any _ _ _).mono ?_; rintro e w' ⟨rfl, rfl⟩)
      go_ret
      exact ⟨by rw [HE.out]; rfl, hbl⟩

end Go.Proofs.Ytgjcienechfapaa
