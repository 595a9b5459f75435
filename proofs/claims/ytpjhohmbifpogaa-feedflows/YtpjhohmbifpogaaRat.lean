/-
  The reference's At, by contract.
-/
import Derived.Test.YtpjhohmbifpogaaMfnd
namespace Go.Proofs.Ytpjhohmbifpogaa
open Go.RowKit
attribute [local go_sem] cell?_more frozen?_more setCell_more size_more tape_more drew_more drewN_more more_drew more_drewN one_out plus_out plus_end lt_one le_p2 le_p3 le_p4 le_p5 le_p6 le_p7 le_p8 le_p9 le_p10 le_p11 le_p12 le_p13 le_p14 le_p15 le_p16 le_p17 le_p18 le_p19 le_p20 le_p21 le_p22 le_p23 le_p24 le_q0 le_q1 lt_q1 le_q2 lt_q2 le_q3 lt_q3 le_q4 lt_q4 le_q5 lt_q5 le_q6 lt_q6 le_q7 lt_q7 le_q8 lt_q8 le_q9 lt_q9 le_q10 lt_q10 le_q11 lt_q11 le_q12 lt_q12 le_q13 lt_q13 le_q14 lt_q14 le_q15 lt_q15 le_q16 lt_q16 le_q17 lt_q17 le_q18 lt_q18 le_q19 lt_q19 le_q20 lt_q20 le_q21 lt_q21 le_q22 lt_q22 le_q23 lt_q23 le_q24 lt_q24

/-- Where a name is; -1: nowhere. -/
def atI (p : ByteArray) (ss : List Sb) : Int := if hasAt p ss then (cutAt p ss : Int) else -1

theorem cut_at {ss : List Sb} {p : ByteArray} (h : ∀ i j (hi : i < ss.length) (hj : j < ss.length), i < j → lessP ss[i].name ss[j].name = true) {k : Nat} (hk : k < ss.length) (he : ss[k].name = p) : cutAt p ss = k ∧ hasAt p ss = true := by
  subst he
  have hc : cutAt ss[k].name ss = k := cutAt_eq (Nat.le_of_lt hk) (fun t ht htk => h t k ht hk htk) (fun _ => Sh.lessP_irrefl _ _ rfl)
  refine ⟨hc, ?_⟩
  unfold hasAt
  simp [hc, hk]

theorem has_not {ss : List Sb} {p : ByteArray} (h : ∀ k (hk : k < ss.length), ¬ ss[k].name = p) : hasAt p ss = false := by
  unfold hasAt
  refine decide_eq_false ?_
  rintro ⟨hc, he⟩
  exact h _ hc (toList_inj he)

set_option maxHeartbeats 2000000 in
set_option maxRecDepth 20000 in
theorem refAt_any (b0 b1 : Int) (sc t : Value) (ss : List Sb) (p : ByteArray) (w : World) (h : LstS w t ss) (h8 : ss.length ≤ 1000) (hc : ∀ i j (hi : i < ss.length) (hj : j < ss.length), i < j → lessP ss[i].name ss[j].name = true) :
    Calls Try.prog 44 #[.agg #[.int .i64 b0, .int .i64 b1, sc, t], .string p] w fun e w' => e = .returned (.int .i64 (atI p ss)) ∧ Adds w w' := by
  obtain ⟨ao, cap, rfl, hcap, hlo⟩ := h
  have HC : Hid (∀ i j (hi : i < ss.length) (hj : j < ss.length), i < j → lessP ss[i].name ss[j].name = true) := hc
  clear hc
  go_enter Try.func44, Try.ntmps44
  go_wp2
  go_loopw [5] (fun i wr => ∃ k : Nat, k ≤ ss.length ∧ i = .int .i64 k ∧ (∀ j (hj : j < ss.length), j < k → ¬ ss[j].name = p) ∧ Adds (w.alloc (Obj.cells #[.int .i64 b0, .int .i64 b1, sc, .slice ao ss.length cap] 25)) wr) (fun i _ => ss.length - (intOf i).toNat)
  case atStart => exact ⟨0, Nat.zero_le _, rfl, fun j _ hj => absurd hj (by omega), Adds.refl _⟩
  case round =>
    obtain ⟨k, hk, rfl, hgood, os, n, rfl⟩ := hrel
    by_cases hlt : k < ss.length
    · rcases hlo with rfl | ⟨b, off, rfl, hb, hl⟩
      · simp at hlt
      obtain ⟨c0, c1⟩ := hl k hlt
      have hlt' : (k : Int) < (ss.length : Int) := by omega
      by_cases he : ss[k].name = p
      · have HE : Hid (atI p ss = (k : Int)) := by
          have := cut_at HC.out hlt he
          show atI p ss = _
          simp [atI, this.1, this.2]
        rw [he] at c0
        clear hl he hgood
        generalize ss[k].pos = ps at *
        go_wp2
        try go_quiet (fail)
        go_wp2
        go_ret
        exact ⟨by rw [HE.out]; rfl, (by repeat (first | with_reducible exact Adds.refl _ | with_reducible refine Adds.alloc ?_ _ | with_reducible refine Adds.more ?_ _ _ | with_reducible refine Adds.drew ?_ | with_reducible refine Adds.drewN ?_ _))⟩
      · have HN : Hid (¬ ss[k].name = p) := he
        have hne : (ss[k].name.toList == p.toList) = false := by simpa using fun e => he (toList_inj e)
        clear hl
        clear he
        generalize ss[k].name = nm at c0 hne
        generalize ss[k].pos = ps at *
        go_wp2
        try go_quiet (fail)
        go_wp2
        go_roundw
        case rel =>
          refine ⟨k + 1, by omega, by go_num, ?_, ?_⟩
          · intro j hj hj2
            by_cases e : j = k
            · subst e
              exact HN.out
            · exact hgood j hj (by omega)
          · repeat (first | with_reducible exact Adds.refl _ | with_reducible refine Adds.alloc ?_ _ | with_reducible refine Adds.more ?_ _ _ | with_reducible refine Adds.drew ?_ | with_reducible refine Adds.drewN ?_ _)
        case measure => simp [intOf]; omega
    · have hk' : k = ss.length := by omega
      subst hk'
      have HE : Hid (atI p ss = -1) := by
        have := has_not (fun j hj => hgood j hj hj)
        show atI p ss = _
        simp [atI, this]
      clear hgood hlo
      go_wp2
      try go_quiet (fail)
      go_wp2
      go_ret
      exact ⟨by rw [HE.out]; rfl, (by repeat (first | with_reducible exact Adds.refl _ | with_reducible refine Adds.alloc ?_ _ | with_reducible refine Adds.more ?_ _ _ | with_reducible refine Adds.drew ?_ | with_reducible refine Adds.drewN ?_ _))⟩

end Go.Proofs.Ytpjhohmbifpogaa
