/-
  The order of entries is one.
  The search by halves among entries, by a contract.
-/
import Derived.Test.YtiacnmcdfpmcfaaGreatDoorT06
import Derived.Deep.RegionHeld
namespace Go.Proofs.YtiacnmcdfpmcfaaGreatDoor.Sh
open Go.RowKit
attribute [local go_sem] cell?_more frozen?_more setCell_more size_more tape_more drew_more drewN_more more_drew more_drewN one_out plus_out plus_end lt_one le_p2 le_p3 le_p4 le_p5 le_p6 le_p7 le_p8 le_p9 le_p10 le_p11 le_p12 le_p13 le_p14 le_p15 le_p16 le_p17 le_p18 le_p19 le_p20 le_p21 le_p22 le_p23 le_p24 le_q0 le_q1 lt_q1 le_q2 lt_q2 le_q3 lt_q3 le_q4 lt_q4 le_q5 lt_q5 le_q6 lt_q6 le_q7 lt_q7 le_q8 lt_q8 le_q9 lt_q9 le_q10 lt_q10 le_q11 lt_q11 le_q12 lt_q12 le_q13 lt_q13 le_q14 lt_q14 le_q15 lt_q15 le_q16 lt_q16 le_q17 lt_q17 le_q18 lt_q18 le_q19 lt_q19 le_q20 lt_q20 le_q21 lt_q21 le_q22 lt_q22 le_q23 lt_q23 le_q24 lt_q24



theorem cmpE_is : IsCmp cmpE where
  range a b := by
    unfold cmpE cmpP
    split
    · exact cmpB_is.range _ _
    · exact cmpB_is.range _ _
  swap a b := by
    unfold cmpE cmpP
    have h1 := cmpB_is.swap a.path.toList b.path.toList
    have h2 := cmpB_is.swap a.val.toList b.val.toList
    rw [h1, h2]
    by_cases h : Lib.compareBytes a.path.toList b.path.toList = 0
    · rw [if_pos (by omega), if_pos h]
    · rw [if_neg (by omega), if_neg h]
  zero a b := by
    rw [F.eq_iff]
    unfold cmpE
    by_cases h : cmpP a.path b.path = 0
    · rw [if_pos h]
      exact ⟨fun h2 => ⟨(cmpP_zero _ _).1 h, (cmpP_zero _ _).1 h2⟩, fun h2 => (cmpP_zero _ _).2 h2.2⟩
    · rw [if_neg h]
      exact ⟨fun h2 => absurd h2 h, fun h2 => absurd ((cmpP_zero _ _).2 h2.1) h⟩
  trans a b d h k := by
    unfold cmpE at *
    have t1 : cmpP a.path b.path ≤ 0 → cmpP b.path d.path ≤ 0 → cmpP a.path d.path ≤ 0 := cmpB_is.trans _ _ _
    have t2 : cmpP a.val b.val ≤ 0 → cmpP b.val d.val ≤ 0 → cmpP a.val d.val ≤ 0 := cmpB_is.trans _ _ _
    have s1 : cmpP b.path a.path = - cmpP a.path b.path := cmpB_is.swap _ _
    have s2 : cmpP d.path b.path = - cmpP b.path d.path := cmpB_is.swap _ _
    have t3 : cmpP d.path b.path ≤ 0 → cmpP b.path a.path ≤ 0 → cmpP d.path a.path ≤ 0 := cmpB_is.trans _ _ _
    have s3 : cmpP d.path a.path = - cmpP a.path d.path := cmpB_is.swap _ _
    by_cases h1 : cmpP a.path b.path = 0
    · rw [if_pos h1] at h
      have e := (cmpP_zero _ _).1 h1
      have e1 : cmpP a.path d.path = cmpP b.path d.path := by unfold cmpP; rw [e]
      by_cases h2 : cmpP b.path d.path = 0
      · rw [if_pos h2] at k
        rw [if_pos (by omega)]
        exact t2 h k
      · rw [if_neg h2] at k
        rw [if_neg (by omega)]
        omega
    · rw [if_neg h1] at h
      by_cases h2 : cmpP b.path d.path = 0
      · have e := (cmpP_zero _ _).1 h2
        have e1 : cmpP a.path d.path = cmpP a.path b.path := by unfold cmpP; rw [e]
        rw [if_neg (by omega)]
        omega
      · rw [if_neg h2] at k
        by_cases h3 : cmpP a.path d.path = 0
        · have e := (cmpP_zero _ _).1 h3
          have e1 : cmpP b.path d.path = cmpP b.path a.path := by unfold cmpP; rw [e]
          omega
        · rw [if_neg h3]
          exact t1 h k

theorem lessE_trans {x y z : F} (h : lessE x y = true) (k : lessE y z = true) : lessE x z = true := by
  rw [lessE_cmp, decide_eq_true_eq] at *
  have t := cmpE_is.trans x y z (by omega) (by omega)
  by_cases e : cmpE x z = 0
  · have e2 := (cmpE_is.zero _ _).1 e
    subst e2
    have := cmpE_is.swap x y
    omega
  · omega

theorem lessE_total {x y : F} (h : lessE x y = false) (hne : x ≠ y) : lessE y x = true := by
  rw [lessE_cmp, decide_eq_false_iff_not] at h
  rw [lessE_cmp, decide_eq_true_eq]
  have := cmpE_is.swap x y
  have h0 : cmpE x y ≠ 0 := fun e => hne ((cmpE_is.zero _ _).1 e)
  omega

theorem lessE_asymm {x y : F} (h : lessE x y = true) : lessE y x = false := by
  rw [lessE_cmp, decide_eq_true_eq] at h
  rw [lessE_cmp, decide_eq_false_iff_not]
  have := cmpE_is.swap x y
  omega

theorem lessE_irrefl (x : F) : lessE x x = false := by
  rw [lessE_cmp, (cmpE_is.zero x x).2 rfl]
  rfl

attribute [local go_sem] cell?_addTo

/-- How many entries, from the first on, lie ahead of one. -/
def cutE (p : F) : List F → Nat
  | [] => 0
  | f :: r => if lessE f p then cutE p r + 1 else 0

theorem cutE_eq {p : F} {l : List F} {i : Nat} (hi : i ≤ l.length) (h1 : ∀ t (ht : t < l.length), t < i → lessE l[t] p = true) (h2 : ∀ (ht : i < l.length), lessE l[i] p = false) : cutE p l = i := by
  induction l generalizing i with
  | nil => simp at hi; simp [cutE, hi]
  | cons f r ih =>
    cases i with
    | zero =>
      have := h2 (by simp)
      simp at this
      simp [cutE, this]
    | succ i =>
      have h0 := h1 0 (by simp) (by omega)
      simp at h0
      simp only [cutE, h0, if_true]
      rw [ih (i := i) (by simpa using hi) (fun t ht hti => by have := h1 (t + 1) (by simpa using ht) (by omega); simpa using this) (fun ht => by have := h2 (by simpa using ht); simpa using this)]

theorem cutE_le (p : F) (l : List F) : cutE p l ≤ l.length := by
  induction l with
  | nil => simp [cutE]
  | cons f r ih => simp only [cutE]; split <;> simp <;> omega

/-- Each entry lies ahead of the later ones. -/
def ClimbsE (l : List F) : Prop := ∀ i j (hi : i < l.length) (hj : j < l.length), i < j → lessE l[i] l[j] = true

theorem May.climbsE {fs : List F} (h : May fs) : ClimbsE fs := by
  have key : ∀ d i (hi : i < fs.length) (hj : i + d + 1 < fs.length), lessE fs[i] fs[i + d + 1] = true := by
    intro d
    induction d with
    | zero => intro i hi hj; exact h (i + 1) hj (by omega)
    | succ d ih =>
      intro i hi hj
      exact lessE_trans (ih i hi (by omega)) (h (i + d + 1 + 1) hj (by omega))
  intro i j hi hj hij
  obtain ⟨d, rfl⟩ : ∃ d, j = i + d + 1 := ⟨j - i - 1, by omega⟩
  exact key d i hi hj

theorem ClimbsE.may {fs : List F} (h : ClimbsE fs) : May fs := fun k hk h0 => h (k - 1) k (by omega) hk (by omega)

set_option maxHeartbeats 4000000 in
set_option maxRecDepth 100000 in
theorem searchE_any (s : Value) (l : List F) (p : F) (w : World) (hl : Lst w s l) (hl6 : l.length ≤ 1000) (hr : ClimbsE l) :
    Calls Tryz.prog 82 #[s, .agg #[.string p.path, .string p.val], .func (.func 49) #[] #[]] w fun e w' => (∃ q : Value, e = .returned (.tuple #[.int .i64 (cutE p l), q])) ∧ Adds w w' := by
  obtain ⟨ao, cap, rfl, hcap, hlo⟩ := hl
  go_enter Tryz.func82, Tryz.ntmps82
  go_wp2
  go_loopw [9, 10] (fun iv jv wr => ∃ i j : Nat, i ≤ j ∧ j ≤ l.length ∧ iv = .int .i64 i ∧ jv = .int .i64 j ∧ (∀ t (ht : t < l.length), t < i → lessE l[t] p = true) ∧ (∀ t (ht : t < l.length), j ≤ t → lessE l[t] p = false) ∧ Adds (w.alloc (.cells #[.string p.path, .string p.val] 70)) wr) (fun iv jv _ => (intOf jv - intOf iv).toNat)
  case atStart => exact ⟨0, l.length, Nat.zero_le _, Nat.le_refl _, rfl, rfl, fun t _ h => absurd h (by omega), fun t ht h => absurd h (by omega), Adds.refl _⟩
  case round =>
    obtain ⟨i, j, hij, hjl, rfl, rfl, hlow, hhigh, hA⟩ := hrel
    have hAw : Adds w wr := Adds.trans ((Adds.refl _).alloc _) hA
    have d0 : wr.cell? ⟨w.heap.size, 0, none⟩ = some (.string p.path) := (hA.below.cell (p := ⟨w.heap.size, 0, none⟩) (by simp)).trans (by simp)
    have d1 : wr.cell? ⟨w.heap.size, 1, none⟩ = some (.string p.val) := (hA.below.cell (p := ⟨w.heap.size, 1, none⟩) (by simp)).trans (by simp)
    have hwl : w.heap.size < wr.heap.size := Nat.lt_of_lt_of_le (by simp) hA.below.size
    have HA : Hid _ := hA
    clear hA
    by_cases hlt : i < j
    · rcases hlo with rfl | ⟨b, off, rfl, hb, hll⟩
      · simp at hjl; omega
      have hm : (i + j) / 2 < l.length := by omega
      obtain ⟨c0, c1⟩ := hll.below hAw.below hb ((i + j) / 2) hm
      have hbl : b < wr.heap.size := Nat.lt_of_lt_of_le hb hAw.below.size
      have hL : Hid (lessE l[(i + j) / 2] p = decide (cmpE l[(i + j) / 2] p < 0)) := lessE_cmp _ _
      have hcall := cmpE_any l[(i + j) / 2] p
      have hup : Hid (lessE l[(i + j) / 2] p = true → ∀ t (ht : t < l.length), t < (i + j) / 2 + 1 → lessE l[t] p = true) := by
        intro h t ht htm
        by_cases e : t = (i + j) / 2
        · subst e; exact h
        · exact lessE_trans (hr t _ ht hm (by omega)) h
      have hdn : Hid (lessE l[(i + j) / 2] p = false → ∀ t (ht : t < l.length), (i + j) / 2 ≤ t → lessE l[t] p = false) := by
        intro h t ht htm
        by_cases e : t = (i + j) / 2
        · subst e; exact h
        · by_cases h' : lessE l[t] p = true
          · rw [lessE_trans (hr _ t hm ht (by omega)) h'] at h
            cases h
          · simpa using h'
      generalize l[(i + j) / 2] = x at *
      by_cases hneg : cmpE x p < 0
      · go_wp2
        refine wp_region_adds (by kernel_rfl) (by kernel_rfl) ?_
        repeat (go_big_quiet_step ((go_at_call 49; exact Calls.adds_of (hcall _))))
        refine wpQuiet_nil ?_
        rintro _ ⟨pl, rfl⟩
        unfold addTo
        all_goals
          go_wp2
          go_roundw
          case rel =>
            refine ⟨(i + j) / 2 + 1, j, by omega, hjl, by rw [show ((i : Int) + (j : Int)) / 2 + 1 = (((i + j) / 2 + 1 : Nat) : Int) by omega], rfl, ?_, hhigh, ?_⟩
            · exact hup.out (by rw [hL.out]; exact decide_eq_true hneg)
            · exact Adds.trans HA.out (by repeat (first | with_reducible exact Adds.refl _ | with_reducible refine Adds.alloc ?_ _ | with_reducible refine Adds.more ?_ _ _ | with_reducible refine Adds.drew ?_ | with_reducible refine Adds.drewN ?_ _))
          case measure => simp [intOf]; omega
      · go_wp2
        refine wp_region_adds (by kernel_rfl) (by kernel_rfl) ?_
        repeat (go_big_quiet_step ((go_at_call 49; exact Calls.adds_of (hcall _))))
        refine wpQuiet_nil ?_
        rintro _ ⟨pl, rfl⟩
        unfold addTo
        all_goals
          go_wp2
          go_roundw
          case rel =>
            refine ⟨i, (i + j) / 2, by omega, by omega, rfl, by rw [show ((i : Int) + (j : Int)) / 2 = (((i + j) / 2 : Nat) : Int) by omega], hlow, ?_, ?_⟩
            · exact hdn.out (by rw [hL.out]; exact decide_eq_false (by omega))
            · exact Adds.trans HA.out (by repeat (first | with_reducible exact Adds.refl _ | with_reducible refine Adds.alloc ?_ _ | with_reducible refine Adds.more ?_ _ _ | with_reducible refine Adds.drew ?_ | with_reducible refine Adds.drewN ?_ _))
          case measure => simp [intOf]; omega
    · obtain rfl : i = j := by omega
      have hcut : cutE p l = i := cutE_eq hjl hlow (fun ht => hhigh i ht (Nat.le_refl _))
      have HC : Hid _ := hcut
      clear hcut hlow hhigh
      by_cases hin : i < l.length
      · rcases hlo with rfl | ⟨b, off, rfl, hb, hll⟩
        · simp at hin
        obtain ⟨c0, c1⟩ := hll.below hAw.below hb i hin
        have hbl : b < wr.heap.size := Nat.lt_of_lt_of_le hb hAw.below.size
        have hcall := cmpE_any l[i] p
        have hin' : (i : Int) < (l.length : Int) := by omega
        generalize l[i] = x at *
        go_wp2
        refine wp_region_adds (by kernel_rfl) (by kernel_rfl) ?_
        repeat (go_big_quiet_step ((go_at_call 49; exact Calls.adds_of (hcall _))))
        refine wpQuiet_nil ?_
        rintro _ ⟨pl, rfl⟩
        unfold addTo
        go_wp2
        go_ret2
        refine ⟨⟨.bool (cmpE x p == 0), by rw [HC.out]; rfl⟩, ?_⟩
        exact Adds.trans hAw (by repeat (first | with_reducible exact Adds.refl _ | with_reducible refine Adds.alloc ?_ _ | with_reducible refine Adds.more ?_ _ _ | with_reducible refine Adds.drew ?_ | with_reducible refine Adds.drewN ?_ _))
      · have hin' : ¬ (i : Int) < (l.length : Int) := by omega
        go_wp2
        go_quiet (fail)
        go_wp2
        go_ret2
        refine ⟨⟨.bool false, by rw [HC.out]; rfl⟩, ?_⟩
        exact Adds.trans hAw (by repeat (first | with_reducible exact Adds.refl _ | with_reducible refine Adds.alloc ?_ _ | with_reducible refine Adds.more ?_ _ _ | with_reducible refine Adds.drew ?_ | with_reducible refine Adds.drewN ?_ _))

end Go.Proofs.YtiacnmcdfpmcfaaGreatDoor.Sh
