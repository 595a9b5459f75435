/-
  The law's deep, by contract.
-/
import Derived.Test.YtcgbhbbljjdejaaRefSame
namespace Go.Proofs.Ytcgbhbbljjdejaa
open Go.RowKit
attribute [local go_sem] cell?_more frozen?_more setCell_more size_more tape_more drew_more drewN_more more_drew more_drewN more_more one_out plus_out plus_end lt_one le_p2 le_p3 le_p4 le_p5 le_p6 le_p7 le_p8 le_p9 le_p10 le_p11 le_p12 le_p13 le_p14 le_p15 le_p16 le_p17 le_p18 le_p19 le_p20 le_p21 le_p22 le_p23 le_p24 le_q0 le_q1 lt_q1 le_q2 lt_q2 le_q3 lt_q3 le_q4 lt_q4 le_q5 lt_q5 le_q6 lt_q6 le_q7 lt_q7 le_q8 lt_q8 le_q9 lt_q9 le_q10 lt_q10 le_q11 lt_q11 le_q12 lt_q12 le_q13 lt_q13 le_q14 lt_q14 le_q15 lt_q15 le_q16 lt_q16 le_q17 lt_q17 le_q18 lt_q18 le_q19 lt_q19 le_q20 lt_q20 le_q21 lt_q21 le_q22 lt_q22 le_q23 lt_q23 le_q24 lt_q24

/-- Is a cell deeper than that, or does it have many cells? -/
def deepT : Nat → T → Bool
  | 0, _ => true
  | n + 1, t => decide (5 < t.list.length) || t.list.any (deepT n)

theorem deepT_hit {n : Nat} {t : T} {k : Nat} (hk : k < t.list.length) (h : deepT n t.list[k] = true) : deepT (n + 1) t = true := by
  have : t.list.any (deepT n) = true := List.any_eq_true.2 ⟨t.list[k], List.getElem_mem hk, h⟩
  simp [deepT, this]

theorem deepT_none {n : Nat} {t : T} (hl : t.list.length ≤ 5) (h : ∀ j (hj : j < t.list.length), deepT n t.list[j] = false) : deepT (n + 1) t = false := by
  have h1 : decide (5 < t.list.length) = false := by simp; omega
  have h2 : t.list.any (deepT n) = false := by
    rw [List.any_eq_false]
    intro x hx
    obtain ⟨j, hj, rfl⟩ := List.getElem_of_mem hx
    simp [h j hj]
  simp [deepT, h1, h2]

set_option maxHeartbeats 1000000 in
theorem deep_tree {ok : Nat → Prop} (n : Nat) : ∀ (d : Nat) (a : T) (sa : Value) (w : World), Tr ok d w sa a.list → n ≤ 100 →
    Calls Try.prog 30 #[cellV a sa, .int .i64 n] w fun e w' => e = .returned (.bool (deepT n a)) ∧ Adds w w' := by
  induction n with
  | zero =>
    intro d a sa w ha _
    simp only [cellV, deepT]
    go_enter Try.func30, Try.ntmps30
    go_wp2
    go_ret
    refine ⟨rfl, ?_⟩
    repeat (first | with_reducible exact Adds.refl _ | with_reducible refine Adds.alloc ?_ _ | with_reducible refine Adds.more ?_ _ _ | with_reducible refine Adds.drew ?_ | with_reducible refine Adds.drewN ?_ _)
  | succ n ih =>
    intro d a sa w ha hn
    obtain ⟨ak, an, ax, la⟩ := a
    simp only [T.list] at ha
    obtain ⟨ao, ca, rfl⟩ := ha.shape
    have hz : (((n : Int) + 1) == 0) = false := by simp; omega
    simp only [cellV, T.kind, T.num, T.text]
    have hc : ((n + 1 : Nat) : Int) = (n : Int) + 1 := rfl
    rw [hc]
    clear hc
    by_cases h5 : 5 < la.length
    · have hd : deepT (n + 1) (.mk ak an ax la) = true := by simp [deepT, T.list, h5]
      rw [hd]
      clear hd ha ih
      generalize la.length = al at *
      go_enter Try.func30, Try.ntmps30
      go_wp2
      go_ret
      refine ⟨rfl, ?_⟩
      repeat (first | with_reducible exact Adds.refl _ | with_reducible refine Adds.alloc ?_ _ | with_reducible refine Adds.more ?_ _ _ | with_reducible refine Adds.drew ?_ | with_reducible refine Adds.drewN ?_ _)
    · have HT : Hid (∀ k (hk : k < la.length), deepT n la[k] = true → deepT (n + 1) (.mk ak an ax la) = true) := fun k hk h => deepT_hit (t := .mk ak an ax la) hk h
      have HF : Hid ((∀ j (hj : j < la.length), deepT n la[j] = false) → deepT (n + 1) (.mk ak an ax la) = false) := fun h => deepT_none (t := .mk ak an ax la) (by simp only [T.list]; omega) h
      generalize deepT (n + 1) (.mk ak an ax la) = Q at *
      go_enter Try.func30, Try.ntmps30
      go_wp2
      try rw [hz]
      go_loopw [5] (fun iv wr => ∃ k : Nat, k ≤ la.length ∧ iv = .int .i64 k ∧ (∀ j (hj : j < la.length), j < k → deepT n la[j] = false) ∧ Adds (w.alloc (.cells #[.int .i64 ak, .int .i64 an, .string ax, .slice ao la.length ca] 50)) wr) (fun iv _ => la.length - (intOf iv).toNat)
      case atStart => exact ⟨0, Nat.zero_le _, rfl, fun j _ h => absurd h (by omega), Adds.refl _⟩
      case round =>
        obtain ⟨k, hk, rfl, hno, os, m, rfl⟩ := hrel
        by_cases hlt : k < la.length
        · obtain ⟨e, b1, o1, x, he, rfl, hb1, ⟨c0, c1, c2, c3⟩, htx⟩ := ha.elem hlt
          have kR := fun W (hA : Adds w W) => ih e la[k] x W (htx.adds hA) (by omega)
          have HT1 : Hid (deepT n la[k] = true → Q = true) := HT.out k hlt
          have HN : Hid (deepT n la[k] = false → ∀ j (hj : j < la.length), j < k + 1 → deepT n la[j] = false) := by
            intro h j hj hjk
            by_cases ej : j = k
            · subst ej; exact h
            · exact hno j hj (by omega)
          obtain ⟨xo, xc, rfl⟩ := htx.shape
          simp only [cellV] at kR
          clear htx ih hno he ha HT
          generalize deepT n la[k] = dq at *
          generalize la[k] = p at *
          cases dq
          · go_wp2_with (go_at_call 30; refine (kR _ (by repeat (first | with_reducible exact Adds.refl _ | with_reducible refine Adds.alloc ?_ _ | with_reducible refine Adds.more ?_ _ _ | with_reducible refine Adds.drew ?_ | with_reducible refine Adds.drewN ?_ _))).mono ?_; rintro e w1 ⟨rfl, os1, n1, rfl⟩)
            go_roundw
            case rel =>
              refine ⟨k + 1, by omega, by go_num, by first | exact HN.out rfl | exact HN.out trivial, ?_⟩
              repeat (first | with_reducible exact Adds.refl _ | with_reducible refine Adds.alloc ?_ _ | with_reducible refine Adds.more ?_ _ _ | with_reducible refine Adds.drew ?_ | with_reducible refine Adds.drewN ?_ _)
            case measure => simp [intOf]; omega
          · go_wp2_with (go_at_call 30; refine (kR _ (by repeat (first | with_reducible exact Adds.refl _ | with_reducible refine Adds.alloc ?_ _ | with_reducible refine Adds.more ?_ _ _ | with_reducible refine Adds.drew ?_ | with_reducible refine Adds.drewN ?_ _))).mono ?_; rintro e w1 ⟨rfl, os1, n1, rfl⟩)
            go_ret
            refine ⟨by first | (rw [HT1.out rfl]; rfl) | (rw [HT1.out trivial]; rfl), ?_⟩
            repeat (first | with_reducible exact Adds.refl _ | with_reducible refine Adds.alloc ?_ _ | with_reducible refine Adds.more ?_ _ _ | with_reducible refine Adds.drew ?_ | with_reducible refine Adds.drewN ?_ _)
        · have hk' : k = la.length := by omega
          subst hk'
          go_wp2
          go_ret
          refine ⟨by rw [HF.out (fun j hj => hno j hj hj)]; rfl, ?_⟩
          repeat (first | with_reducible exact Adds.refl _ | with_reducible refine Adds.alloc ?_ _ | with_reducible refine Adds.more ?_ _ _ | with_reducible refine Adds.drew ?_ | with_reducible refine Adds.drewN ?_ _)

end Go.Proofs.Ytcgbhbbljjdejaa
