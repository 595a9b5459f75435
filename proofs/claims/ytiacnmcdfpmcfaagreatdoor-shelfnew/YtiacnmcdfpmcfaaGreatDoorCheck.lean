/-
  The functions tooDeep and Check, by contracts.
-/
import Derived.Test.YtiacnmcdfpmcfaaGreatDoorQ20
import Derived.Test.YtiacnmcdfpmcfaaGreatDoorAlone
namespace Go.Proofs.YtiacnmcdfpmcfaaGreatDoor
open Go.RowKit
attribute [local go_sem] cell?_more frozen?_more setCell_more size_more tape_more drew_more drewN_more more_drew more_drewN one_out plus_out plus_end lt_one le_p2 le_p3 le_p4 le_p5 le_p6 le_p7 le_p8 le_p9 le_p10 le_p11 le_p12 le_p13 le_p14 le_p15 le_p16 le_p17 le_p18 le_p19 le_p20 le_p21 le_p22 le_p23 le_p24 le_q0 le_q1 lt_q1 le_q2 lt_q2 le_q3 lt_q3 le_q4 lt_q4 le_q5 lt_q5 le_q6 lt_q6 le_q7 lt_q7 le_q8 lt_q8 le_q9 lt_q9 le_q10 lt_q10 le_q11 lt_q11 le_q12 lt_q12 le_q13 lt_q13 le_q14 lt_q14 le_q15 lt_q15 le_q16 lt_q16 le_q17 lt_q17 le_q18 lt_q18 le_q19 lt_q19 le_q20 lt_q20 le_q21 lt_q21 le_q22 lt_q22 le_q23 lt_q23 le_q24 lt_q24


set_option maxHeartbeats 4000000 in
theorem deep_any {D : Nat} (n : N) (s : Value) (w : World) (hT : Tn (fun _ => True) D w s n.args) (hx : n.text.size ≤ 9223372036854775807) (hc : ∀ d, cntN d [n] ≤ 10000) :
    Calls Tryz.prog 97 #[nodeV n s] w fun e w' => ∃ q, e = .returned (.bool q) ∧ Adds w w' := by
  obtain ⟨ao, cap, rfl⟩ := hT.shape
  have h0 : ∀ W, Adds ((w.alloc (.cells #[.int .i64 n.kind, .string n.text, .int .i64 n.num, .slice ao n.args.length cap] 81)).alloc (.cells #[.int .i64 n.kind, .string n.text, .int .i64 n.num, .slice ao n.args.length cap] 81)) W → W.cell? ⟨w.heap.size + 1 + 1, 0, none⟩ = some (.slice (some ⟨w.heap.size + 1, 0, none⟩) 1 1) → w.heap.size + 1 + 1 < W.heap.size → Lvs (fun _ => True) (D + 9) W (.slice (some ⟨w.heap.size + 1 + 1, 0, none⟩) 1 1) [(.slice (some ⟨w.heap.size + 1, 0, none⟩) 1 1, [n])] := by
    intro W hA hcell hlt
    refine ⟨_, 1, rfl, Nat.le_refl _, ?_, .inr ⟨w.heap.size + 1 + 1, 0, rfl, hlt, ?_⟩⟩
    · intro x hx'
      simp only [List.mem_singleton] at hx'
      subst hx'
      have := tn_one (ok := fun _ => True) (d := D + 8) (k := w.heap.size + 1) (w' := (w.alloc (.cells #[.int .i64 n.kind, .string n.text, .int .i64 n.num, .slice ao n.args.length cap] 81)).alloc (.cells #[.int .i64 n.kind, .string n.text, .int .i64 n.num, .slice ao n.args.length cap] 81)) (by simp) trivial (fun o => by simp) ((hT.adds (by repeat (first | with_reducible exact Adds.refl _ | with_reducible refine Adds.alloc ?_ _ | with_reducible refine Adds.more ?_ _ _ | with_reducible refine Adds.drew ?_ | with_reducible refine Adds.drewN ?_ _))).up (by omega)) hx ⟨by simp, by simp, by simp, by simp⟩
      exact this.adds hA
    · intro j hj
      have : j = 0 := by simpa using hj
      subst this
      simpa using hcell
  have hw0 : ∀ d, wt d [((.slice (some ⟨w.heap.size + 1, 0, none⟩) 1 1 : Value), [n])] ≤ 10000 := fun d => by simpa [wt] using hc d
  have HB : Hid (∀ (d : Nat) (v : Value) (xs : List (Value × List N)) (W : World), Lvs (fun _ => True) (d + 1) W v xs → wt (d + 1) xs ≤ 10000 → xs.length ≤ 10000 → Calls Tryz.prog 123 #[v] W fun e w' => ∃ v' ys, e = .returned v' ∧ Lvs (fun _ => True) d w' v' ys ∧ wt d ys ≤ wt (d + 1) xs ∧ ys.length ≤ wt d ys ∧ Adds W w') := fun d v xs W h1 h2 h3 => below_any v xs W h1 h2 h3
  have H0 : Hid _ := h0
  have HW0 : Hid _ := hw0
  clear hT hx hc h0 hw0
  obtain ⟨nk, nt, nm, na⟩ := n
  simp only [nodeV, N.kind, N.text, N.num, N.args] at *
  generalize na.length = nl at *
  go_enter Tryz.func97, Tryz.ntmps97
  go_wp2
  go_loopw [3, 7] (fun v iv wr => ∃ (j D' : Nat) (xs : List (Value × List N)), j ≤ 8 ∧ iv = .int .i64 j ∧ D' + j = D + 9 ∧ Hid (Lvs (fun _ => True) D' wr v xs) ∧ Hid (wt D' xs ≤ 10000) ∧ xs.length ≤ 10000 ∧ Hid (Adds w wr)) (fun _ iv _ => 8 - (intOf iv).toNat)
  case atStart =>
    refine ⟨0, D + 9, _, by omega, rfl, rfl, H0.out _ (by repeat (first | with_reducible exact Adds.refl _ | with_reducible refine Adds.alloc ?_ _ | with_reducible refine Adds.more ?_ _ _ | with_reducible refine Adds.drew ?_ | with_reducible refine Adds.drewN ?_ _)) ?_ ?_, HW0.out _, by simp, ?_⟩
    · exact cell_new (cs := [_]) (by rw [World.size_alloc, World.size_alloc]) rfl
    · rw [World.size_alloc, World.size_alloc, World.size_alloc]; omega
    · show Adds _ _
      repeat (first | with_reducible exact Adds.refl _ | with_reducible refine Adds.alloc ?_ _ | with_reducible refine Adds.more ?_ _ _ | with_reducible refine Adds.drew ?_ | with_reducible refine Adds.drewN ?_ _)
  case round =>
    obtain ⟨j, D', xs, hj, rfl, hD, hL, hWt, hxl, hA⟩ := hrel
    by_cases hlt : j < 8
    · obtain ⟨d, rfl⟩ : ∃ d, D' = d + 1 := ⟨D' - 1, by omega⟩
      have kB := HB.out d u3 xs wr hL.out hWt.out hxl
      clear HB H0 HW0
      have hlt' : (j : Int) < 8 := by omega
      go_wp2_with (go_at_call 123; refine kB.mono ?_; rintro e w1 ⟨v', ys, rfl, hL1, hw1, hl1, hA1⟩)
      go_roundw
      case rel => exact ⟨j + 1, d, ys, by omega, by go_num, by omega, hL1, Nat.le_trans hw1 hWt.out, Nat.le_trans hl1 (Nat.le_trans hw1 hWt.out), hA.out.trans hA1⟩
      case measure => simp [intOf]; omega
    · have hj8 : j = 8 := by omega
      subst hj8
      obtain ⟨vo, vc, hv, _⟩ := hL.out
      have HA : Hid (Adds w wr) := hA
      clear hL hWt HB H0 HW0 hA
      subst hv
      go_wp2
      go_ret
      exact ⟨_, rfl, HA.out⟩

theorem checkE_any {D : Nat} (n : N) (s : Value) (w : World) (hT : Tn (fun _ => True) D w s n.args) (hx : n.text.size ≤ 9223372036854775807) (hc : ∀ d, cntN d [n] ≤ 10000) :
    Calls Tryz.prog 66 #[nodeV n s] w fun e w' => (∃ x : Int, e = .returned (.int .i64 x) ∧ (x = 0 ↔ fitsN 8 n = true)) ∧ Adds w w' := by
  have kF := fun W hA => fits_node (ok := fun _ => True) 8 D n s W (Nat.le_refl _) (hT.adds hA) hx
  have kD := fun W hA => deep_any (D := D) n s W (hT.adds hA) hx hc
  obtain ⟨ao, cap, rfl⟩ := hT.shape
  have h8 : ((8 : Nat) : Int) = 8 := rfl
  rw [h8] at kF
  generalize fitsN 8 n = q at *
  clear hT hx hc h8
  obtain ⟨nk, nt, nm, na⟩ := n
  simp only [nodeV, N.kind, N.text, N.num, N.args] at *
  generalize na.length = nl at *
  cases q
  · go_enter Tryz.func66, Tryz.ntmps66
    go_wp2_with (first
      | (go_at_call 96; refine (kF _ (by repeat (first | with_reducible exact Adds.refl _ | with_reducible refine Adds.alloc ?_ _ | with_reducible refine Adds.more ?_ _ _ | with_reducible refine Adds.drew ?_ | with_reducible refine Adds.drewN ?_ _))).mono ?_; rintro e w1 ⟨rfl, os1, n1, rfl⟩)
      | (go_at_call 97; refine (kD _ (by repeat (first | with_reducible exact Adds.refl _ | with_reducible refine Adds.alloc ?_ _ | with_reducible refine Adds.more ?_ _ _ | with_reducible refine Adds.drew ?_ | with_reducible refine Adds.drewN ?_ _))).mono ?_; rintro e w2 ⟨q2, rfl, os2, n2, rfl⟩; cases q2))
    all_goals
      go_ret
      exact ⟨⟨_, rfl, by simp⟩, by repeat (first | with_reducible exact Adds.refl _ | with_reducible refine Adds.alloc ?_ _ | with_reducible refine Adds.more ?_ _ _ | with_reducible refine Adds.drew ?_ | with_reducible refine Adds.drewN ?_ _)⟩
  · go_enter Tryz.func66, Tryz.ntmps66
    go_wp2_with (first
      | (go_at_call 96; refine (kF _ (by repeat (first | with_reducible exact Adds.refl _ | with_reducible refine Adds.alloc ?_ _ | with_reducible refine Adds.more ?_ _ _ | with_reducible refine Adds.drew ?_ | with_reducible refine Adds.drewN ?_ _))).mono ?_; rintro e w1 ⟨rfl, os1, n1, rfl⟩))
    go_ret
    exact ⟨⟨0, rfl, by simp⟩, by repeat (first | with_reducible exact Adds.refl _ | with_reducible refine Adds.alloc ?_ _ | with_reducible refine Adds.more ?_ _ _ | with_reducible refine Adds.drew ?_ | with_reducible refine Adds.drewN ?_ _)⟩

/-- What fits is an expression that may be. -/
theorem fits_E : ∀ (k : Nat) (n : N), fitsN k n = true → ∃ e : E, n = e.toN ∧ e.ok := by
  intro k
  induction k with
  | zero => intro n h; cases h
  | succ k ih =>
    intro n h
    obtain ⟨nk, nt, nm, na⟩ := n
    simp only [fitsN, N.kind, N.text, N.num, N.args, Bool.and_eq_true, List.all_eq_true] at h
    obtain ⟨ha, hall⟩ := h
    unfold aloneN at ha
    have hempty : ∀ t : ByteArray, t.toList = [] → t = ⟨#[]⟩ := fun t h => toList_inj (by rw [h, ByteArray.toList_eq])
    split at ha
    · rename_i h1
      simp only [Bool.and_eq_true, Bool.not_eq_true', beq_iff_eq] at ha
      obtain ⟨⟨⟨h2, h3⟩, h4⟩, h5⟩ := ha
      have h6 : na = [] := List.length_eq_zero_iff.1 (by omega)
      refine ⟨.path nt.toList, by simp only [E.toN, toB_of, h1, h4, h6], h2, ?_⟩
      cases hq : allDig nt.toList with
      | false => rfl
      | true =>
        simp only [digs, hq, Bool.true_and, Bool.not_eq_false', List.isEmpty_iff] at h3
        rw [h3] at h2
        simp [pathL, stp] at h2
    split at ha
    · rename_i h1
      simp only [Bool.and_eq_true, decide_eq_true_eq, beq_iff_eq] at ha
      obtain ⟨⟨⟨h2, h3⟩, h4⟩, h5⟩ := ha
      have h6 : na = [] := List.length_eq_zero_iff.1 (by omega)
      refine ⟨.num nm.toNat, ?_, ?_⟩
      · simp only [E.toN, h1, h6, hempty nt h4]
        rw [Int.toNat_of_nonneg h2]
      · show nm.toNat < 1000000000000000
        omega
    split at ha
    · rename_i h1
      simp only [Bool.and_eq_true, beq_iff_eq] at ha
      obtain ⟨⟨h2, h3⟩, h4⟩ := ha
      match na, hall, h4 with
      | [x, y], hall, _ =>
        obtain ⟨a, rfl, oa⟩ := ih x (hall x (by simp))
        obtain ⟨b, rfl, ob⟩ := ih y (hall y (by simp))
        rcases h1 with rfl | rfl
        · exact ⟨.sum a b, by simp only [E.toN, hempty nt h2, h3], oa, ob⟩
        · exact ⟨.mul a b, by simp only [E.toN, hempty nt h2, h3], oa, ob⟩
      | [], _, h4 => simp at h4
      | [_], _, h4 => simp at h4
      | _ :: _ :: _ :: _, _, h4 => simp at h4; omega
    split at ha
    · rename_i h1
      simp only [Bool.and_eq_true, beq_iff_eq] at ha
      obtain ⟨⟨h2, h3⟩, h4⟩ := ha
      match na, hall, h4 with
      | [x], hall, _ =>
        obtain ⟨a, rfl, oa⟩ := ih x (hall x (by simp))
        exact ⟨.call nt.toList a, by simp only [E.toN, toB_of, h1, h3], h2, oa⟩
      | [], _, h4 => simp at h4
      | _ :: _ :: _, _, h4 => simp at h4; omega
    · cases ha

end Go.Proofs.YtiacnmcdfpmcfaaGreatDoor
