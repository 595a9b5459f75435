/-
  The functions tooDeep and Check, by contracts.
  How the reader lies where it jumps.
-/
import Derived.Test.YtiacnmcdfpmcfaaGreatDoorQ17
import Derived.Test.YtiacnmcdfpmcfaaGreatDoorQ19
import Derived.Test.YtiacnmcdfpmcfaaGreatDoorJump
namespace Go.Proofs.YtiacnmcdfpmcfaaGreatDoor
open Go.RowKit
attribute [local go_sem] cell?_more frozen?_more setCell_more size_more tape_more drew_more drewN_more more_drew more_drewN one_out plus_out plus_end lt_one le_p2 le_p3 le_p4 le_p5 le_p6 le_p7 le_p8 le_p9 le_p10 le_p11 le_p12 le_p13 le_p14 le_p15 le_p16 le_p17 le_p18 le_p19 le_p20 le_p21 le_p22 le_p23 le_p24 le_q0 le_q1 lt_q1 le_q2 lt_q2 le_q3 lt_q3 le_q4 lt_q4 le_q5 lt_q5 le_q6 lt_q6 le_q7 lt_q7 le_q8 lt_q8 le_q9 lt_q9 le_q10 lt_q10 le_q11 lt_q11 le_q12 lt_q12 le_q13 lt_q13 le_q14 lt_q14 le_q15 lt_q15 le_q16 lt_q16 le_q17 lt_q17 le_q18 lt_q18 le_q19 lt_q19 le_q20 lt_q20 le_q21 lt_q21 le_q22 lt_q22 le_q23 lt_q23 le_q24 lt_q24


set_option maxHeartbeats 4000000 in
theorem deep_any {D : Nat} (n : N) (s : Value) (w : World) (hT : Tn (fun _ => True) D w s n.args) (hx : n.text.size ≤ 9223372036854775807) (hc : ∀ d, cntN d [n] ≤ 10000) :
    Calls Tryz.prog 97 #[nodeV n s] w fun e w' => ∃ q, e = .returned (.bool q) ∧ Adds w w' := by
  obtain ⟨ao, cap, rfl⟩ := hT.shape
  have h0 : ∀ W, Adds ((w.alloc (.cells #[.int .i64 n.kind, .string n.text, .int .i64 n.num, .slice ao n.args.length cap] 81)).alloc (.cells #[.int .i64 n.kind, .string n.text, .int .i64 n.num, .slice ao n.args.length cap] 81)) W → W.cell? ⟨w.heap.size + 1 + 1, 0, none⟩ = some (.slice (some ⟨w.heap.size + 1, 0, none⟩) 1 1) → w.heap.size + 1 + 1 < W.heap.size → Lvs (fun _ => True) (D + 9) W (.slice (some ⟨w.heap.size + 1 + 1, 0, none⟩) 1 1) [(.slice (some ⟨w.heap.size + 1, 0, none⟩) 1 1, [n])] := by
    intro W hA hcell hlt
    refine ⟨_, 1, rfl, Nat.le_refl _, ?_, .inr ⟨w.heap.size + 1 + 1, 0, rfl, hlt, ?_⟩⟩
    · intro x hx'
      simp only [List.mem_singleton] at hx'
      subst hx'
      have := tn_one (ok := fun _ => True) (d := D + 8) (k := w.heap.size + 1) (w' := (w.alloc (.cells #[.int .i64 n.kind, .string n.text, .int .i64 n.num, .slice ao n.args.length cap] 81)).alloc (.cells #[.int .i64 n.kind, .string n.text, .int .i64 n.num, .slice ao n.args.length cap] 81)) (by simp) trivial (fun o => by simp) ((hT.adds (by repeat (first | with_reducible exact Adds.refl _ | with_reducible refine Adds.alloc ?_ _ | with_reducible refine Adds.more ?_ _ _ | with_reducible refine Adds.drew ?_ | with_reducible refine Adds.drewN ?_ _))).up (by omega)) hx ⟨by simp, by simp, by simp, by simp⟩
      exact this.adds hA
    · intro j hj
      have : j = 0 := by simpa using hj
      subst this
      simpa using hcell
  have hw0 : ∀ d, wt d [((.slice (some ⟨w.heap.size + 1, 0, none⟩) 1 1 : Value), [n])] ≤ 10000 := fun d => by simpa [wt] using hc d
  have HB : Hid (∀ (d : Nat) (v : Value) (xs : List (Value × List N)) (W : World), Lvs (fun _ => True) (d + 1) W v xs → wt (d + 1) xs ≤ 10000 → xs.length ≤ 10000 → Calls Tryz.prog 123 #[v] W fun e w' => ∃ v' ys, e = .returned v' ∧ Lvs (fun _ => True) d w' v' ys ∧ wt d ys ≤ wt (d + 1) xs ∧ ys.length ≤ wt d ys ∧ Adds W w') := fun d v xs W h1 h2 h3 => below_any v xs W h1 h2 h3
  have H0 : Hid _ := h0
  have HW0 : Hid _ := hw0
  clear hT hx hc h0 hw0
  obtain ⟨nk, nt, nm, na⟩ := n
  simp only [nodeV, N.kind, N.text, N.num, N.args] at *
  generalize na.length = nl at *
  go_enter Tryz.func97, Tryz.ntmps97
  go_wp2
  go_loopw [3, 7] (fun v iv wr => ∃ (j D' : Nat) (xs : List (Value × List N)), j ≤ 8 ∧ iv = .int .i64 j ∧ D' + j = D + 9 ∧ Hid (Lvs (fun _ => True) D' wr v xs) ∧ Hid (wt D' xs ≤ 10000) ∧ xs.length ≤ 10000 ∧ Hid (Adds w wr)) (fun _ iv _ => 8 - (intOf iv).toNat)
  case atStart =>
    refine ⟨0, D + 9, _, by omega, rfl, rfl, H0.out _ (by repeat (first | with_reducible exact Adds.refl _ | with_reducible refine Adds.alloc ?_ _ | with_reducible refine Adds.more ?_ _ _ | with_reducible refine Adds.drew ?_ | with_reducible refine Adds.drewN ?_ _)) ?_ ?_, HW0.out _, by simp, ?_⟩
    · exact cell_new (cs := [_]) (by rw [World.size_alloc, World.size_alloc]) rfl
    · rw [World.size_alloc, World.size_alloc, World.size_alloc]; omega
    · show Adds _ _
      repeat (first | with_reducible exact Adds.refl _ | with_reducible refine Adds.alloc ?_ _ | with_reducible refine Adds.more ?_ _ _ | with_reducible refine Adds.drew ?_ | with_reducible refine Adds.drewN ?_ _)
  case round =>
    obtain ⟨j, D', xs, hj, rfl, hD, hL, hWt, hxl, hA⟩ := hrel
    by_cases hlt : j < 8
    · obtain ⟨d, rfl⟩ : ∃ d, D' = d + 1 := ⟨D' - 1, by omega⟩
      have kB := HB.out d u3 xs wr hL.out hWt.out hxl
      clear HB H0 HW0
      have hlt' : (j : Int) < 8 := by omega
      go_wp2_with (go_at_call 123; refine kB.mono ?_; rintro e w1 ⟨v', ys, rfl, hL1, hw1, hl1, hA1⟩)
      go_roundw
      case rel => exact ⟨j + 1, d, ys, by omega, by go_num, by omega, hL1, Nat.le_trans hw1 hWt.out, Nat.le_trans hl1 (Nat.le_trans hw1 hWt.out), hA.out.trans hA1⟩
      case measure => simp [intOf]; omega
    · have hj8 : j = 8 := by omega
      subst hj8
      obtain ⟨vo, vc, hv, _⟩ := hL.out
      have HA : Hid (Adds w wr) := hA
      clear hL hWt HB H0 HW0 hA
      subst hv
      go_wp2
      go_ret
      exact ⟨_, rfl, HA.out⟩

theorem checkE_any {D : Nat} (n : N) (s : Value) (w : World) (hT : Tn (fun _ => True) D w s n.args) (hx : n.text.size ≤ 9223372036854775807) (hc : ∀ d, cntN d [n] ≤ 10000) :
    Calls Tryz.prog 66 #[nodeV n s] w fun e w' => (∃ x : Int, e = .returned (.int .i64 x) ∧ (x = 0 ↔ fitsN 8 n = true)) ∧ Adds w w' := by
  have kF := fun W hA => fits_node (ok := fun _ => True) 8 D n s W (Nat.le_refl _) (hT.adds hA) hx
  have kD := fun W hA => deep_any (D := D) n s W (hT.adds hA) hx hc
  obtain ⟨ao, cap, rfl⟩ := hT.shape
  have h8 : ((8 : Nat) : Int) = 8 := rfl
  rw [h8] at kF
  generalize fitsN 8 n = q at *
  clear hT hx hc h8
  obtain ⟨nk, nt, nm, na⟩ := n
  simp only [nodeV, N.kind, N.text, N.num, N.args] at *
  generalize na.length = nl at *
  cases q
  · go_enter Tryz.func66, Tryz.ntmps66
    go_wp2_with (first
      | (go_at_call 96; refine (kF _ (by repeat (first | with_reducible exact Adds.refl _ | with_reducible refine Adds.alloc ?_ _ | with_reducible refine Adds.more ?_ _ _ | with_reducible refine Adds.drew ?_ | with_reducible refine Adds.drewN ?_ _))).mono ?_; rintro e w1 ⟨rfl, os1, n1, rfl⟩)
      | (go_at_call 97; refine (kD _ (by repeat (first | with_reducible exact Adds.refl _ | with_reducible refine Adds.alloc ?_ _ | with_reducible refine Adds.more ?_ _ _ | with_reducible refine Adds.drew ?_ | with_reducible refine Adds.drewN ?_ _))).mono ?_; rintro e w2 ⟨q2, rfl, os2, n2, rfl⟩; cases q2))
    all_goals
      go_ret
      exact ⟨⟨_, rfl, by simp⟩, by repeat (first | with_reducible exact Adds.refl _ | with_reducible refine Adds.alloc ?_ _ | with_reducible refine Adds.more ?_ _ _ | with_reducible refine Adds.drew ?_ | with_reducible refine Adds.drewN ?_ _)⟩
  · go_enter Tryz.func66, Tryz.ntmps66
    go_wp2_with (first
      | (go_at_call 96; refine (kF _ (by repeat (first | with_reducible exact Adds.refl _ | with_reducible refine Adds.alloc ?_ _ | with_reducible refine Adds.more ?_ _ _ | with_reducible refine Adds.drew ?_ | with_reducible refine Adds.drewN ?_ _))).mono ?_; rintro e w1 ⟨rfl, os1, n1, rfl⟩))
    go_ret
    exact ⟨⟨0, rfl, by simp⟩, by repeat (first | with_reducible exact Adds.refl _ | with_reducible refine Adds.alloc ?_ _ | with_reducible refine Adds.more ?_ _ _ | with_reducible refine Adds.drew ?_ | with_reducible refine Adds.drewN ?_ _)⟩

/-- What fits is an expression that may be. -/
theorem fits_E : ∀ (k : Nat) (n : N), fitsN k n = true → ∃ e : E, n = e.toN ∧ e.ok := by
  intro k
  induction k with
  | zero => intro n h; cases h
  | succ k ih =>
    intro n h
    obtain ⟨nk, nt, nm, na⟩ := n
    simp only [fitsN, N.kind, N.text, N.num, N.args, Bool.and_eq_true, List.all_eq_true] at h
    obtain ⟨ha, hall⟩ := h
    unfold aloneN at ha
    have hempty : ∀ t : ByteArray, t.toList = [] → t = ⟨#[]⟩ := fun t h => toList_inj (by rw [h, ByteArray.toList_eq])
    split at ha
    · rename_i h1
      simp only [Bool.and_eq_true, Bool.not_eq_true', beq_iff_eq] at ha
      obtain ⟨⟨⟨h2, h3⟩, h4⟩, h5⟩ := ha
      have h6 : na = [] := List.length_eq_zero_iff.1 (by omega)
      refine ⟨.path nt.toList, by simp only [E.toN, toB_of, h1, h4, h6], h2, ?_⟩
      cases hq : allDig nt.toList with
      | false => rfl
      | true =>
        simp only [digs, hq, Bool.true_and, Bool.not_eq_false', List.isEmpty_iff] at h3
        rw [h3] at h2
        simp [pathL, stp] at h2
    split at ha
    · rename_i h1
      simp only [Bool.and_eq_true, decide_eq_true_eq, beq_iff_eq] at ha
      obtain ⟨⟨⟨h2, h3⟩, h4⟩, h5⟩ := ha
      have h6 : na = [] := List.length_eq_zero_iff.1 (by omega)
      refine ⟨.num nm.toNat, ?_, ?_⟩
      · simp only [E.toN, h1, h6, hempty nt h4]
        rw [Int.toNat_of_nonneg h2]
      · show nm.toNat < 1000000000000000
        omega
    split at ha
    · rename_i h1
      simp only [Bool.and_eq_true, beq_iff_eq] at ha
      obtain ⟨⟨h2, h3⟩, h4⟩ := ha
      match na, hall, h4 with
      | [x, y], hall, _ =>
        obtain ⟨a, rfl, oa⟩ := ih x (hall x (by simp))
        obtain ⟨b, rfl, ob⟩ := ih y (hall y (by simp))
        rcases h1 with rfl | rfl
        · exact ⟨.sum a b, by simp only [E.toN, hempty nt h2, h3], oa, ob⟩
        · exact ⟨.mul a b, by simp only [E.toN, hempty nt h2, h3], oa, ob⟩
      | [], _, h4 => simp at h4
      | [_], _, h4 => simp at h4
      | _ :: _ :: _ :: _, _, h4 => simp at h4; omega
    split at ha
    · rename_i h1
      simp only [Bool.and_eq_true, beq_iff_eq] at ha
      obtain ⟨⟨h2, h3⟩, h4⟩ := ha
      match na, hall, h4 with
      | [x], hall, _ =>
        obtain ⟨a, rfl, oa⟩ := ih x (hall x (by simp))
        exact ⟨.call nt.toList a, by simp only [E.toN, toB_of, h1, h3], h2, oa⟩
      | [], _, h4 => simp at h4
      | _ :: _ :: _, _, h4 => simp at h4; omega
    · cases ha

end Go.Proofs.YtiacnmcdfpmcfaaGreatDoor

namespace Go.Proofs.YtiacnmcdfpmcfaaGreatDoor
open Go.RowKit
attribute [local go_sem] cell?_more frozen?_more setCell_more size_more tape_more drew_more drewN_more more_drew more_drewN one_out plus_out plus_end lt_one le_p2 le_p3 le_p4 le_p5 le_p6 le_p7 le_p8 le_p9 le_p10 le_p11 le_p12 le_p13 le_p14 le_p15 le_p16 le_p17 le_p18 le_p19 le_p20 le_p21 le_p22 le_p23 le_p24 le_q0 le_q1 lt_q1 le_q2 lt_q2 le_q3 lt_q3 le_q4 lt_q4 le_q5 lt_q5 le_q6 lt_q6 le_q7 lt_q7 le_q8 lt_q8 le_q9 lt_q9 le_q10 lt_q10 le_q11 lt_q11 le_q12 lt_q12 le_q13 lt_q13 le_q14 lt_q14 le_q15 lt_q15 le_q16 lt_q16 le_q17 lt_q17 le_q18 lt_q18 le_q19 lt_q19 le_q20 lt_q20 le_q21 lt_q21 le_q22 lt_q22 le_q23 lt_q23 le_q24 lt_q24


abbrev set4o (W : World) (k o : Nat) (n : N) (sn : Value) : World := (((W.setCell ⟨k, o, none⟩ (.int .i64 n.kind)).setCell ⟨k, o + 1, none⟩ (.string n.text)).setCell ⟨k, o + 2, none⟩ (.int .i64 n.num)).setCell ⟨k, o + 3, none⟩ sn

theorem set4o_mv (W : World) (k o : Nat) (n : N) (sn : Value) : Mv (fun b => b = k) W (set4o W k o n sn) :=
  (((Mv.set1 _ _ _ _).trans (Mv.set1 _ _ _ _)).trans (Mv.set1 _ _ _ _)).trans (Mv.set1 _ _ _ _)

theorem star_end {R : Nat} {w W : World} {r : List UInt8} {c : UInt8} {st : List Fr} {f : Fr} {g cap d : Nat} {ms : List Fm} {m : Fm} {n0 : N} {s0 sr : Value} {e : E} (h : Sg R w W (c :: r) st f g cap d ms m) (hN : NB R W n0 s0) (hT : Tn (okS R g) d W sr e.toN.args) (he : e.ok) (os : Array Obj) (q : Nat) :
    ∃ mz, Sg R w (more (set4o ((setN W (R + 1) e.toN sr).setCell ⟨R + 3, 0, none⟩ (.string (toB r))) g (ms.length * 9 + 5) e.toN sr) os q) r st { f with mul := some e } g cap d ms mz ∧ NBox R (more (set4o ((setN W (R + 1) e.toN sr).setCell ⟨R + 3, 0, none⟩ (.string (toB r))) g (ms.length * 9 + 5) e.toN sr) os q) ∧
      left R (more (set4o ((setN W (R + 1) e.toN sr).setCell ⟨R + 3, 0, none⟩ (.string (toB r))) g (ms.length * 9 + 5) e.toN sr) os q) = r.length := by
  have h1 := h.mv (setN_mv W (R + 1) e.toN sr)
  have t1 := hT.mv (setN_mv W (R + 1) e.toN sr) (fun b _ hb => hb.2.1)
  have b1 := (NBox.set hN.box e.toN sr).box
  generalize setN W (R + 1) e.toN sr = X at *
  have h2 := h1.text r (by simp)
  have t2 := t1.mv (Mv.set1 X (R + 3) 0 (.string (toB r))) (fun b _ hb => hb.2.2.1)
  have b2 := b1.mv (Mv.set1 X (R + 3) 0 (.string (toB r))) (by omega)
  generalize X.setCell ⟨R + 3, 0, none⟩ (.string (toB r)) = Y at *
  obtain ⟨mz, h3⟩ := h2.setMul e he sr t2
  have b3 := b2.mv (set4o_mv Y g (ms.length * 9 + 5) e.toN sr) (fun e => h.g1 e.symm)
  have h4 := h3.adds (W' := more (set4o Y g (ms.length * 9 + 5) e.toN sr) os q) ⟨os, q, rfl⟩
  exact ⟨mz, h4, b3.mv (X := fun _ => False) (Adds.mv ⟨os, q, rfl⟩) (fun h => h), h4.left⟩

theorem plus_end' {R : Nat} {w W : World} {r : List UInt8} {c : UInt8} {st : List Fr} {f : Fr} {g cap d : Nat} {ms : List Fm} {m : Fm} {n0 : N} {s0 sr : Value} {e : E} (h : Sg R w W (c :: r) st f g cap d ms m) (hN : NB R W n0 s0) (hT : Tn (okS R g) d W sr e.toN.args) (he : e.ok) (os : Array Obj) (q : Nat) :
    ∃ mz, Sg R w (more (set4o ((setN W (R + 1) e.toN sr).setCell ⟨R + 3, 0, none⟩ (.string (toB r))) g (ms.length * 9 + 1) e.toN sr) os q) r st { f with sum := some e } g cap d ms mz ∧ NBox R (more (set4o ((setN W (R + 1) e.toN sr).setCell ⟨R + 3, 0, none⟩ (.string (toB r))) g (ms.length * 9 + 1) e.toN sr) os q) ∧
      left R (more (set4o ((setN W (R + 1) e.toN sr).setCell ⟨R + 3, 0, none⟩ (.string (toB r))) g (ms.length * 9 + 1) e.toN sr) os q) = r.length := by
  have h1 := h.mv (setN_mv W (R + 1) e.toN sr)
  have t1 := hT.mv (setN_mv W (R + 1) e.toN sr) (fun b _ hb => hb.2.1)
  have b1 := (NBox.set hN.box e.toN sr).box
  generalize setN W (R + 1) e.toN sr = X at *
  have h2 := h1.text r (by simp)
  have t2 := t1.mv (Mv.set1 X (R + 3) 0 (.string (toB r))) (fun b _ hb => hb.2.2.1)
  have b2 := b1.mv (Mv.set1 X (R + 3) 0 (.string (toB r))) (by omega)
  generalize X.setCell ⟨R + 3, 0, none⟩ (.string (toB r)) = Y at *
  obtain ⟨mz, h3⟩ := h2.setSum e he sr t2
  have b3 := b2.mv (set4o_mv Y g (ms.length * 9 + 1) e.toN sr) (fun e => h.g1 e.symm)
  have h4 := h3.adds (W' := more (set4o Y g (ms.length * 9 + 1) e.toN sr) os q) ⟨os, q, rfl⟩
  exact ⟨mz, h4, b3.mv (X := fun _ => False) (Adds.mv ⟨os, q, rfl⟩) (fun h => h), h4.left⟩

theorem Sg.resc {R : Nat} {w W : World} {l : List UInt8} {st : List Fr} {f : Fr} {g cap d : Nat} {ms : List Fm} {m : Fm} (h : Sg R w W l st f g cap d ms m) : W.cell? ⟨R, 0, none⟩ = some (.int .i64 0) ∧ W.cell? ⟨R, 1, none⟩ = some (.string ⟨#[]⟩) ∧ W.cell? ⟨R, 2, none⟩ = some (.int .i64 0) ∧ W.cell? ⟨R, 3, none⟩ = some nilV :=
  ⟨by simp [World.cell?, h.res], by simp [World.cell?, h.res], by simp [World.cell?, h.res], by simp [World.cell?, h.res]⟩

theorem ret13 {R : Nat} {X : World} {tm : Array Value} {t : Bool} {n : N} {sn : Value} (h2 : tm[2]?.getD undef = .pointer (some ⟨R, 0, none⟩)) (h3 : tm[3]?.getD undef = .bool t) (hX : X.heap[R]? = some (.cells #[.int .i64 n.kind, .string n.text, .int .i64 n.num, sn] 81 (0, 0))) : (results Tryz.f65 tm).run Tryz.prog X = .ok (.tuple #[nodeV n sn, .bool t]) X := by
  have c0 : X.cell? ⟨R, 0, none⟩ = some (.int .i64 n.kind) := by simp [World.cell?, hX]
  have c1 : X.cell? ⟨R, 1, none⟩ = some (.string n.text) := by simp [World.cell?, hX]
  have c2 : X.cell? ⟨R, 2, none⟩ = some (.int .i64 n.num) := by simp [World.cell?, hX]
  have c3 : X.cell? ⟨R, 3, none⟩ = some sn := by simp [World.cell?, hX]
  simp [results, Tryz.results65, go_sem, h2, h3, c0, c1, c2, c3]

theorem grow_facts {R : Nat} {w W0 W1 W2 : World} {l : List UInt8} {st : List Fr} {f : Fr} {g cap d : Nat} {ms : List Fm} {m : Fm} (h : Sg R w W0 l st f g cap d ms m) (hA : Adds W0 W1) (hg : W1.grownBy W2 (some g)) : W2.cell? ⟨R + 3, 1, none⟩ = some (.slice (some ⟨g, 0, none⟩) (ms.length + 1) cap) ∧ W2.frozen? ⟨R + 3, 1, none⟩ = false ∧ R + 3 < W2.heap.size := by
  have h1 := h.adds hA
  have hgM : g ≠ R + 3 := fun e => h.rdr.far (by simp [Value.ownBlock, e])
  have hb : W2.heap[R + 3]? = W1.heap[R + 3]? := hg.block _ h1.facts.2.2.2.2 (by simp only [ne_eq, Option.some.injEq]; exact fun e => hgM e.symm)
  have h2 := h1.rdr.1
  rw [← hb] at h2
  exact ⟨by simp [World.cell?, h2], by simp [World.frozen?, h2], lt_of_some h2⟩

theorem NBox.cells {R : Nat} {W : World} (h : NBox R W) : ∃ a b c e, W.cell? ⟨R + 1, 0, none⟩ = some a ∧ W.cell? ⟨R + 1, 1, none⟩ = some b ∧ W.cell? ⟨R + 1, 2, none⟩ = some c ∧ W.cell? ⟨R + 1, 3, none⟩ = some e := by
  obtain ⟨a, b, c, e, h⟩ := h
  exact ⟨a, b, c, e, by simp [World.cell?, h], by simp [World.cell?, h], by simp [World.cell?, h], by simp [World.cell?, h]⟩

/-- A part that is a word. -/
theorem M_leafy {l wd rs : List UInt8} (h1 : l.takeWhile wc = wd) (h2 : l.dropWhile wc = rs) (h : ¬ ((wd = [] ∨ isName wd = true) ∧ ∃ r, rs = 40 :: r)) (st : List Fr) (f : Fr) : M l st f none = (leafE wd).bind fun n => M rs st f (some n) := by
  subst h1 h2
  cases hd : l.dropWhile wc with
  | nil => exact M_nil hd st f
  | cons c r => exact M_word hd (fun hq => h ⟨hq.1, r, by rw [hd, hq.2]⟩) st f

theorem M_pushy {l wd r : List UInt8} (h1 : l.takeWhile wc = wd) (h2 : l.dropWhile wc = 40 :: r) (h : wd = [] ∨ isName wd = true) (st : List Fr) (f : Fr) : M l st f none = M r (f :: st) ⟨wd, none, none⟩ none := by
  subst h1
  exact M_push h2 h st f

theorem closeE_ok {f : Fr} {e : E} (h : f.name = [] ∨ isName f.name = true) (he : e.ok) : (closeE f.name e).ok := by
  unfold closeE
  split
  · exact he
  · rename_i hne
    rcases h with h | h
    · exact absurd h hne
    · exact ⟨h, he⟩

/-- n stored behind a call. -/
theorem store_end {R : Nat} {w W : World} {l : List UInt8} {st : List Fr} {f : Fr} {g cap d : Nat} {ms : List Fm} {m : Fm} {sr : Value} {e : E} (h : Sg R w W l st f g cap d ms m) (hN : NBox R W) (hT : Tn (okS R g) d W sr e.toN.args) :
    Sg R w (setN W (R + 1) e.toN sr) l st f g cap d ms m ∧ NB R (setN W (R + 1) e.toN sr) e.toN sr ∧ Tn (okS R g) d (setN W (R + 1) e.toN sr) sr e.toN.args ∧ left R (setN W (R + 1) e.toN sr) = l.length := by
  have h1 := h.mv (setN_mv W (R + 1) e.toN sr)
  exact ⟨h1, NBox.set hN e.toN sr, hT.mv (setN_mv W (R + 1) e.toN sr) (fun b _ hb => hb.2.1), h1.left⟩

/-- A sign taken off the text behind n's store. -/
theorem text_end {R : Nat} {w W : World} {r l : List UInt8} {st : List Fr} {f : Fr} {g cap d : Nat} {ms : List Fm} {m : Fm} {n : N} {sr : Value} (h : Sg R w W l st f g cap d ms m) (hl : r.length ≤ l.length) (hN : NB R W n sr) (hT : Tn (okS R g) d W sr n.args) :
    Sg R w (W.setCell ⟨R + 3, 0, none⟩ (.string (toB r))) r st f g cap d ms m ∧ NB R (W.setCell ⟨R + 3, 0, none⟩ (.string (toB r))) n sr ∧ Tn (okS R g) d (W.setCell ⟨R + 3, 0, none⟩ (.string (toB r))) sr n.args :=
  ⟨h.text r hl, hN.mv (Mv.set1 W (R + 3) 0 (.string (toB r))) (by omega), hT.mv (Mv.set1 W (R + 3) 0 (.string (toB r))) (fun b _ hb => hb.2.2.1)⟩

/-- The result written, and the call's end. -/
theorem ret_end {R : Nat} {w W : World} {l : List UInt8} {st : List Fr} {f : Fr} {g cap d : Nat} {ms : List Fm} {m : Fm} (h : Sg R w W l st f g cap d ms m) (n : N) (sn : Value) (ok : Nat → Prop) {k : Nat} {x : Value} {ts : List N} (hT : Tn (okS R g) k W x ts) (hok : ∀ b, okS R g b → ok b) : Tn ok k (setN W R n sn) x ts ∧ Adds w (setN W R n sn) ∧ (setN W R n sn).heap[R]? = some (.cells #[.int .i64 n.kind, .string n.text, .int .i64 n.num, sn] 81 (0, 0)) := by
  refine ⟨hT.frame (setN_mv W R n sn).size (fun b hb hlt => ⟨(setN_mv W R n sn).block b hlt hb.1, hok b hb⟩), ?_, set4 h.res⟩
  have := h.mvd.trans ((setN_mv W R n sn).mono (fun b _ e => (by omega : R ≤ b)))
  exact Adds.of (Mv.below (B := w.heap.size) (by rw [h.size]; exact this) (Nat.le_refl _))

theorem ret_end2 {R : Nat} {w W : World} {l : List UInt8} {st : List Fr} {f : Fr} {g cap d : Nat} {ms : List Fm} {m : Fm} (h : Sg R w W l st f g cap d ms m) (n : N) (sn : Value) (os : Array Obj) (k : Nat) : Adds w (more (setN W R n sn) os k) ∧ (more (setN W R n sn) os k).heap[R]? = some (.cells #[.int .i64 n.kind, .string n.text, .int .i64 n.num, sn] 81 (0, 0)) := by
  have h1 := ret_end h n sn (fun _ => True) (Tn.nil _ 0 _) (fun _ _ => trivial)
  refine ⟨h1.2.1.more os k, ?_⟩
  rw [more_block os k (lt_of_some h1.2.2)]
  exact h1.2.2

theorem push4 (h : Array Obj) (a b c e : Obj) : ((((h.push a).push b).push c).push e)[h.size]? = some a ∧ ((((h.push a).push b).push c).push e)[h.size + 1]? = some b ∧ ((((h.push a).push b).push c).push e)[h.size + 2]? = some c ∧ ((((h.push a).push b).push c).push e)[h.size + 3]? = some e := by
  simp only [Array.getElem?_push, Array.size_push]
  refine ⟨?_, ?_, ?_, ?_⟩
  · rw [if_neg (by omega), if_neg (by omega), if_neg (by omega), if_pos trivial]
  · rw [if_neg (by omega), if_neg (by omega), if_pos trivial]
  · rw [if_neg (by omega), if_pos trivial]
  · rw [if_pos trivial]

theorem heap4 (w : World) (a b c e : Obj) : ((((w.alloc a).alloc b).alloc c).alloc e).heap = (((w.heap.push a).push b).push c).push e := rfl

/-- The reader where it begins. -/
theorem Sg.begin {w : World} {l : List UInt8} (hl : l.length ≤ 256) {W : World} (hW : W = (((w.alloc (.cells #[.int .i64 0, .string ⟨#[]⟩, .int .i64 0, nilV] 81)).alloc (.cells #[.int .i64 0, .string ⟨#[]⟩, .int .i64 0, nilV] 81)).alloc (.cells #[.string ⟨#[]⟩, .int .i64 0, .string ⟨#[]⟩, .int .i64 0, nilV, .int .i64 0, .string ⟨#[]⟩, .int .i64 0, nilV] 135)).alloc (.cells #[.string (toB l), .slice (some ⟨w.heap.size + 2, 0, none⟩) 1 1] 138)) :
    Sg w.heap.size w W l [] Fr.none (w.heap.size + 2) 1 0 [] ⟨⟨#[]⟩, N.zero, nilV, N.zero, nilV⟩ ∧ NBox w.heap.size W := by
  have h0 : W.heap[w.heap.size]? = some (.cells #[.int .i64 0, .string ⟨#[]⟩, .int .i64 0, nilV] 81 (0, 0)) := by rw [hW, heap4]; exact (push4 _ _ _ _ _).1
  have h1 : W.heap[w.heap.size + 1]? = some (.cells #[.int .i64 0, .string ⟨#[]⟩, .int .i64 0, nilV] 81 (0, 0)) := by rw [hW, heap4]; exact (push4 _ _ _ _ _).2.1
  have h2 : W.heap[w.heap.size + 2]? = some (.cells #[.string ⟨#[]⟩, .int .i64 0, .string ⟨#[]⟩, .int .i64 0, nilV, .int .i64 0, .string ⟨#[]⟩, .int .i64 0, nilV] 135 (0, 0)) := by rw [hW, heap4]; exact (push4 _ _ _ _ _).2.2.1
  have h3 : W.heap[w.heap.size + 3]? = some (.cells #[.string (toB l), .slice (some ⟨w.heap.size + 2, 0, none⟩) 1 1] 138 (0, 0)) := by rw [hW, heap4]; exact (push4 _ _ _ _ _).2.2.2
  have hA : Adds w W := by
    rw [hW]
    repeat (first | with_reducible exact Adds.refl _ | with_reducible refine Adds.alloc ?_ _ | with_reducible refine Adds.more ?_ _ _ | with_reducible refine Adds.drew ?_ | with_reducible refine Adds.drewN ?_ _)
  refine ⟨⟨⟨h3, ⟨rfl, .inr ⟨w.heap.size + 2, 1, _, rfl, by omega, h2, Nat.le_refl _, by unfold maxLen; omega, rfl, rfl⟩⟩, hA.below.size⟩, by omega, by omega, ⟨rfl, rfl, rfl, Tn.nil _ _ _, Tn.nil _ _ _, fun _ => rfl, fun _ => rfl, (fun e h => by cases h), (fun e h => by cases h)⟩, rfl, hA.mv, rfl, h0, by simpa using hl, ?_⟩, ⟨_, _, _, _, h1⟩⟩
  intro x hx
  simp at hx
  rw [hx]
  exact .inl rfl

end Go.Proofs.YtiacnmcdfpmcfaaGreatDoor
