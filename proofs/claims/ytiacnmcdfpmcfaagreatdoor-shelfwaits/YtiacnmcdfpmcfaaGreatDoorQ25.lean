/-
  The functions tooDeep and Check of an expression that is new.
  The reference's last and whole, by contracts.
-/
import Derived.Test.YtiacnmcdfpmcfaaGreatDoorQ24
import Derived.Test.YtiacnmcdfpmcfaaGreatDoorQ18
import Derived.Test.YtiacnmcdfpmcfaaGreatDoorNode
namespace Go.Proofs.YtiacnmcdfpmcfaaGreatDoor
open Go.RowKit
attribute [local go_sem] cell?_more frozen?_more setCell_more size_more tape_more drew_more drewN_more more_drew more_drewN one_out plus_out plus_end lt_one le_p2 le_p3 le_p4 le_p5 le_p6 le_p7 le_p8 le_p9 le_p10 le_p11 le_p12 le_p13 le_p14 le_p15 le_p16 le_p17 le_p18 le_p19 le_p20 le_p21 le_p22 le_p23 le_p24 le_q0 le_q1 lt_q1 le_q2 lt_q2 le_q3 lt_q3 le_q4 lt_q4 le_q5 lt_q5 le_q6 lt_q6 le_q7 lt_q7 le_q8 lt_q8 le_q9 lt_q9 le_q10 lt_q10 le_q11 lt_q11 le_q12 lt_q12 le_q13 lt_q13 le_q14 lt_q14 le_q15 lt_q15 le_q16 lt_q16 le_q17 lt_q17 le_q18 lt_q18 le_q19 lt_q19 le_q20 lt_q20 le_q21 lt_q21 le_q22 lt_q22 le_q23 lt_q23 le_q24 lt_q24


set_option maxHeartbeats 4000000 in
theorem deep_x {D : Nat} (n : N) (s : Value) (w : World) (hT : Tn (fun b => 0 < b) D w s n.args) (hx : n.text.size ≤ 9223372036854775807) (hc : ∀ d, cntN d [n] ≤ 10000) (hh : hasN 8 [n]) :
    Calls Tryz.prog 97 #[nodeV n s] w fun e w' => e = .returned (.bool true) ∧ Adds w w' := by
  obtain ⟨ao, cap, rfl⟩ := hT.shape
  have h0 : ∀ W, Adds ((w.alloc (.cells #[.int .i64 n.kind, .string n.text, .int .i64 n.num, .slice ao n.args.length cap] 81)).alloc (.cells #[.int .i64 n.kind, .string n.text, .int .i64 n.num, .slice ao n.args.length cap] 81)) W → W.cell? ⟨w.heap.size + 1 + 1, 0, none⟩ = some (.slice (some ⟨w.heap.size + 1, 0, none⟩) 1 1) → w.heap.size + 1 + 1 < W.heap.size → Lvs (fun b => 0 < b) (D + 9) W (.slice (some ⟨w.heap.size + 1 + 1, 0, none⟩) 1 1) [(.slice (some ⟨w.heap.size + 1, 0, none⟩) 1 1, [n])] := by
    intro W hA hcell hlt
    refine ⟨_, 1, rfl, Nat.le_refl _, ?_, .inr ⟨w.heap.size + 1 + 1, 0, rfl, hlt, ?_⟩⟩
    · intro x hx'
      simp only [List.mem_singleton] at hx'
      subst hx'
      have := tn_one (ok := fun b => 0 < b) (d := D + 8) (k := w.heap.size + 1) (w' := (w.alloc (.cells #[.int .i64 n.kind, .string n.text, .int .i64 n.num, .slice ao n.args.length cap] 81)).alloc (.cells #[.int .i64 n.kind, .string n.text, .int .i64 n.num, .slice ao n.args.length cap] 81)) (by simp) (Nat.succ_pos _) (fun o => by simp) ((hT.adds (by repeat (first | with_reducible exact Adds.refl _ | with_reducible refine Adds.alloc ?_ _ | with_reducible refine Adds.more ?_ _ _ | with_reducible refine Adds.drew ?_ | with_reducible refine Adds.drewN ?_ _))).up (by omega)) hx ⟨by simp, by simp, by simp, by simp⟩
      exact this.adds hA
    · intro j hj
      have : j = 0 := by simpa using hj
      subst this
      simpa using hcell
  have hw0 : ∀ d, wt d [((.slice (some ⟨w.heap.size + 1, 0, none⟩) 1 1 : Value), [n])] ≤ 10000 := fun d => by simpa [wt] using hc d
  have HB : Hid (∀ (d : Nat) (v : Value) (xs : List (Value × List N)) (W : World), Lvs (fun b => 0 < b) (d + 1) W v xs → wt (d + 1) xs ≤ 10000 → xs.length ≤ 10000 → Calls Tryz.prog 123 #[v] W fun e w' => ∃ v' ys, e = .returned v' ∧ Lvs (fun b => 0 < b) d w' v' ys ∧ wt d ys ≤ wt (d + 1) xs ∧ ys.length ≤ wt d ys ∧ Adds W w' ∧ Cov xs ys) := fun d v xs W h1 h2 h3 => below_x v xs W h1 h2 h3
  have HH : Hid (∃ x ∈ [((.slice (some ⟨w.heap.size + 1, 0, none⟩) 1 1 : Value), [n])], hasN 8 x.2) := ⟨_, List.mem_singleton.2 rfl, hh⟩
  clear hh
  have H0 : Hid _ := h0
  have HW0 : Hid _ := hw0
  clear hT hx hc h0 hw0
  obtain ⟨nk, nt, nm, na⟩ := n
  simp only [nodeV, N.kind, N.text, N.num, N.args] at *
  generalize na.length = nl at *
  go_enter Tryz.func97, Tryz.ntmps97
  go_wp2
  go_loopw [3, 7] (fun v iv wr => ∃ (j D' : Nat) (xs : List (Value × List N)), j ≤ 8 ∧ iv = .int .i64 j ∧ D' + j = D + 9 ∧ Hid (Lvs (fun b => 0 < b) D' wr v xs) ∧ Hid (wt D' xs ≤ 10000) ∧ xs.length ≤ 10000 ∧ Hid (Adds w wr) ∧ Hid (∃ x ∈ xs, hasN (8 - j) x.2)) (fun _ iv _ => 8 - (intOf iv).toNat)
  case atStart =>
    refine ⟨0, D + 9, _, by omega, rfl, rfl, H0.out _ (by repeat (first | with_reducible exact Adds.refl _ | with_reducible refine Adds.alloc ?_ _ | with_reducible refine Adds.more ?_ _ _ | with_reducible refine Adds.drew ?_ | with_reducible refine Adds.drewN ?_ _)) ?_ ?_, HW0.out _, by simp, ?_, HH.out⟩
    · exact cell_new (cs := [_]) (by rw [World.size_alloc, World.size_alloc]) rfl
    · rw [World.size_alloc, World.size_alloc, World.size_alloc]; omega
    · show Adds _ _
      repeat (first | with_reducible exact Adds.refl _ | with_reducible refine Adds.alloc ?_ _ | with_reducible refine Adds.more ?_ _ _ | with_reducible refine Adds.drew ?_ | with_reducible refine Adds.drewN ?_ _)
  case round =>
    obtain ⟨j, D', xs, hj, rfl, hD, hL, hWt, hxl, hA, hHs⟩ := hrel
    by_cases hlt : j < 8
    · obtain ⟨d, rfl⟩ : ∃ d, D' = d + 1 := ⟨D' - 1, by omega⟩
      have kB := HB.out d u3 xs wr hL.out hWt.out hxl
      clear HB H0 HW0
      have hlt' : (j : Int) < 8 := by omega
      go_wp2_with (go_at_call 123; refine kB.mono ?_; rintro e w1 ⟨v', ys, rfl, hL1, hw1, hl1, hA1, hC1⟩; have HC1 : Hid _ := hC1; clear hC1)
      go_roundw
      case rel => exact ⟨j + 1, d, ys, by omega, by go_num, by omega, hL1, Nat.le_trans hw1 hWt.out, Nat.le_trans hl1 (Nat.le_trans hw1 hWt.out), hA.out.trans hA1, cov_has HC1.out (by have := hHs.out; rw [show 8 - j = 8 - (j + 1) + 1 by omega] at this; exact this)⟩
      case measure => simp [intOf]; omega
    · have hj8 : j = 8 := by omega
      subst hj8
      obtain ⟨vo, vc, hv, _⟩ := hL.out
      have HA : Hid (Adds w wr) := hA
      have hpos : (0 : Int) < (xs.length : Int) := by
        obtain ⟨x, hx, _⟩ := hHs.out
        have := List.length_pos_of_mem hx
        omega
      clear hL hWt HB H0 HW0 hA hHs HH
      subst hv
      go_wp2
      go_ret
      exact ⟨congrArg (fun z => Ending.returned (.bool z)) (decide_eq_true (by omega : 0 < xs.length)), HA.out⟩


/-- Check of an expression that was made anew: too deep or not. -/
theorem checkx_any {D : Nat} (x : E) (s : Value) (w : World) (hT : Tn (fun b => 0 < b) D w s x.toN.args) (hok : x.ok) (hc : ∀ d, cntN d [x.toN] ≤ 10000) :
    Calls Tryz.prog 66 #[nodeV x.toN s] w fun e w' => e = .returned (.int .i64 (if x.depth ≤ 8 then 0 else 13)) ∧ Adds w w' := by
  by_cases hd : x.depth ≤ 8
  · rw [if_pos hd]
    have hf := (fits_deep 8 x hok).2 hd
    refine (checkE_any (D := D) x.toN s w (hT.weak (fun _ _ _ => trivial)) (ok_size hok) hc).mono ?_
    rintro e w' ⟨⟨y, rfl, hy⟩, hA⟩
    exact ⟨by rw [hy.2 hf], hA⟩
  · rw [if_neg hd]
    have hf : fitsN 8 x.toN = false := by
      cases hq : fitsN 8 x.toN with
      | false => rfl
      | true => exact absurd ((fits_deep 8 x hok).1 hq) hd
    have kF := fun W hA => fits_node (ok := fun b => 0 < b) 8 D x.toN s W (Nat.le_refl _) (hT.adds hA) (ok_size hok)
    have kD := fun W hA => deep_x (D := D) x.toN s W (hT.adds hA) (ok_size hok) hc (has_E 8 x (by omega))
    obtain ⟨ao, cap, rfl⟩ := hT.shape
    have h8 : ((8 : Nat) : Int) = 8 := rfl
    rw [h8, hf] at kF
    clear hT hc h8 hf hd hok
    generalize x.toN = n at *
    obtain ⟨nk, nt, nm, na⟩ := n
    simp only [nodeV, N.kind, N.text, N.num, N.args] at *
    generalize na.length = nl at *
    go_enter Tryz.func66, Tryz.ntmps66
    go_wp2_with (first
      | (go_at_call 96; refine (kF _ (by repeat (first | with_reducible exact Adds.refl _ | with_reducible refine Adds.alloc ?_ _ | with_reducible refine Adds.more ?_ _ _ | with_reducible refine Adds.drew ?_ | with_reducible refine Adds.drewN ?_ _))).mono ?_; rintro e w1 ⟨rfl, os1, n1, rfl⟩)
      | (go_at_call 97; refine (kD _ (by repeat (first | with_reducible exact Adds.refl _ | with_reducible refine Adds.alloc ?_ _ | with_reducible refine Adds.more ?_ _ _ | with_reducible refine Adds.drew ?_ | with_reducible refine Adds.drewN ?_ _))).mono ?_; rintro e w2 ⟨rfl, os2, n2, rfl⟩))
    go_ret
    exact ⟨rfl, by repeat (first | with_reducible exact Adds.refl _ | with_reducible refine Adds.alloc ?_ _ | with_reducible refine Adds.more ?_ _ _ | with_reducible refine Adds.drew ?_ | with_reducible refine Adds.drewN ?_ _)⟩

end Go.Proofs.YtiacnmcdfpmcfaaGreatDoor

namespace Go.Proofs.YtiacnmcdfpmcfaaGreatDoor
open Go.RowKit
attribute [local go_sem] cell?_more frozen?_more setCell_more size_more tape_more drew_more drewN_more more_drew more_drewN one_out plus_out plus_end lt_one le_p2 le_p3 le_p4 le_p5 le_p6 le_p7 le_p8 le_p9 le_p10 le_p11 le_p12 le_p13 le_p14 le_p15 le_p16 le_p17 le_p18 le_p19 le_p20 le_p21 le_p22 le_p23 le_p24 le_q0 le_q1 lt_q1 le_q2 lt_q2 le_q3 lt_q3 le_q4 lt_q4 le_q5 lt_q5 le_q6 lt_q6 le_q7 lt_q7 le_q8 lt_q8 le_q9 lt_q9 le_q10 lt_q10 le_q11 lt_q11 le_q12 lt_q12 le_q13 lt_q13 le_q14 lt_q14 le_q15 lt_q15 le_q16 lt_q16 le_q17 lt_q17 le_q18 lt_q18 le_q19 lt_q19 le_q20 lt_q20 le_q21 lt_q21 le_q22 lt_q22 le_q23 lt_q23 le_q24 lt_q24


theorem dl_40 {x : UInt8} (h : (x.toNat : Int) = 40) : dl x = 1 := by
  have : x = 40 := UInt8.toNat_inj.1 (by simpa using (by omega : x.toNat = 40))
  subst this
  decide
theorem dl_41 {x : UInt8} (h : (x.toNat : Int) = 41) : dl x = -1 := by
  have : x = 41 := UInt8.toNat_inj.1 (by simpa using (by omega : x.toNat = 41))
  subst this
  decide
theorem dl_no {x : UInt8} (h : ¬ (x.toNat : Int) = 40) (h' : ¬ (x.toNat : Int) = 41) : dl x = 0 := by
  have h1 : x ≠ 40 := by rintro rfl; exact h rfl
  have h2 : x ≠ 41 := by rintro rfl; exact h' rfl
  simp [dl, h1, h2]
theorem u8_eq {x c : UInt8} : x = c ↔ (x.toNat : Int) = (c.toNat : Int) := by
  constructor
  · rintro rfl; rfl
  · intro h; exact UInt8.toNat_inj.1 (by omega)
theorem drop_at (s : ByteArray) {k : Nat} (hk : k < s.size) : s.toList.drop k = s[k] :: s.toList.drop (k + 1) := by
  have hk' : k < s.toList.length := by rw [toList_length]; exact hk
  rw [List.drop_eq_getElem_cons hk', toList_get]

set_option maxHeartbeats 4000000 in
theorem rLast_any (s : ByteArray) (hs : s.size ≤ 1000) (c : UInt8) (w : World) :
    Calls Tryz.prog 69 #[.string s, .int .u8 (c.toNat : Int)] w fun e w' => e = .returned (.int .i64 (lastL c s.toList)) ∧ w' = w := by
  go_enter Tryz.func69, Tryz.ntmps69
  go_wp2
  go_loopw [5, 6, 7] (fun ov av iv wr => ∃ (k : Nat) (o a : Int), k ≤ s.size ∧ ov = .int .i64 o ∧ av = .int .i64 a ∧ iv = .int .i64 k ∧ -(k : Int) ≤ o ∧ o ≤ k ∧ Hid (lastF c o a k (s.toList.drop k) = lastL c s.toList) ∧ wr = w) (fun _ _ iv _ => s.size - (intOf iv).toNat)
  case atStart => exact ⟨0, 0, -1, Nat.zero_le _, rfl, rfl, rfl, by omega, by omega, by show _ = _; rfl, rfl⟩
  case round =>
    obtain ⟨k, o, a, hk, rfl, rfl, rfl, ho1, ho2, hL, rfl⟩ := hrel
    by_cases hlt : k < s.size
    · have HN : Hid (lastF c (o + dl s[k]) (if o + dl s[k] = 0 ∧ s[k] = c then (k : Int) else a) (k + 1) (s.toList.drop (k + 1)) = lastL c s.toList) := by
        have := hL.out
        rw [drop_at s hlt] at this
        exact this
      clear hL
      by_cases h40 : (s[k].toNat : Int) = 40
      · have hd : dl s[k] = 1 := dl_40 h40
        have hb0 : ((s[k].toNat : Int) == 40) = true := by simp [h40]
        have hb1 : ((s[k].toNat : Int) == 41) = false := by simp [h40]
        clear h40
        by_cases e0 : (o + 1) = 0
        · have e0b : ((o + 1) == 0) = true := by simpa using e0
          by_cases ec : (s[k].toNat : Int) = (c.toNat : Int)
          · have HF : Hid (lastF c (o + 1) (k : Int) (k + 1) (s.toList.drop (k + 1)) = lastL c s.toList) := by
                have h1 := HN.out
                rw [if_pos ⟨by omega, u8_eq.2 ec⟩, hd] at h1
                exact h1
            have ecb : ((s[k].toNat : Int) == (c.toNat : Int)) = true := by simpa using ec
            clear HN ec hd
            have E0 : Hid ((o + 1) = 0) := e0
            clear e0
            go_wp2
            go_roundw
            case rel => exact ⟨k + 1, (o + 1), (k : Int), by omega, by go_num, by go_num, by go_num, by omega, by omega, HF, by first | rfl | trivial⟩
            case measure => simp [intOf]; omega
          · have HF : Hid (lastF c (o + 1) a (k + 1) (s.toList.drop (k + 1)) = lastL c s.toList) := by
                have h1 := HN.out
                rw [if_neg (fun h => ec (u8_eq.1 h.2)), hd] at h1
                exact h1
            have ecb : ((s[k].toNat : Int) == (c.toNat : Int)) = false := by simpa using ec
            clear HN ec hd
            have E0 : Hid ((o + 1) = 0) := e0
            clear e0
            go_wp2
            go_roundw
            case rel => exact ⟨k + 1, (o + 1), a, by omega, by go_num, by go_num, by go_num, by omega, by omega, HF, by first | rfl | trivial⟩
            case measure => simp [intOf]; omega
        · have e0b : ((o + 1) == 0) = false := by simpa using e0
          by_cases ec : (s[k].toNat : Int) = (c.toNat : Int)
          · have HF : Hid (lastF c (o + 1) a (k + 1) (s.toList.drop (k + 1)) = lastL c s.toList) := by
                have h1 := HN.out
                rw [if_neg (fun h => by omega), hd] at h1
                exact h1
            have ecb : ((s[k].toNat : Int) == (c.toNat : Int)) = true := by simpa using ec
            clear HN ec hd e0
            go_wp2
            go_roundw
            case rel => exact ⟨k + 1, (o + 1), a, by omega, by go_num, by go_num, by go_num, by omega, by omega, HF, by first | rfl | trivial⟩
            case measure => simp [intOf]; omega
          · have HF : Hid (lastF c (o + 1) a (k + 1) (s.toList.drop (k + 1)) = lastL c s.toList) := by
                have h1 := HN.out
                rw [if_neg (fun h => ec (u8_eq.1 h.2)), hd] at h1
                exact h1
            have ecb : ((s[k].toNat : Int) == (c.toNat : Int)) = false := by simpa using ec
            clear HN ec hd e0
            go_wp2
            go_roundw
            case rel => exact ⟨k + 1, (o + 1), a, by omega, by go_num, by go_num, by go_num, by omega, by omega, HF, by first | rfl | trivial⟩
            case measure => simp [intOf]; omega
      by_cases h41 : (s[k].toNat : Int) = 41
      · have hd : dl s[k] = -1 := dl_41 h41
        have hb0 : ((s[k].toNat : Int) == 40) = false := by simpa using h40
        have hb1 : ((s[k].toNat : Int) == 41) = true := by simp [h41]
        clear h40
        clear h41
        by_cases e0 : (o - 1) = 0
        · have e0b : ((o - 1) == 0) = true := by simpa using e0
          by_cases ec : (s[k].toNat : Int) = (c.toNat : Int)
          · have HF : Hid (lastF c (o - 1) (k : Int) (k + 1) (s.toList.drop (k + 1)) = lastL c s.toList) := by
                have h1 := HN.out
                rw [if_pos ⟨by omega, u8_eq.2 ec⟩, hd] at h1
                exact h1
            have ecb : ((s[k].toNat : Int) == (c.toNat : Int)) = true := by simpa using ec
            clear HN ec hd
            have E0 : Hid ((o - 1) = 0) := e0
            clear e0
            go_wp2
            go_roundw
            case rel => exact ⟨k + 1, (o - 1), (k : Int), by omega, by go_num, by go_num, by go_num, by omega, by omega, HF, by first | rfl | trivial⟩
            case measure => simp [intOf]; omega
          · have HF : Hid (lastF c (o - 1) a (k + 1) (s.toList.drop (k + 1)) = lastL c s.toList) := by
                have h1 := HN.out
                rw [if_neg (fun h => ec (u8_eq.1 h.2)), hd] at h1
                exact h1
            have ecb : ((s[k].toNat : Int) == (c.toNat : Int)) = false := by simpa using ec
            clear HN ec hd
            have E0 : Hid ((o - 1) = 0) := e0
            clear e0
            go_wp2
            go_roundw
            case rel => exact ⟨k + 1, (o - 1), a, by omega, by go_num, by go_num, by go_num, by omega, by omega, HF, by first | rfl | trivial⟩
            case measure => simp [intOf]; omega
        · have e0b : ((o - 1) == 0) = false := by simpa using e0
          by_cases ec : (s[k].toNat : Int) = (c.toNat : Int)
          · have HF : Hid (lastF c (o - 1) a (k + 1) (s.toList.drop (k + 1)) = lastL c s.toList) := by
                have h1 := HN.out
                rw [if_neg (fun h => by omega), hd] at h1
                exact h1
            have ecb : ((s[k].toNat : Int) == (c.toNat : Int)) = true := by simpa using ec
            clear HN ec hd e0
            go_wp2
            go_roundw
            case rel => exact ⟨k + 1, (o - 1), a, by omega, by go_num, by go_num, by go_num, by omega, by omega, HF, by first | rfl | trivial⟩
            case measure => simp [intOf]; omega
          · have HF : Hid (lastF c (o - 1) a (k + 1) (s.toList.drop (k + 1)) = lastL c s.toList) := by
                have h1 := HN.out
                rw [if_neg (fun h => ec (u8_eq.1 h.2)), hd] at h1
                exact h1
            have ecb : ((s[k].toNat : Int) == (c.toNat : Int)) = false := by simpa using ec
            clear HN ec hd e0
            go_wp2
            go_roundw
            case rel => exact ⟨k + 1, (o - 1), a, by omega, by go_num, by go_num, by go_num, by omega, by omega, HF, by first | rfl | trivial⟩
            case measure => simp [intOf]; omega
      · have hd : dl s[k] = 0 := dl_no h40 h41
        have hb0 : ((s[k].toNat : Int) == 40) = false := by simpa using h40
        have hb1 : ((s[k].toNat : Int) == 41) = false := by simpa using h41
        clear h40
        clear h41
        by_cases e0 : o = 0
        · have e0b : (o == 0) = true := by simpa using e0
          by_cases ec : (s[k].toNat : Int) = (c.toNat : Int)
          · have HF : Hid (lastF c o (k : Int) (k + 1) (s.toList.drop (k + 1)) = lastL c s.toList) := by
                have h1 := HN.out
                rw [if_pos ⟨by omega, u8_eq.2 ec⟩, hd, Int.add_zero] at h1
                exact h1
            have ecb : ((s[k].toNat : Int) == (c.toNat : Int)) = true := by simpa using ec
            clear HN ec hd
            have E0 : Hid (o = 0) := e0
            clear e0
            go_wp2
            go_roundw
            case rel => exact ⟨k + 1, o, (k : Int), by omega, by go_num, by go_num, by go_num, by omega, by omega, HF, by first | rfl | trivial⟩
            case measure => simp [intOf]; omega
          · have HF : Hid (lastF c o a (k + 1) (s.toList.drop (k + 1)) = lastL c s.toList) := by
                have h1 := HN.out
                rw [if_neg (fun h => ec (u8_eq.1 h.2)), hd, Int.add_zero] at h1
                exact h1
            have ecb : ((s[k].toNat : Int) == (c.toNat : Int)) = false := by simpa using ec
            clear HN ec hd
            have E0 : Hid (o = 0) := e0
            clear e0
            go_wp2
            go_roundw
            case rel => exact ⟨k + 1, o, a, by omega, by go_num, by go_num, by go_num, by omega, by omega, HF, by first | rfl | trivial⟩
            case measure => simp [intOf]; omega
        · have e0b : (o == 0) = false := by simpa using e0
          by_cases ec : (s[k].toNat : Int) = (c.toNat : Int)
          · have HF : Hid (lastF c o a (k + 1) (s.toList.drop (k + 1)) = lastL c s.toList) := by
                have h1 := HN.out
                rw [if_neg (fun h => by omega), hd, Int.add_zero] at h1
                exact h1
            have ecb : ((s[k].toNat : Int) == (c.toNat : Int)) = true := by simpa using ec
            clear HN ec hd e0
            go_wp2
            go_roundw
            case rel => exact ⟨k + 1, o, a, by omega, by go_num, by go_num, by go_num, by omega, by omega, HF, by first | rfl | trivial⟩
            case measure => simp [intOf]; omega
          · have HF : Hid (lastF c o a (k + 1) (s.toList.drop (k + 1)) = lastL c s.toList) := by
                have h1 := HN.out
                rw [if_neg (fun h => ec (u8_eq.1 h.2)), hd, Int.add_zero] at h1
                exact h1
            have ecb : ((s[k].toNat : Int) == (c.toNat : Int)) = false := by simpa using ec
            clear HN ec hd e0
            go_wp2
            go_roundw
            case rel => exact ⟨k + 1, o, a, by omega, by go_num, by go_num, by go_num, by omega, by omega, HF, by first | rfl | trivial⟩
            case measure => simp [intOf]; omega
    · have hk' : k = s.size := by omega
      subst hk'
      have HE : Hid (a = lastL c s.toList) := by
        have := hL.out
        rw [← toList_length, List.drop_length] at this
        exact this
      clear hL
      go_wp2
      go_ret
      exact ⟨congrArg (fun z => Ending.returned (.int .i64 z)) HE.out, rfl⟩

set_option maxHeartbeats 4000000 in
theorem rWhole_any (s : ByteArray) (hs : s.size ≤ 1000) (w : World) :
    Calls Tryz.prog 70 #[.string s] w fun e w' => e = .returned (.bool (wholeL s.toList)) ∧ w' = w := by
  go_enter Tryz.func70, Tryz.ntmps70
  go_wp2
  go_loopw [3, 4] (fun ov iv wr => ∃ (k : Nat) (o : Int), k ≤ s.size ∧ ov = .int .i64 o ∧ iv = .int .i64 k ∧ -(k : Int) ≤ o ∧ o ≤ k ∧ Hid (whl o (s.toList.drop k) = whl 0 s.toList) ∧ wr = w) (fun _ iv _ => s.size - (intOf iv).toNat)
  case atStart => exact ⟨0, 0, Nat.zero_le _, rfl, rfl, by omega, by omega, by show _ = _; rfl, rfl⟩
  case round =>
    obtain ⟨k, o, hk, rfl, rfl, ho1, ho2, hL, rfl⟩ := hrel
    by_cases hlt : k < s.size
    · have HN : Hid ((if o + dl s[k] ≤ 0 ∧ s.toList.drop (k + 1) ≠ [] then false else whl (o + dl s[k]) (s.toList.drop (k + 1))) = whl 0 s.toList) := by
        have := hL.out
        rw [drop_at s hlt] at this
        exact this
      have HR : Hid (s.toList.drop (k + 1) ≠ [] ↔ (k : Int) < (s.size : Int) - 1) := by
        show _ ↔ _
        rw [ne_eq, List.drop_eq_nil_iff, toList_length]
        omega
      clear hL
      by_cases h40 : (s[k].toNat : Int) = 40
      · have hd : dl s[k] = 1 := dl_40 h40
        have hb0 : ((s[k].toNat : Int) == 40) = true := by simp [h40]
        have hb1 : ((s[k].toNat : Int) == 41) = false := by simp [h40]
        clear h40
        by_cases e0 : (o + 1) ≤ 0
        · by_cases er : (k : Int) < (s.size : Int) - 1
          · have HF : Hid (whl 0 s.toList = false) := by
                have h1 := HN.out
                rw [hd, if_pos ⟨by omega, HR.out.2 er⟩] at h1
                exact h1.symm
            clear HN HR hd
            go_wp2
            go_ret
            exact ⟨by rw [wholeL, HF.out]; rfl, rfl⟩
          · have HF : Hid (whl (o + 1) (s.toList.drop (k + 1)) = whl 0 s.toList) := by
                have h1 := HN.out
                rw [hd, if_neg (fun h => er (HR.out.1 h.2))] at h1
                exact h1
            clear HN HR hd
            go_wp2
            go_roundw
            case rel => exact ⟨k + 1, (o + 1), by omega, by go_num, by go_num, by omega, by omega, HF, by first | rfl | trivial⟩
            case measure => simp [intOf]; omega
        · by_cases er : (k : Int) < (s.size : Int) - 1
          · have HF : Hid (whl (o + 1) (s.toList.drop (k + 1)) = whl 0 s.toList) := by
                have h1 := HN.out
                rw [hd, if_neg (fun h => by omega)] at h1
                exact h1
            clear HN HR hd
            go_wp2
            go_roundw
            case rel => exact ⟨k + 1, (o + 1), by omega, by go_num, by go_num, by omega, by omega, HF, by first | rfl | trivial⟩
            case measure => simp [intOf]; omega
          · have HF : Hid (whl (o + 1) (s.toList.drop (k + 1)) = whl 0 s.toList) := by
                have h1 := HN.out
                rw [hd, if_neg (fun h => by omega)] at h1
                exact h1
            clear HN HR hd
            go_wp2
            go_roundw
            case rel => exact ⟨k + 1, (o + 1), by omega, by go_num, by go_num, by omega, by omega, HF, by first | rfl | trivial⟩
            case measure => simp [intOf]; omega
      by_cases h41 : (s[k].toNat : Int) = 41
      · have hd : dl s[k] = -1 := dl_41 h41
        have hb0 : ((s[k].toNat : Int) == 40) = false := by simpa using h40
        have hb1 : ((s[k].toNat : Int) == 41) = true := by simp [h41]
        clear h40
        clear h41
        by_cases e0 : (o - 1) ≤ 0
        · by_cases er : (k : Int) < (s.size : Int) - 1
          · have HF : Hid (whl 0 s.toList = false) := by
                have h1 := HN.out
                rw [hd, if_pos ⟨by omega, HR.out.2 er⟩] at h1
                exact h1.symm
            clear HN HR hd
            go_wp2
            go_ret
            exact ⟨by rw [wholeL, HF.out]; rfl, rfl⟩
          · have HF : Hid (whl (o - 1) (s.toList.drop (k + 1)) = whl 0 s.toList) := by
                have h1 := HN.out
                rw [hd, if_neg (fun h => er (HR.out.1 h.2))] at h1
                exact h1
            clear HN HR hd
            go_wp2
            go_roundw
            case rel => exact ⟨k + 1, (o - 1), by omega, by go_num, by go_num, by omega, by omega, HF, by first | rfl | trivial⟩
            case measure => simp [intOf]; omega
        · by_cases er : (k : Int) < (s.size : Int) - 1
          · have HF : Hid (whl (o - 1) (s.toList.drop (k + 1)) = whl 0 s.toList) := by
                have h1 := HN.out
                rw [hd, if_neg (fun h => by omega)] at h1
                exact h1
            clear HN HR hd
            go_wp2
            go_roundw
            case rel => exact ⟨k + 1, (o - 1), by omega, by go_num, by go_num, by omega, by omega, HF, by first | rfl | trivial⟩
            case measure => simp [intOf]; omega
          · have HF : Hid (whl (o - 1) (s.toList.drop (k + 1)) = whl 0 s.toList) := by
                have h1 := HN.out
                rw [hd, if_neg (fun h => by omega)] at h1
                exact h1
            clear HN HR hd
            go_wp2
            go_roundw
            case rel => exact ⟨k + 1, (o - 1), by omega, by go_num, by go_num, by omega, by omega, HF, by first | rfl | trivial⟩
            case measure => simp [intOf]; omega
      · have hd : dl s[k] = 0 := dl_no h40 h41
        have hb0 : ((s[k].toNat : Int) == 40) = false := by simpa using h40
        have hb1 : ((s[k].toNat : Int) == 41) = false := by simpa using h41
        clear h40
        clear h41
        by_cases e0 : o ≤ 0
        · by_cases er : (k : Int) < (s.size : Int) - 1
          · have HF : Hid (whl 0 s.toList = false) := by
                have h1 := HN.out
                rw [hd, if_pos ⟨by omega, HR.out.2 er⟩] at h1
                exact h1.symm
            clear HN HR hd
            go_wp2
            go_ret
            exact ⟨by rw [wholeL, HF.out]; rfl, rfl⟩
          · have HF : Hid (whl o (s.toList.drop (k + 1)) = whl 0 s.toList) := by
                have h1 := HN.out
                rw [hd, if_neg (fun h => er (HR.out.1 h.2)), Int.add_zero] at h1
                exact h1
            clear HN HR hd
            go_wp2
            go_roundw
            case rel => exact ⟨k + 1, o, by omega, by go_num, by go_num, by omega, by omega, HF, by first | rfl | trivial⟩
            case measure => simp [intOf]; omega
        · by_cases er : (k : Int) < (s.size : Int) - 1
          · have HF : Hid (whl o (s.toList.drop (k + 1)) = whl 0 s.toList) := by
                have h1 := HN.out
                rw [hd, if_neg (fun h => by omega), Int.add_zero] at h1
                exact h1
            clear HN HR hd
            go_wp2
            go_roundw
            case rel => exact ⟨k + 1, o, by omega, by go_num, by go_num, by omega, by omega, HF, by first | rfl | trivial⟩
            case measure => simp [intOf]; omega
          · have HF : Hid (whl o (s.toList.drop (k + 1)) = whl 0 s.toList) := by
                have h1 := HN.out
                rw [hd, if_neg (fun h => by omega), Int.add_zero] at h1
                exact h1
            clear HN HR hd
            go_wp2
            go_roundw
            case rel => exact ⟨k + 1, o, by omega, by go_num, by go_num, by omega, by omega, HF, by first | rfl | trivial⟩
            case measure => simp [intOf]; omega
    · have hk' : k = s.size := by omega
      subst hk'
      have HE : Hid (decide (o = 0) = whl 0 s.toList) := by
        have := hL.out
        rw [← toList_length, List.drop_length] at this
        exact this
      clear hL
      have HW : Hid (wholeL s.toList = (decide (o = 0) && decide (2 ≤ s.size))) := by
        show _ = _
        rw [HE.out, wholeL, toList_length]
      by_cases h0 : o = 0
      · subst h0
        by_cases h2 : (2 : Int) ≤ (s.size : Int)
        · go_wp2
          go_ret
          exact ⟨by rw [HW.out]; simp; omega, rfl⟩
        · go_wp2
          go_ret
          exact ⟨by rw [HW.out]; simp; omega, rfl⟩
      · have h0' : (o == 0) = false := by simpa using h0
        go_wp2
        go_ret
        exact ⟨by rw [HW.out]; simp [h0], rfl⟩

end Go.Proofs.YtiacnmcdfpmcfaaGreatDoor
