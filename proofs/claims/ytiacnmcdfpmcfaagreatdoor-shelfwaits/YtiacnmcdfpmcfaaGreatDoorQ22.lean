/-
  How deep expressions are.
  The functions tooDeep and Check of an expression that is new.
  What the reference reads of a text.
-/
import Derived.Test.YtiacnmcdfpmcfaaGreatDoorQ19
import Derived.Test.YtiacnmcdfpmcfaaGreatDoorQ21
import Derived.Test.YtiacnmcdfpmcfaaGreatDoorQ10
import Derived.Test.YtiacnmcdfpmcfaaGreatDoorQ20
import Derived.Test.YtiacnmcdfpmcfaaGreatDoorQ18
import Derived.Test.YtiacnmcdfpmcfaaGreatDoorQ13
import Derived.Test.YtiacnmcdfpmcfaaGreatDoorQ03
namespace Go.Proofs.YtiacnmcdfpmcfaaGreatDoor
open Go.RowKit


theorem E.depth_pos (e : E) : 1 ≤ e.depth := by cases e <;> simp [E.depth]

theorem E.alone {e : E} (h : e.ok) : aloneN e.toN.kind e.toN.text.toList e.toN.num e.toN.args.length = true := by
  have q3 : (⟨#[]⟩ : ByteArray).toList = [] := by rw [ByteArray.toList_eq]
  cases e with
  | path t =>
    obtain ⟨h1, h2⟩ := h
    simp [aloneN, E.toN, N.kind, N.text, N.num, N.args, toB_toList, digs, h1, h2]
  | num n =>
    have h : n < 1000000000000000 := h
    have h1 : (n : Int) ≤ 999999999999999 := by omega
    simp [aloneN, E.toN, N.kind, N.text, N.num, N.args, q3, h1]
  | sum a b => simp [aloneN, E.toN, N.kind, N.text, N.num, N.args, q3]
  | mul a b => simp [aloneN, E.toN, N.kind, N.text, N.num, N.args, q3]
  | call f a => simp [aloneN, E.toN, N.kind, N.text, N.num, N.args, toB_toList, h.1]

theorem fits_deep : ∀ (k : Nat) (e : E), e.ok → (fitsN k e.toN = true ↔ e.depth ≤ k) := by
  intro k
  induction k with
  | zero => intro e _; have := e.depth_pos; simp [fitsN]; omega
  | succ k ih =>
    intro e h
    rw [fitsN, E.alone h, Bool.true_and]
    cases e with
    | path t => simp [E.toN, N.args, E.depth]
    | num n => simp [E.toN, N.args, E.depth]
    | sum a b =>
      simp only [E.toN, N.args, List.all_cons, List.all_nil, Bool.and_true, Bool.and_eq_true, E.depth, ih a h.1, ih b h.2]
      omega
    | mul a b =>
      simp only [E.toN, N.args, List.all_cons, List.all_nil, Bool.and_true, Bool.and_eq_true, E.depth, ih a h.1, ih b h.2]
      omega
    | call f a =>
      simp only [E.toN, N.args, List.all_cons, List.all_nil, Bool.and_true, E.depth, ih a h.2]
      omega

theorem depth_E : ∀ (m : Nat) (e : E), depthN m e.toN = min e.depth (m + 1) := by
  intro m
  induction m with
  | zero => intro e; have := e.depth_pos; simp only [depthN]; omega
  | succ m ih =>
    intro e
    cases e with
    | path t => simp [depthN, E.toN, N.args, mx, E.depth]
    | num n => simp [depthN, E.toN, N.args, mx, E.depth]
    | sum a b => simp only [depthN, E.toN, N.args, List.map_cons, List.map_nil, mx, ih, E.depth]; omega
    | mul a b => simp only [depthN, E.toN, N.args, List.map_cons, List.map_nil, mx, ih, E.depth]; omega
    | call f a => simp only [depthN, E.toN, N.args, List.map_cons, List.map_nil, mx, ih, E.depth]; omega

/-- There are nodes so deep. -/
def hasN : Nat → List N → Prop
  | 0, ts => ts ≠ []
  | j + 1, ts => ∃ t ∈ ts, hasN j t.args

theorem has_E : ∀ (j : Nat) (e : E), j < e.depth → hasN j [e.toN] := by
  intro j
  induction j with
  | zero => intro e _; simp [hasN]
  | succ j ih =>
    intro e h
    refine ⟨e.toN, by simp, ?_⟩
    have up : ∀ (x : N) (l : List N), x ∈ l → hasN j [x] → hasN j l := by
      intro x l hx hj
      cases j with
      | zero => exact List.ne_nil_of_mem hx
      | succ j =>
        obtain ⟨t, ht, h⟩ := hj
        rw [List.mem_singleton.1 ht] at h
        exact ⟨x, hx, h⟩
    cases e with
    | path t => simp [E.depth] at h
    | num n => simp [E.depth] at h
    | sum a b =>
      simp only [E.depth] at h
      simp only [E.toN, N.args]
      by_cases ha : j < a.depth
      · exact up a.toN _ (by simp) (ih a ha)
      · exact up b.toN _ (by simp) (ih b (by omega))
    | mul a b =>
      simp only [E.depth] at h
      simp only [E.toN, N.args]
      by_cases ha : j < a.depth
      · exact up a.toN _ (by simp) (ih a ha)
      · exact up b.toN _ (by simp) (ih b (by omega))
    | call f a =>
      simp only [E.depth] at h
      simp only [E.toN, N.args]
      exact up a.toN _ (by simp) (ih a (by omega))

theorem hasN_ne : ∀ (j : Nat) (ts : List N), hasN j ts → ts ≠ [] := by
  intro j
  cases j with
  | zero => intro ts h; exact h
  | succ j => rintro ts ⟨t, ht, _⟩; exact List.ne_nil_of_mem ht

theorem cov_has {xs ys : List (Value × List N)} {j : Nat} (h : Cov xs ys) (hx : ∃ x ∈ xs, hasN (j + 1) x.2) : ∃ y ∈ ys, hasN j y.2 := by
  obtain ⟨x, hx, t, ht, hj⟩ := hx
  obtain ⟨y, hy, e⟩ := h x hx t ht (hasN_ne j _ hj)
  exact ⟨y, hy, by rw [e]; exact hj⟩

theorem G.nodes {lv : Lv} {s : List UInt8} {e : E} (h : G lv s e) : e.nodes ≤ s.length := by
  induction h with
  | @leaf s e h =>
    have hne := (leaf_wc h).2
    have hl : 0 < s.length := List.length_pos_iff.2 hne
    unfold leafE at h
    split at h
    · split at h
      · cases h
      · cases h; simp only [E.nodes]; omega
    · split at h
      · cases h; simp only [E.nodes]; omega
      · cases h
  | paren _ ih => simp; omega
  | call hn _ ih => simp [E.nodes]; omega
  | up1 _ ih => exact ih
  | mul _ _ iha ihb => simp [E.nodes]; omega
  | up2 _ ih => exact ih
  | add _ _ iha ihb => simp [E.nodes]; omega

end Go.Proofs.YtiacnmcdfpmcfaaGreatDoor

namespace Go.Proofs.YtiacnmcdfpmcfaaGreatDoor
open Go.RowKit
attribute [local go_sem] cell?_more frozen?_more setCell_more size_more tape_more drew_more drewN_more more_drew more_drewN one_out plus_out plus_end lt_one le_p2 le_p3 le_p4 le_p5 le_p6 le_p7 le_p8 le_p9 le_p10 le_p11 le_p12 le_p13 le_p14 le_p15 le_p16 le_p17 le_p18 le_p19 le_p20 le_p21 le_p22 le_p23 le_p24 le_q0 le_q1 lt_q1 le_q2 lt_q2 le_q3 lt_q3 le_q4 lt_q4 le_q5 lt_q5 le_q6 lt_q6 le_q7 lt_q7 le_q8 lt_q8 le_q9 lt_q9 le_q10 lt_q10 le_q11 lt_q11 le_q12 lt_q12 le_q13 lt_q13 le_q14 lt_q14 le_q15 lt_q15 le_q16 lt_q16 le_q17 lt_q17 le_q18 lt_q18 le_q19 lt_q19 le_q20 lt_q20 le_q21 lt_q21 le_q22 lt_q22 le_q23 lt_q23 le_q24 lt_q24


set_option maxHeartbeats 4000000 in
theorem deep_x {D : Nat} (n : N) (s : Value) (w : World) (hT : Tn (fun b => 0 < b) D w s n.args) (hx : n.text.size ≤ 9223372036854775807) (hc : ∀ d, cntN d [n] ≤ 10000) (hh : hasN 8 [n]) :
    Calls Tryz.prog 97 #[nodeV n s] w fun e w' => e = .returned (.bool true) ∧ Adds w w' := by
  obtain ⟨ao, cap, rfl⟩ := hT.shape
  have h0 : ∀ W, Adds ((w.alloc (.cells #[.int .i64 n.kind, .string n.text, .int .i64 n.num, .slice ao n.args.length cap] 81)).alloc (.cells #[.int .i64 n.kind, .string n.text, .int .i64 n.num, .slice ao n.args.length cap] 81)) W → W.cell? ⟨w.heap.size + 1 + 1, 0, none⟩ = some (.slice (some ⟨w.heap.size + 1, 0, none⟩) 1 1) → w.heap.size + 1 + 1 < W.heap.size → Lvs (fun b => 0 < b) (D + 9) W (.slice (some ⟨w.heap.size + 1 + 1, 0, none⟩) 1 1) [(.slice (some ⟨w.heap.size + 1, 0, none⟩) 1 1, [n])] := by
    intro W hA hcell hlt
    refine ⟨_, 1, rfl, Nat.le_refl _, ?_, .inr ⟨w.heap.size + 1 + 1, 0, rfl, hlt, ?_⟩⟩
    · intro x hx'
      simp only [List.mem_singleton] at hx'
      subst hx'
      have := tn_one (ok := fun b => 0 < b) (d := D + 8) (k := w.heap.size + 1) (w' := (w.alloc (.cells #[.int .i64 n.kind, .string n.text, .int .i64 n.num, .slice ao n.args.length cap] 81)).alloc (.cells #[.int .i64 n.kind, .string n.text, .int .i64 n.num, .slice ao n.args.length cap] 81)) (by simp) (Nat.succ_pos _) (fun o => by simp) ((hT.adds (by repeat (first | with_reducible exact Adds.refl _ | with_reducible refine Adds.alloc ?_ _ | with_reducible refine Adds.more ?_ _ _ | with_reducible refine Adds.drew ?_ | with_reducible refine Adds.drewN ?_ _))).up (by omega)) hx ⟨by simp, by simp, by simp, by simp⟩
      exact this.adds hA
    · intro j hj
      have : j = 0 := by simpa using hj
      subst this
      simpa using hcell
  have hw0 : ∀ d, wt d [((.slice (some ⟨w.heap.size + 1, 0, none⟩) 1 1 : Value), [n])] ≤ 10000 := fun d => by simpa [wt] using hc d
  have HB : Hid (∀ (d : Nat) (v : Value) (xs : List (Value × List N)) (W : World), Lvs (fun b => 0 < b) (d + 1) W v xs → wt (d + 1) xs ≤ 10000 → xs.length ≤ 10000 → Calls Tryz.prog 123 #[v] W fun e w' => ∃ v' ys, e = .returned v' ∧ Lvs (fun b => 0 < b) d w' v' ys ∧ wt d ys ≤ wt (d + 1) xs ∧ ys.length ≤ wt d ys ∧ Adds W w' ∧ Cov xs ys) := fun d v xs W h1 h2 h3 => below_x v xs W h1 h2 h3
  have HH : Hid (∃ x ∈ [((.slice (some ⟨w.heap.size + 1, 0, none⟩) 1 1 : Value), [n])], hasN 8 x.2) := ⟨_, List.mem_singleton.2 rfl, hh⟩
  clear hh
  have H0 : Hid _ := h0
  have HW0 : Hid _ := hw0
  clear hT hx hc h0 hw0
  obtain ⟨nk, nt, nm, na⟩ := n
  simp only [nodeV, N.kind, N.text, N.num, N.args] at *
  generalize na.length = nl at *
  go_enter Tryz.func97, Tryz.ntmps97
  go_wp2
  go_loopw [3, 7] (fun v iv wr => ∃ (j D' : Nat) (xs : List (Value × List N)), j ≤ 8 ∧ iv = .int .i64 j ∧ D' + j = D + 9 ∧ Hid (Lvs (fun b => 0 < b) D' wr v xs) ∧ Hid (wt D' xs ≤ 10000) ∧ xs.length ≤ 10000 ∧ Hid (Adds w wr) ∧ Hid (∃ x ∈ xs, hasN (8 - j) x.2)) (fun _ iv _ => 8 - (intOf iv).toNat)
  case atStart =>
    refine ⟨0, D + 9, _, by omega, rfl, rfl, H0.out _ (by repeat (first | with_reducible exact Adds.refl _ | with_reducible refine Adds.alloc ?_ _ | with_reducible refine Adds.more ?_ _ _ | with_reducible refine Adds.drew ?_ | with_reducible refine Adds.drewN ?_ _)) ?_ ?_, HW0.out _, by simp, ?_, HH.out⟩
    · exact cell_new (cs := [_]) (by rw [World.size_alloc, World.size_alloc]) rfl
    · rw [World.size_alloc, World.size_alloc, World.size_alloc]; omega
    · show Adds _ _
      repeat (first | with_reducible exact Adds.refl _ | with_reducible refine Adds.alloc ?_ _ | with_reducible refine Adds.more ?_ _ _ | with_reducible refine Adds.drew ?_ | with_reducible refine Adds.drewN ?_ _)
  case round =>
    obtain ⟨j, D', xs, hj, rfl, hD, hL, hWt, hxl, hA, hHs⟩ := hrel
    by_cases hlt : j < 8
    · obtain ⟨d, rfl⟩ : ∃ d, D' = d + 1 := ⟨D' - 1, by omega⟩
      have kB := HB.out d u3 xs wr hL.out hWt.out hxl
      clear HB H0 HW0
      have hlt' : (j : Int) < 8 := by omega
      go_wp2_with (go_at_call 123; refine kB.mono ?_; rintro e w1 ⟨v', ys, rfl, hL1, hw1, hl1, hA1, hC1⟩; have HC1 : Hid _ := hC1; clear hC1)
      go_roundw
      case rel => exact ⟨j + 1, d, ys, by omega, by go_num, by omega, hL1, Nat.le_trans hw1 hWt.out, Nat.le_trans hl1 (Nat.le_trans hw1 hWt.out), hA.out.trans hA1, cov_has HC1.out (by have := hHs.out; rw [show 8 - j = 8 - (j + 1) + 1 by omega] at this; exact this)⟩
      case measure => simp [intOf]; omega
    · have hj8 : j = 8 := by omega
      subst hj8
      obtain ⟨vo, vc, hv, _⟩ := hL.out
      have HA : Hid (Adds w wr) := hA
      have hpos : (0 : Int) < (xs.length : Int) := by
        obtain ⟨x, hx, _⟩ := hHs.out
        have := List.length_pos_of_mem hx
        omega
      clear hL hWt HB H0 HW0 hA hHs HH
      subst hv
      go_wp2
      go_ret
      exact ⟨congrArg (fun z => Ending.returned (.bool z)) (decide_eq_true (by omega : 0 < xs.length)), HA.out⟩


/-- Check of an expression that was made anew: too deep or not. -/
theorem checkx_any {D : Nat} (x : E) (s : Value) (w : World) (hT : Tn (fun b => 0 < b) D w s x.toN.args) (hok : x.ok) (hc : ∀ d, cntN d [x.toN] ≤ 10000) :
    Calls Tryz.prog 66 #[nodeV x.toN s] w fun e w' => e = .returned (.int .i64 (if x.depth ≤ 8 then 0 else 13)) ∧ Adds w w' := by
  by_cases hd : x.depth ≤ 8
  · rw [if_pos hd]
    have hf := (fits_deep 8 x hok).2 hd
    refine (checkE_any (D := D) x.toN s w (hT.weak (fun _ _ _ => trivial)) (ok_size hok) hc).mono ?_
    rintro e w' ⟨⟨y, rfl, hy⟩, hA⟩
    exact ⟨by rw [hy.2 hf], hA⟩
  · rw [if_neg hd]
    have hf : fitsN 8 x.toN = false := by
      cases hq : fitsN 8 x.toN with
      | false => rfl
      | true => exact absurd ((fits_deep 8 x hok).1 hq) hd
    have kF := fun W hA => fits_node (ok := fun b => 0 < b) 8 D x.toN s W (Nat.le_refl _) (hT.adds hA) (ok_size hok)
    have kD := fun W hA => deep_x (D := D) x.toN s W (hT.adds hA) (ok_size hok) hc (has_E 8 x (by omega))
    obtain ⟨ao, cap, rfl⟩ := hT.shape
    have h8 : ((8 : Nat) : Int) = 8 := rfl
    rw [h8, hf] at kF
    clear hT hc h8 hf hd hok
    generalize x.toN = n at *
    obtain ⟨nk, nt, nm, na⟩ := n
    simp only [nodeV, N.kind, N.text, N.num, N.args] at *
    generalize na.length = nl at *
    go_enter Tryz.func66, Tryz.ntmps66
    go_wp2_with (first
      | (go_at_call 96; refine (kF _ (by repeat (first | with_reducible exact Adds.refl _ | with_reducible refine Adds.alloc ?_ _ | with_reducible refine Adds.more ?_ _ _ | with_reducible refine Adds.drew ?_ | with_reducible refine Adds.drewN ?_ _))).mono ?_; rintro e w1 ⟨rfl, os1, n1, rfl⟩)
      | (go_at_call 97; refine (kD _ (by repeat (first | with_reducible exact Adds.refl _ | with_reducible refine Adds.alloc ?_ _ | with_reducible refine Adds.more ?_ _ _ | with_reducible refine Adds.drew ?_ | with_reducible refine Adds.drewN ?_ _))).mono ?_; rintro e w2 ⟨rfl, os2, n2, rfl⟩))
    go_ret
    exact ⟨rfl, by repeat (first | with_reducible exact Adds.refl _ | with_reducible refine Adds.alloc ?_ _ | with_reducible refine Adds.more ?_ _ _ | with_reducible refine Adds.drew ?_ | with_reducible refine Adds.drewN ?_ _)⟩

end Go.Proofs.YtiacnmcdfpmcfaaGreatDoor

namespace Go.Proofs.YtiacnmcdfpmcfaaGreatDoor
open Go.RowKit
attribute [local go_sem] cell?_more frozen?_more setCell_more size_more tape_more drew_more drewN_more more_drew more_drewN one_out plus_out plus_end lt_one le_p2 le_p3 le_p4 le_p5 le_p6 le_p7 le_p8 le_p9 le_p10 le_p11 le_p12 le_p13 le_p14 le_p15 le_p16 le_p17 le_p18 le_p19 le_p20 le_p21 le_p22 le_p23 le_p24 le_q0 le_q1 lt_q1 le_q2 lt_q2 le_q3 lt_q3 le_q4 lt_q4 le_q5 lt_q5 le_q6 lt_q6 le_q7 lt_q7 le_q8 lt_q8 le_q9 lt_q9 le_q10 lt_q10 le_q11 lt_q11 le_q12 lt_q12 le_q13 lt_q13 le_q14 lt_q14 le_q15 lt_q15 le_q16 lt_q16 le_q17 lt_q17 le_q18 lt_q18 le_q19 lt_q19 le_q20 lt_q20 le_q21 lt_q21 le_q22 lt_q22 le_q23 lt_q23 le_q24 lt_q24


/-- But for one block nothing has turned. -/
structure But1 (k : Nat) (w w' : World) : Prop where
  size : w'.heap.size = w.heap.size
  block : ∀ b, b ≠ k → w'.heap[b]? = w.heap[b]?

theorem But1.box (w : World) (o o' : Obj) : But1 w.heap.size (w.alloc o) (w.alloc o') := by
  refine ⟨by simp, fun b hb => ?_⟩
  show (w.heap.push o')[b]? = (w.heap.push o)[b]?
  rw [Array.getElem?_push, Array.getElem?_push, if_neg hb, if_neg hb]
theorem But1.more {k : Nat} {w w' : World} (h : But1 k w w') (os : Array Obj) (n : Nat) : But1 k (more w os n) (more w' os n) := by
  refine ⟨by simp [size_more, h.size], fun b hb => ?_⟩
  show (w'.heap ++ os)[b]? = (w.heap ++ os)[b]?
  rw [Array.getElem?_append, Array.getElem?_append, h.size]
  split
  · exact h.block b hb
  · rfl
theorem But1.alloc {k : Nat} {w w' : World} (h : But1 k w w') (o : Obj) : But1 k (w.alloc o) (w'.alloc o) := by
  refine ⟨by simp [h.size], fun b hb => ?_⟩
  show (w'.heap.push o)[b]? = (w.heap.push o)[b]?
  rw [Array.getElem?_push, Array.getElem?_push, h.size]
  split
  · rfl
  · exact h.block b hb

theorem Tn.but1 {B k d : Nat} {w w' : World} {s : Value} {ts : List N} (h : Tn (fun b => B ≤ b) d w s ts) (hb : But1 k w w') (hk : k < B) : Tn (fun b => B ≤ b) d w' s ts :=
  h.frame (by rw [hb.size]; exact Nat.le_refl _) (fun b hB _ => ⟨hb.block b (fun e => by subst e; exact absurd hB (by omega)), hB⟩)

/-- What the reference reads of a text. -/
def RT (B : Nat) (l : List UInt8) (k : Int) (t : ByteArray) (m : Int) (s : Value) (q : Bool) (w' : World) : Prop :=
  (q = true → ∃ x D, G .sum l x ∧ x.toN.kind = k ∧ x.toN.text = t ∧ x.toN.num = m ∧ Tn (fun b => B ≤ b) D w' s x.toN.args) ∧ (q = false → ∀ x, ¬ G .sum l x)

/-- The reference's read told of a text. -/
def Reads (m : Nat) (l : List UInt8) : Prop := ∀ W, Calls Tryz.prog 52 #[.string (toB l), .int .i64 (m : Int)] W fun e w' =>
  (∃ k t mm ao n c q, e = .returned (.tuple #[.agg #[.int .i64 k, .string t, .int .i64 mm, .slice ao n c], .bool q]) ∧ Hid (RT W.heap.size l k t mm (.slice ao n c) q w')) ∧ Adds W w'

theorem RT.adds {B : Nat} {l : List UInt8} {k : Int} {t : ByteArray} {m : Int} {s : Value} {q : Bool} {w w' : World} (h : RT B l k t m s q w) (hA : Adds w w') : RT B l k t m s q w' :=
  ⟨fun e => by obtain ⟨x, D, h1, h2, h3, h4, h5⟩ := h.1 e; exact ⟨x, D, h1, h2, h3, h4, h5.adds hA⟩, h.2⟩
theorem RT.but1 {B b : Nat} {l : List UInt8} {k : Int} {t : ByteArray} {m : Int} {s : Value} {q : Bool} {w w' : World} (h : RT B l k t m s q w) (hb : But1 b w w') (hB : b < B) : RT B l k t m s q w' :=
  ⟨fun e => by obtain ⟨x, D, h1, h2, h3, h4, h5⟩ := h.1 e; exact ⟨x, D, h1, h2, h3, h4, h5.but1 hb hB⟩, h.2⟩
theorem RT.low {B B' : Nat} {l : List UInt8} {k : Int} {t : ByteArray} {m : Int} {s : Value} {q : Bool} {w : World} (h : RT B l k t m s q w) (hB : B' ≤ B) : RT B' l k t m s q w :=
  ⟨fun e => by obtain ⟨x, D, h1, h2, h3, h4, h5⟩ := h.1 e; exact ⟨x, D, h1, h2, h3, h4, h5.weak (fun b hb _ => Nat.le_trans hB hb)⟩, h.2⟩

theorem RT.no {B : Nat} {l : List UInt8} {k : Int} {t : ByteArray} {m : Int} {s : Value} {w : World} (h : ∀ x, ¬ G .sum l x) : RT B l k t m s false w := ⟨fun e => (by cases e), fun _ => h⟩

theorem G.small {l : List UInt8} {x : E} (h : G .sum l x) : x.toN.text.size ≤ 9223372036854775807 := ok_size h.ok

/-- A list of two that were read. -/
theorem rt_two {B : Nat} {p q : List UInt8} {k1 k2 m1 m2 : Int} {t1 t2 : ByteArray} {s1 s2 : Value} {W X : World} {g : Nat} (h1 : RT B p k1 t1 m1 s1 true W) (h2 : RT B q k2 t2 m2 s2 true W) (hA : Adds W X) (hg : g = X.heap.size) (hB : B ≤ g) :
    ∃ x y D, G .sum p x ∧ G .sum q y ∧ Tn (fun b => B ≤ b) D (X.alloc (.cells #[.int .i64 k1, .string t1, .int .i64 m1, s1, .int .i64 k2, .string t2, .int .i64 m2, s2] 81)) (.slice (some ⟨g, 0, none⟩) 2 2) [x.toN, y.toN] := by
  obtain ⟨x, D1, g1, rfl, rfl, rfl, T1⟩ := h1.1 rfl
  obtain ⟨y, D2, g2, rfl, rfl, rfl, T2⟩ := h2.1 rfl
  exact ⟨x, y, max D1 D2 + 1, g1, g2, two_end (T1.up (Nat.le_max_left _ _)) (T2.up (Nat.le_max_right _ _)) hA hg hB g1.small g2.small⟩

theorem rt_one {B : Nat} {p : List UInt8} {k1 m1 : Int} {t1 : ByteArray} {s1 : Value} {W X : World} {g : Nat} (h1 : RT B p k1 t1 m1 s1 true W) (hA : Adds W X) (hg : g = X.heap.size) (hB : B ≤ g) :
    ∃ x D, G .sum p x ∧ Tn (fun b => B ≤ b) D (X.alloc (.cells #[.int .i64 k1, .string t1, .int .i64 m1, s1] 81)) (.slice (some ⟨g, 0, none⟩) 1 1) [x.toN] := by
  obtain ⟨x, D1, g1, rfl, rfl, rfl, T1⟩ := h1.1 rfl
  exact ⟨x, D1 + 1, g1, one_end T1 hA hg hB g1.small⟩

/-- Of a sum or a product: the two behind each other, and the box of the answer set anew. -/
theorem rt_pair {W : World} {o o' : Obj} {os2 os3 : Array Obj} {d2 d3 : Nat} {l p q : List UInt8} {oa ob : Obj} {k1 k2 m1 m2 : Int} {t1 t2 : ByteArray} {s1 s2 : Value} {q2 : Bool} {g : Nat} {kd : Int} (mk : E → E → E) (hmk : ∀ x y, (mk x y).toN = .mk kd ⟨#[]⟩ 0 [x.toN, y.toN])
    (hI : ∀ e, G .sum l e ↔ ∃ x y, e = mk x y ∧ G .sum p x ∧ G .sum q y)
    (h1 : RT (W.alloc o).heap.size p k1 t1 m1 s1 true (more (W.alloc o) os2 d2)) (h2 : RT ((more (W.alloc o) os2 d2).alloc oa).heap.size q k2 t2 m2 s2 q2 (more ((more (W.alloc o) os2 d2).alloc oa) os3 d3)) (hg : g = ((more ((more (W.alloc o) os2 d2).alloc oa) os3 d3).alloc ob).heap.size) :
    RT W.heap.size l kd ⟨#[]⟩ 0 (.slice (some ⟨g, 0, none⟩) 2 2) q2 (((more ((more (W.alloc o') os2 d2).alloc oa) os3 d3).alloc ob).alloc (.cells #[.int .i64 k1, .string t1, .int .i64 m1, s1, .int .i64 k2, .string t2, .int .i64 m2, s2] 81)) := by
  have hb := ((But1.box W o o').more os2 d2)
  have hb3 := (hb.alloc oa).more os3 d3
  have e1 : W.heap.size < (W.alloc o).heap.size := by simp
  have e2 : W.heap.size < ((more (W.alloc o) os2 d2).alloc oa).heap.size := by simp [size_more]; omega
  have h1' := ((h1.but1 hb e1).adds ((((Adds.refl _).alloc oa).more os3 d3))).low (Nat.le_of_lt e1)
  have h2' := (h2.but1 hb3 e2).low (Nat.le_of_lt e2)
  cases q2 with
  | true =>
    obtain ⟨x, y, D, g1, g2, T⟩ := rt_two (X := (more ((more (W.alloc o') os2 d2).alloc oa) os3 d3).alloc ob) (g := g) h1' h2' ((Adds.refl _).alloc ob) (by rw [hg]; simp [size_more]) (by rw [hg]; simp [size_more]; omega)
    refine ⟨fun _ => ⟨mk x y, D, (hI _).2 ⟨x, y, rfl, g1, g2⟩, ?_⟩, fun h => by cases h⟩
    rw [hmk]
    exact ⟨rfl, rfl, rfl, T⟩
  | false =>
    refine RT.no (fun e he => ?_)
    obtain ⟨x, y, rfl, g1, g2⟩ := (hI e).1 he
    exact h2.2 rfl y g2

theorem ext_head {p q : List UInt8} {c : UInt8} : (toB (p ++ c :: q)).extract 0 p.length = toB p := toList_inj (by rw [extract_L, toB_toList, toB_toList]; simp)
theorem drop_mid {p q : List UInt8} {c : UInt8} : (p ++ c :: q).drop (p.length + 1) = q := by
  rw [show p ++ c :: q = (p ++ [c]) ++ q by simp, show p.length + 1 = (p ++ [c]).length by simp]
  exact List.drop_left
theorem ext_tail {p q : List UInt8} {c : UInt8} : (toB (p ++ c :: q)).extract (p.length + 1) (toB (p ++ c :: q)).size = toB q := toList_inj (by rw [extract_L, toB_toList, toB_toList, toB_size, List.take_length, drop_mid])

end Go.Proofs.YtiacnmcdfpmcfaaGreatDoor
