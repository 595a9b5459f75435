/-
  The functions fitsAlone and fits, by contracts.
-/
import Derived.Test.YtiacnmcdfpmcfaaGreatDoorNode
namespace Go.Proofs.YtiacnmcdfpmcfaaGreatDoor
open Go.RowKit
attribute [local go_sem] cell?_more frozen?_more setCell_more size_more tape_more drew_more drewN_more more_drew more_drewN one_out plus_out plus_end lt_one le_p2 le_p3 le_p4 le_p5 le_p6 le_p7 le_p8 le_p9 le_p10 le_p11 le_p12 le_p13 le_p14 le_p15 le_p16 le_p17 le_p18 le_p19 le_p20 le_p21 le_p22 le_p23 le_p24 le_q0 le_q1 lt_q1 le_q2 lt_q2 le_q3 lt_q3 le_q4 lt_q4 le_q5 lt_q5 le_q6 lt_q6 le_q7 lt_q7 le_q8 lt_q8 le_q9 lt_q9 le_q10 lt_q10 le_q11 lt_q11 le_q12 lt_q12 le_q13 lt_q13 le_q14 lt_q14 le_q15 lt_q15 le_q16 lt_q16 le_q17 lt_q17 le_q18 lt_q18 le_q19 lt_q19 le_q20 lt_q20 le_q21 lt_q21 le_q22 lt_q22 le_q23 lt_q23 le_q24 lt_q24


/-- May a node be, but for what its Args are? -/
def aloneN (k : Int) (t : List UInt8) (n : Int) (a : Nat) : Bool :=
  if k = 1 then pathL t && !digs t && (n == 0) && ((a : Int) == 0)
  else if k = 2 then decide (0 ≤ n) && decide (n ≤ 999999999999999) && (t == []) && ((a : Int) == 0)
  else if k = 3 ∨ k = 4 then (t == []) && (n == 0) && ((a : Int) == 2)
  else if k = 5 then isName t && (n == 0) && ((a : Int) == 1)
  else false

set_option maxHeartbeats 1000000 in
theorem alone_path (t : ByteArray) (ht : t.size ≤ 9223372036854775807) (n : Int) (ao : Option Addr) (a c : Nat) (w : World) :
    Calls Tryz.prog 122 #[.agg #[.int .i64 1, .string t, .int .i64 n, .slice ao a c]] w fun e w' => e = .returned (.bool (pathL t.toList && !digs t.toList && (n == 0) && ((a : Int) == 0))) ∧ Adds w w' := by
  have kP := path_any t
  rw [isPath_L] at kP
  have kD := allDig_any t ht
  generalize pathL t.toList = q1 at *
  generalize digs t.toList = q2 at *
  generalize hbn : (n == 0) = bn at *
  generalize hba : ((a : Int) == 0) = ba at *
  cases q1
  · go_enter Tryz.func122, Tryz.ntmps122
    go_wp2_with (first
      | (go_at_call 121; refine (kP _).mono ?_; rintro e w1 ⟨rfl, hw⟩; subst w1))
    go_ret
    exact ⟨rfl, by repeat (first | with_reducible exact Adds.refl _ | with_reducible refine Adds.alloc ?_ _ | with_reducible refine Adds.more ?_ _ _ | with_reducible refine Adds.drew ?_ | with_reducible refine Adds.drewN ?_ _)⟩
  · cases q2
    · cases bn
      · go_enter Tryz.func122, Tryz.ntmps122
        go_wp2_with (first
          | (go_at_call 121; refine (kP _).mono ?_; rintro e w1 ⟨rfl, hw⟩; subst w1)
          | (go_at_call 120; refine (kD _).mono ?_; rintro e w1 ⟨rfl, hw⟩; subst w1))
        go_ret
        exact ⟨rfl, by repeat (first | with_reducible exact Adds.refl _ | with_reducible refine Adds.alloc ?_ _ | with_reducible refine Adds.more ?_ _ _ | with_reducible refine Adds.drew ?_ | with_reducible refine Adds.drewN ?_ _)⟩
      · go_enter Tryz.func122, Tryz.ntmps122
        go_wp2_with (first
          | (go_at_call 121; refine (kP _).mono ?_; rintro e w1 ⟨rfl, hw⟩; subst w1)
          | (go_at_call 120; refine (kD _).mono ?_; rintro e w1 ⟨rfl, hw⟩; subst w1))
        go_ret
        exact ⟨rfl, by repeat (first | with_reducible exact Adds.refl _ | with_reducible refine Adds.alloc ?_ _ | with_reducible refine Adds.more ?_ _ _ | with_reducible refine Adds.drew ?_ | with_reducible refine Adds.drewN ?_ _)⟩
    · go_enter Tryz.func122, Tryz.ntmps122
      go_wp2_with (first
        | (go_at_call 121; refine (kP _).mono ?_; rintro e w1 ⟨rfl, hw⟩; subst w1)
        | (go_at_call 120; refine (kD _).mono ?_; rintro e w1 ⟨rfl, hw⟩; subst w1))
      go_ret
      exact ⟨rfl, by repeat (first | with_reducible exact Adds.refl _ | with_reducible refine Adds.alloc ?_ _ | with_reducible refine Adds.more ?_ _ _ | with_reducible refine Adds.drew ?_ | with_reducible refine Adds.drewN ?_ _)⟩

set_option maxHeartbeats 1000000 in
theorem alone_num (t : ByteArray) (n : Int) (ao : Option Addr) (a c : Nat) (w : World) :
    Calls Tryz.prog 122 #[.agg #[.int .i64 2, .string t, .int .i64 n, .slice ao a c]] w fun e w' => e = .returned (.bool (decide (0 ≤ n) && decide (n ≤ 999999999999999) && (t.toList == []) && ((a : Int) == 0))) ∧ Adds w w' := by
  by_cases h1 : 0 ≤ n
  · by_cases h2 : n ≤ 999999999999999
    · rw [decide_eq_true h1, decide_eq_true h2]
      cases hbt : (t.toList == [])
      · go_enter Tryz.func122, Tryz.ntmps122
        go_wp2
        go_ret
        exact ⟨rfl, by repeat (first | with_reducible exact Adds.refl _ | with_reducible refine Adds.alloc ?_ _ | with_reducible refine Adds.more ?_ _ _ | with_reducible refine Adds.drew ?_ | with_reducible refine Adds.drewN ?_ _)⟩
      · cases hba : ((a : Int) == 0)
        all_goals
          go_enter Tryz.func122, Tryz.ntmps122
          go_wp2
          go_ret
          exact ⟨rfl, by repeat (first | with_reducible exact Adds.refl _ | with_reducible refine Adds.alloc ?_ _ | with_reducible refine Adds.more ?_ _ _ | with_reducible refine Adds.drew ?_ | with_reducible refine Adds.drewN ?_ _)⟩
    · rw [decide_eq_true h1, decide_eq_false h2]
      go_enter Tryz.func122, Tryz.ntmps122
      go_wp2
      go_ret
      exact ⟨rfl, by repeat (first | with_reducible exact Adds.refl _ | with_reducible refine Adds.alloc ?_ _ | with_reducible refine Adds.more ?_ _ _ | with_reducible refine Adds.drew ?_ | with_reducible refine Adds.drewN ?_ _)⟩
  · rw [decide_eq_false h1]
    go_enter Tryz.func122, Tryz.ntmps122
    go_wp2
    go_ret
    exact ⟨rfl, by repeat (first | with_reducible exact Adds.refl _ | with_reducible refine Adds.alloc ?_ _ | with_reducible refine Adds.more ?_ _ _ | with_reducible refine Adds.drew ?_ | with_reducible refine Adds.drewN ?_ _)⟩

set_option maxHeartbeats 1000000 in
theorem alone_two (k : Int) (hk : k = 3 ∨ k = 4) (t : ByteArray) (n : Int) (ao : Option Addr) (a c : Nat) (w : World) :
    Calls Tryz.prog 122 #[.agg #[.int .i64 k, .string t, .int .i64 n, .slice ao a c]] w fun e w' => e = .returned (.bool ((t.toList == []) && (n == 0) && ((a : Int) == 2))) ∧ Adds w w' := by
  cases hbt : (t.toList == [])
  · rcases hk with rfl | rfl
    all_goals
      go_enter Tryz.func122, Tryz.ntmps122
      go_wp2
      go_ret
      exact ⟨rfl, by repeat (first | with_reducible exact Adds.refl _ | with_reducible refine Adds.alloc ?_ _ | with_reducible refine Adds.more ?_ _ _ | with_reducible refine Adds.drew ?_ | with_reducible refine Adds.drewN ?_ _)⟩
  · cases hbn : (n == 0)
    · rcases hk with rfl | rfl
      all_goals
        go_enter Tryz.func122, Tryz.ntmps122
        go_wp2
        go_ret
        exact ⟨rfl, by repeat (first | with_reducible exact Adds.refl _ | with_reducible refine Adds.alloc ?_ _ | with_reducible refine Adds.more ?_ _ _ | with_reducible refine Adds.drew ?_ | with_reducible refine Adds.drewN ?_ _)⟩
    · cases hba : ((a : Int) == 2)
      all_goals
        rcases hk with rfl | rfl
        all_goals
          go_enter Tryz.func122, Tryz.ntmps122
          go_wp2
          go_ret
          exact ⟨rfl, by repeat (first | with_reducible exact Adds.refl _ | with_reducible refine Adds.alloc ?_ _ | with_reducible refine Adds.more ?_ _ _ | with_reducible refine Adds.drew ?_ | with_reducible refine Adds.drewN ?_ _)⟩

set_option maxHeartbeats 1000000 in
theorem alone_call (t : ByteArray) (n : Int) (ao : Option Addr) (a c : Nat) (w : World) :
    Calls Tryz.prog 122 #[.agg #[.int .i64 5, .string t, .int .i64 n, .slice ao a c]] w fun e w' => e = .returned (.bool (isName t.toList && (n == 0) && ((a : Int) == 1))) ∧ Adds w w' := by
  have kN := isName_any t
  generalize isName t.toList = q at *
  cases q
  · go_enter Tryz.func122, Tryz.ntmps122
    go_wp2_with (go_at_call 89; refine (kN _).mono ?_; rintro e w1 ⟨rfl, hw⟩; subst w1)
    go_ret
    exact ⟨rfl, by repeat (first | with_reducible exact Adds.refl _ | with_reducible refine Adds.alloc ?_ _ | with_reducible refine Adds.more ?_ _ _ | with_reducible refine Adds.drew ?_ | with_reducible refine Adds.drewN ?_ _)⟩
  · cases hbn : (n == 0)
    · go_enter Tryz.func122, Tryz.ntmps122
      go_wp2_with (go_at_call 89; refine (kN _).mono ?_; rintro e w1 ⟨rfl, hw⟩; subst w1)
      go_ret
      exact ⟨rfl, by repeat (first | with_reducible exact Adds.refl _ | with_reducible refine Adds.alloc ?_ _ | with_reducible refine Adds.more ?_ _ _ | with_reducible refine Adds.drew ?_ | with_reducible refine Adds.drewN ?_ _)⟩
    · cases hba : ((a : Int) == 1)
      all_goals
        go_enter Tryz.func122, Tryz.ntmps122
        go_wp2_with (go_at_call 89; refine (kN _).mono ?_; rintro e w1 ⟨rfl, hw⟩; subst w1)
        go_ret
        exact ⟨rfl, by repeat (first | with_reducible exact Adds.refl _ | with_reducible refine Adds.alloc ?_ _ | with_reducible refine Adds.more ?_ _ _ | with_reducible refine Adds.drew ?_ | with_reducible refine Adds.drewN ?_ _)⟩

theorem alone_any (k : Int) (t : ByteArray) (ht : t.size ≤ 9223372036854775807) (n : Int) (ao : Option Addr) (a c : Nat) (w : World) :
    Calls Tryz.prog 122 #[.agg #[.int .i64 k, .string t, .int .i64 n, .slice ao a c]] w fun e w' => e = .returned (.bool (aloneN k t.toList n a)) ∧ Adds w w' := by
  by_cases h1 : k = 1
  · subst h1
    exact alone_path t ht n ao a c w
  by_cases h2 : k = 2
  · subst h2
    exact alone_num t n ao a c w
  by_cases h3 : k = 3 ∨ k = 4
  · have e : aloneN k t.toList n a = ((t.toList == []) && (n == 0) && ((a : Int) == 2)) := by simp only [aloneN, h1, h2, h3, if_false, if_true]
    rw [e]
    exact alone_two k h3 t n ao a c w
  by_cases h5 : k = 5
  · subst h5
    exact alone_call t n ao a c w
  · have e : aloneN k t.toList n a = false := by simp only [aloneN, h1, h2, h3, h5, if_false]
    rw [e]
    have h3a : ¬ k = 3 := fun h => h3 (.inl h)
    have h3b : ¬ k = 4 := fun h => h3 (.inr h)
    have b1 : (k == 1) = false := by simpa using h1
    have b2 : (k == 2) = false := by simpa using h2
    have b3 : (k == 3) = false := by simpa using h3a
    have b4 : (k == 4) = false := by simpa using h3b
    have b5 : (k == 5) = false := by simpa using h5
    go_enter Tryz.func122, Tryz.ntmps122
    go_wp2
    go_ret
    exact ⟨rfl, by repeat (first | with_reducible exact Adds.refl _ | with_reducible refine Adds.alloc ?_ _ | with_reducible refine Adds.more ?_ _ _ | with_reducible refine Adds.drew ?_ | with_reducible refine Adds.drewN ?_ _)⟩

/-- Fits a node, with so many levels at most? -/
def fitsN : Nat → N → Bool
  | 0, _ => false
  | k + 1, n => aloneN n.kind n.text.toList n.num n.args.length && n.args.all (fitsN k)

theorem alone_len {k : Int} {t : List UInt8} {n : Int} {a : Nat} (h : aloneN k t n a = true) : a ≤ 2 := by
  unfold aloneN at h
  split at h
  · simp at h; omega
  split at h
  · simp at h; omega
  split at h
  · simp at h; omega
  split at h
  · simp at h; omega
  · cases h

set_option maxHeartbeats 2000000 in
theorem fits_node {ok : Nat → Prop} (k : Nat) : ∀ (d : Nat) (n : N) (s : Value) (w : World), k ≤ 8 → Tn ok d w s n.args → n.text.size ≤ 9223372036854775807 →
    Calls Tryz.prog 96 #[nodeV n s, .int .i64 k] w fun e w' => e = .returned (.bool (fitsN k n)) ∧ Adds w w' := by
  induction k with
  | zero =>
    intro d n s w _ hT hx
    obtain ⟨ao, cap, rfl⟩ := hT.shape
    obtain ⟨nk, nt, nm, na⟩ := n
    simp only [nodeV, N.kind, N.text, N.num, N.args] at *
    clear hT hx
    go_enter Tryz.func96, Tryz.ntmps96
    go_wp2
    go_ret
    exact ⟨rfl, by repeat (first | with_reducible exact Adds.refl _ | with_reducible refine Adds.alloc ?_ _ | with_reducible refine Adds.more ?_ _ _ | with_reducible refine Adds.drew ?_ | with_reducible refine Adds.drewN ?_ _)⟩
  | succ k ih =>
    intro d n s w hk8 hT hx
    obtain ⟨ao, cap, rfl⟩ := hT.shape
    have kA := alone_any n.kind n.text hx n.num ao n.args.length cap
    have hF : fitsN (k + 1) n = (aloneN n.kind n.text.toList n.num n.args.length && n.args.all (fitsN k)) := rfl
    rw [hF]
    clear hF
    have hl := @alone_len n.kind n.text.toList n.num n.args.length
    obtain ⟨nk, nt, nm, ts⟩ := n
    simp only [nodeV, N.kind, N.text, N.num, N.args] at *
    clear hx
    have hk1 : ((k + 1 : Nat) : Int) = (k : Int) + 1 := by omega
    rw [hk1]
    have hkz : ((k : Int) + 1 == 0) = false := by simp; omega
    generalize aloneN nk nt.toList nm ts.length = q at *
    cases q
    · clear hl ih hT
      go_enter Tryz.func96, Tryz.ntmps96
      go_wp2_with (go_at_call 122; refine (kA _).mono ?_; rintro e w1 ⟨rfl, os1, n1, rfl⟩)
      go_ret
      exact ⟨rfl, by repeat (first | with_reducible exact Adds.refl _ | with_reducible refine Adds.alloc ?_ _ | with_reducible refine Adds.more ?_ _ _ | with_reducible refine Adds.drew ?_ | with_reducible refine Adds.drewN ?_ _)⟩
    · have h2 := hl rfl
      clear hl
      simp only [Bool.true_and]
      go_enter Tryz.func96, Tryz.ntmps96
      go_wp2_with (go_at_call 122; refine (kA _).mono ?_; rintro e w1 ⟨rfl, os1, n1, rfl⟩)
      go_loopw [17] (fun iv wr => ∃ j : Nat, j ≤ ts.length ∧ iv = .int .i64 j ∧ (ts.drop j).all (fitsN k) = ts.all (fitsN k) ∧ Adds (w.alloc (.cells #[.int .i64 nk, .string nt, .int .i64 nm, .slice ao ts.length cap] 81)) wr) (fun iv _ => ts.length - (intOf iv).toNat)
      case atStart => exact ⟨0, Nat.zero_le _, rfl, by simp, by repeat (first | with_reducible exact Adds.refl _ | with_reducible refine Adds.alloc ?_ _ | with_reducible refine Adds.more ?_ _ _ | with_reducible refine Adds.drew ?_ | with_reducible refine Adds.drewN ?_ _)⟩
      case round =>
        obtain ⟨j, hj, rfl, hall, os, m, rfl⟩ := hrel
        by_cases hlt : j < ts.length
        · obtain ⟨e, b1, o1, x, he, rfl, hb1, ⟨c0, c1, c2, c3⟩, hsz, htx⟩ := hT.elem hlt
          have kR := fun W (hA : Adds w W) => ih e ts[j] x W (by omega) (htx.adds hA) hsz
          have HN : Hid (ts.all (fitsN k) = (fitsN k ts[j] && (ts.drop (j + 1)).all (fitsN k))) := by
            show _ = _
            rw [← hall, List.drop_eq_getElem_cons hlt]
            rfl
          obtain ⟨xo, xc, rfl⟩ := htx.shape
          (try simp only [nodeV] at kR)
          clear htx he hT hall ih kA hsz
          generalize fitsN k ts[j] = q1 at *
          generalize ts[j] = p at *
          cases q1
          · go_wp2_with (go_at_call 96; refine (kR _ (by repeat (first | with_reducible exact Adds.refl _ | with_reducible refine Adds.alloc ?_ _ | with_reducible refine Adds.more ?_ _ _ | with_reducible refine Adds.drew ?_ | with_reducible refine Adds.drewN ?_ _))).mono ?_; rintro e w2 ⟨rfl, os2, n2, rfl⟩)
            go_ret
            exact ⟨by rw [HN.out]; rfl, by repeat (first | with_reducible exact Adds.refl _ | with_reducible refine Adds.alloc ?_ _ | with_reducible refine Adds.more ?_ _ _ | with_reducible refine Adds.drew ?_ | with_reducible refine Adds.drewN ?_ _)⟩
          · go_wp2_with (go_at_call 96; refine (kR _ (by repeat (first | with_reducible exact Adds.refl _ | with_reducible refine Adds.alloc ?_ _ | with_reducible refine Adds.more ?_ _ _ | with_reducible refine Adds.drew ?_ | with_reducible refine Adds.drewN ?_ _))).mono ?_; rintro e w2 ⟨rfl, os2, n2, rfl⟩)
            go_roundw
            case rel => exact ⟨j + 1, by omega, by go_num, by rw [HN.out]; rfl, by repeat (first | with_reducible exact Adds.refl _ | with_reducible refine Adds.alloc ?_ _ | with_reducible refine Adds.more ?_ _ _ | with_reducible refine Adds.drew ?_ | with_reducible refine Adds.drewN ?_ _)⟩
            case measure => simp [intOf]; omega
        · have hj' : j = ts.length := by omega
          subst hj'
          have hq : ts.all (fitsN k) = true := by rw [← hall]; simp
          have HQ : Hid _ := hq
          clear hall hq
          go_wp2
          go_ret
          exact ⟨by rw [HQ.out]; rfl, by repeat (first | with_reducible exact Adds.refl _ | with_reducible refine Adds.alloc ?_ _ | with_reducible refine Adds.more ?_ _ _ | with_reducible refine Adds.drew ?_ | with_reducible refine Adds.drewN ?_ _)⟩

end Go.Proofs.YtiacnmcdfpmcfaaGreatDoor
