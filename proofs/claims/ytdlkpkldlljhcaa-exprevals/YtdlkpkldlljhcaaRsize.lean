/-
  The law's size, by a contract.
-/
import Derived.Test.YtdlkpkldlljhcaaAlone
import Derived.Test.YtdlkpkldlljhcaaDeep
namespace Go.Proofs.Ytdlkpkldlljhcaa
open Go.RowKit
attribute [local go_sem] cell?_more frozen?_more setCell_more size_more tape_more drew_more drewN_more more_drew more_drewN one_out plus_out plus_end lt_one le_p2 le_p3 le_p4 le_p5 le_p6 le_p7 le_p8 le_p9 le_p10 le_p11 le_p12 le_p13 le_p14 le_p15 le_p16 le_p17 le_p18 le_p19 le_p20 le_p21 le_p22 le_p23 le_p24 le_q0 le_q1 lt_q1 le_q2 lt_q2 le_q3 lt_q3 le_q4 lt_q4 le_q5 lt_q5 le_q6 lt_q6 le_q7 lt_q7 le_q8 lt_q8 le_q9 lt_q9 le_q10 lt_q10 le_q11 lt_q11 le_q12 lt_q12 le_q13 lt_q13 le_q14 lt_q14 le_q15 lt_q15 le_q16 lt_q16 le_q17 lt_q17 le_q18 lt_q18 le_q19 lt_q19 le_q20 lt_q20 le_q21 lt_q21 le_q22 lt_q22 le_q23 lt_q23 le_q24 lt_q24


theorem cnt_append (a b : List N) (d : Nat) : cntN d (a ++ b) = cntN d a + cntN d b := by
  cases d with
  | zero => simp [cntN]
  | succ d => simp only [cntN, List.length_append, List.map_append, List.sum_append]; omega
theorem cnt_take {ts : List N} {j : Nat} (hj : j < ts.length) (d : Nat) : cntN d (ts.take (j + 1)) = cntN d (ts.take j) + cntN d [ts[j]] := by
  rw [List.take_succ_eq_append_getElem hj, cnt_append]
theorem sum_mono (f g : N → Nat) (h : ∀ t, f t ≤ g t) : ∀ ts : List N, (ts.map f).sum ≤ (ts.map g).sum
  | [] => Nat.le_refl _
  | a :: r => by
    have := sum_mono f g h r
    have := h a
    simp only [List.map_cons, List.sum_cons]
    omega
theorem cnt_mono (d : Nat) : ∀ ts : List N, cntN d ts ≤ cntN (d + 1) ts := by
  induction d with
  | zero => intro ts; show ts.length ≤ ts.length + _; omega
  | succ d ih =>
    intro ts
    show ts.length + (ts.map fun t => cntN d t.args).sum ≤ ts.length + (ts.map fun t => cntN (d + 1) t.args).sum
    have := sum_mono (fun t => cntN d t.args) (fun t => cntN (d + 1) t.args) (fun t => ih t.args) ts
    omega
theorem cnt_one (n : N) (d : Nat) : cntN d [n] ≤ 1 + cntN d n.args := by
  cases d with
  | zero => simp [cntN]
  | succ d =>
    have h := cnt_mono d n.args
    have e : cntN (d + 1) [n] = 1 + cntN d n.args := by simp [cntN]
    omega

set_option maxHeartbeats 1000000 in
theorem size_any {ok : Nat → Prop} (d : Nat) : ∀ (n : N) (at0 : Nat) (s : Value) (w : World), at0 < 3000 → Tn ok d w s n.args →
    Calls Try.prog 9 #[nodeV n s, .int .i64 at0] w fun e w' => (∃ r : Nat, e = .returned (.int .i64 r) ∧ r ≤ 6000 ∧ (r < 3000 → ∀ d, at0 + cntN d [n] ≤ r)) ∧ Adds w w' := by
  induction d with
  | zero =>
    intro n at0 s w hat hT
    obtain ⟨h0, ao, cap, rfl⟩ := hT
    have h1 : ∀ d, cntN d [n] ≤ 1 := fun d => by
      have := cnt_one n d
      have h2 : cntN d n.args = 0 := by rw [h0]; cases d <;> simp [cntN]
      omega
    have H1 : Hid (∀ d, cntN d [n] ≤ 1) := h1
    clear h1
    obtain ⟨nk, nt, nm, na⟩ := n
    simp only [nodeV, N.kind, N.text, N.num, N.args] at *
    clear h0
    by_cases hg : 2000 < (nt.size : Int)
    · go_enter Try.func9, Try.ntmps9
      go_wp2
      go_ret
      exact ⟨⟨3000, rfl, by omega, fun h => by omega⟩, by repeat (first | with_reducible exact Adds.refl _ | with_reducible refine Adds.alloc ?_ _ | with_reducible refine Adds.more ?_ _ _ | with_reducible refine Adds.drew ?_ | with_reducible refine Adds.drewN ?_ _)⟩
    · go_enter Try.func9, Try.ntmps9
      go_wp2
      go_loopw [1, 5] (fun av iv wr => av = .int .i64 ((at0 + 1 + nt.size : Nat) : Int) ∧ iv = .int .i64 0 ∧ Adds (w.alloc (.cells #[.int .i64 nk, .string nt, .int .i64 nm, .slice ao 0 cap] 25)) wr) (fun _ _ _ => 0)
      case atStart => exact ⟨by go_num, rfl, by repeat (first | with_reducible exact Adds.refl _ | with_reducible refine Adds.alloc ?_ _ | with_reducible refine Adds.more ?_ _ _ | with_reducible refine Adds.drew ?_ | with_reducible refine Adds.drewN ?_ _)⟩
      case round =>
        obtain ⟨rfl, rfl, os, n0, rfl⟩ := hrel
        go_wp2
        go_ret
        exact ⟨⟨_, rfl, by omega, fun _ d => by have := H1.out d; omega⟩, by repeat (first | with_reducible exact Adds.refl _ | with_reducible refine Adds.alloc ?_ _ | with_reducible refine Adds.more ?_ _ _ | with_reducible refine Adds.drew ?_ | with_reducible refine Adds.drewN ?_ _)⟩
  | succ d ih =>
    intro n at0 s w hat hT
    obtain ⟨ao, cap, rfl⟩ := hT.shape
    have H1 : Hid (∀ d, cntN d [n] ≤ 1 + cntN d n.args) := cnt_one n
    obtain ⟨nk, nt, nm, ts⟩ := n
    simp only [nodeV, N.kind, N.text, N.num, N.args] at *
    have HT : Hid (Tn ok (d + 1) w (.slice ao ts.length cap) ts) := hT
    clear hT
    by_cases hg : 2000 < (nt.size : Int)
    · clear ih HT H1
      go_enter Try.func9, Try.ntmps9
      go_wp2
      go_ret
      exact ⟨⟨3000, rfl, by omega, fun h => by omega⟩, by repeat (first | with_reducible exact Adds.refl _ | with_reducible refine Adds.alloc ?_ _ | with_reducible refine Adds.more ?_ _ _ | with_reducible refine Adds.drew ?_ | with_reducible refine Adds.drewN ?_ _)⟩
    · go_enter Try.func9, Try.ntmps9
      go_wp2
      go_loopw [1, 5] (fun av iv wr => ∃ (j a : Nat), j ≤ ts.length ∧ iv = .int .i64 j ∧ av = .int .i64 a ∧ a ≤ 6000 ∧ j ≤ 7000 ∧ Hid (a < 3000 → ∀ d, at0 + 1 + cntN d (ts.take j) ≤ a) ∧ Adds (w.alloc (.cells #[.int .i64 nk, .string nt, .int .i64 nm, .slice ao ts.length cap] 25)) wr) (fun _ iv _ => ts.length - (intOf iv).toNat)
      case atStart =>
        refine ⟨0, at0 + 1 + nt.size, Nat.zero_le _, rfl, by go_num, by omega, by omega, ?_, by repeat (first | with_reducible exact Adds.refl _ | with_reducible refine Adds.alloc ?_ _ | with_reducible refine Adds.more ?_ _ _ | with_reducible refine Adds.drew ?_ | with_reducible refine Adds.drewN ?_ _)⟩
        intro _ d
        have : cntN d (ts.take 0) = 0 := by rw [List.take_zero]; cases d <;> simp [cntN]
        omega
      case round =>
        obtain ⟨j, a, hj, rfl, rfl, ha, hj7, hI, os, n0, rfl⟩ := hrel
        by_cases hlt : j < ts.length
        · by_cases hal : (a : Int) < 3000
          · obtain ⟨e, b1, o1, x, he, rfl, hb1, ⟨c0, c1, c2, c3⟩, hsz, htx⟩ := HT.out.elem hlt
            have he' : e = d := by omega
            subst he'
            have kR := fun W (hA : Adds w W) => ih ts[j] a x W (by omega) (htx.adds hA)
            obtain ⟨xo, xc, rfl⟩ := htx.shape
            have HI := hI.out (by omega)
            have h00 := HI 0
            have hjl : (ts.take j).length = j := by rw [List.length_take]; omega
            simp only [cntN, hjl] at h00
            have HC : Hid (∀ d, cntN d (ts.take (j + 1)) = cntN d (ts.take j) + cntN d [ts[j]]) := cnt_take hlt
            have HI' : Hid (∀ d, at0 + 1 + cntN d (ts.take j) ≤ a) := HI
            (try simp only [nodeV] at kR)
            clear htx he HT ih hsz HI hI hjl
            generalize ts[j] = p at *
            go_wp2_with (go_at_call 9; refine (kR _ (by repeat (first | with_reducible exact Adds.refl _ | with_reducible refine Adds.alloc ?_ _ | with_reducible refine Adds.more ?_ _ _ | with_reducible refine Adds.drew ?_ | with_reducible refine Adds.drewN ?_ _))).mono ?_; rintro e w2 ⟨⟨r, rfl, hr6, hr⟩, os2, n2, rfl⟩; have HR : Hid (r < 3000 → ∀ d, a + cntN d [p] ≤ r) := hr; clear hr)
            go_roundw
            case rel =>
              refine ⟨j + 1, r, by omega, by go_num, rfl, by omega, by omega, ?_, by repeat (first | with_reducible exact Adds.refl _ | with_reducible refine Adds.alloc ?_ _ | with_reducible refine Adds.more ?_ _ _ | with_reducible refine Adds.drew ?_ | with_reducible refine Adds.drewN ?_ _)⟩
              intro hr3 d
              have e1 := HR.out hr3 d
              have e2 := HC.out d
              have e3 := HI'.out d
              omega
            case measure => simp [intOf]; omega
          · clear HT ih
            have HI : Hid _ := hI
            go_wp2
            go_ret
            exact ⟨⟨a, rfl, ha, fun h => by omega⟩, by repeat (first | with_reducible exact Adds.refl _ | with_reducible refine Adds.alloc ?_ _ | with_reducible refine Adds.more ?_ _ _ | with_reducible refine Adds.drew ?_ | with_reducible refine Adds.drewN ?_ _)⟩
        · have hj' : j = ts.length := by omega
          subst hj'
          clear HT ih
          go_wp2
          go_ret
          refine ⟨⟨a, rfl, ha, fun h d => ?_⟩, by repeat (first | with_reducible exact Adds.refl _ | with_reducible refine Adds.alloc ?_ _ | with_reducible refine Adds.more ?_ _ _ | with_reducible refine Adds.drew ?_ | with_reducible refine Adds.drewN ?_ _)⟩
          have e1 := hI.out h d
          have e2 := H1.out d
          rw [List.take_length] at e1
          omega

end Go.Proofs.Ytdlkpkldlljhcaa
