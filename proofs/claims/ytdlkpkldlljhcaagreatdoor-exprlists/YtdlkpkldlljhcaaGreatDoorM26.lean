/-
  The reference's read of any text.
  The reference's Same of two that are alike, by a contract.
-/
import Derived.Test.YtdlkpkldlljhcaaGreatDoorM23
import Derived.Test.YtdlkpkldlljhcaaGreatDoorM24
import Derived.Test.YtdlkpkldlljhcaaGreatDoorM25
import Derived.Test.YtdlkpkldlljhcaaGreatDoorM20
namespace Go.Proofs.YtdlkpkldlljhcaaGreatDoor
open Go.RowKit
attribute [local go_sem] cell?_more frozen?_more setCell_more size_more tape_more drew_more drewN_more more_drew more_drewN one_out plus_out plus_end lt_one le_p2 le_p3 le_p4 le_p5 le_p6 le_p7 le_p8 le_p9 le_p10 le_p11 le_p12 le_p13 le_p14 le_p15 le_p16 le_p17 le_p18 le_p19 le_p20 le_p21 le_p22 le_p23 le_p24 le_q0 le_q1 lt_q1 le_q2 lt_q2 le_q3 lt_q3 le_q4 lt_q4 le_q5 lt_q5 le_q6 lt_q6 le_q7 lt_q7 le_q8 lt_q8 le_q9 lt_q9 le_q10 lt_q10 le_q11 lt_q11 le_q12 lt_q12 le_q13 lt_q13 le_q14 lt_q14 le_q15 lt_q15 le_q16 lt_q16 le_q17 lt_q17 le_q18 lt_q18 le_q19 lt_q19 le_q20 lt_q20 le_q21 lt_q21 le_q22 lt_q22 le_q23 lt_q23 le_q24 lt_q24


theorem first_of {l : List UInt8} (h : (40 : UInt8) ∈ l) : ∃ f t, l = f ++ 40 :: t ∧ (40 : UInt8) ∉ f := by
  induction l with
  | nil => cases h
  | cons x r ih =>
    by_cases hx : x = 40
    · subst hx
      exact ⟨[], r, rfl, by simp⟩
    · obtain ⟨f, t, rfl, hf⟩ := ih (by simpa [Ne.symm hx] using h)
      exact ⟨x :: f, t, rfl, by simp [Ne.symm hx, hf]⟩

set_option maxHeartbeats 2000000 in
set_option maxRecDepth 20000 in
theorem reads_nil {m : Nat} : Reads (m + 1) [] := by
  intro W
  have HI : Hid (∀ e, ¬ G .sum [] e) := fun e he => he.ne rfl
  have hm1 : ((m + 1 : Nat) : Int) = (m : Int) + 1 := by omega
  rw [hm1]
  have e0 : toB [] = ⟨#[]⟩ := rfl
  rw [e0]
  clear hm1 e0
  go_enter Tryz.func25, Tryz.ntmps25
  go_wp2
  refine bodyPost_ret (v := .tuple #[.agg #[.int .i64 0, .string ⟨#[]⟩, .int .i64 0, .slice none 0 0], .bool false]) (by simp [results, Tryz.results25, go_sem]) rfl ⟨⟨_, _, _, _, _, _, _, rfl, RT.no HI.out⟩, by repeat (first | with_reducible exact Adds.refl _ | with_reducible refine Adds.alloc ?_ _ | with_reducible refine Adds.more ?_ _ _ | with_reducible refine Adds.drew ?_ | with_reducible refine Adds.drewN ?_ _)⟩

/-- The reference's read, of any text that is no longer than it may go down. -/
theorem reads_any : ∀ (m : Nat), m ≤ 300 → ∀ l : List UInt8, l.length ≤ m → Reads (m + 1) l := by
  intro m
  induction m with
  | zero =>
    intro _ l hl
    have : l = [] := List.length_eq_zero_iff.1 (by omega)
    subst this
    exact reads_nil
  | succ m ih =>
    intro hm l hl
    have ih' := fun l' h => ih (by omega) l' h
    by_cases hnil : l = []
    · subst hnil
      exact reads_nil
    by_cases h1 : noTop 43 0 l
    · by_cases h2 : noTop 42 0 l
      · by_cases h40 : (40 : UInt8) ∈ l
        · cases hw : wholeL l with
          | true =>
            obtain ⟨a, rfl⟩ := whole_sound hw
            exact reads_paren hm (by omega) h1 h2 hw (ih' a (by simp at hl; omega))
          | false =>
            obtain ⟨f, t, rfl, hf⟩ := first_of h40
            by_cases hn : isName f = true ∧ wholeL (40 :: t) = true
            · obtain ⟨a, ha⟩ := whole_sound hn.2
              simp only [List.cons.injEq, true_and] at ha
              subst ha
              exact reads_call hm (by omega) h1 h2 hf hw hn.1 hn.2 (ih' a (by simp at hl; omega))
            · refine reads_none hm (by omega) h1 h2 hf hw (fun h => ?_)
              cases hq : wholeL (40 :: t) with
              | false => rfl
              | true => exact absurd ⟨h, hq⟩ hn
        · cases hd : allDig l with
          | false => exact reads_word hm (by omega) hnil h1 h2 h40 hd
          | true =>
            by_cases h15 : l.length ≤ 15
            · exact reads_num hm h15 hnil h1 h2 h40 hd
            · exact reads_long hm (by omega) (by omega) h1 h2 h40 hd
      · obtain ⟨p, q, rfl, hp, hq⟩ := ex_last (by decide) l 0 h2
        have hp : op p = 0 := by omega
        exact reads_star hm (by omega) h1 hp hq (ih' p (by simp at hl; omega)) (ih' q (by simp at hl; omega))
    · obtain ⟨p, q, rfl, hp, hq⟩ := ex_last (by decide) l 0 h1
      have hp : op p = 0 := by omega
      exact reads_plus hm (by omega) hp hq (ih' p (by simp at hl; omega)) (ih' q (by simp at hl; omega))

end Go.Proofs.YtdlkpkldlljhcaaGreatDoor

namespace Go.Proofs.YtdlkpkldlljhcaaGreatDoor
open Go.RowKit
attribute [local go_sem] cell?_more frozen?_more setCell_more size_more tape_more drew_more drewN_more more_drew more_drewN one_out plus_out plus_end lt_one le_p2 le_p3 le_p4 le_p5 le_p6 le_p7 le_p8 le_p9 le_p10 le_p11 le_p12 le_p13 le_p14 le_p15 le_p16 le_p17 le_p18 le_p19 le_p20 le_p21 le_p22 le_p23 le_p24 le_q0 le_q1 lt_q1 le_q2 lt_q2 le_q3 lt_q3 le_q4 lt_q4 le_q5 lt_q5 le_q6 lt_q6 le_q7 lt_q7 le_q8 lt_q8 le_q9 lt_q9 le_q10 lt_q10 le_q11 lt_q11 le_q12 lt_q12 le_q13 lt_q13 le_q14 lt_q14 le_q15 lt_q15 le_q16 lt_q16 le_q17 lt_q17 le_q18 lt_q18 le_q19 lt_q19 le_q20 lt_q20 le_q21 lt_q21 le_q22 lt_q22 le_q23 lt_q23 le_q24 lt_q24


set_option maxHeartbeats 2000000 in
theorem rSame_any {ok ok' : Nat → Prop} : ∀ (d : Nat) (n : N) (sa sb : Value) (w : World), Tn ok d w sa n.args → Tn ok' d w sb n.args → (∀ d, cntN d [n] ≤ 10000) →
    Calls Tryz.prog 7 #[nodeV n sa, nodeV n sb] w fun e w' => e = .returned (.bool true) ∧ Adds w w' := by
  intro d
  induction d using Nat.strongRecOn with
  | ind d ih =>
    intro n sa sb w hA hB hc
    obtain ⟨ao, cap, rfl⟩ := hA.shape
    obtain ⟨bo, bcap, rfl⟩ := hB.shape
    have hlen := cnt_long hc
    have hkid : ∀ t ∈ n.args, ∀ d, cntN d [t] ≤ 10000 := fun t ht => cnt_kid hc ht
    obtain ⟨nk, nt, nm, ts⟩ := n
    simp only [nodeV, N.kind, N.text, N.num, N.args] at *
    have HA : Hid (Tn ok d w (.slice ao ts.length cap) ts) := hA
    have HB : Hid (Tn ok' d w (.slice bo ts.length bcap) ts) := hB
    have HK : Hid (∀ t ∈ ts, ∀ d, cntN d [t] ≤ 10000) := hkid
    clear hA hB hc hkid
    go_enter Tryz.func7, Tryz.ntmps7
    go_wp2
    go_loopw [5] (fun iv wr => ∃ j : Nat, j ≤ ts.length ∧ iv = .int .i64 j ∧ Adds ((w.alloc (.cells #[.int .i64 nk, .string nt, .int .i64 nm, .slice ao ts.length cap] 31)).alloc (.cells #[.int .i64 nk, .string nt, .int .i64 nm, .slice bo ts.length bcap] 31)) wr) (fun iv _ => ts.length - (intOf iv).toNat)
    case atStart => exact ⟨0, Nat.zero_le _, rfl, by repeat (first | with_reducible exact Adds.refl _ | with_reducible refine Adds.alloc ?_ _ | with_reducible refine Adds.more ?_ _ _ | with_reducible refine Adds.drew ?_ | with_reducible refine Adds.drewN ?_ _)⟩
    case round =>
      obtain ⟨j, hj, rfl, os, n0, rfl⟩ := hrel
      by_cases hlt : j < ts.length
      · obtain ⟨e, b1, o1, x, he, rfl, hb1, ⟨c0, c1, c2, c3⟩, _, htx⟩ := HA.out.elem hlt
        obtain ⟨e', b2, o2, y, he', rfl, hb2, ⟨d0, d1, d2, d3⟩, _, hty⟩ := HB.out.elem hlt
        obtain rfl : e = e' := by omega
        have kR := fun W (hA : Adds w W) => ih e (by omega) ts[j] x y W (htx.adds hA) (hty.adds hA) (HK.out _ (List.getElem_mem hlt))
        obtain ⟨xo, xc, rfl⟩ := htx.shape
        obtain ⟨yo, yc, rfl⟩ := hty.shape
        (try simp only [nodeV] at kR)
        clear htx hty he he' HA HB ih HK
        generalize ts[j] = p at *
        go_wp2
        go_region_with (go_at_call 7; refine (kR _ (by repeat (first | with_reducible exact Adds.refl _ | with_reducible refine Adds.alloc ?_ _ | with_reducible refine Adds.more ?_ _ _ | with_reducible refine Adds.drew ?_ | with_reducible refine Adds.drewN ?_ _))).mono ?_; rintro e w2 ⟨rfl, os2, n2, rfl⟩)
        all_goals
          go_wp2
          go_roundw
          case rel => exact ⟨j + 1, by omega, by go_num, by repeat (first | with_reducible exact Adds.refl _ | with_reducible refine Adds.alloc ?_ _ | with_reducible refine Adds.more ?_ _ _ | with_reducible refine Adds.drew ?_ | with_reducible refine Adds.drewN ?_ _)⟩
          case measure => simp [intOf]; omega
      · have hj' : j = ts.length := by omega
        subst hj'
        clear HA HB HK ih
        go_wp2
        go_ret
        exact ⟨rfl, by repeat (first | with_reducible exact Adds.refl _ | with_reducible refine Adds.alloc ?_ _ | with_reducible refine Adds.more ?_ _ _ | with_reducible refine Adds.drew ?_ | with_reducible refine Adds.drewN ?_ _)⟩

end Go.Proofs.YtdlkpkldlljhcaaGreatDoor
