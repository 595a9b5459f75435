/-
  The reference's read of a text with a '+'.
  The reference's read of a text with a '*', and no '+'.
  The reference's read of any text.
-/
import Derived.Test.YtiacnmcdfpmcfaaGreatDoorQ22
import Derived.Test.YtiacnmcdfpmcfaaGreatDoorQ23
namespace Go.Proofs.YtiacnmcdfpmcfaaGreatDoor
open Go.RowKit
attribute [local go_sem] cell?_more frozen?_more setCell_more size_more tape_more drew_more drewN_more more_drew more_drewN one_out plus_out plus_end lt_one le_p2 le_p3 le_p4 le_p5 le_p6 le_p7 le_p8 le_p9 le_p10 le_p11 le_p12 le_p13 le_p14 le_p15 le_p16 le_p17 le_p18 le_p19 le_p20 le_p21 le_p22 le_p23 le_p24 le_q0 le_q1 lt_q1 le_q2 lt_q2 le_q3 lt_q3 le_q4 lt_q4 le_q5 lt_q5 le_q6 lt_q6 le_q7 lt_q7 le_q8 lt_q8 le_q9 lt_q9 le_q10 lt_q10 le_q11 lt_q11 le_q12 lt_q12 le_q13 lt_q13 le_q14 lt_q14 le_q15 lt_q15 le_q16 lt_q16 le_q17 lt_q17 le_q18 lt_q18 le_q19 lt_q19 le_q20 lt_q20 le_q21 lt_q21 le_q22 lt_q22 le_q23 lt_q23 le_q24 lt_q24


set_option maxHeartbeats 4000000 in
set_option maxRecDepth 20000 in
theorem reads_plus {m : Nat} {p q : List UInt8} (hm : m ≤ 300) (hl : (p ++ 43 :: q).length ≤ 1000) (hp : op p = 0) (hq : noTop 43 0 q) (kA : Reads m p) (kB : Reads m q) : Reads (m + 1) (p ++ 43 :: q) := by
  intro W
  have hiff := fun e => G_plus (e := e) hp hq
  have kL := fun W => rLast_any (toB (p ++ 43 :: q)) (by rw [toB_size]; exact hl) 43 W
  rw [toB_toList, lastL_some (by decide) hp hq] at kL
  unfold Reads at kA kB
  rw [← ext_head (p := p) (q := q) (c := 43)] at kA
  rw [← ext_tail (p := p) (q := q) (c := 43)] at kB
  have hlt : p.length < (toB (p ++ 43 :: q)).size := by rw [toB_size]; simp
  have hsz : (toB (p ++ 43 :: q)).size ≤ 1000 := by rw [toB_size]; exact hl
  have he : ((toB (p ++ 43 :: q)).toList == []) = false := by rw [toB_toList]; simp
  have hm1 : ((m + 1 : Nat) : Int) = (m : Int) + 1 := by omega
  rw [hm1]
  have hmz : ((m : Int) + 1 == 0) = false := by simp; omega
  have HI : Hid (∀ e, G .sum (p ++ 43 :: q) e ↔ ∃ x y, e = E.sum x y ∧ G .sum p x ∧ G .sum q y) := hiff
  clear hiff hp hq hl hm1
  have h43 : (((43 : UInt8).toNat : Nat) : Int) = 43 := rfl
  rw [h43] at kL
  clear h43
  generalize toB (p ++ 43 :: q) = S at *
  generalize p.length = P at *
  have hP0 : (0 : Int) ≤ (P : Int) := by omega
  have hP1 : ¬ (P : Int) < 0 := by omega
  go_enter Tryz.func52, Tryz.ntmps52
  go_wp2_with (first
    | (go_at_call 69; (with_reducible refine (kL _).mono ?_); rintro e w1 ⟨rfl, hw⟩; subst w1)
    | (go_at_call 52; (with_reducible refine (kA _).mono ?_); rintro e w2 ⟨⟨k1, t1, m1, a1, n1, c1, q1, rfl, hR1⟩, os2, d2, rfl⟩; cases q1)
    | (go_at_call 52; (with_reducible refine (kB _).mono ?_); rintro e w3 ⟨⟨k2, t2, m2, a2, n2, c2, q2, rfl, hR2⟩, os3, d3, rfl⟩))
  · refine bodyPost_ret (v := .tuple #[.agg #[.int .i64 3, .string ⟨#[]⟩, .int .i64 0, .slice (some ⟨W.heap.size + os2.size + os3.size + 1 + 1 + 1, 0, none⟩) 2 2], .bool false]) (by simp [results, Tryz.results52, go_sem]) rfl ⟨⟨_, _, _, _, _, _, _, rfl, ?_⟩, by repeat (first | with_reducible exact Adds.refl _ | with_reducible refine Adds.alloc ?_ _ | with_reducible refine Adds.more ?_ _ _ | with_reducible refine Adds.drew ?_ | with_reducible refine Adds.drewN ?_ _)⟩
    refine RT.no (fun e he => ?_)
    obtain ⟨x, y, rfl, g1, g2⟩ := (HI.out e).1 he
    exact hR1.out.2 rfl x g1
  · refine bodyPost_ret (v := .tuple #[.agg #[.int .i64 3, .string ⟨#[]⟩, .int .i64 0, .slice (some ⟨W.heap.size + os2.size + os3.size + 1 + 1 + 1, 0, none⟩) 2 2], .bool q2]) (by simp [results, Tryz.results52, go_sem]) rfl ⟨⟨_, _, _, _, _, _, _, rfl, ?_⟩, by repeat (first | with_reducible exact Adds.refl _ | with_reducible refine Adds.alloc ?_ _ | with_reducible refine Adds.more ?_ _ _ | with_reducible refine Adds.drew ?_ | with_reducible refine Adds.drewN ?_ _)⟩
    exact rt_pair E.sum (fun x y => rfl) HI.out hR1.out hR2.out (by simp [size_more]; omega)

end Go.Proofs.YtiacnmcdfpmcfaaGreatDoor

namespace Go.Proofs.YtiacnmcdfpmcfaaGreatDoor
open Go.RowKit
attribute [local go_sem] cell?_more frozen?_more setCell_more size_more tape_more drew_more drewN_more more_drew more_drewN one_out plus_out plus_end lt_one le_p2 le_p3 le_p4 le_p5 le_p6 le_p7 le_p8 le_p9 le_p10 le_p11 le_p12 le_p13 le_p14 le_p15 le_p16 le_p17 le_p18 le_p19 le_p20 le_p21 le_p22 le_p23 le_p24 le_q0 le_q1 lt_q1 le_q2 lt_q2 le_q3 lt_q3 le_q4 lt_q4 le_q5 lt_q5 le_q6 lt_q6 le_q7 lt_q7 le_q8 lt_q8 le_q9 lt_q9 le_q10 lt_q10 le_q11 lt_q11 le_q12 lt_q12 le_q13 lt_q13 le_q14 lt_q14 le_q15 lt_q15 le_q16 lt_q16 le_q17 lt_q17 le_q18 lt_q18 le_q19 lt_q19 le_q20 lt_q20 le_q21 lt_q21 le_q22 lt_q22 le_q23 lt_q23 le_q24 lt_q24


set_option maxHeartbeats 4000000 in
set_option maxRecDepth 20000 in
theorem reads_star {m : Nat} {p q : List UInt8} (hm : m ≤ 300) (hl : (p ++ 42 :: q).length ≤ 1000) (hn : noTop 43 0 (p ++ 42 :: q)) (hp : op p = 0) (hq : noTop 42 0 q) (kA : Reads m p) (kB : Reads m q) : Reads (m + 1) (p ++ 42 :: q) := by
  intro W
  have hiff := fun e => G_star (e := e) hn hp hq
  have kN := fun W => rLast_any (toB (p ++ 42 :: q)) (by rw [toB_size]; exact hl) 43 W
  rw [toB_toList, lastL_none (by decide) hn] at kN
  have hn43 : (((43 : UInt8).toNat : Nat) : Int) = 43 := rfl
  rw [hn43] at kN
  clear hn43
  have kL := fun W => rLast_any (toB (p ++ 42 :: q)) (by rw [toB_size]; exact hl) 42 W
  rw [toB_toList, lastL_some (by decide) hp hq] at kL
  unfold Reads at kA kB
  rw [← ext_head (p := p) (q := q) (c := 42)] at kA
  rw [← ext_tail (p := p) (q := q) (c := 42)] at kB
  have hlt : p.length < (toB (p ++ 42 :: q)).size := by rw [toB_size]; simp
  have hsz : (toB (p ++ 42 :: q)).size ≤ 1000 := by rw [toB_size]; exact hl
  have he : ((toB (p ++ 42 :: q)).toList == []) = false := by rw [toB_toList]; simp
  have hm1 : ((m + 1 : Nat) : Int) = (m : Int) + 1 := by omega
  rw [hm1]
  have hmz : ((m : Int) + 1 == 0) = false := by simp; omega
  have HI : Hid (∀ e, G .sum (p ++ 42 :: q) e ↔ ∃ x y, e = E.mul x y ∧ G .sum p x ∧ G .sum q y) := hiff
  clear hiff hp hq hl hm1 hn
  have h43 : (((42 : UInt8).toNat : Nat) : Int) = 42 := rfl
  rw [h43] at kL
  clear h43
  generalize toB (p ++ 42 :: q) = S at *
  generalize p.length = P at *
  have hP0 : (0 : Int) ≤ (P : Int) := by omega
  have hP1 : ¬ (P : Int) < 0 := by omega
  go_enter Tryz.func52, Tryz.ntmps52
  go_wp2_with (first
    | (go_at_call 69; (with_reducible refine (kL _).mono ?_); rintro e w1 ⟨rfl, hw⟩; subst w1)
    | (go_at_call 69; (with_reducible refine (kN _).mono ?_); rintro e w1 ⟨rfl, hw⟩; subst w1)
    | (go_at_call 52; (with_reducible refine (kA _).mono ?_); rintro e w2 ⟨⟨k1, t1, m1, a1, n1, c1, q1, rfl, hR1⟩, os2, d2, rfl⟩; cases q1)
    | (go_at_call 52; (with_reducible refine (kB _).mono ?_); rintro e w3 ⟨⟨k2, t2, m2, a2, n2, c2, q2, rfl, hR2⟩, os3, d3, rfl⟩))
  · refine bodyPost_ret (v := .tuple #[.agg #[.int .i64 4, .string ⟨#[]⟩, .int .i64 0, .slice (some ⟨W.heap.size + os2.size + os3.size + 1 + 1 + 1, 0, none⟩) 2 2], .bool false]) (by simp [results, Tryz.results52, go_sem]) rfl ⟨⟨_, _, _, _, _, _, _, rfl, ?_⟩, by repeat (first | with_reducible exact Adds.refl _ | with_reducible refine Adds.alloc ?_ _ | with_reducible refine Adds.more ?_ _ _ | with_reducible refine Adds.drew ?_ | with_reducible refine Adds.drewN ?_ _)⟩
    refine RT.no (fun e he => ?_)
    obtain ⟨x, y, rfl, g1, g2⟩ := (HI.out e).1 he
    exact hR1.out.2 rfl x g1
  · refine bodyPost_ret (v := .tuple #[.agg #[.int .i64 4, .string ⟨#[]⟩, .int .i64 0, .slice (some ⟨W.heap.size + os2.size + os3.size + 1 + 1 + 1, 0, none⟩) 2 2], .bool q2]) (by simp [results, Tryz.results52, go_sem]) rfl ⟨⟨_, _, _, _, _, _, _, rfl, ?_⟩, by repeat (first | with_reducible exact Adds.refl _ | with_reducible refine Adds.alloc ?_ _ | with_reducible refine Adds.more ?_ _ _ | with_reducible refine Adds.drew ?_ | with_reducible refine Adds.drewN ?_ _)⟩
    exact rt_pair E.mul (fun x y => rfl) HI.out hR1.out hR2.out (by simp [size_more]; omega)

end Go.Proofs.YtiacnmcdfpmcfaaGreatDoor

namespace Go.Proofs.YtiacnmcdfpmcfaaGreatDoor
open Go.RowKit
attribute [local go_sem] cell?_more frozen?_more setCell_more size_more tape_more drew_more drewN_more more_drew more_drewN one_out plus_out plus_end lt_one le_p2 le_p3 le_p4 le_p5 le_p6 le_p7 le_p8 le_p9 le_p10 le_p11 le_p12 le_p13 le_p14 le_p15 le_p16 le_p17 le_p18 le_p19 le_p20 le_p21 le_p22 le_p23 le_p24 le_q0 le_q1 lt_q1 le_q2 lt_q2 le_q3 lt_q3 le_q4 lt_q4 le_q5 lt_q5 le_q6 lt_q6 le_q7 lt_q7 le_q8 lt_q8 le_q9 lt_q9 le_q10 lt_q10 le_q11 lt_q11 le_q12 lt_q12 le_q13 lt_q13 le_q14 lt_q14 le_q15 lt_q15 le_q16 lt_q16 le_q17 lt_q17 le_q18 lt_q18 le_q19 lt_q19 le_q20 lt_q20 le_q21 lt_q21 le_q22 lt_q22 le_q23 lt_q23 le_q24 lt_q24


theorem first_of {l : List UInt8} (h : (40 : UInt8) ∈ l) : ∃ f t, l = f ++ 40 :: t ∧ (40 : UInt8) ∉ f := by
  induction l with
  | nil => cases h
  | cons x r ih =>
    by_cases hx : x = 40
    · subst hx
      exact ⟨[], r, rfl, by simp⟩
    · obtain ⟨f, t, rfl, hf⟩ := ih (by simpa [Ne.symm hx] using h)
      exact ⟨x :: f, t, rfl, by simp [Ne.symm hx, hf]⟩

set_option maxHeartbeats 2000000 in
set_option maxRecDepth 20000 in
theorem reads_nil {m : Nat} : Reads (m + 1) [] := by
  intro W
  have HI : Hid (∀ e, ¬ G .sum [] e) := fun e he => he.ne rfl
  have hm1 : ((m + 1 : Nat) : Int) = (m : Int) + 1 := by omega
  rw [hm1]
  have e0 : toB [] = ⟨#[]⟩ := rfl
  rw [e0]
  clear hm1 e0
  go_enter Tryz.func52, Tryz.ntmps52
  go_wp2
  refine bodyPost_ret (v := .tuple #[.agg #[.int .i64 0, .string ⟨#[]⟩, .int .i64 0, .slice none 0 0], .bool false]) (by simp [results, Tryz.results52, go_sem]) rfl ⟨⟨_, _, _, _, _, _, _, rfl, RT.no HI.out⟩, by repeat (first | with_reducible exact Adds.refl _ | with_reducible refine Adds.alloc ?_ _ | with_reducible refine Adds.more ?_ _ _ | with_reducible refine Adds.drew ?_ | with_reducible refine Adds.drewN ?_ _)⟩

/-- The reference's read, of any text that is no longer than it may go down. -/
theorem reads_any : ∀ (m : Nat), m ≤ 300 → ∀ l : List UInt8, l.length ≤ m → Reads (m + 1) l := by
  intro m
  induction m with
  | zero =>
    intro _ l hl
    have : l = [] := List.length_eq_zero_iff.1 (by omega)
    subst this
    exact reads_nil
  | succ m ih =>
    intro hm l hl
    have ih' := fun l' h => ih (by omega) l' h
    by_cases hnil : l = []
    · subst hnil
      exact reads_nil
    by_cases h1 : noTop 43 0 l
    · by_cases h2 : noTop 42 0 l
      · by_cases h40 : (40 : UInt8) ∈ l
        · cases hw : wholeL l with
          | true =>
            obtain ⟨a, rfl⟩ := whole_sound hw
            exact reads_paren hm (by omega) h1 h2 hw (ih' a (by simp at hl; omega))
          | false =>
            obtain ⟨f, t, rfl, hf⟩ := first_of h40
            by_cases hn : isName f = true ∧ wholeL (40 :: t) = true
            · obtain ⟨a, ha⟩ := whole_sound hn.2
              simp only [List.cons.injEq, true_and] at ha
              subst ha
              exact reads_call hm (by omega) h1 h2 hf hw hn.1 hn.2 (ih' a (by simp at hl; omega))
            · refine reads_none hm (by omega) h1 h2 hf hw (fun h => ?_)
              cases hq : wholeL (40 :: t) with
              | false => rfl
              | true => exact absurd ⟨h, hq⟩ hn
        · cases hd : allDig l with
          | false => exact reads_word hm (by omega) hnil h1 h2 h40 hd
          | true =>
            by_cases h15 : l.length ≤ 15
            · exact reads_num hm h15 hnil h1 h2 h40 hd
            · exact reads_long hm (by omega) (by omega) h1 h2 h40 hd
      · obtain ⟨p, q, rfl, hp, hq⟩ := ex_last (by decide) l 0 h2
        have hp : op p = 0 := by omega
        exact reads_star hm (by omega) h1 hp hq (ih' p (by simp at hl; omega)) (ih' q (by simp at hl; omega))
    · obtain ⟨p, q, rfl, hp, hq⟩ := ex_last (by decide) l 0 h1
      have hp : op p = 0 := by omega
      exact reads_plus hm (by omega) hp hq (ih' p (by simp at hl; omega)) (ih' q (by simp at hl; omega))

end Go.Proofs.YtiacnmcdfpmcfaaGreatDoor
