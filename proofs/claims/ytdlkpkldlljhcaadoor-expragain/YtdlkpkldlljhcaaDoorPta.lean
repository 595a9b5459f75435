/-
  An expression's text, by contract, whatever it is; Print.
-/
import Derived.Test.YtdlkpkldlljhcaaDoorPtz
import Derived.Test.YtdlkpkldlljhcaaDoorParse2
namespace Go.Proofs.YtdlkpkldlljhcaaDoor
open Go.RowKit
attribute [local go_sem] cell?_more frozen?_more setCell_more size_more tape_more drew_more drewN_more more_drew more_drewN one_out plus_out plus_end lt_one le_p2 le_p3 le_p4 le_p5 le_p6 le_p7 le_p8 le_p9 le_p10 le_p11 le_p12 le_p13 le_p14 le_p15 le_p16 le_p17 le_p18 le_p19 le_p20 le_p21 le_p22 le_p23 le_p24 le_q0 le_q1 lt_q1 le_q2 lt_q2 le_q3 lt_q3 le_q4 lt_q4 le_q5 lt_q5 le_q6 lt_q6 le_q7 lt_q7 le_q8 lt_q8 le_q9 lt_q9 le_q10 lt_q10 le_q11 lt_q11 le_q12 lt_q12 le_q13 lt_q13 le_q14 lt_q14 le_q15 lt_q15 le_q16 lt_q16 le_q17 lt_q17 le_q18 lt_q18 le_q19 lt_q19 le_q20 lt_q20 le_q21 lt_q21 le_q22 lt_q22 le_q23 lt_q23 le_q24 lt_q24

theorem textOf_any : ∀ (e : E), e.ok → e.print.length ≤ 1000 → ∀ (D : Nat) (s : Value) (w : World), Tab w → Tn (fun _ => True) D w s e.toN.args → Told w e s
  | .path t, _, _, D, s, w, _, hT => fun W _ => textOf_path t s (by obtain ⟨o, c, e⟩ := hT.shape; exact ⟨o, _, c, e⟩) W
  | .num n, hok, _, D, s, w, ht, hT => fun W hA => textOf_num n hok s (by obtain ⟨o, c, e⟩ := hT.shape; exact ⟨o, _, c, e⟩) w ht W hA
  | .call f a, hok, hl, D, s, w, ht, hT => by
    cases D with
    | zero => exact absurd hT.1 (by simp [E.toN, N.args])
    | succ D =>
      have hla : a.print.length ≤ 1000 := by
        have : (E.call f a).print = f ++ 40 :: (a.print ++ [41]) := rfl
        rw [this] at hl
        simp at hl
        omega
      exact fun W hA => textOf_call f a s w hT hl (fun x hx => textOf_any a hok.2 hla D x w ht hx) W hA
  | .sum a b, hok, hl, D, s, w, ht, hT => by
    cases D with
    | zero => exact absurd hT.1 (by simp [E.toN, N.args])
    | succ D =>
      have hll : a.print.length ≤ 1000 ∧ b.print.length ≤ 1000 := by
        have h1 : (E.sum a b).print = a.print ++ 43 :: parL b.isSum b.print := rfl
        have h2 := parL_len b.isSum b.print
        rw [h1] at hl
        simp only [List.length_append, List.length_cons] at hl
        omega
      exact fun W hA => textOf_sum a b s w hT hl (fun x hx => textOf_any a hok.1 hll.1 D x w ht hx) (fun x hx => textOf_any b hok.2 hll.2 D x w ht hx) W hA
  | .mul a b, hok, hl, D, s, w, ht, hT => by
    cases D with
    | zero => exact absurd hT.1 (by simp [E.toN, N.args])
    | succ D =>
      have hll : a.print.length ≤ 1000 ∧ b.print.length ≤ 1000 := by
        have h1 : (E.mul a b).print = parL a.isSum a.print ++ 42 :: parL (b.isSum || b.isMul) b.print := rfl
        have h2 := parL_len (b.isSum || b.isMul) b.print
        have h3 := parL_len a.isSum a.print
        rw [h1] at hl
        simp only [List.length_append, List.length_cons] at hl
        omega
      exact fun W hA => textOf_mul a b s w hT hl (fun x hx => textOf_any a hok.1 hll.1 D x w ht hx) (fun x hx => textOf_any b hok.2 hll.2 D x w ht hx) W hA

set_option maxHeartbeats 2000000 in
set_option maxRecDepth 20000 in
theorem print_any {D : Nat} (e : E) (s : Value) (w : World) (ht : Tab w) (hT : Tn (fun _ => True) D w s e.toN.args) (hok : e.ok) (hf : fitsN 8 e.toN = true) (hc : ∀ d, cntN d [e.toN] ≤ 10000) (hlen : e.print.length ≤ 256) :
    Calls Tryd.prog 7 #[nodeV e.toN s] w fun r w' => r = .returned (.tuple #[.string (toB e.print), .int .i64 0]) ∧ Adds w w' := by
  have kC := fun W (hA : Adds w W) => (checkE_any (D := D) e.toN s W (hT.adds hA) (ok_size hok) hc).mono (R' := fun r w' => r = .returned (.int .i64 0) ∧ Adds W w') (by rintro r w' ⟨⟨y, rfl, hy⟩, hA'⟩; exact ⟨by rw [hy.2 hf], hA'⟩)
  have kT := fun W (hA : Adds w W) => textOf_any e hok (by omega) D s w ht hT W hA
  have hsz := toB_size e.print
  obtain ⟨ao, cap, rfl⟩ := hT.shape
  simp only [nodeV] at kC kT ⊢
  have hs' : ¬ (256 : Int) < ((toB e.print).size : Int) := by omega
  clear hT hok hf hc ht
  generalize toB e.print = X at *
  generalize e.toN.args.length = na at *
  generalize e.toN.kind = xk at *
  generalize e.toN.text = xt at *
  generalize e.toN.num = xn at *
  go_enter Tryd.func7, Tryd.ntmps7
  go_wp2_with (first
    | (go_at_call 9; refine (kC _ (by repeat (first | with_reducible exact Adds.refl _ | with_reducible refine Adds.alloc ?_ _ | with_reducible refine Adds.more ?_ _ _ | with_reducible refine Adds.drew ?_ | with_reducible refine Adds.drewN ?_ _))).mono ?_; rintro r w1 ⟨rfl, os1, n1, rfl⟩)
    | (go_at_call 15; refine (kT _ (by repeat (first | with_reducible exact Adds.refl _ | with_reducible refine Adds.alloc ?_ _ | with_reducible refine Adds.more ?_ _ _ | with_reducible refine Adds.drew ?_ | with_reducible refine Adds.drewN ?_ _))).mono ?_; rintro r w2 ⟨rfl, os2, n2, rfl⟩))
  go_ret2
  exact ⟨rfl, (by repeat (first | with_reducible exact Adds.refl _ | with_reducible refine Adds.alloc ?_ _ | with_reducible refine Adds.more ?_ _ _ | with_reducible refine Adds.drew ?_ | with_reducible refine Adds.drewN ?_ _))⟩

end Go.Proofs.YtdlkpkldlljhcaaDoor
