/-
  The function textOf of package expr, by contract: calls.
-/
import Derived.Test.YtdlkpkldlljhcaaDoorPtx
namespace Go.Proofs.YtdlkpkldlljhcaaDoor
open Go.RowKit
attribute [local go_sem] cell?_more frozen?_more setCell_more size_more tape_more drew_more drewN_more more_drew more_drewN one_out plus_out plus_end lt_one le_p2 le_p3 le_p4 le_p5 le_p6 le_p7 le_p8 le_p9 le_p10 le_p11 le_p12 le_p13 le_p14 le_p15 le_p16 le_p17 le_p18 le_p19 le_p20 le_p21 le_p22 le_p23 le_p24 le_q0 le_q1 lt_q1 le_q2 lt_q2 le_q3 lt_q3 le_q4 lt_q4 le_q5 lt_q5 le_q6 lt_q6 le_q7 lt_q7 le_q8 lt_q8 le_q9 lt_q9 le_q10 lt_q10 le_q11 lt_q11 le_q12 lt_q12 le_q13 lt_q13 le_q14 lt_q14 le_q15 lt_q15 le_q16 lt_q16 le_q17 lt_q17 le_q18 lt_q18 le_q19 lt_q19 le_q20 lt_q20 le_q21 lt_q21 le_q22 lt_q22 le_q23 lt_q23 le_q24 lt_q24

attribute [local go_sem] cell?_addTo

set_option maxHeartbeats 2000000 in
set_option maxRecDepth 20000 in
theorem textOf_call {D : Nat} (f : List UInt8) (a : E) (s : Value) (w : World) (hT : Tn (fun _ => True) (D + 1) w s [a.toN]) (hlen : (E.call f a).print.length ≤ 1000)
    (hk : ∀ x, Tn (fun _ => True) D w x a.toN.args → Told w a x) (W : World) (hA : Adds w W) : Calls Tryd.prog 15 #[nodeV (E.call f a).toN s] W fun r w' => r = .returned (.string (toB (E.call f a).print)) ∧ Adds W w' := by
  obtain ⟨ao, cap, rfl, _, h0 | ⟨b, off, rfl, hb, _, _, hx⟩⟩ := hT
  · cases h0
  obtain ⟨x, ⟨c0, c1, c2, c3⟩, _, hTx⟩ := hx 0 (by simp)
  simp only [List.getElem_cons_zero, Nat.zero_mul, Nat.add_zero] at c0 c1 c2 c3 hTx
  have hTold := hk x hTx
  obtain ⟨xo, xc, rfl⟩ := hTx.shape
  have kT := fun W' (hA' : Adds W W') => hTold W' (hA.trans hA')
  have hbl : b < W.heap.size := Nat.lt_of_lt_of_le hb hA.below.size
  rw [← hA.below.cell (p := ⟨b, off, none⟩) hb] at c0
  rw [← hA.below.cell (p := ⟨b, off + 1, none⟩) hb] at c1
  rw [← hA.below.cell (p := ⟨b, off + 2, none⟩) hb] at c2
  rw [← hA.below.cell (p := ⟨b, off + 3, none⟩) hb] at c3
  have hP : (E.call f a).print = f ++ 40 :: (a.print ++ [41]) := rfl
  rw [hP] at hlen ⊢
  have hsz := toB_size a.print
  have hfz := toB_size f
  have HE : Hid ((toB a.print).toList = a.print) := toB_toList _
  have HF : Hid ((toB f).toList = f) := toB_toList _
  have hll : f.length + a.print.length ≤ 1000 := by simp at hlen; omega
  simp only [nodeV] at kT
  simp only [nodeV, E.toN, N.kind, N.text, N.num]
  have HR : Hid (toB (f ++ 40 :: (a.print ++ [41])) = toB f ++ (⟨#[40]⟩ : ByteArray) ++ toB a.print ++ (⟨#[41]⟩ : ByteArray)) := by
    refine (toB_eq ?_).symm
    rw [cat_toList, cat_toList, cat_toList, HE.out, HF.out]
    simp [ByteArray.toList_eq]
  generalize toB (f ++ 40 :: (a.print ++ [41])) = R at *
  clear hk hTold hx hTx hlen hP hA HE HF
  generalize a.print = L at *
  generalize toB L = X at *
  generalize toB f = Y at *
  generalize a.toN.args.length = na at *
  generalize a.toN.kind = xk at *
  generalize a.toN.text = xt at *
  generalize a.toN.num = xn at *
  have h1 : ¬ 9223372036854775807 < Y.size + (⟨#[40]⟩ : ByteArray).size := by
    show ¬ _ < Y.size + 1
    omega
  have h2 : ¬ 9223372036854775807 < (Y ++ (⟨#[40]⟩ : ByteArray)).size + X.size := by
    rw [ByteArray.size_append]
    show ¬ _ < Y.size + 1 + X.size
    omega
  have h3 : ¬ 9223372036854775807 < (Y ++ (⟨#[40]⟩ : ByteArray) ++ X).size + (⟨#[41]⟩ : ByteArray).size := by
    rw [ByteArray.size_append, ByteArray.size_append]
    show ¬ _ < Y.size + 1 + X.size + 1
    omega
  go_enter Tryd.func15, Tryd.ntmps15
  go_wp2
  refine wp_region_adds (by kernel_rfl) (by kernel_rfl) ?_
  repeat (go_big_quiet_step ((go_at_call 15; exact Calls.adds_of (kT _ (by unfold addTo; repeat (first | with_reducible exact Adds.refl _ | with_reducible refine Adds.alloc ?_ _ | with_reducible refine Adds.more ?_ _ _ | with_reducible refine Adds.drew ?_ | with_reducible refine Adds.drewN ?_ _))))))
  refine wpQuiet_nil ?_
  rintro _ ⟨pl, rfl⟩
  unfold addTo
  go_wp2
  go_ret
  exact ⟨by rw [HR.out]; rfl, (by repeat (first | with_reducible exact Adds.refl _ | with_reducible refine Adds.alloc ?_ _ | with_reducible refine Adds.more ?_ _ _ | with_reducible refine Adds.drew ?_ | with_reducible refine Adds.drewN ?_ _))⟩

end Go.Proofs.YtdlkpkldlljhcaaDoor
