/-
  The function textOf of package expr, by contract: sums and products.
-/
import Derived.Test.YtdlkpkldlljhcaaDoorPty
import Derived.Deep.RegionHeld
namespace Go.Proofs.YtdlkpkldlljhcaaDoor
open Go.RowKit
attribute [local go_sem] cell?_more frozen?_more setCell_more size_more tape_more drew_more drewN_more more_drew more_drewN one_out plus_out plus_end lt_one le_p2 le_p3 le_p4 le_p5 le_p6 le_p7 le_p8 le_p9 le_p10 le_p11 le_p12 le_p13 le_p14 le_p15 le_p16 le_p17 le_p18 le_p19 le_p20 le_p21 le_p22 le_p23 le_p24 le_q0 le_q1 lt_q1 le_q2 lt_q2 le_q3 lt_q3 le_q4 lt_q4 le_q5 lt_q5 le_q6 lt_q6 le_q7 lt_q7 le_q8 lt_q8 le_q9 lt_q9 le_q10 lt_q10 le_q11 lt_q11 le_q12 lt_q12 le_q13 lt_q13 le_q14 lt_q14 le_q15 lt_q15 le_q16 lt_q16 le_q17 lt_q17 le_q18 lt_q18 le_q19 lt_q19 le_q20 lt_q20 le_q21 lt_q21 le_q22 lt_q22 le_q23 lt_q23 le_q24 lt_q24

attribute [local go_sem] cell?_addTo

/-- Two nodes side by side. -/
theorem two_at {D : Nat} {w W : World} {a b : E} {s : Value} (hT : Tn (fun _ => True) (D + 1) w s [a.toN, b.toN]) (hA : Adds w W) :
    ∃ k off cap x y, s = .slice (some ⟨k, off, none⟩) 2 cap ∧ k < W.heap.size ∧
      (W.cell? ⟨k, off, none⟩ = some (.int .i64 a.toN.kind) ∧ W.cell? ⟨k, off + 1, none⟩ = some (.string a.toN.text) ∧ W.cell? ⟨k, off + 2, none⟩ = some (.int .i64 a.toN.num) ∧ W.cell? ⟨k, off + 3, none⟩ = some x) ∧
      (W.cell? ⟨k, off + 4, none⟩ = some (.int .i64 b.toN.kind) ∧ W.cell? ⟨k, off + 4 + 1, none⟩ = some (.string b.toN.text) ∧ W.cell? ⟨k, off + 4 + 2, none⟩ = some (.int .i64 b.toN.num) ∧ W.cell? ⟨k, off + 4 + 3, none⟩ = some y) ∧
      Tn (fun _ => True) D w x a.toN.args ∧ Tn (fun _ => True) D w y b.toN.args := by
  obtain ⟨ao, cap, rfl, _, h0 | ⟨k, off, rfl, hk, _, _, hx⟩⟩ := hT
  · cases h0
  obtain ⟨x, ⟨c0, c1, c2, c3⟩, _, hTx⟩ := hx 0 (by simp)
  obtain ⟨y, ⟨d0, d1, d2, d3⟩, _, hTy⟩ := hx 1 (by simp)
  simp only [List.getElem_cons_zero, Nat.zero_mul, Nat.add_zero] at c0 c1 c2 c3 hTx
  simp only [List.getElem_cons_succ, List.getElem_cons_zero, Nat.one_mul] at d0 d1 d2 d3 hTy
  have hc : ∀ i, W.cell? ⟨k, i, none⟩ = w.cell? ⟨k, i, none⟩ := fun i => hA.below.cell (p := ⟨k, i, none⟩) hk
  exact ⟨k, off, cap, x, y, rfl, Nat.lt_of_lt_of_le hk hA.below.size, ⟨by rw [hc]; exact c0, by rw [hc]; exact c1, by rw [hc]; exact c2, by rw [hc]; exact c3⟩, ⟨by rw [hc]; exact d0, by rw [hc]; exact d1, by rw [hc]; exact d2, by rw [hc]; exact d3⟩, hTx, hTy⟩

theorem E.kind_sum (e : E) : (e.toN.kind == 3) = e.isSum := by cases e <;> rfl
theorem E.kind_mul (e : E) : (e.toN.kind == 4) = e.isMul := by cases e <;> rfl

set_option maxHeartbeats 2000000 in
set_option maxRecDepth 20000 in
theorem textOf_sum {D : Nat} (a b : E) (s : Value) (w : World) (hT : Tn (fun _ => True) (D + 1) w s [a.toN, b.toN]) (hlen : (E.sum a b).print.length ≤ 1000)
    (hka : ∀ x, Tn (fun _ => True) D w x a.toN.args → Told w a x) (hkb : ∀ x, Tn (fun _ => True) D w x b.toN.args → Told w b x) (W : World) (hA : Adds w W) :
    Calls Tryd.prog 15 #[nodeV (E.sum a b).toN s] W fun r w' => r = .returned (.string (toB (E.sum a b).print)) ∧ Adds W w' := by
  obtain ⟨k, off, cap, x, y, rfl, hbl, ⟨c0, c1, c2, c3⟩, ⟨d0, d1, d2, d3⟩, hTx, hTy⟩ := two_at hT hA
  have hP : (E.sum a b).print = a.print ++ 43 :: parL b.isSum b.print := rfl
  rw [hP] at hlen ⊢
  have hll : a.print.length + (parL b.isSum b.print).length ≤ 1000 := by simp at hlen; omega
  have hbp : b.print.length ≤ 1000 := by have := parL_len b.isSum b.print; omega
  have kA := fun W' (hA' : Adds W W') => hka x hTx W' (hA.trans hA')
  have kB := fun W' (hA' : Adds W W') => textWithin_any b y b.isSum w (by obtain ⟨o, c, e⟩ := hTy.shape; exact ⟨o, _, c, e⟩) (hkb y hTy) hbp W' (hA.trans hA')
  have hks := E.kind_sum b
  obtain ⟨xo, xc, rfl⟩ := hTx.shape
  obtain ⟨yo, yc, rfl⟩ := hTy.shape
  have hsa := toB_size a.print
  have hsb := toB_size (parL b.isSum b.print)
  have HR : Hid (toB (a.print ++ 43 :: parL b.isSum b.print) = toB a.print ++ (⟨#[43]⟩ : ByteArray) ++ toB (parL b.isSum b.print)) := by
    refine (toB_eq ?_).symm
    rw [cat_toList, cat_toList, toB_toList, toB_toList]
    simp [ByteArray.toList_eq]
  simp only [nodeV] at kA kB
  simp only [nodeV, E.toN, N.kind, N.text, N.num]
  clear hka hkb hTx hTy hlen hP hA hT hbp
  generalize toB (a.print ++ 43 :: parL b.isSum b.print) = R at *
  generalize parL b.isSum b.print = Lb at *
  generalize a.print = La at *
  generalize toB La = A at *
  generalize toB Lb = B at *
  generalize a.toN.args.length = na at *
  generalize a.toN.kind = ak at *
  generalize a.toN.text = atx at *
  generalize a.toN.num = an at *
  generalize b.toN.args.length = nb at *
  generalize b.toN.kind = bk at *
  generalize b.toN.text = btx at *
  generalize b.toN.num = bn at *
  generalize b.isSum = q at *
  have h1 : ¬ 9223372036854775807 < A.size + (⟨#[43]⟩ : ByteArray).size := by
    show ¬ _ < A.size + 1
    omega
  have h2 : ¬ 9223372036854775807 < (A ++ (⟨#[43]⟩ : ByteArray)).size + B.size := by
    rw [ByteArray.size_append]
    show ¬ _ < A.size + 1 + B.size
    omega
  go_enter Tryd.func15, Tryd.ntmps15
  go_wp2
  go_region
  all_goals
    go_wp2
    refine wp_region_adds (by kernel_rfl) (by kernel_rfl) ?_
    repeat (go_big_quiet_step ((first | (go_at_call 15; exact Calls.adds_of (kA _ (by unfold addTo; repeat (first | with_reducible exact Adds.refl _ | with_reducible refine Adds.alloc ?_ _ | with_reducible refine Adds.more ?_ _ _ | with_reducible refine Adds.drew ?_ | with_reducible refine Adds.drewN ?_ _)))) | (go_at_call 26; exact Calls.adds_of (kB _ (by unfold addTo; repeat (first | with_reducible exact Adds.refl _ | with_reducible refine Adds.alloc ?_ _ | with_reducible refine Adds.more ?_ _ _ | with_reducible refine Adds.drew ?_ | with_reducible refine Adds.drewN ?_ _)))))))
    refine wpQuiet_nil ?_
    rintro _ ⟨pl, rfl⟩
    unfold addTo
    go_wp2
    go_ret
    exact ⟨by rw [HR.out]; rfl, (by repeat (first | with_reducible exact Adds.refl _ | with_reducible refine Adds.alloc ?_ _ | with_reducible refine Adds.more ?_ _ _ | with_reducible refine Adds.drew ?_ | with_reducible refine Adds.drewN ?_ _))⟩

set_option maxHeartbeats 2000000 in
set_option maxRecDepth 20000 in
theorem textOf_mul {D : Nat} (a b : E) (s : Value) (w : World) (hT : Tn (fun _ => True) (D + 1) w s [a.toN, b.toN]) (hlen : (E.mul a b).print.length ≤ 1000)
    (hka : ∀ x, Tn (fun _ => True) D w x a.toN.args → Told w a x) (hkb : ∀ x, Tn (fun _ => True) D w x b.toN.args → Told w b x) (W : World) (hA : Adds w W) :
    Calls Tryd.prog 15 #[nodeV (E.mul a b).toN s] W fun r w' => r = .returned (.string (toB (E.mul a b).print)) ∧ Adds W w' := by
  obtain ⟨k, off, cap, x, y, rfl, hbl, ⟨c0, c1, c2, c3⟩, ⟨d0, d1, d2, d3⟩, hTx, hTy⟩ := two_at hT hA
  have hP : (E.mul a b).print = parL a.isSum a.print ++ 42 :: parL (b.isSum || b.isMul) b.print := rfl
  rw [hP] at hlen ⊢
  have hll : (parL a.isSum a.print).length + (parL (b.isSum || b.isMul) b.print).length ≤ 1000 := by simp only [List.length_append, List.length_cons] at hlen; omega
  have hap : a.print.length ≤ 1000 := by have := parL_len a.isSum a.print; omega
  have hbp : b.print.length ≤ 1000 := by have := parL_len (b.isSum || b.isMul) b.print; omega
  have kA := fun W' (hA' : Adds W W') => textWithin_any a x a.isSum w (by obtain ⟨o, c, e⟩ := hTx.shape; exact ⟨o, _, c, e⟩) (hka x hTx) hap W' (hA.trans hA')
  have kB := fun W' (hA' : Adds W W') => textWithin_any b y (b.isSum || b.isMul) w (by obtain ⟨o, c, e⟩ := hTy.shape; exact ⟨o, _, c, e⟩) (hkb y hTy) hbp W' (hA.trans hA')
  have hks := E.kind_sum b
  have hkm := E.kind_mul b
  have hka' := E.kind_sum a
  obtain ⟨xo, xc, rfl⟩ := hTx.shape
  obtain ⟨yo, yc, rfl⟩ := hTy.shape
  have hsa := toB_size (parL a.isSum a.print)
  have hsb := toB_size (parL (b.isSum || b.isMul) b.print)
  have HR : Hid (toB (parL a.isSum a.print ++ 42 :: parL (b.isSum || b.isMul) b.print) = toB (parL a.isSum a.print) ++ (⟨#[42]⟩ : ByteArray) ++ toB (parL (b.isSum || b.isMul) b.print)) := by
    refine (toB_eq ?_).symm
    rw [cat_toList, cat_toList, toB_toList, toB_toList]
    simp [ByteArray.toList_eq]
  simp only [nodeV] at kA kB
  simp only [nodeV, E.toN, N.kind, N.text, N.num]
  clear hka hkb hTx hTy hlen hP hA hT hbp hap
  generalize toB (parL a.isSum a.print ++ 42 :: parL (b.isSum || b.isMul) b.print) = R at *
  generalize parL (b.isSum || b.isMul) b.print = Lb at *
  generalize parL a.isSum a.print = La at *
  generalize toB La = A at *
  generalize toB Lb = B at *
  generalize a.toN.args.length = na at *
  generalize a.toN.kind = ak at *
  generalize a.toN.text = atx at *
  generalize a.toN.num = an at *
  generalize b.toN.args.length = nb at *
  generalize b.toN.kind = bk at *
  generalize b.toN.text = btx at *
  generalize b.toN.num = bn at *
  generalize b.isSum = q at *
  generalize b.isMul = q2 at *
  generalize a.isSum = q3 at *
  have h1 : ¬ 9223372036854775807 < A.size + (⟨#[42]⟩ : ByteArray).size := by
    show ¬ _ < A.size + 1
    omega
  have h2 : ¬ 9223372036854775807 < (A ++ (⟨#[42]⟩ : ByteArray)).size + B.size := by
    rw [ByteArray.size_append]
    show ¬ _ < A.size + 1 + B.size
    omega
  cases q
  · rw [Bool.false_or] at kB
    go_enter Tryd.func15, Tryd.ntmps15
    go_wp2
    go_region
    all_goals
      go_wp2
      refine wp_region_adds (by kernel_rfl) (by kernel_rfl) ?_
      repeat (go_big_quiet_step ((first | (go_at_call 26; (with_reducible exact Calls.adds_of (kA _ (by unfold addTo; repeat (first | with_reducible exact Adds.refl _ | with_reducible refine Adds.alloc ?_ _ | with_reducible refine Adds.more ?_ _ _ | with_reducible refine Adds.drew ?_ | with_reducible refine Adds.drewN ?_ _))))) | (go_at_call 26; exact Calls.adds_of (kB _ (by unfold addTo; repeat (first | with_reducible exact Adds.refl _ | with_reducible refine Adds.alloc ?_ _ | with_reducible refine Adds.more ?_ _ _ | with_reducible refine Adds.drew ?_ | with_reducible refine Adds.drewN ?_ _)))))))
      refine wpQuiet_nil ?_
      rintro _ ⟨pl, rfl⟩
      unfold addTo
      go_wp2
      go_ret
      exact ⟨by rw [HR.out]; rfl, (by repeat (first | with_reducible exact Adds.refl _ | with_reducible refine Adds.alloc ?_ _ | with_reducible refine Adds.more ?_ _ _ | with_reducible refine Adds.drew ?_ | with_reducible refine Adds.drewN ?_ _))⟩
  · rw [Bool.true_or] at kB
    go_enter Tryd.func15, Tryd.ntmps15
    go_wp2
    go_region
    all_goals
      go_wp2
      refine wp_region_adds (by kernel_rfl) (by kernel_rfl) ?_
      repeat (go_big_quiet_step ((first | (go_at_call 26; (with_reducible exact Calls.adds_of (kA _ (by unfold addTo; repeat (first | with_reducible exact Adds.refl _ | with_reducible refine Adds.alloc ?_ _ | with_reducible refine Adds.more ?_ _ _ | with_reducible refine Adds.drew ?_ | with_reducible refine Adds.drewN ?_ _))))) | (go_at_call 26; exact Calls.adds_of (kB _ (by unfold addTo; repeat (first | with_reducible exact Adds.refl _ | with_reducible refine Adds.alloc ?_ _ | with_reducible refine Adds.more ?_ _ _ | with_reducible refine Adds.drew ?_ | with_reducible refine Adds.drewN ?_ _)))))))
      refine wpQuiet_nil ?_
      rintro _ ⟨pl, rfl⟩
      unfold addTo
      go_wp2
      go_ret
      exact ⟨by rw [HR.out]; rfl, (by repeat (first | with_reducible exact Adds.refl _ | with_reducible refine Adds.alloc ?_ _ | with_reducible refine Adds.more ?_ _ _ | with_reducible refine Adds.drew ?_ | with_reducible refine Adds.drewN ?_ _))⟩

end Go.Proofs.YtdlkpkldlljhcaaDoor
