/-
  The function textOf of package expr: an expression's text, by contract.
-/
import Derived.Test.YtdlkpkldlljhcaaDoorPit
import Derived.Test.YtdlkpkldlljhcaaDoorNode
import Derived.Test.YtdlkpkldlljhcaaDoorJump
namespace Go.Proofs.YtdlkpkldlljhcaaDoor
open Go.RowKit
attribute [local go_sem] cell?_more frozen?_more setCell_more size_more tape_more drew_more drewN_more more_drew more_drewN one_out plus_out plus_end lt_one le_p2 le_p3 le_p4 le_p5 le_p6 le_p7 le_p8 le_p9 le_p10 le_p11 le_p12 le_p13 le_p14 le_p15 le_p16 le_p17 le_p18 le_p19 le_p20 le_p21 le_p22 le_p23 le_p24 le_q0 le_q1 lt_q1 le_q2 lt_q2 le_q3 lt_q3 le_q4 lt_q4 le_q5 lt_q5 le_q6 lt_q6 le_q7 lt_q7 le_q8 lt_q8 le_q9 lt_q9 le_q10 lt_q10 le_q11 lt_q11 le_q12 lt_q12 le_q13 lt_q13 le_q14 lt_q14 le_q15 lt_q15 le_q16 lt_q16 le_q17 lt_q17 le_q18 lt_q18 le_q19 lt_q19 le_q20 lt_q20 le_q21 lt_q21 le_q22 lt_q22 le_q23 lt_q23 le_q24 lt_q24

attribute [local go_sem] cell?_addTo

theorem cat_toList (a b : ByteArray) : (a ++ b).toList = a.toList ++ b.toList := by
  rw [ByteArray.toList_eq, ByteArray.toList_eq, ByteArray.toList_eq]
  simp

/-- A node of an expression lies there, and its text is told. -/
def Told (w : World) (e : E) (s : Value) : Prop := ∀ W, Adds w W → Calls Tryd.prog 15 #[nodeV e.toN s] W fun r w' => r = .returned (.string (toB e.print)) ∧ Adds W w'

theorem textWithin_any (e : E) (s : Value) (p : Bool) (w : World) (hs : ∃ ao n cap, s = .slice ao n cap) (ht : Told w e s) (hlen : e.print.length ≤ 1000) (W : World) (hA : Adds w W) :
    Calls Tryd.prog 26 #[nodeV e.toN s, .bool p] W fun r w' => r = .returned (.string (toB (parL p e.print))) ∧ Adds W w' := by
  obtain ⟨ao, n, cap, rfl⟩ := hs
  have kT := fun W' (hA' : Adds W W') => ht W' (hA.trans hA')
  have hsz := toB_size e.print
  have HP : Hid (∀ q, parL q e.print = if q then 40 :: (e.print ++ [41]) else e.print) := fun q => rfl
  have HE : Hid ((toB e.print).toList = e.print) := toB_toList _
  simp only [nodeV] at kT ⊢
  generalize e.print = L at *
  generalize toB L = X at *
  generalize e.toN.kind = xk at *
  generalize e.toN.text = xt at *
  generalize e.toN.num = xn at *
  clear ht hA
  have HR0 : Hid (toB (parL false L) = X) := (toB_eq (by rw [HE.out, HP.out]; rfl)).symm
  have HR1 : Hid (toB (parL true L) = (⟨#[40]⟩ : ByteArray) ++ X ++ (⟨#[41]⟩ : ByteArray)) := by
    refine (toB_eq ?_).symm
    rw [HP.out, cat_toList, cat_toList, HE.out]
    simp [ByteArray.toList_eq]
  clear HP HE
  cases p
  · go_enter Tryd.func26, Tryd.ntmps26
    go_wp2_with (go_at_call 15; refine (kT _ (by repeat (first | with_reducible exact Adds.refl _ | with_reducible refine Adds.alloc ?_ _ | with_reducible refine Adds.more ?_ _ _ | with_reducible refine Adds.drew ?_ | with_reducible refine Adds.drewN ?_ _))).mono ?_; rintro e w1 ⟨rfl, os1, n1, rfl⟩)
    go_ret
    exact ⟨by rw [HR0.out]; rfl, (by repeat (first | with_reducible exact Adds.refl _ | with_reducible refine Adds.alloc ?_ _ | with_reducible refine Adds.more ?_ _ _ | with_reducible refine Adds.drew ?_ | with_reducible refine Adds.drewN ?_ _))⟩
  · have h1 : ¬ 9223372036854775807 < (⟨#[40]⟩ : ByteArray).size + X.size := by
      show ¬ _ < 1 + X.size
      omega
    have h2 : ¬ 9223372036854775807 < ((⟨#[40]⟩ : ByteArray) ++ X).size + (⟨#[41]⟩ : ByteArray).size := by
      rw [ByteArray.size_append]
      show ¬ _ < 1 + X.size + 1
      omega
    go_enter Tryd.func26, Tryd.ntmps26
    go_wp2_with (go_at_call 15; refine (kT _ (by repeat (first | with_reducible exact Adds.refl _ | with_reducible refine Adds.alloc ?_ _ | with_reducible refine Adds.more ?_ _ _ | with_reducible refine Adds.drew ?_ | with_reducible refine Adds.drewN ?_ _))).mono ?_; rintro e w1 ⟨rfl, os1, n1, rfl⟩)
    go_ret
    exact ⟨by rw [HR1.out]; rfl, (by repeat (first | with_reducible exact Adds.refl _ | with_reducible refine Adds.alloc ?_ _ | with_reducible refine Adds.more ?_ _ _ | with_reducible refine Adds.drew ?_ | with_reducible refine Adds.drewN ?_ _))⟩

theorem textOf_path (t : List UInt8) (s : Value) (hs : ∃ ao n cap, s = .slice ao n cap) (W : World) : Calls Tryd.prog 15 #[nodeV (E.path t).toN s] W fun r w' => r = .returned (.string (toB (E.path t).print)) ∧ Adds W w' := by
  obtain ⟨ao, n, cap, rfl⟩ := hs
  simp only [nodeV, E.toN, N.kind, N.text, N.num, E.print]
  generalize toB t = X
  go_enter Tryd.func15, Tryd.ntmps15
  go_wp2
  go_ret
  exact ⟨rfl, (by repeat (first | with_reducible exact Adds.refl _ | with_reducible refine Adds.alloc ?_ _ | with_reducible refine Adds.more ?_ _ _ | with_reducible refine Adds.drew ?_ | with_reducible refine Adds.drewN ?_ _))⟩

theorem textOf_num (k : Nat) (hk : k < 1000000000000000) (s : Value) (hs : ∃ ao n cap, s = .slice ao n cap) (w : World) (ht : Tab w) (W : World) (hA : Adds w W) : Calls Tryd.prog 15 #[nodeV (E.num k).toN s] W fun r w' => r = .returned (.string (toB (E.num k).print)) ∧ Adds W w' := by
  obtain ⟨ao, n, cap, rfl⟩ := hs
  have kI := fun W' (hA' : Adds W W') => itoa_any k hk W' (ht.adds (hA.trans hA'))
  simp only [nodeV, E.toN, N.kind, N.text, N.num, E.print]
  clear hA
  go_enter Tryd.func15, Tryd.ntmps15
  go_wp2_with (go_at_call 25; refine (kI _ (by repeat (first | with_reducible exact Adds.refl _ | with_reducible refine Adds.alloc ?_ _ | with_reducible refine Adds.more ?_ _ _ | with_reducible refine Adds.drew ?_ | with_reducible refine Adds.drewN ?_ _))).mono ?_; rintro e w1 ⟨rfl, os1, n1, rfl⟩)
  go_ret
  exact ⟨rfl, (by repeat (first | with_reducible exact Adds.refl _ | with_reducible refine Adds.alloc ?_ _ | with_reducible refine Adds.more ?_ _ _ | with_reducible refine Adds.drew ?_ | with_reducible refine Adds.drewN ?_ _))⟩

end Go.Proofs.YtdlkpkldlljhcaaDoor
