/-
  The law IndexTwice, by contract: the documents that are not too many.
-/
import Derived.Test.YtbedmlimbcfnnaaGreatDoorQ39
namespace Go.Proofs.YtbedmlimbcfnnaaGreatDoor
open Go.RowKit
attribute [local go_sem] cell?_more frozen?_more setCell_more size_more tape_more drew_more drewN_more more_drew more_drewN one_out plus_out plus_end lt_one le_p2 le_p3 le_p4 le_p5 le_p6 le_p7 le_p8 le_p9 le_p10 le_p11 le_p12 le_p13 le_p14 le_p15 le_p16 le_p17 le_p18 le_p19 le_p20 le_p21 le_p22 le_p23 le_p24 le_q0 le_q1 lt_q1 le_q2 lt_q2 le_q3 lt_q3 le_q4 lt_q4 le_q5 lt_q5 le_q6 lt_q6 le_q7 lt_q7 le_q8 lt_q8 le_q9 lt_q9 le_q10 lt_q10 le_q11 lt_q11 le_q12 lt_q12 le_q13 lt_q13 le_q14 lt_q14 le_q15 lt_q15 le_q16 lt_q16 le_q17 lt_q17 le_q18 lt_q18 le_q19 lt_q19 le_q20 lt_q20 le_q21 lt_q21 le_q22 lt_q22 le_q23 lt_q23 le_q24 lt_q24

set_option maxHeartbeats 4000000 in
set_option maxRecDepth 20000 in
theorem twice_none (s : ByteArray) (dv : Value) (ds : List Dn) (cv : Value) (key : ByteArray) (has : Bool) (doc : List F) (w : World) (hd : LstD w dv ds) (hc : ChV w cv key has doc) (h1 : s.size ≤ 1100) (h2 : LightD ds) (h3 : doc.length ≤ 20) (c : Int) (hB : buildA s.toList ds = .error c) :
    Calls Tryz.prog 7 #[.string s, dv, cv] w fun e w' => e = .returned (.bool true) ∧ Adds w w' := by
  have kA := awake_any
  have kL := fun w' hA => light_any dv ds w' (hd.adds hA)
  rw [decide_eq_true h2] at kL
  have hl60 := h2.2
  have kB := fun w' hA => build_any s dv ds w' (by omega) (hd.adds hA) (by omega)
  rw [hB] at kB
  simp only [GaveB] at kB
  have hcn := buildA_err hB
  have hcb : (c != 0) = true := by simpa using hcn
  have hcb' : (c == 0) = false := by simpa using hcn
  obtain ⟨ao, cap, rfl, _, _⟩ := hd
  obtain ⟨pos, vv, rfl, vo, vc, rfl, _, _⟩ := hc
  have h1' : ¬ (1100 : Int) < (s.size : Int) := by omega
  have h3' : ¬ (20 : Int) < (doc.length : Int) := by omega
  clear h1 h2 h3 hB hcn hl60
  generalize ds.length = n at *
  generalize doc.length = nd at *
  go_enter Tryz.func7, Tryz.ntmps7
  go_wp2_with (first
    | (go_at_call 8; refine (kL _ (by repeat (first | with_reducible exact Adds.refl _ | with_reducible refine Adds.alloc ?_ _ | with_reducible refine Adds.more ?_ _ _ | with_reducible refine Adds.drew ?_ | with_reducible refine Adds.drewN ?_ _))).mono ?_; rintro e w1 ⟨rfl, hw⟩; subst w1)
    | (go_at_call 10; refine (kB _ (by repeat (first | with_reducible exact Adds.refl _ | with_reducible refine Adds.alloc ?_ _ | with_reducible refine Adds.more ?_ _ _ | with_reducible refine Adds.drew ?_ | with_reducible refine Adds.drewN ?_ _))).mono ?_; rintro e w2 ⟨rfl, os2, n2, rfl⟩)
    | (go_at_call 9; refine (kA _).mono ?_; rintro e w5 ⟨rfl, os5, n5, rfl⟩))
  go_ret
  exact ⟨rfl, (by repeat (first | with_reducible exact Adds.refl _ | with_reducible refine Adds.alloc ?_ _ | with_reducible refine Adds.more ?_ _ _ | with_reducible refine Adds.drew ?_ | with_reducible refine Adds.drewN ?_ _))⟩

set_option maxHeartbeats 4000000 in
set_option maxRecDepth 20000 in
theorem twice_bad (s : ByteArray) (dv : Value) (ds : List Dn) (cv : Value) (key : ByteArray) (has : Bool) (doc : List F) (w : World) (hd : LstD w dv ds) (hc : ChV w cv key has doc) (h1 : s.size ≤ 1100) (h2 : LightD ds) (h3 : doc.length ≤ 20) (l : List Sh.F) (hB : buildA s.toList ds = .ok l) (c : Int) (hU : updA s.toList l key has doc = .error c) :
    Calls Tryz.prog 7 #[.string s, dv, cv] w fun e w' => e = .returned (.bool true) ∧ Adds w w' := by
  have kA := awake_any
  have kL := fun w' hA => light_any dv ds w' (hd.adds hA)
  rw [decide_eq_true h2] at kL
  have hl60 := h2.2
  have hll := buildA_length hB
  have kB := fun w' hA => build_any s dv ds w' (by omega) (hd.adds hA) (by omega)
  rw [hB] at kB
  simp only [GaveB] at kB
  have hcn := updA_err hU
  have hcb : (c != 0) = true := by simpa using hcn
  have hcb' : (c == 0) = false := by simpa using hcn
  obtain ⟨ao, cap, rfl, _, _⟩ := hd
  obtain ⟨pos, vv, rfl, hdoc⟩ := hc
  have kU := fun W v (hv : Sh.Lst W v l) (hA : Adds w W) => update_any s v l pos key has vv doc W (by omega) hv (by omega) (hdoc.adds hA)
  rw [hU] at kU
  simp only [GaveB] at kU
  obtain ⟨vo, vc, rfl, _, _⟩ := hdoc
  have h1' : ¬ (1100 : Int) < (s.size : Int) := by omega
  have h3' : ¬ (20 : Int) < (doc.length : Int) := by omega
  clear h1 h2 h3 hB hcn hl60 hll hU
  generalize ds.length = n at *
  generalize doc.length = nd at *
  go_enter Tryz.func7, Tryz.ntmps7
  go_wp2_with (first
    | (go_at_call 8; refine (kL _ (by repeat (first | with_reducible exact Adds.refl _ | with_reducible refine Adds.alloc ?_ _ | with_reducible refine Adds.more ?_ _ _ | with_reducible refine Adds.drew ?_ | with_reducible refine Adds.drewN ?_ _))).mono ?_; rintro e w1 ⟨rfl, hw⟩; subst w1)
    | (go_at_call 10; refine (kB _ (by repeat (first | with_reducible exact Adds.refl _ | with_reducible refine Adds.alloc ?_ _ | with_reducible refine Adds.more ?_ _ _ | with_reducible refine Adds.drew ?_ | with_reducible refine Adds.drewN ?_ _))).mono ?_; rintro e w2 ⟨⟨v2, rfl, hL2⟩, os2, n2, rfl⟩; have HL2 : Hid _ := hL2; clear hL2)
    | (go_at_call 15; refine (kU _ _ (Sh.Lst.adds HL2.out (by repeat (first | with_reducible exact Adds.refl _ | with_reducible refine Adds.alloc ?_ _ | with_reducible refine Adds.more ?_ _ _ | with_reducible refine Adds.drew ?_ | with_reducible refine Adds.drewN ?_ _))) (by repeat (first | with_reducible exact Adds.refl _ | with_reducible refine Adds.alloc ?_ _ | with_reducible refine Adds.more ?_ _ _ | with_reducible refine Adds.drew ?_ | with_reducible refine Adds.drewN ?_ _))).mono ?_; rintro e w3 ⟨rfl, os3, n3, rfl⟩)
    | (go_at_call 9; refine (kA _).mono ?_; rintro e w5 ⟨rfl, os5, n5, rfl⟩))
  go_ret
  exact ⟨rfl, (by repeat (first | with_reducible exact Adds.refl _ | with_reducible refine Adds.alloc ?_ _ | with_reducible refine Adds.more ?_ _ _ | with_reducible refine Adds.drew ?_ | with_reducible refine Adds.drewN ?_ _))⟩

theorem keyq_size (key : ByteArray) : (key ++ (⟨#[113]⟩ : ByteArray)).size = key.size + 1 := by
  rw [ByteArray.size_append]
  rfl

set_option maxHeartbeats 4000000 in
set_option maxRecDepth 20000 in
theorem twice_once (s : ByteArray) (dv : Value) (ds : List Dn) (cv : Value) (key : ByteArray) (has : Bool) (doc : List F) (w : World) (hd : LstD w dv ds) (hc : ChV w cv key has doc) (h1 : s.size ≤ 1100) (h2 : LightD ds) (h3 : doc.length ≤ 20) (l a : List Sh.F) (hB : buildA s.toList ds = .ok l) (hU : updA s.toList l key has doc = .ok a) (hq : ¬ (key.size + 1 ≤ 64 ∧ has = true)) :
    Calls Tryz.prog 7 #[.string s, dv, cv] w fun e w' => e = .returned (.bool true) ∧ Adds w w' := by
  have kA := awake_any
  have kL := fun w' hA => light_any dv ds w' (hd.adds hA)
  rw [decide_eq_true h2] at kL
  have hl60 := h2.2
  have hll := buildA_length hB
  have kB := fun w' hA => build_any s dv ds w' (by omega) (hd.adds hA) (by omega)
  rw [hB] at kB
  simp only [GaveB] at kB
  obtain ⟨xs, hx, hMl, hMC, ha⟩ := updA_ok hU
  have hU2 : updA s.toList a key has doc = .ok a := by
    rw [ha, updA_of hx (updE_may hMl) hMC, updE_twice hMl]
  have hal : a.length ≤ 61 := by
    have := updE_length xs l key has doc
    rw [ha]
    omega
  have hk64 : key.size ≤ 64 := by
    have := hMC.1
    unfold isKey at this
    rw [decide_eq_true_eq] at this
    exact this.2
  obtain ⟨ao, cap, rfl, _, _⟩ := hd
  obtain ⟨pos, vv, rfl, hdoc⟩ := hc
  have kU := fun W v (hv : Sh.Lst W v l) (hA : Adds w W) => update_any s v l pos key has vv doc W (by omega) hv (by omega) (hdoc.adds hA)
  rw [hU] at kU
  have kU2 := fun W v (hv : Sh.Lst W v a) (hA : Adds w W) => update_any s v a pos key has vv doc W (by omega) hv (by omega) (hdoc.adds hA)
  rw [hU2] at kU2
  simp only [GaveB] at kU kU2
  have kS := fun W v u hx hy => Sh.refSame_any v u a a W hx hy (by omega) (by omega)
  simp only [decide_true] at kS
  obtain ⟨vo, vc, rfl, _, _⟩ := hdoc
  have h1' : ¬ (1100 : Int) < (s.size : Int) := by omega
  have h3' : ¬ (20 : Int) < (doc.length : Int) := by omega
  have hsz : ¬ 9223372036854775807 < key.size + (⟨#[113]⟩ : ByteArray).size := by
    show ¬ _ < key.size + 1
    omega
  clear h1 h2 h3 hB hl60 hll hU hU2 hx hMl hMC ha
  generalize ds.length = n at *
  generalize doc.length = nd at *
  have hor : (64 : Int) < (key.size : Int) + 1 ∨ (¬ (64 : Int) < (key.size : Int) + 1 ∧ has = false) := by
    by_cases h : key.size + 1 ≤ 64
    · refine .inr ⟨by omega, ?_⟩
      cases has
      · rfl
      · exact absurd ⟨h, rfl⟩ hq
    · exact .inl (by omega)
  clear hq hk64
  rcases hor with hk1 | ⟨hk1, rfl⟩
  · go_enter Tryz.func7, Tryz.ntmps7
    go_wp2_with (first
      | (go_at_call 8; refine (kL _ (by repeat (first | with_reducible exact Adds.refl _ | with_reducible refine Adds.alloc ?_ _ | with_reducible refine Adds.more ?_ _ _ | with_reducible refine Adds.drew ?_ | with_reducible refine Adds.drewN ?_ _))).mono ?_; rintro e w1 ⟨rfl, hw⟩; subst w1)
      | (go_at_call 10; refine (kB _ (by repeat (first | with_reducible exact Adds.refl _ | with_reducible refine Adds.alloc ?_ _ | with_reducible refine Adds.more ?_ _ _ | with_reducible refine Adds.drew ?_ | with_reducible refine Adds.drewN ?_ _))).mono ?_; rintro e w2 ⟨⟨v2, rfl, hL2⟩, os2, n2, rfl⟩; have HL2 : Hid _ := hL2; clear hL2)
      | (go_at_call 15; refine (kU _ _ (Sh.Lst.adds HL2.out (by repeat (first | with_reducible exact Adds.refl _ | with_reducible refine Adds.alloc ?_ _ | with_reducible refine Adds.more ?_ _ _ | with_reducible refine Adds.drew ?_ | with_reducible refine Adds.drewN ?_ _))) (by repeat (first | with_reducible exact Adds.refl _ | with_reducible refine Adds.alloc ?_ _ | with_reducible refine Adds.more ?_ _ _ | with_reducible refine Adds.drew ?_ | with_reducible refine Adds.drewN ?_ _))).mono ?_; rintro e w3 ⟨⟨v3, rfl, hL3⟩, os3, n3, rfl⟩; have HL3 : Hid _ := hL3; clear hL3 kU)
      | (go_at_call 15; refine (kU2 _ _ (Sh.Lst.adds HL3.out (by repeat (first | with_reducible exact Adds.refl _ | with_reducible refine Adds.alloc ?_ _ | with_reducible refine Adds.more ?_ _ _ | with_reducible refine Adds.drew ?_ | with_reducible refine Adds.drewN ?_ _))) (by repeat (first | with_reducible exact Adds.refl _ | with_reducible refine Adds.alloc ?_ _ | with_reducible refine Adds.more ?_ _ _ | with_reducible refine Adds.drew ?_ | with_reducible refine Adds.drewN ?_ _))).mono ?_; rintro e w4 ⟨⟨v4, rfl, hL4⟩, os4, n4, rfl⟩; have HL4 : Hid _ := hL4; clear hL4 kU2)
      | (go_at_call 12; refine (kS _ _ _ (Sh.Lst.adds HL3.out (by repeat (first | with_reducible exact Adds.refl _ | with_reducible refine Adds.alloc ?_ _ | with_reducible refine Adds.more ?_ _ _ | with_reducible refine Adds.drew ?_ | with_reducible refine Adds.drewN ?_ _))) (Sh.Lst.adds HL4.out (by repeat (first | with_reducible exact Adds.refl _ | with_reducible refine Adds.alloc ?_ _ | with_reducible refine Adds.more ?_ _ _ | with_reducible refine Adds.drew ?_ | with_reducible refine Adds.drewN ?_ _)))).mono ?_; rintro e w6 ⟨rfl, os6, n6, rfl⟩)
      | (go_at_call 9; refine (kA _).mono ?_; rintro e w5 ⟨rfl, os5, n5, rfl⟩))
    go_ret
    exact ⟨rfl, (by repeat (first | with_reducible exact Adds.refl _ | with_reducible refine Adds.alloc ?_ _ | with_reducible refine Adds.more ?_ _ _ | with_reducible refine Adds.drew ?_ | with_reducible refine Adds.drewN ?_ _))⟩
  · go_enter Tryz.func7, Tryz.ntmps7
    go_wp2_with (first
      | (go_at_call 8; refine (kL _ (by repeat (first | with_reducible exact Adds.refl _ | with_reducible refine Adds.alloc ?_ _ | with_reducible refine Adds.more ?_ _ _ | with_reducible refine Adds.drew ?_ | with_reducible refine Adds.drewN ?_ _))).mono ?_; rintro e w1 ⟨rfl, hw⟩; subst w1)
      | (go_at_call 10; refine (kB _ (by repeat (first | with_reducible exact Adds.refl _ | with_reducible refine Adds.alloc ?_ _ | with_reducible refine Adds.more ?_ _ _ | with_reducible refine Adds.drew ?_ | with_reducible refine Adds.drewN ?_ _))).mono ?_; rintro e w2 ⟨⟨v2, rfl, hL2⟩, os2, n2, rfl⟩; have HL2 : Hid _ := hL2; clear hL2)
      | (go_at_call 15; refine (kU _ _ (Sh.Lst.adds HL2.out (by repeat (first | with_reducible exact Adds.refl _ | with_reducible refine Adds.alloc ?_ _ | with_reducible refine Adds.more ?_ _ _ | with_reducible refine Adds.drew ?_ | with_reducible refine Adds.drewN ?_ _))) (by repeat (first | with_reducible exact Adds.refl _ | with_reducible refine Adds.alloc ?_ _ | with_reducible refine Adds.more ?_ _ _ | with_reducible refine Adds.drew ?_ | with_reducible refine Adds.drewN ?_ _))).mono ?_; rintro e w3 ⟨⟨v3, rfl, hL3⟩, os3, n3, rfl⟩; have HL3 : Hid _ := hL3; clear hL3 kU)
      | (go_at_call 15; refine (kU2 _ _ (Sh.Lst.adds HL3.out (by repeat (first | with_reducible exact Adds.refl _ | with_reducible refine Adds.alloc ?_ _ | with_reducible refine Adds.more ?_ _ _ | with_reducible refine Adds.drew ?_ | with_reducible refine Adds.drewN ?_ _))) (by repeat (first | with_reducible exact Adds.refl _ | with_reducible refine Adds.alloc ?_ _ | with_reducible refine Adds.more ?_ _ _ | with_reducible refine Adds.drew ?_ | with_reducible refine Adds.drewN ?_ _))).mono ?_; rintro e w4 ⟨⟨v4, rfl, hL4⟩, os4, n4, rfl⟩; have HL4 : Hid _ := hL4; clear hL4 kU2)
      | (go_at_call 12; refine (kS _ _ _ (Sh.Lst.adds HL3.out (by repeat (first | with_reducible exact Adds.refl _ | with_reducible refine Adds.alloc ?_ _ | with_reducible refine Adds.more ?_ _ _ | with_reducible refine Adds.drew ?_ | with_reducible refine Adds.drewN ?_ _))) (Sh.Lst.adds HL4.out (by repeat (first | with_reducible exact Adds.refl _ | with_reducible refine Adds.alloc ?_ _ | with_reducible refine Adds.more ?_ _ _ | with_reducible refine Adds.drew ?_ | with_reducible refine Adds.drewN ?_ _)))).mono ?_; rintro e w6 ⟨rfl, os6, n6, rfl⟩)
      | (go_at_call 9; refine (kA _).mono ?_; rintro e w5 ⟨rfl, os5, n5, rfl⟩))
    go_ret
    exact ⟨rfl, (by repeat (first | with_reducible exact Adds.refl _ | with_reducible refine Adds.alloc ?_ _ | with_reducible refine Adds.more ?_ _ _ | with_reducible refine Adds.drew ?_ | with_reducible refine Adds.drewN ?_ _))⟩

set_option maxHeartbeats 4000000 in
set_option maxRecDepth 20000 in
theorem twice_both (s : ByteArray) (dv : Value) (ds : List Dn) (cv : Value) (key : ByteArray) (has : Bool) (doc : List F) (w : World) (hd : LstD w dv ds) (hc : ChV w cv key has doc) (h1 : s.size ≤ 1100) (h2 : LightD ds) (h3 : doc.length ≤ 20) (l a : List Sh.F) (hB : buildA s.toList ds = .ok l) (hU : updA s.toList l key has doc = .ok a) (hq : key.size + 1 ≤ 64 ∧ has = true) :
    Calls Tryz.prog 7 #[.string s, dv, cv] w fun e w' => e = .returned (.bool true) ∧ Adds w w' := by
  have kA := awake_any
  have kL := fun w' hA => light_any dv ds w' (hd.adds hA)
  rw [decide_eq_true h2] at kL
  have hl60 := h2.2
  have hll := buildA_length hB
  have kB := fun w' hA => build_any s dv ds w' (by omega) (hd.adds hA) (by omega)
  rw [hB] at kB
  simp only [GaveB] at kB
  obtain ⟨xs, hx, hMl, hMC, ha⟩ := updA_ok hU
  have hU2 : updA s.toList a key has doc = .ok a := by
    rw [ha, updA_of hx (updE_may hMl) hMC, updE_twice hMl]
  have hal : a.length ≤ 61 := by
    have := updE_length xs l key has doc
    rw [ha]
    omega
  have hk64 : key.size ≤ 64 := by
    have := hMC.1
    unfold isKey at this
    rw [decide_eq_true_eq] at this
    exact this.2
  have hne : key ≠ key ++ (⟨#[113]⟩ : ByteArray) := fun e => by
    have := congrArg ByteArray.size e
    rw [keyq_size] at this
    omega
  have hMq : MayC (key ++ (⟨#[113]⟩ : ByteArray)) true doc := ⟨by
    unfold isKey
    rw [decide_eq_true_eq, keyq_size]
    omega, fun _ => hMC.2 hq.2⟩
  have hU3 : updA s.toList a (key ++ (⟨#[113]⟩ : ByteArray)) true doc = .ok (updE xs a (key ++ (⟨#[113]⟩ : ByteArray)) true doc) := updA_of hx (by rw [ha]; exact updE_may hMl) hMq
  have hU4 : updA s.toList l (key ++ (⟨#[113]⟩ : ByteArray)) true doc = .ok (updE xs l (key ++ (⟨#[113]⟩ : ByteArray)) true doc) := updA_of hx hMl hMq
  have hU5 : updA s.toList (updE xs l (key ++ (⟨#[113]⟩ : ByteArray)) true doc) key has doc = .ok (updE xs a (key ++ (⟨#[113]⟩ : ByteArray)) true doc) := by
    rw [updA_of hx (updE_may hMl) hMC, ha, updE_swap hMl hne]
  have hl3 := updE_length xs a (key ++ (⟨#[113]⟩ : ByteArray)) true doc
  have hl4 := updE_length xs l (key ++ (⟨#[113]⟩ : ByteArray)) true doc
  generalize updE xs a (key ++ (⟨#[113]⟩ : ByteArray)) true doc = X at *
  generalize updE xs l (key ++ (⟨#[113]⟩ : ByteArray)) true doc = Y at *
  obtain ⟨ao, cap, rfl, _, _⟩ := hd
  obtain ⟨pos, vv, rfl, hdoc⟩ := hc
  have kU := fun W v (hv : Sh.Lst W v l) (hA : Adds w W) => update_any s v l pos key has vv doc W (by omega) hv (by omega) (hdoc.adds hA)
  rw [hU] at kU
  have kU2 := fun W v (hv : Sh.Lst W v a) (hA : Adds w W) => update_any s v a pos key has vv doc W (by omega) hv (by omega) (hdoc.adds hA)
  rw [hU2] at kU2
  have kU3 := fun W v (hv : Sh.Lst W v a) (hA : Adds w W) => update_any s v a 0 (key ++ (⟨#[113]⟩ : ByteArray)) true vv doc W (by omega) hv (by omega) (hdoc.adds hA)
  rw [hU3] at kU3
  have kU4 := fun W v (hv : Sh.Lst W v l) (hA : Adds w W) => update_any s v l 0 (key ++ (⟨#[113]⟩ : ByteArray)) true vv doc W (by omega) hv (by omega) (hdoc.adds hA)
  rw [hU4] at kU4
  have kU5 := fun W v (hv : Sh.Lst W v Y) (hA : Adds w W) => update_any s v Y pos key has vv doc W (by omega) hv (by omega) (hdoc.adds hA)
  rw [hU5] at kU5
  simp only [GaveB] at kU kU2 kU3 kU4 kU5
  have kT := fun W v u hx hy => Sh.refSame_any v u X X W hx hy (by omega) (by omega)
  simp only [decide_true] at kT
  have kS := fun W v u hx hy => Sh.refSame_any v u a a W hx hy (by omega) (by omega)
  simp only [decide_true] at kS
  obtain ⟨vo, vc, rfl, _, _⟩ := hdoc
  have h1' : ¬ (1100 : Int) < (s.size : Int) := by omega
  have h3' : ¬ (20 : Int) < (doc.length : Int) := by omega
  have hsz : ¬ 9223372036854775807 < key.size + (⟨#[113]⟩ : ByteArray).size := by
    show ¬ _ < key.size + 1
    omega
  have hk1 : ¬ (64 : Int) < (key.size : Int) + 1 := by omega
  obtain ⟨_, rfl⟩ := hq
  clear h1 h2 h3 hB hl60 hll hU hU2 hU3 hU4 hU5 hx hMl hMC ha hne hMq hl3 hl4 hk64
  generalize ds.length = n at *
  generalize doc.length = nd at *
  go_enter Tryz.func7, Tryz.ntmps7
  go_wp2_with (first
    | (go_at_call 8; refine (kL _ (by repeat (first | with_reducible exact Adds.refl _ | with_reducible refine Adds.alloc ?_ _ | with_reducible refine Adds.more ?_ _ _ | with_reducible refine Adds.drew ?_ | with_reducible refine Adds.drewN ?_ _))).mono ?_; rintro e w1 ⟨rfl, hw⟩; subst w1)
    | (go_at_call 10; refine (kB _ (by repeat (first | with_reducible exact Adds.refl _ | with_reducible refine Adds.alloc ?_ _ | with_reducible refine Adds.more ?_ _ _ | with_reducible refine Adds.drew ?_ | with_reducible refine Adds.drewN ?_ _))).mono ?_; rintro e w2 ⟨⟨v2, rfl, hL2⟩, os2, n2, rfl⟩; have HL2 : Hid _ := hL2; clear hL2)
    | (go_at_call 15; refine (kU _ _ (Sh.Lst.adds HL2.out (by repeat (first | with_reducible exact Adds.refl _ | with_reducible refine Adds.alloc ?_ _ | with_reducible refine Adds.more ?_ _ _ | with_reducible refine Adds.drew ?_ | with_reducible refine Adds.drewN ?_ _))) (by repeat (first | with_reducible exact Adds.refl _ | with_reducible refine Adds.alloc ?_ _ | with_reducible refine Adds.more ?_ _ _ | with_reducible refine Adds.drew ?_ | with_reducible refine Adds.drewN ?_ _))).mono ?_; rintro e w3 ⟨⟨v3, rfl, hL3⟩, os3, n3, rfl⟩; have HL3 : Hid _ := hL3; clear hL3 kU)
    | (go_at_call 15; refine (kU2 _ _ (Sh.Lst.adds HL3.out (by repeat (first | with_reducible exact Adds.refl _ | with_reducible refine Adds.alloc ?_ _ | with_reducible refine Adds.more ?_ _ _ | with_reducible refine Adds.drew ?_ | with_reducible refine Adds.drewN ?_ _))) (by repeat (first | with_reducible exact Adds.refl _ | with_reducible refine Adds.alloc ?_ _ | with_reducible refine Adds.more ?_ _ _ | with_reducible refine Adds.drew ?_ | with_reducible refine Adds.drewN ?_ _))).mono ?_; rintro e w4 ⟨⟨v4, rfl, hL4⟩, os4, n4, rfl⟩; have HL4 : Hid _ := hL4; clear hL4 kU2)
    | (go_at_call 15; refine (kU3 _ _ (Sh.Lst.adds HL3.out (by repeat (first | with_reducible exact Adds.refl _ | with_reducible refine Adds.alloc ?_ _ | with_reducible refine Adds.more ?_ _ _ | with_reducible refine Adds.drew ?_ | with_reducible refine Adds.drewN ?_ _))) (by repeat (first | with_reducible exact Adds.refl _ | with_reducible refine Adds.alloc ?_ _ | with_reducible refine Adds.more ?_ _ _ | with_reducible refine Adds.drew ?_ | with_reducible refine Adds.drewN ?_ _))).mono ?_; rintro e w7 ⟨⟨v7, rfl, hL7⟩, os7, n7, rfl⟩; have HL7 : Hid _ := hL7; clear hL7 kU3)
    | (go_at_call 15; refine (kU4 _ _ (Sh.Lst.adds HL2.out (by repeat (first | with_reducible exact Adds.refl _ | with_reducible refine Adds.alloc ?_ _ | with_reducible refine Adds.more ?_ _ _ | with_reducible refine Adds.drew ?_ | with_reducible refine Adds.drewN ?_ _))) (by repeat (first | with_reducible exact Adds.refl _ | with_reducible refine Adds.alloc ?_ _ | with_reducible refine Adds.more ?_ _ _ | with_reducible refine Adds.drew ?_ | with_reducible refine Adds.drewN ?_ _))).mono ?_; rintro e w8 ⟨⟨v8, rfl, hL8⟩, os8, n8, rfl⟩; have HL8 : Hid _ := hL8; clear hL8 kU4)
    | (go_at_call 15; refine (kU5 _ _ (Sh.Lst.adds HL8.out (by repeat (first | with_reducible exact Adds.refl _ | with_reducible refine Adds.alloc ?_ _ | with_reducible refine Adds.more ?_ _ _ | with_reducible refine Adds.drew ?_ | with_reducible refine Adds.drewN ?_ _))) (by repeat (first | with_reducible exact Adds.refl _ | with_reducible refine Adds.alloc ?_ _ | with_reducible refine Adds.more ?_ _ _ | with_reducible refine Adds.drew ?_ | with_reducible refine Adds.drewN ?_ _))).mono ?_; rintro e w9 ⟨⟨v9, rfl, hL9⟩, os9, n9, rfl⟩; have HL9 : Hid _ := hL9; clear hL9 kU5)
    | (go_at_call 12; refine (kS _ _ _ (Sh.Lst.adds HL3.out (by repeat (first | with_reducible exact Adds.refl _ | with_reducible refine Adds.alloc ?_ _ | with_reducible refine Adds.more ?_ _ _ | with_reducible refine Adds.drew ?_ | with_reducible refine Adds.drewN ?_ _))) (Sh.Lst.adds HL4.out (by repeat (first | with_reducible exact Adds.refl _ | with_reducible refine Adds.alloc ?_ _ | with_reducible refine Adds.more ?_ _ _ | with_reducible refine Adds.drew ?_ | with_reducible refine Adds.drewN ?_ _)))).mono ?_; rintro e w6 ⟨rfl, os6, n6, rfl⟩; clear kS)
    | (go_at_call 12; refine (kT _ _ _ (Sh.Lst.adds HL7.out (by repeat (first | with_reducible exact Adds.refl _ | with_reducible refine Adds.alloc ?_ _ | with_reducible refine Adds.more ?_ _ _ | with_reducible refine Adds.drew ?_ | with_reducible refine Adds.drewN ?_ _))) (Sh.Lst.adds HL9.out (by repeat (first | with_reducible exact Adds.refl _ | with_reducible refine Adds.alloc ?_ _ | with_reducible refine Adds.more ?_ _ _ | with_reducible refine Adds.drew ?_ | with_reducible refine Adds.drewN ?_ _)))).mono ?_; rintro e w10 ⟨rfl, os10, n10, rfl⟩)
    | (go_at_call 9; refine (kA _).mono ?_; rintro e w5 ⟨rfl, os5, n5, rfl⟩))
  go_ret
  exact ⟨rfl, (by repeat (first | with_reducible exact Adds.refl _ | with_reducible refine Adds.alloc ?_ _ | with_reducible refine Adds.more ?_ _ _ | with_reducible refine Adds.drew ?_ | with_reducible refine Adds.drewN ?_ _))⟩

theorem twice_any (s : ByteArray) (dv : Value) (ds : List Dn) (cv : Value) (key : ByteArray) (has : Bool) (doc : List F) (w : World) (hd : LstD w dv ds) (hc : ChV w cv key has doc) :
    Calls Tryz.prog 7 #[.string s, dv, cv] w fun e w' => e = .returned (.bool true) ∧ Adds w w' := by
  by_cases hg : s.size ≤ 1100 ∧ LightD ds ∧ doc.length ≤ 20
  rotate_left
  · exact twice_great s dv ds cv key has doc w hd hc hg
  obtain ⟨h1, h2, h3⟩ := hg
  cases hB : buildA s.toList ds with
  | error c => exact twice_none s dv ds cv key has doc w hd hc h1 h2 h3 c hB
  | ok l =>
    cases hU : updA s.toList l key has doc with
    | error c => exact twice_bad s dv ds cv key has doc w hd hc h1 h2 h3 l hB c hU
    | ok a =>
      by_cases hq : key.size + 1 ≤ 64 ∧ has = true
      · exact twice_both s dv ds cv key has doc w hd hc h1 h2 h3 l a hB hU hq
      · exact twice_once s dv ds cv key has doc w hd hc h1 h2 h3 l a hB hU hq

end Go.Proofs.YtbedmlimbcfnnaaGreatDoor
