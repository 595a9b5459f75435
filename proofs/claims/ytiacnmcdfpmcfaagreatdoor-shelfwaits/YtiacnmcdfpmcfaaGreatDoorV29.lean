/-
  The reference's raw, by a contract: num.
  The reference's raw, by a contract: path.
  The reference's raw, by a contract: sum.
-/
import Derived.Test.YtiacnmcdfpmcfaaGreatDoorQ21
import Derived.Test.YtiacnmcdfpmcfaaGreatDoorQ20
import Derived.BigQuiet
namespace Go.Proofs.YtiacnmcdfpmcfaaGreatDoor
open Go.RowKit
attribute [local go_sem] cell?_more frozen?_more setCell_more size_more tape_more drew_more drewN_more more_drew more_drewN one_out plus_out plus_end lt_one le_p2 le_p3 le_p4 le_p5 le_p6 le_p7 le_p8 le_p9 le_p10 le_p11 le_p12 le_p13 le_p14 le_p15 le_p16 le_p17 le_p18 le_p19 le_p20 le_p21 le_p22 le_p23 le_p24 le_q0 le_q1 lt_q1 le_q2 lt_q2 le_q3 lt_q3 le_q4 lt_q4 le_q5 lt_q5 le_q6 lt_q6 le_q7 lt_q7 le_q8 lt_q8 le_q9 lt_q9 le_q10 lt_q10 le_q11 lt_q11 le_q12 lt_q12 le_q13 lt_q13 le_q14 lt_q14 le_q15 lt_q15 le_q16 lt_q16 le_q17 lt_q17 le_q18 lt_q18 le_q19 lt_q19 le_q20 lt_q20 le_q21 lt_q21 le_q22 lt_q22 le_q23 lt_q23 le_q24 lt_q24


set_option maxHeartbeats 4000000 in
theorem raw_num {ok : Nat → Prop} {d : Nat} (cs : List E) (hcs : cs.length = 0) (t : ByteArray) (n : Int) (fs : List F) (hm : May fs) (dv : Value) (sn : Value) (w : World) (hT : Tn ok d w sn (cs.map E.toN)) (_hL : Lst w dv fs) (hok : ∀ c ∈ cs, c.ok)
    (HV : ∀ (j : Nat) (h : j < cs.length) (e : Nat) (x : Value) (W : World), Adds w W → Tn ok e W x cs[j].toN.args → Calls Tryz.prog 100 #[nodeV cs[j].toN x, dv] W fun z w' => z = .returned (optV (valE fs cs[j])) ∧ Adds W w') :
    Calls Tryz.prog 126 #[.agg #[.int .i64 2, .string t, .int .i64 n, sn], dv] w fun x w' => x = .returned (optV ((kidsV fs cs).bind (fun _ => some (V.mkNum n)))) ∧ Adds w w' := by
  obtain ⟨ao, cap, rfl⟩ := hT.shape
  have HCS : Hid (cs.length = 0) := hcs
  rw [List.length_map, hcs] at hT ⊢
  have HT : Hid (Tn ok d w (.slice ao 0 cap) (cs.map E.toN)) := hT
  have HC : Hid (∀ (j : Nat) (h : j < cs.length) v, valE fs cs[j] = some v → v.check = 0) := fun j h v hv => valE_ok hm (hok _ (List.getElem_mem h)) hv
  have kN := rNum_any n
  clear hT hok hm _hL
  clear hcs
  have HX : Hid _ := HV
  clear HV
  go_enter Tryz.func126, Tryz.ntmps126
  go_wp2
  go_loopw [6, 7] (fun lv iv wr => ∃ (j : Nat) (vs : List V), j ≤ 0 ∧ iv = .int .i64 j ∧ Hid (Kn fs cs ((w.alloc (.cells #[.int .i64 2, .string t, .int .i64 n, .slice ao 0 cap] 81)).alloc (.cells #[.int .i64 0, .int .i64 0, .string ⟨#[]⟩, .int .i64 0, .int .i64 0] 87)) wr lv j vs)) (fun _ iv _ => 0 - (intOf iv).toNat)
  case atStart =>
    refine ⟨0, [], Nat.zero_le _, rfl, ⟨rfl, ?_, by simp, own_empty (by simp) (Nat.le_refl _), by repeat (first | with_reducible exact Adds.refl _ | with_reducible refine Adds.alloc ?_ _ | with_reducible refine Adds.more ?_ _ _ | with_reducible refine Adds.drew ?_ | with_reducible refine Adds.drewN ?_ _)⟩⟩
    rw [List.drop_zero]
    cases kidsV fs cs <;> rfl
  case round =>
    obtain ⟨j, vs, hj, rfl, hK⟩ := hrel
    by_cases hltM : j < 0
    · exact absurd hltM (by omega)
    · have hj' : j = cs.length := by rw [HCS.out]; omega
      subst hj'
      rw [HCS.out] at hj hltM
      have HLa : Hid (kidsV fs cs = some vs) := hK.out.last
      have hvl := hK.out.len
      have hgood := hK.out.good
      have hown := hK.out.own
      have HA1 : Hid (Adds w wr) := Adds.trans (by repeat (first | with_reducible exact Adds.refl _ | with_reducible refine Adds.alloc ?_ _ | with_reducible refine Adds.more ?_ _ _ | with_reducible refine Adds.drew ?_ | with_reducible refine Adds.drewN ?_ _)) hK.out.adds
      have hA1 := hK.out.adds
      have hbel := hA1.below
      have hsz := hbel.size
      simp only [World.size_alloc] at hsz
      have fB : ∀ i, wr.cell? ⟨w.heap.size, i, none⟩ = (((w.alloc (.cells #[.int .i64 2, .string t, .int .i64 n, .slice ao 0 cap] 81)).alloc (.cells #[.int .i64 0, .int .i64 0, .string ⟨#[]⟩, .int .i64 0, .int .i64 0] 87))).cell? ⟨w.heap.size, i, none⟩ := fun i => World.cell?_of_block (hbel.block _ (by rw [World.size_alloc, World.size_alloc]; show _ < w.heap.size + 1 + 1; simp only; omega))
      have gB : ∀ i, wr.cell? ⟨w.heap.size + 1, i, none⟩ = (((w.alloc (.cells #[.int .i64 2, .string t, .int .i64 n, .slice ao 0 cap] 81)).alloc (.cells #[.int .i64 0, .int .i64 0, .string ⟨#[]⟩, .int .i64 0, .int .i64 0] 87))).cell? ⟨w.heap.size + 1, i, none⟩ := fun i => World.cell?_of_block (hbel.block _ (by rw [World.size_alloc, World.size_alloc]; show _ < w.heap.size + 1 + 1; simp only; omega))
      have zB : ∀ i, wr.frozen? ⟨w.heap.size + 1, i, none⟩ = (((w.alloc (.cells #[.int .i64 2, .string t, .int .i64 n, .slice ao 0 cap] 81)).alloc (.cells #[.int .i64 0, .int .i64 0, .string ⟨#[]⟩, .int .i64 0, .int .i64 0] 87))).frozen? ⟨w.heap.size + 1, i, none⟩ := fun i => World.frozen?_of_block (hbel.block _ (by rw [World.size_alloc, World.size_alloc]; show _ < w.heap.size + 1 + 1; simp only; omega))
      have f0 := (fB 0).trans (show _ = some (.int .i64 2) by simp)
      have f1 := (fB 1).trans (show _ = some (.string t) by simp)
      have f2 := (fB 2).trans (show _ = some (.int .i64 n) by simp)
      have f3 := (fB 3).trans (show _ = some (.slice ao 0 cap) by simp)
      have g0 := (gB 0).trans (show _ = some (.int .i64 0) by simp)
      have g1 := (gB 1).trans (show _ = some (.int .i64 0) by simp)
      have g2 := (gB 2).trans (show _ = some (.string ⟨#[]⟩) by simp)
      have g3 := (gB 3).trans (show _ = some (.int .i64 0) by simp)
      have g4 := (gB 4).trans (show _ = some (.int .i64 0) by simp)
      have z0 := (zB 0).trans (show _ = false by simp)
      have z1 := (zB 1).trans (show _ = false by simp)
      have z2 := (zB 2).trans (show _ = false by simp)
      have z3 := (zB 3).trans (show _ = false by simp)
      have z4 := (zB 4).trans (show _ = false by simp)
      have s0 : w.heap.size < wr.heap.size := by omega
      have s1 : w.heap.size + 1 < wr.heap.size := by omega
      rw [HCS.out] at hvl ⊢
      clear hK HT HX HC hA1 hbel fB gB zB
      clear hgood hown
      go_wp2_with (first
        | (go_at_call 147; refine (kN _).mono ?_; rintro e w2 ⟨rfl, os2, n2, rfl⟩))
      exact bodyPost_ret (v := .tuple #[.agg #[.int .i64 1, .int .i64 n, .string ⟨#[]⟩, .int .i64 0, .int .i64 0], .bool true]) (by simp [results, Tryz.results126, go_sem, s1, g0, g1, g2, g3, g4]) rfl ⟨by rw [HLa.out]; rfl, by repeat (first | with_reducible exact HA1.out | with_reducible refine Adds.put ?_ (by omega) _ _ | with_reducible refine Adds.alloc ?_ _ | with_reducible refine Adds.more ?_ _ _ | with_reducible refine Adds.drew ?_ | with_reducible refine Adds.drewN ?_ _)⟩

end Go.Proofs.YtiacnmcdfpmcfaaGreatDoor

namespace Go.Proofs.YtiacnmcdfpmcfaaGreatDoor
open Go.RowKit
attribute [local go_sem] cell?_more frozen?_more setCell_more size_more tape_more drew_more drewN_more more_drew more_drewN one_out plus_out plus_end lt_one le_p2 le_p3 le_p4 le_p5 le_p6 le_p7 le_p8 le_p9 le_p10 le_p11 le_p12 le_p13 le_p14 le_p15 le_p16 le_p17 le_p18 le_p19 le_p20 le_p21 le_p22 le_p23 le_p24 le_q0 le_q1 lt_q1 le_q2 lt_q2 le_q3 lt_q3 le_q4 lt_q4 le_q5 lt_q5 le_q6 lt_q6 le_q7 lt_q7 le_q8 lt_q8 le_q9 lt_q9 le_q10 lt_q10 le_q11 lt_q11 le_q12 lt_q12 le_q13 lt_q13 le_q14 lt_q14 le_q15 lt_q15 le_q16 lt_q16 le_q17 lt_q17 le_q18 lt_q18 le_q19 lt_q19 le_q20 lt_q20 le_q21 lt_q21 le_q22 lt_q22 le_q23 lt_q23 le_q24 lt_q24


set_option maxHeartbeats 4000000 in
theorem raw_path {ok : Nat → Prop} {d : Nat} (cs : List E) (hcs : cs.length = 0) (t : ByteArray) (n : Int) (fs : List F) (hm : May fs) (dv : Value) (sn : Value) (w : World) (hT : Tn ok d w sn (cs.map E.toN)) (hL : Lst w dv fs) (hok : ∀ c ∈ cs, c.ok)
    (HV : ∀ (j : Nat) (h : j < cs.length) (e : Nat) (x : Value) (W : World), Adds w W → Tn ok e W x cs[j].toN.args → Calls Tryz.prog 100 #[nodeV cs[j].toN x, dv] W fun z w' => z = .returned (optV (valE fs cs[j])) ∧ Adds W w') :
    Calls Tryz.prog 126 #[.agg #[.int .i64 1, .string t, .int .i64 n, sn], dv] w fun x w' => x = .returned (optV ((kidsV fs cs).bind (fun _ => if firstAt t fs < fs.length then some (got t fs) else none))) ∧ Adds w w' := by
  obtain ⟨ao, cap, rfl⟩ := hT.shape
  have HCS : Hid (cs.length = 0) := hcs
  rw [List.length_map, hcs] at hT ⊢
  have HT : Hid (Tn ok d w (.slice ao 0 cap) (cs.map E.toN)) := hT
  have HC : Hid (∀ (j : Nat) (h : j < cs.length) v, valE fs cs[j] = some v → v.check = 0) := fun j h v hv => valE_ok hm (hok _ (List.getElem_mem h)) hv
  have kG := fun W hA => refGet_any dv fs t W (hL.adds hA) (by have := hm.1; omega)
  have hdl := hL
  have hml := hm.1
  obtain ⟨do_, dcap, rfl, hdc, hdl⟩ := hdl
  generalize hres : (if firstAt t fs < fs.length then some (got t fs) else none) = res
  have HRES : Hid ((if firstAt t fs < fs.length then some (got t fs) else none) = res) := hres
  clear hres
  clear hT hok hm hL
  clear hcs
  have HX : Hid _ := HV
  clear HV
  go_enter Tryz.func126, Tryz.ntmps126
  go_wp2
  go_loopw [6, 7] (fun lv iv wr => ∃ (j : Nat) (vs : List V), j ≤ 0 ∧ iv = .int .i64 j ∧ Hid (Kn fs cs ((w.alloc (.cells #[.int .i64 1, .string t, .int .i64 n, .slice ao 0 cap] 81)).alloc (.cells #[.int .i64 0, .int .i64 0, .string ⟨#[]⟩, .int .i64 0, .int .i64 0] 87)) wr lv j vs)) (fun _ iv _ => 0 - (intOf iv).toNat)
  case atStart =>
    refine ⟨0, [], Nat.zero_le _, rfl, ⟨rfl, ?_, by simp, own_empty (by simp) (Nat.le_refl _), by repeat (first | with_reducible exact Adds.refl _ | with_reducible refine Adds.alloc ?_ _ | with_reducible refine Adds.more ?_ _ _ | with_reducible refine Adds.drew ?_ | with_reducible refine Adds.drewN ?_ _)⟩⟩
    rw [List.drop_zero]
    cases kidsV fs cs <;> rfl
  case round =>
    obtain ⟨j, vs, hj, rfl, hK⟩ := hrel
    by_cases hltM : j < 0
    · exact absurd hltM (by omega)
    · have hj' : j = cs.length := by rw [HCS.out]; omega
      subst hj'
      rw [HCS.out] at hj hltM
      have HLa : Hid (kidsV fs cs = some vs) := hK.out.last
      have hvl := hK.out.len
      have hgood := hK.out.good
      have hown := hK.out.own
      have HA1 : Hid (Adds w wr) := Adds.trans (by repeat (first | with_reducible exact Adds.refl _ | with_reducible refine Adds.alloc ?_ _ | with_reducible refine Adds.more ?_ _ _ | with_reducible refine Adds.drew ?_ | with_reducible refine Adds.drewN ?_ _)) hK.out.adds
      have hA1 := hK.out.adds
      have hbel := hA1.below
      have hsz := hbel.size
      simp only [World.size_alloc] at hsz
      have fB : ∀ i, wr.cell? ⟨w.heap.size, i, none⟩ = (((w.alloc (.cells #[.int .i64 1, .string t, .int .i64 n, .slice ao 0 cap] 81)).alloc (.cells #[.int .i64 0, .int .i64 0, .string ⟨#[]⟩, .int .i64 0, .int .i64 0] 87))).cell? ⟨w.heap.size, i, none⟩ := fun i => World.cell?_of_block (hbel.block _ (by rw [World.size_alloc, World.size_alloc]; show _ < w.heap.size + 1 + 1; simp only; omega))
      have gB : ∀ i, wr.cell? ⟨w.heap.size + 1, i, none⟩ = (((w.alloc (.cells #[.int .i64 1, .string t, .int .i64 n, .slice ao 0 cap] 81)).alloc (.cells #[.int .i64 0, .int .i64 0, .string ⟨#[]⟩, .int .i64 0, .int .i64 0] 87))).cell? ⟨w.heap.size + 1, i, none⟩ := fun i => World.cell?_of_block (hbel.block _ (by rw [World.size_alloc, World.size_alloc]; show _ < w.heap.size + 1 + 1; simp only; omega))
      have zB : ∀ i, wr.frozen? ⟨w.heap.size + 1, i, none⟩ = (((w.alloc (.cells #[.int .i64 1, .string t, .int .i64 n, .slice ao 0 cap] 81)).alloc (.cells #[.int .i64 0, .int .i64 0, .string ⟨#[]⟩, .int .i64 0, .int .i64 0] 87))).frozen? ⟨w.heap.size + 1, i, none⟩ := fun i => World.frozen?_of_block (hbel.block _ (by rw [World.size_alloc, World.size_alloc]; show _ < w.heap.size + 1 + 1; simp only; omega))
      have f0 := (fB 0).trans (show _ = some (.int .i64 1) by simp)
      have f1 := (fB 1).trans (show _ = some (.string t) by simp)
      have f2 := (fB 2).trans (show _ = some (.int .i64 n) by simp)
      have f3 := (fB 3).trans (show _ = some (.slice ao 0 cap) by simp)
      have g0 := (gB 0).trans (show _ = some (.int .i64 0) by simp)
      have g1 := (gB 1).trans (show _ = some (.int .i64 0) by simp)
      have g2 := (gB 2).trans (show _ = some (.string ⟨#[]⟩) by simp)
      have g3 := (gB 3).trans (show _ = some (.int .i64 0) by simp)
      have g4 := (gB 4).trans (show _ = some (.int .i64 0) by simp)
      have z0 := (zB 0).trans (show _ = false by simp)
      have z1 := (zB 1).trans (show _ = false by simp)
      have z2 := (zB 2).trans (show _ = false by simp)
      have z3 := (zB 3).trans (show _ = false by simp)
      have z4 := (zB 4).trans (show _ = false by simp)
      have s0 : w.heap.size < wr.heap.size := by omega
      have s1 : w.heap.size + 1 < wr.heap.size := by omega
      rw [HCS.out] at hvl ⊢
      clear hK HT HX HC hA1 hbel fB gB zB
      clear hgood hown
      by_cases hf : firstAt t fs < fs.length
      · have hpl : placeOf t fs = firstAt t fs := by simp [placeOf, hf]
        rw [hpl] at kG
        rcases hdl with rfl | ⟨b, off, rfl, hbb, hll⟩
        · simp at hf
        have HR : Hid (res = some fs[firstAt t fs].val) := by
          show _ = _
          rw [← HRES.out, if_pos hf]
          simp only [got, hf, dif_pos]
        obtain ⟨d0, d1, d2, d3, d4, d5⟩ := hll _ hf
        have hW : ∀ i, wr.cell? ⟨b, i, none⟩ = w.cell? ⟨b, i, none⟩ := fun i => World.cell?_of_block (HA1.out.below.block _ hbb)
        rw [← hW] at d1 d2 d3 d4 d5
        have hbw : b < wr.heap.size := by omega
        have HRR : Hid ((kidsV fs cs).bind (fun _ => res) = some fs[firstAt t fs].val) := by show _ = _; rw [HLa.out]; exact HR.out
        have kG' := kG wr HA1.out
        clear kG hpl hll hW HR HRES d0
        generalize fs[firstAt t fs].val = x at *
        obtain ⟨xk, xn, xt, xr, xi⟩ := x
        generalize hfa : firstAt t fs = fa at *
        simp only at d1 d2 d3 d4 d5
        go_wp2_with (first
          | (go_at_call 146; refine kG'.mono ?_; rintro e w2 ⟨rfl, hw⟩; subst w2))
        exact bodyPost_ret (v := .tuple #[.agg #[.int .i64 xk, .int .i64 xn, .string xt, .int .i64 xr, .int .i64 xi], .bool true]) (by simp [results, Tryz.results126, go_sem, g0, g1, g2, g3, g4]) rfl ⟨by rw [HRR.out]; rfl, by repeat (first | with_reducible exact HA1.out | with_reducible refine Adds.put ?_ (by omega) _ _ | with_reducible refine Adds.alloc ?_ _ | with_reducible refine Adds.more ?_ _ _ | with_reducible refine Adds.drew ?_ | with_reducible refine Adds.drewN ?_ _)⟩
      · have hpl : placeOf t fs = -1 := by simp [placeOf, hf]
        have HR : Hid (res = none) := by show _ = _; rw [← HRES.out, if_neg hf]
        have HRR : Hid ((kidsV fs cs).bind (fun _ => res) = none) := by show _ = _; rw [HLa.out]; exact HR.out
        have kG' := kG wr HA1.out
        rw [hpl] at kG'
        clear kG hpl hdl hf HRES HR
        go_wp2_with (first
          | (go_at_call 146; refine kG'.mono ?_; rintro e w2 ⟨rfl, hw⟩; subst w2))
        exact bodyPost_ret (v := .tuple #[.agg #[.int .i64 0, .int .i64 0, .string ⟨#[]⟩, .int .i64 0, .int .i64 0], .bool false]) (by simp [results, Tryz.results126, go_sem, g0, g1, g2, g3, g4]) rfl ⟨by rw [HRR.out]; rfl, by repeat (first | with_reducible exact HA1.out | with_reducible refine Adds.put ?_ (by omega) _ _ | with_reducible refine Adds.alloc ?_ _ | with_reducible refine Adds.more ?_ _ _ | with_reducible refine Adds.drew ?_ | with_reducible refine Adds.drewN ?_ _)⟩

end Go.Proofs.YtiacnmcdfpmcfaaGreatDoor

namespace Go.Proofs.YtiacnmcdfpmcfaaGreatDoor
open Go.RowKit
attribute [local go_sem] cell?_more frozen?_more setCell_more size_more tape_more drew_more drewN_more more_drew more_drewN one_out plus_out plus_end lt_one le_p2 le_p3 le_p4 le_p5 le_p6 le_p7 le_p8 le_p9 le_p10 le_p11 le_p12 le_p13 le_p14 le_p15 le_p16 le_p17 le_p18 le_p19 le_p20 le_p21 le_p22 le_p23 le_p24 le_q0 le_q1 lt_q1 le_q2 lt_q2 le_q3 lt_q3 le_q4 lt_q4 le_q5 lt_q5 le_q6 lt_q6 le_q7 lt_q7 le_q8 lt_q8 le_q9 lt_q9 le_q10 lt_q10 le_q11 lt_q11 le_q12 lt_q12 le_q13 lt_q13 le_q14 lt_q14 le_q15 lt_q15 le_q16 lt_q16 le_q17 lt_q17 le_q18 lt_q18 le_q19 lt_q19 le_q20 lt_q20 le_q21 lt_q21 le_q22 lt_q22 le_q23 lt_q23 le_q24 lt_q24


set_option maxHeartbeats 4000000 in
theorem raw_sum {ok : Nat → Prop} {d : Nat} (cs : List E) (hcs : cs.length = 2) (t : ByteArray) (n : Int) (fs : List F) (hm : May fs) (dv : Value) (sn : Value) (w : World) (hT : Tn ok d w sn (cs.map E.toN)) (_hL : Lst w dv fs) (hok : ∀ c ∈ cs, c.ok)
    (HV : ∀ (j : Nat) (h : j < cs.length) (e : Nat) (x : Value) (W : World), Adds w W → Tn ok e W x cs[j].toN.args → Calls Tryz.prog 100 #[nodeV cs[j].toN x, dv] W fun z w' => z = .returned (optV (valE fs cs[j])) ∧ Adds W w') :
    Calls Tryz.prog 126 #[.agg #[.int .i64 3, .string t, .int .i64 n, sn], dv] w fun x w' => x = .returned (optV ((kidsV fs cs).bind (fun l => sumR (l.getD 0 vZ) (l.getD 1 vZ)))) ∧ Adds w w' := by
  obtain ⟨ao, cap, rfl⟩ := hT.shape
  have HCS : Hid (cs.length = 2) := hcs
  rw [List.length_map, hcs] at hT ⊢
  have HT : Hid (Tn ok d w (.slice ao 2 cap) (cs.map E.toN)) := hT
  have HC : Hid (∀ (j : Nat) (h : j < cs.length) v, valE fs cs[j] = some v → v.check = 0) := fun j h v hv => valE_ok hm (hok _ (List.getElem_mem h)) hv
  have kN := fun v => rNum_any v
  have kT := fun v => rText_any v
  have kP := fun x y => rPoint_any x y
  clear hT hok hm _hL
  clear hcs
  have HX : Hid _ := HV
  clear HV
  go_enter Tryz.func126, Tryz.ntmps126
  go_wp2
  go_loopw [6, 7] (fun lv iv wr => ∃ (j : Nat) (vs : List V), j ≤ 2 ∧ iv = .int .i64 j ∧ Hid (Kn fs cs ((w.alloc (.cells #[.int .i64 3, .string t, .int .i64 n, .slice ao 2 cap] 81)).alloc (.cells #[.int .i64 0, .int .i64 0, .string ⟨#[]⟩, .int .i64 0, .int .i64 0] 87)) wr lv j vs)) (fun _ iv _ => 2 - (intOf iv).toNat)
  case atStart =>
    refine ⟨0, [], Nat.zero_le _, rfl, ⟨rfl, ?_, by simp, own_empty (by simp) (Nat.le_refl _), by repeat (first | with_reducible exact Adds.refl _ | with_reducible refine Adds.alloc ?_ _ | with_reducible refine Adds.more ?_ _ _ | with_reducible refine Adds.drew ?_ | with_reducible refine Adds.drewN ?_ _)⟩⟩
    rw [List.drop_zero]
    cases kidsV fs cs <;> rfl
  case round =>
    obtain ⟨j, vs, hj, rfl, hK⟩ := hrel
    by_cases hltM : j < 2
    · have hlt : j < cs.length := by rw [HCS.out]; exact hltM
      obtain ⟨e, b1, o1, x, he, rfl, hb1, ⟨c0, c1, c2, c3⟩, hsz, htx⟩ := HT.out.elem (k := j) (by simpa using hlt)
      simp only [List.getElem_map] at c0 c1 c2 c3 htx
      have kR := fun W (hA : Adds w W) => HX.out j hlt e x W hA (htx.adds hA)
      obtain ⟨xo, xc, rfl⟩ := htx.shape
      obtain ⟨os, n0, rfl⟩ := hK.out.adds
      have hKl := hK.out.len
      have HCj := HC.out j hlt
      cases hv : valE fs cs[j] with
      | none =>
        have HNn : Hid (kidsV fs cs = none) := hK.out.none hlt hv
        rw [hv] at kR
        simp only [optV, Option.getD_none, Option.isSome_none, vZ, V.val, nodeV] at kR
        clear htx he HT HX hsz HC HCj hv hK hKl HCS kN kT kP
        generalize cs[j].toN.args.length = la at *
        generalize cs[j].toN.kind = ka at *
        generalize cs[j].toN.text = ta at *
        generalize cs[j].toN.num = na at *
        go_wp2_with (go_at_call 100; refine (kR _ (by repeat (first | with_reducible exact Adds.refl _ | with_reducible refine Adds.alloc ?_ _ | with_reducible refine Adds.more ?_ _ _ | with_reducible refine Adds.drew ?_ | with_reducible refine Adds.drewN ?_ _))).mono ?_; rintro e w2 ⟨rfl, os2, n2, rfl⟩)
        exact bodyPost_ret (v := .tuple #[.agg #[.int .i64 0, .int .i64 0, .string ⟨#[]⟩, .int .i64 0, .int .i64 0], .bool false]) (by simp [results, Tryz.results126, go_sem]) rfl ⟨by rw [HNn.out]; rfl, by repeat (first | with_reducible exact Adds.refl _ | with_reducible refine Adds.alloc ?_ _ | with_reducible refine Adds.more ?_ _ _ | with_reducible refine Adds.drew ?_ | with_reducible refine Adds.drewN ?_ _)⟩
      | some v =>
        obtain ⟨vk, vn, vt, vr, vi⟩ := v
        have HVv : Hid (valE fs cs[j] = some ⟨vk, vn, vt, vr, vi⟩) := hv
        have HCv : Hid ((⟨vk, vn, vt, vr, vi⟩ : V).check = 0) := HCj _ hv
        rw [hv] at kR
        simp only [optV, Option.getD_some, Option.isSome_some, V.val, nodeV] at kR
        clear htx he HT HX hsz HC HCj hv kN kT kP
        generalize cs[j].toN.args.length = la at *
        generalize cs[j].toN.kind = ka at *
        generalize cs[j].toN.text = ta at *
        generalize cs[j].toN.num = na at *
        go_wp2_with (first
          | (go_at_call 100; refine (kR _ (by repeat (first | with_reducible exact Adds.refl _ | with_reducible refine Adds.alloc ?_ _ | with_reducible refine Adds.more ?_ _ _ | with_reducible refine Adds.drew ?_ | with_reducible refine Adds.drewN ?_ _))).mono ?_; rintro e w2 ⟨rfl, os2, n2, rfl⟩)
          | (at_builtin; refine val_app rfl (.tmp 34) (.tmp 36) rfl hK.out.own (by repeat (first | with_reducible exact Adds.refl _ | with_reducible refine Adds.alloc ?_ _ | with_reducible refine Adds.more ?_ _ _ | with_reducible refine Adds.drew ?_ | with_reducible refine Adds.drewN ?_ _)) hK.out.adds.below.size rfl (by simp only [size_more, World.size_alloc]; omega) rfl (by omega) ?_; intro v6 w6 ho6 hg6))
        go_roundw
        case rel =>
          refine ⟨j + 1, vs ++ [(⟨vk, vn, vt, vr, vi⟩ : V)], by omega, by go_num, ?_⟩
          exact hK.out.push hlt HVv.out HCv.out (by repeat (first | with_reducible exact Adds.refl _ | with_reducible refine Adds.alloc ?_ _ | with_reducible refine Adds.more ?_ _ _ | with_reducible refine Adds.drew ?_ | with_reducible refine Adds.drewN ?_ _)) ho6 hg6
        case measure => simp [intOf]; omega
    · have hj' : j = cs.length := by rw [HCS.out]; omega
      subst hj'
      rw [HCS.out] at hj hltM
      have HLa : Hid (kidsV fs cs = some vs) := hK.out.last
      have hvl := hK.out.len
      have hgood := hK.out.good
      have hown := hK.out.own
      have HA1 : Hid (Adds w wr) := Adds.trans (by repeat (first | with_reducible exact Adds.refl _ | with_reducible refine Adds.alloc ?_ _ | with_reducible refine Adds.more ?_ _ _ | with_reducible refine Adds.drew ?_ | with_reducible refine Adds.drewN ?_ _)) hK.out.adds
      have hA1 := hK.out.adds
      have hbel := hA1.below
      have hsz := hbel.size
      simp only [World.size_alloc] at hsz
      have fB : ∀ i, wr.cell? ⟨w.heap.size, i, none⟩ = (((w.alloc (.cells #[.int .i64 3, .string t, .int .i64 n, .slice ao 2 cap] 81)).alloc (.cells #[.int .i64 0, .int .i64 0, .string ⟨#[]⟩, .int .i64 0, .int .i64 0] 87))).cell? ⟨w.heap.size, i, none⟩ := fun i => World.cell?_of_block (hbel.block _ (by rw [World.size_alloc, World.size_alloc]; show _ < w.heap.size + 1 + 1; simp only; omega))
      have gB : ∀ i, wr.cell? ⟨w.heap.size + 1, i, none⟩ = (((w.alloc (.cells #[.int .i64 3, .string t, .int .i64 n, .slice ao 2 cap] 81)).alloc (.cells #[.int .i64 0, .int .i64 0, .string ⟨#[]⟩, .int .i64 0, .int .i64 0] 87))).cell? ⟨w.heap.size + 1, i, none⟩ := fun i => World.cell?_of_block (hbel.block _ (by rw [World.size_alloc, World.size_alloc]; show _ < w.heap.size + 1 + 1; simp only; omega))
      have zB : ∀ i, wr.frozen? ⟨w.heap.size + 1, i, none⟩ = (((w.alloc (.cells #[.int .i64 3, .string t, .int .i64 n, .slice ao 2 cap] 81)).alloc (.cells #[.int .i64 0, .int .i64 0, .string ⟨#[]⟩, .int .i64 0, .int .i64 0] 87))).frozen? ⟨w.heap.size + 1, i, none⟩ := fun i => World.frozen?_of_block (hbel.block _ (by rw [World.size_alloc, World.size_alloc]; show _ < w.heap.size + 1 + 1; simp only; omega))
      have f0 := (fB 0).trans (show _ = some (.int .i64 3) by simp)
      have f1 := (fB 1).trans (show _ = some (.string t) by simp)
      have f2 := (fB 2).trans (show _ = some (.int .i64 n) by simp)
      have f3 := (fB 3).trans (show _ = some (.slice ao 2 cap) by simp)
      have g0 := (gB 0).trans (show _ = some (.int .i64 0) by simp)
      have g1 := (gB 1).trans (show _ = some (.int .i64 0) by simp)
      have g2 := (gB 2).trans (show _ = some (.string ⟨#[]⟩) by simp)
      have g3 := (gB 3).trans (show _ = some (.int .i64 0) by simp)
      have g4 := (gB 4).trans (show _ = some (.int .i64 0) by simp)
      have z0 := (zB 0).trans (show _ = false by simp)
      have z1 := (zB 1).trans (show _ = false by simp)
      have z2 := (zB 2).trans (show _ = false by simp)
      have z3 := (zB 3).trans (show _ = false by simp)
      have z4 := (zB 4).trans (show _ = false by simp)
      have s0 : w.heap.size < wr.heap.size := by omega
      have s1 : w.heap.size + 1 < wr.heap.size := by omega
      rw [HCS.out] at hvl ⊢
      clear hK HT HX HC hA1 hbel fB gB zB
      obtain ⟨x, y, rfl⟩ : ∃ x y, vs = [x, y] := by
        match vs, hvl with
        | [x, y], _ => exact ⟨x, y, rfl⟩
      obtain ⟨g, gcap, rfl, hg, ⟨e0, e1, e2, e3, e4⟩, e5, e6, e7, e8, e9⟩ := own_two hown
      have HRR : Hid ((kidsV fs cs).bind (fun l => sumR (l.getD 0 vZ) (l.getD 1 vZ)) = sumR x y) := by show _ = _; rw [HLa.out]; rfl
      have s2 : w.heap.size < wr.heap.size + 1 := by omega
      have hx := hgood x (by simp)
      have hy := hgood y (by simp)
      clear hgood hown HLa
      by_cases hne : x.kind = y.kind
      · rcases V.cases hx with ⟨a, rfl, a1, a2⟩ | ⟨a, rfl, a1⟩ | ⟨a, a', rfl, a1⟩
        · rcases V.cases hy with ⟨b, rfl, b1, b2⟩ | ⟨b, rfl, b1⟩ | ⟨b, b', rfl, b1⟩
          · have HS : Hid (sumR (V.mkNum a) (V.mkNum b) = some (V.mkNum (a + b))) := by show _ = _; simp [sumR, V.mkNum]
            simp only [V.mkNum] at e0 e1 e2 e3 e4 e5 e6 e7 e8 e9
            clear hx hy hne kT kP
            go_wp2
            go_region
            all_goals
              go_wp2_with (first
                | (go_at_call 147; refine (kN _ _).mono ?_; rintro e w2 ⟨rfl, os2, n2, rfl⟩))
              exact bodyPost_ret (v := .tuple #[.agg #[.int .i64 1, .int .i64 (a + b), .string ⟨#[]⟩, .int .i64 0, .int .i64 0], .bool true]) (by simp [results, Tryz.results126, go_sem, s0, s1, s2, g0, g1, g2, g3, g4]) rfl ⟨by rw [HRR.out, HS.out]; rfl, by repeat (first | with_reducible exact HA1.out | with_reducible refine Adds.put ?_ (by omega) _ _ | with_reducible refine Adds.alloc ?_ _ | with_reducible refine Adds.more ?_ _ _ | with_reducible refine Adds.drew ?_ | with_reducible refine Adds.drewN ?_ _)⟩
          · simp [V.mkNum, V.mkText] at hne
          · simp [V.mkNum, V.mkPoint] at hne
        · rcases V.cases hy with ⟨b, rfl, b1, b2⟩ | ⟨b, rfl, b1⟩ | ⟨b, b', rfl, b1⟩
          · simp [V.mkNum, V.mkText] at hne
          · have HS : Hid (sumR (V.mkText a) (V.mkText b) = some (V.mkText (a ++ b))) := by show _ = _; simp [sumR, V.mkText]
            simp only [V.mkText] at e0 e1 e2 e3 e4 e5 e6 e7 e8 e9
            clear hx hy hne kN kP
            go_wp2
            go_region
            all_goals
              go_wp2_with (first
                | (go_at_call 149; refine (kT _ _).mono ?_; rintro e w2 ⟨rfl, os2, n2, rfl⟩))
              exact bodyPost_ret (v := .tuple #[.agg #[.int .i64 2, .int .i64 0, .string (a ++ b), .int .i64 0, .int .i64 0], .bool true]) (by simp [results, Tryz.results126, go_sem, s0, s1, s2, g0, g1, g2, g3, g4]) rfl ⟨by rw [HRR.out, HS.out]; rfl, by repeat (first | with_reducible exact HA1.out | with_reducible refine Adds.put ?_ (by omega) _ _ | with_reducible refine Adds.alloc ?_ _ | with_reducible refine Adds.more ?_ _ _ | with_reducible refine Adds.drew ?_ | with_reducible refine Adds.drewN ?_ _)⟩
          · simp [V.mkPoint, V.mkText] at hne
        · rcases V.cases hy with ⟨b, rfl, b1, b2⟩ | ⟨b, rfl, b1⟩ | ⟨b, b', rfl, b1⟩
          · simp [V.mkNum, V.mkPoint] at hne
          · simp [V.mkPoint, V.mkText] at hne
          · have HS : Hid (sumR (V.mkPoint a a') (V.mkPoint b b') = some (V.mkPoint (a + b) (a' + b'))) := by show _ = _; simp [sumR, V.mkPoint]
            simp only [V.mkPoint] at e0 e1 e2 e3 e4 e5 e6 e7 e8 e9
            obtain ⟨⟨a1, a2⟩, a3, a4⟩ : (-9007199254740992 ≤ a ∧ a ≤ 9007199254740992) ∧ -9007199254740992 ≤ a' ∧ a' ≤ 9007199254740992 := by unfold Gs.May at a1; omega
            obtain ⟨⟨b1, b2⟩, b3, b4⟩ : (-9007199254740992 ≤ b ∧ b ≤ 9007199254740992) ∧ -9007199254740992 ≤ b' ∧ b' ≤ 9007199254740992 := by unfold Gs.May at b1; omega
            clear hx hy hne kN kT
            go_wp2
            go_region
            all_goals
              go_wp2_with (first
                | (go_at_call 150; refine (kP _ _ _).mono ?_; rintro e w2 ⟨rfl, os2, n2, rfl⟩))
              exact bodyPost_ret (v := .tuple #[.agg #[.int .i64 3, .int .i64 0, .string ⟨#[]⟩, .int .i64 (a + b), .int .i64 (a' + b')], .bool true]) (by simp [results, Tryz.results126, go_sem, s0, s1, s2, g0, g1, g2, g3, g4]) rfl ⟨by rw [HRR.out, HS.out]; rfl, by repeat (first | with_reducible exact HA1.out | with_reducible refine Adds.put ?_ (by omega) _ _ | with_reducible refine Adds.alloc ?_ _ | with_reducible refine Adds.more ?_ _ _ | with_reducible refine Adds.drew ?_ | with_reducible refine Adds.drewN ?_ _)⟩
      · have HS : Hid (sumR x y = none) := if_pos hne
        obtain ⟨xk, xn, xt, xr, xi⟩ := x
        obtain ⟨yk, yn, yt, yr, yi⟩ := y
        have hne' : (xk != yk) = true := by simpa using hne
        simp only at e0 e1 e2 e3 e4 e5 e6 e7 e8 e9
        clear hx hy hne kN kT kP
        go_wp2
        go_region
        all_goals
          go_wp2
          exact bodyPost_ret (v := .tuple #[.agg #[.int .i64 0, .int .i64 0, .string ⟨#[]⟩, .int .i64 0, .int .i64 0], .bool false]) (by simp [results, Tryz.results126, go_sem, s0, s1, g0, g1, g2, g3, g4]) rfl ⟨by rw [HRR.out, HS.out]; rfl, by repeat (first | with_reducible exact HA1.out | with_reducible refine Adds.put ?_ (by omega) _ _ | with_reducible refine Adds.alloc ?_ _ | with_reducible refine Adds.more ?_ _ _ | with_reducible refine Adds.drew ?_ | with_reducible refine Adds.drewN ?_ _)⟩

end Go.Proofs.YtiacnmcdfpmcfaaGreatDoor
