/-
  ParseAll of package expr, by a contract.
  What a definition that is none is refused for.
-/
import Derived.Test.YtiacnmcdfpmcfaaGreatDoorV27
namespace Go.Proofs.YtiacnmcdfpmcfaaGreatDoor
open Go.RowKit
attribute [local go_sem] cell?_more frozen?_more setCell_more size_more tape_more drew_more drewN_more more_drew more_drewN one_out plus_out plus_end lt_one le_p2 le_p3 le_p4 le_p5 le_p6 le_p7 le_p8 le_p9 le_p10 le_p11 le_p12 le_p13 le_p14 le_p15 le_p16 le_p17 le_p18 le_p19 le_p20 le_p21 le_p22 le_p23 le_p24 le_q0 le_q1 lt_q1 le_q2 lt_q2 le_q3 lt_q3 le_q4 lt_q4 le_q5 lt_q5 le_q6 lt_q6 le_q7 lt_q7 le_q8 lt_q8 le_q9 lt_q9 le_q10 lt_q10 le_q11 lt_q11 le_q12 lt_q12 le_q13 lt_q13 le_q14 lt_q14 le_q15 lt_q15 le_q16 lt_q16 le_q17 lt_q17 le_q18 lt_q18 le_q19 lt_q19 le_q20 lt_q20 le_q21 lt_q21 le_q22 lt_q22 le_q23 lt_q23 le_q24 lt_q24


set_option maxHeartbeats 2000000 in
theorem parseAll_many (s : ByteArray) (h4 : 4 < (spl s.toList).length) (w : World) : Calls Tryz.prog 28 #[.string s] w fun e w' => e = .returned (.tuple #[.slice none 0 0, .int .i64 5]) ∧ Adds w w' := by
  have kC := count_any s
  have hc : (4 : Int) ≤ ((s.toList.count 44 : Nat) : Int) := by rw [spl_len] at h4; omega
  clear h4
  generalize s.toList.count 44 = cn at *
  go_enter Tryz.func28, Tryz.ntmps28
  go_wp2_with (go_at_call 46; refine (kC _).mono ?_; rintro e w1 ⟨rfl, hw⟩; subst w1)
  exact bodyPost_ret (v := .tuple #[.slice none 0 0, .int .i64 5]) (by simp [results, Tryz.results28, go_sem]) rfl ⟨rfl, by repeat (first | with_reducible exact Adds.refl _ | with_reducible refine Adds.alloc ?_ _ | with_reducible refine Adds.more ?_ _ _ | with_reducible refine Adds.drew ?_ | with_reducible refine Adds.drewN ?_ _)⟩

theorem piece_cell {w : World} {ls : List (List UInt8)} {j : Nat} (hj : j < ls.length) : (w.alloc (.cells (ls.map (fun l => Value.string (toB l))).toArray 9)).cell? ⟨w.heap.size, j, none⟩ = some (.string (toB ls[j])) := by
  refine cell_new rfl ?_
  simp [hj]

set_option maxHeartbeats 4000000 in
set_option maxRecDepth 20000 in
theorem parseAll_few (s : ByteArray) (hs : s.size ≤ 2000) (h4 : ¬ 4 < (spl s.toList).length) (w : World) : Calls Tryz.prog 28 #[.string s] w fun e w' => GaveR (parseLs (spl s.toList)) e w' ∧ Adds w w' := by
  have kC := count_any s
  have kS := split_any s hs
  have hc : ¬ (4 : Int) ≤ ((s.toList.count 44 : Nat) : Int) := by rw [spl_len] at h4; omega
  generalize s.toList.count 44 = cn at *
  generalize spl s.toList = ls at *
  go_enter Tryz.func28, Tryz.ntmps28
  go_wp2_with (first
    | (go_at_call 46; refine (kC _).mono ?_; rintro e w1 ⟨rfl, hw⟩; subst w1)
    | (go_at_call 47; refine (kS _).mono ?_; rintro e w1 ⟨rfl, hw⟩; subst w1))
  clear kC kS
  have hcell : ∀ (j : Nat) (hj : j < ls.length), (w.alloc (.cells (ls.map (fun l => Value.string (toB l))).toArray 9)).cell? ⟨w.heap.size, j, none⟩ = some (.string (toB ls[j])) := fun j hj => piece_cell hj
  have HA1 : Hid (Adds w (w.alloc (.cells (ls.map (fun l => Value.string (toB l))).toArray 9))) := (Adds.refl w).alloc _
  have hws : w.heap.size < (w.alloc (.cells (ls.map (fun l => Value.string (toB l))).toArray 9)).heap.size := by simp
  generalize w.alloc (.cells (ls.map (fun l => Value.string (toB l))).toArray 9) = w1 at *
  have HCL : Hid _ := hcell
  clear hcell
  go_loopw [4, 15] (fun lv iv wr => ∃ (j D : Nat) (xs : List E) (ns : List NV), j ≤ ls.length ∧ iv = .int .i64 j ∧ Hid (Sofar ls j xs) ∧ Hid (Nr w1 wr lv xs ns D)) (fun _ iv _ => ls.length - (intOf iv).toNat)
  case atStart => exact ⟨0, 0, [], [], Nat.zero_le _, rfl, sofar_nil ls, nr_nil w1⟩
  case round =>
    obtain ⟨j, D, xs, ns, hj, rfl, HSo, HN⟩ := hrel
    obtain ⟨vo, vc, rfl⟩ := HN.out.shape
    have hlx : xs.length = j := HSo.out.1
    have hln : ns.length = j := HN.out.rx.1.trans hlx
    obtain ⟨os, n0, rfl⟩ := HN.out.adds
    by_cases hlt : j < ls.length
    · have cj := HCL.out j hlt
      have hnl : ns.length ≤ 10000 := by omega
      have HLN : Hid (ns.length = j) := hln
      clear hln hlx
      cases hp : parseL ls[j] with
      | error c =>
        have kP := fun W => (parse_E hp W).1
        have HE : Hid (parseLs ls = .error c) := HSo.out.err hlt hp
        have hc0 : (c == 0) = false := by simpa using parseL_err hp
        clear hp HCL HSo HN
        generalize toB ls[j] = one at *
        go_wp2_with (go_at_call 48; refine (kP _).mono ?_; rintro e w2 ⟨rfl, os2, n2, rfl⟩)
        exact bodyPost_ret (v := .tuple #[.slice none 0 0, .int .i64 c]) (by simp [results, Tryz.results28, go_sem]) rfl ⟨by rw [HE.out]; rfl, HA1.out.trans (by repeat (first | with_reducible exact Adds.refl _ | with_reducible refine Adds.alloc ?_ _ | with_reducible refine Adds.more ?_ _ _ | with_reducible refine Adds.drew ?_ | with_reducible refine Adds.drewN ?_ _))⟩
      | ok x =>
        have kP := fun W => (parse_O hp W).1
        have HNX : Hid (Sofar ls (j + 1) (xs ++ [x])) := HSo.out.next hlt hp
        clear hp HCL HSo
        generalize toB ls[j] = one at *
        simp only [Gave, nodeV] at kP
        go_wp2_with (first
          | (go_at_call 48; refine (kP _).mono ?_; rintro e w2 ⟨⟨ao, cap, D', rfl, hT⟩, os2, n2, rfl⟩)
          | (at_builtin; refine node_app rfl (.tmp 27) (.tmp 29) rfl (Nr.own HN.out) (by repeat (first | with_reducible exact Adds.refl _ | with_reducible refine Adds.alloc ?_ _ | with_reducible refine Adds.more ?_ _ _ | with_reducible refine Adds.drew ?_ | with_reducible refine Adds.drewN ?_ _)) (by simp [size_more]) rfl (by first | rfl | simp [size_more] | (simp [size_more]; omega)) rfl hnl ?_; intro v6 w6 ho6 hg6 hv6))
        go_roundw
        case rel =>
          refine ⟨j + 1, _, xs ++ [x], _, by omega, by go_num, HNX, Nr.push (D' := D') HN.out (by repeat (first | with_reducible exact Adds.refl _ | with_reducible refine Adds.alloc ?_ _ | with_reducible refine Adds.more ?_ _ _ | with_reducible refine Adds.drew ?_ | with_reducible refine Adds.drewN ?_ _)) ?_ ho6 hg6 hv6⟩
          exact (Tn.adds hT.out (by repeat (first | with_reducible exact Adds.refl _ | with_reducible refine Adds.alloc ?_ _ | with_reducible refine Adds.more ?_ _ _ | with_reducible refine Adds.drew ?_ | with_reducible refine Adds.drewN ?_ _))).weak (fun b hb _ => Nat.le_trans (Nat.le_succ _) hb)
        case measure => simp [intOf]; omega
    · have hj' : j = ls.length := by omega
      subst hj'
      have HG := HN.out.gave HSo.out
      have HG' : Hid _ := HG
      clear HG HSo HN hln
      go_wp2
      exact bodyPost_ret (v := .tuple #[.slice vo xs.length vc, .int .i64 0]) (by simp [results, Tryz.results28, go_sem]) rfl ⟨HG'.out, HA1.out.trans (by repeat (first | with_reducible exact Adds.refl _ | with_reducible refine Adds.alloc ?_ _ | with_reducible refine Adds.more ?_ _ _ | with_reducible refine Adds.drew ?_ | with_reducible refine Adds.drewN ?_ _))⟩

theorem parseAll_any (s : ByteArray) (hs : s.size ≤ 2000) (w : World) : Calls Tryz.prog 28 #[.string s] w fun e w' => GaveR (parseA s.toList) e w' ∧ Adds w w' := by
  unfold parseA
  split
  · rename_i h4
    exact parseAll_many s h4 w
  · rename_i h4
    exact parseAll_few s hs h4 w

end Go.Proofs.YtiacnmcdfpmcfaaGreatDoor

namespace Go.Proofs.YtiacnmcdfpmcfaaGreatDoor
open Go.RowKit
attribute [local go_sem] cell?_more frozen?_more setCell_more size_more tape_more drew_more drewN_more more_drew more_drewN one_out plus_out plus_end lt_one le_p2 le_p3 le_p4 le_p5 le_p6 le_p7 le_p8 le_p9 le_p10 le_p11 le_p12 le_p13 le_p14 le_p15 le_p16 le_p17 le_p18 le_p19 le_p20 le_p21 le_p22 le_p23 le_p24 le_q0 le_q1 lt_q1 le_q2 lt_q2 le_q3 lt_q3 le_q4 lt_q4 le_q5 lt_q5 le_q6 lt_q6 le_q7 lt_q7 le_q8 lt_q8 le_q9 lt_q9 le_q10 lt_q10 le_q11 lt_q11 le_q12 lt_q12 le_q13 lt_q13 le_q14 lt_q14 le_q15 lt_q15 le_q16 lt_q16 le_q17 lt_q17 le_q18 lt_q18 le_q19 lt_q19 le_q20 lt_q20 le_q21 lt_q21 le_q22 lt_q22 le_q23 lt_q23 le_q24 lt_q24


theorem parseA_err {s : List UInt8} {c : Int} (h : parseA s = .error c) : c ≠ 0 := by
  unfold parseA at h
  split at h
  · cases h
    decide
  · exact parseLs_err h

def xA : E := .path [97]
def fA (n : Int) : F := ⟨⟨#[97]⟩, V.mkNum n, by decide⟩

theorem a_list : (⟨#[97]⟩ : ByteArray).toList = [97] := by rw [ByteArray.toList_eq]

theorem parse_a : parseA [97] = .ok [xA] := by
  have hM : M [97] [] Fr.none none = some xA := M_whole (.up2 (.up1 (.leaf rfl)))
  have hp : parseL [97] = .ok xA := by
    unfold parseL
    rw [if_neg (by decide), hM]
    rfl
  have hs : spl [97] = [[97]] := by decide
  unfold parseA
  rw [hs, if_neg (by decide)]
  simp [parseLs, hp]

end Go.Proofs.YtiacnmcdfpmcfaaGreatDoor
