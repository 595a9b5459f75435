/-
  The reference's ParseAll, by a contract.
  The reference's raw, by a contract: num.
  The reference's raw, by a contract: path.
-/
import Derived.Test.YtiacnmcdfpmcfaaGreatDoorQ30
import Derived.Test.YtiacnmcdfpmcfaaGreatDoorQ17
import Derived.Test.YtiacnmcdfpmcfaaGreatDoorQ15
import Derived.BigQuiet
namespace Go.Proofs.YtiacnmcdfpmcfaaGreatDoor
open Go.RowKit
attribute [local go_sem] cell?_more frozen?_more setCell_more size_more tape_more drew_more drewN_more more_drew more_drewN one_out plus_out plus_end lt_one le_p2 le_p3 le_p4 le_p5 le_p6 le_p7 le_p8 le_p9 le_p10 le_p11 le_p12 le_p13 le_p14 le_p15 le_p16 le_p17 le_p18 le_p19 le_p20 le_p21 le_p22 le_p23 le_p24 le_q0 le_q1 lt_q1 le_q2 lt_q2 le_q3 lt_q3 le_q4 lt_q4 le_q5 lt_q5 le_q6 lt_q6 le_q7 lt_q7 le_q8 lt_q8 le_q9 lt_q9 le_q10 lt_q10 le_q11 lt_q11 le_q12 lt_q12 le_q13 lt_q13 le_q14 lt_q14 le_q15 lt_q15 le_q16 lt_q16 le_q17 lt_q17 le_q18 lt_q18 le_q19 lt_q19 le_q20 lt_q20 le_q21 lt_q21 le_q22 lt_q22 le_q23 lt_q23 le_q24 lt_q24


theorem get_L (s : ByteArray) {i : Nat} (hi : i < s.size) : s.toList[i]'(by rw [toList_length]; exact hi) = s[i] := toList_get ..

set_option maxHeartbeats 8000000 in
set_option maxRecDepth 20000 in
theorem rParseAll_any (s : ByteArray) (hs : s.size ≤ 2000) (w : World) : Calls Tryz.prog 18 #[.string s] w fun e w' => GaveR (parseA s.toList) e w' ∧ Adds w w' := by
  generalize hPA : parseA s.toList = PA
  have HPA : Hid (parseA s.toList = PA) := hPA
  clear hPA
  go_enter Tryz.func18, Tryz.ntmps18
  go_wp2
  go_loopw [4, 5, 6] (fun lv fv iv wr => ∃ (i f : Nat) (done : List ByteArray), i ≤ s.size + 1 ∧ iv = .int .i64 i ∧ fv = .int .i64 f ∧ f ≤ 2002 ∧ Hid (Cut s.toList i f done) ∧ Hid (Sr w wr lv done)) (fun _ _ iv _ => s.size + 1 - (intOf iv).toNat)
  case atStart => exact ⟨0, 0, [], Nat.zero_le _, rfl, rfl, by omega, cut_nil _, sr_empty rfl⟩
  case round =>
    obtain ⟨i, f, done, hi, rfl, rfl, hf2, HC, HR⟩ := hrel
    obtain ⟨vo, vc, rfl⟩ := HR.out.shape
    obtain ⟨os, n0, rfl⟩ := HR.out.adds
    have hLs : s.toList.length = s.size := toList_length s
    by_cases hle : i ≤ s.size
    · obtain ⟨hfi, hdl⟩ := HC.out.f_le (by omega)
      have hnl : done.length ≤ 10000 := by omega
      have HU : Hid ((s.extract f i).toList = (s.toList.take i).drop f) := extract_L s f i
      have hle' : (i : Int) ≤ (s.size : Int) := by omega
      have hfi' : (f : Int) ≤ (i : Int) := by omega
      have HL : Hid (s.toList.length = s.size) := hLs
      clear hLs
      by_cases hend : i = s.size
      · have HCE : Hid (Cut s.toList (i + 1) (i + 1) (done ++ [s.extract f i])) := HC.out.end' (by have := HL.out; omega) HU.out (i + 1)
        clear HC HU
        subst hend
        go_wp2_with (first
          | (at_builtin; refine str_app rfl (.tmp 28) (.tmp 33) rfl (Sr.own HR.out) (by repeat (first | with_reducible exact Adds.refl _ | with_reducible refine Adds.alloc ?_ _ | with_reducible refine Adds.more ?_ _ _ | with_reducible refine Adds.drew ?_ | with_reducible refine Adds.drewN ?_ _)) (by simp [size_more]) rfl (by first | rfl | simp [size_more] | (simp [size_more]; omega)) rfl hnl ?_; intro v6 w6 ho6 hg6))
        go_roundw
        case rel => exact ⟨s.size + 1, s.size + 1, _, by omega, by go_num, by go_num, by omega, HCE, Sr.push HR.out (by repeat (first | with_reducible exact Adds.refl _ | with_reducible refine Adds.alloc ?_ _ | with_reducible refine Adds.more ?_ _ _ | with_reducible refine Adds.drew ?_ | with_reducible refine Adds.drewN ?_ _)) ho6 hg6⟩
        case measure => simp [intOf]
      · have hlt : i < s.size := by omega
        have hne : ((i : Int) == (s.size : Int)) = false := by simp; omega
        by_cases hc : (s[i].toNat : Int) = 44
        · have hcb : ((s[i].toNat : Int) == 44) = true := by simpa using hc
          have HCE : Hid (Cut s.toList (i + 1) (i + 1) (done ++ [s.extract f i])) := HC.out.comma (by have := HL.out; omega) (by rw [get_L s hlt]; exact UInt8.toNat_inj.1 (by simpa using (by omega : s[i].toNat = 44))) HU.out
          clear HC HU hc
          go_wp2_with (first
            | (at_builtin; refine str_app rfl (.tmp 28) (.tmp 33) rfl (Sr.own HR.out) (by repeat (first | with_reducible exact Adds.refl _ | with_reducible refine Adds.alloc ?_ _ | with_reducible refine Adds.more ?_ _ _ | with_reducible refine Adds.drew ?_ | with_reducible refine Adds.drewN ?_ _)) (by simp [size_more]) rfl (by first | rfl | simp [size_more] | (simp [size_more]; omega)) rfl hnl ?_; intro v6 w6 ho6 hg6))
          go_roundw
          case rel => exact ⟨i + 1, i + 1, _, by omega, by go_num, by go_num, by omega, HCE, Sr.push HR.out (by repeat (first | with_reducible exact Adds.refl _ | with_reducible refine Adds.alloc ?_ _ | with_reducible refine Adds.more ?_ _ _ | with_reducible refine Adds.drew ?_ | with_reducible refine Adds.drewN ?_ _)) ho6 hg6⟩
          case measure => simp [intOf]; omega
        · have hcb : ((s[i].toNat : Int) == 44) = false := by simpa using hc
          have HCE : Hid (Cut s.toList (i + 1) f done) := HC.out.skip (by have := HL.out; omega) (by rw [get_L s hlt]; intro e; exact hc (by rw [e]; rfl))
          clear HC HU hc
          go_wp2
          go_roundw
          case rel => exact ⟨i + 1, f, done, by omega, by go_num, rfl, hf2, HCE, HR⟩
          case measure => simp [intOf]; omega
    · have hall : Hid (done.map ByteArray.toList = spl s.toList) := HC.out.all (by omega)
      have hdl : done.length = (spl s.toList).length := by rw [← hall.out, List.length_map]
      have hle' : ¬ (i : Int) ≤ (s.size : Int) := by omega
      clear HC hLs
      by_cases h4 : 4 < done.length
      · have h4' : (4 : Int) < (done.length : Int) := by omega
        have HE : Hid (PA = .error 5) := by
          rw [← HPA.out]
          unfold parseA
          rw [if_pos (by omega)]
          rfl
        clear hdl hall HR
        go_wp2
        exact bodyPost_ret (v := .tuple #[.slice none 0 0, .int .i64 5]) (by simp [results, Tryz.results18, go_sem]) rfl ⟨by rw [HE.out]; rfl, by repeat (first | with_reducible exact Adds.refl _ | with_reducible refine Adds.alloc ?_ _ | with_reducible refine Adds.more ?_ _ _ | with_reducible refine Adds.drew ?_ | with_reducible refine Adds.drewN ?_ _)⟩
      · have h4' : ¬ (4 : Int) < (done.length : Int) := by omega
        have HE : Hid (PA = parseLs (done.map ByteArray.toList)) := by
          rw [← HPA.out, hall.out]
          unfold parseA
          rw [if_neg (by omega)]
          rfl
        clear hdl hall HPA
        have HCL : Hid (∀ (j : Nat) (hj : j < done.length), ∃ g, vo = some ⟨g, 0, none⟩ ∧ g < (more w os n0).heap.size ∧ (more w os n0).cell? ⟨g, j, none⟩ = some (.string done[j])) := fun j hj => HR.out.cell hj
        have HA1 : Hid (Adds w (more w os n0)) := by
          show Adds _ _
          repeat (first | with_reducible exact Adds.refl _ | with_reducible refine Adds.alloc ?_ _ | with_reducible refine Adds.more ?_ _ _ | with_reducible refine Adds.drew ?_ | with_reducible refine Adds.drewN ?_ _)
        clear HR
        generalize more w os n0 = wq at *
        go_wp2
        go_loopw [7, 8] (fun lv iv wr => ∃ (j D : Nat) (xs : List E) (ns : List NV), j ≤ done.length ∧ iv = .int .i64 j ∧ Hid (Sofar (done.map ByteArray.toList) j xs) ∧ Hid (Nr wq wr lv xs ns D)) (fun _ iv _ => done.length - (intOf iv).toNat)
        case atStart => exact ⟨0, 0, [], [], Nat.zero_le _, rfl, sofar_nil _, nr_empty rfl⟩
        case round =>
          obtain ⟨j, D, xs, ns, hj, rfl, HSo, HN⟩ := hrel
          obtain ⟨uo, uc, rfl⟩ := HN.out.shape
          have hlx : xs.length = j := HSo.out.1
          have hln : ns.length = j := HN.out.rx.1.trans hlx
          obtain ⟨os1, n1, rfl⟩ := HN.out.adds
          by_cases hlt : j < done.length
          · obtain ⟨g, rfl, hgq, cj⟩ := HCL.out j hlt
            have hnl : ns.length ≤ 10000 := by omega
            have hlt2 : j < (done.map ByteArray.toList).length := by simpa using hlt
            have hel : (done.map ByteArray.toList)[j] = done[j].toList := by simp
            clear hln hlx
            cases hp : parseL done[j].toList with
            | error c =>
              have kP := fun W => (parse_E hp W).2
              rw [toB_of] at kP
              have HEE : Hid (PA = .error c) := by
                show _ = _
                rw [HE.out]
                exact HSo.out.err hlt2 (by rw [hel]; exact hp)
              have hc0 : (c == 0) = false := by simpa using parseL_err hp
              clear hp HCL HSo HN hel hlt2
              generalize done[j] = one at *
              go_wp2_with (go_at_call 38; refine (kP _).mono ?_; rintro e w2 ⟨rfl, os2, n2, rfl⟩)
              exact bodyPost_ret (v := .tuple #[.slice none 0 0, .int .i64 c]) (by simp [results, Tryz.results18, go_sem]) rfl ⟨by rw [HEE.out]; rfl, HA1.out.trans (by repeat (first | with_reducible exact Adds.refl _ | with_reducible refine Adds.alloc ?_ _ | with_reducible refine Adds.more ?_ _ _ | with_reducible refine Adds.drew ?_ | with_reducible refine Adds.drewN ?_ _))⟩
            | ok x =>
              have kP := fun W => (parse_O hp W).2
              rw [toB_of] at kP
              have HNX : Hid (Sofar (done.map ByteArray.toList) (j + 1) (xs ++ [x])) := HSo.out.next hlt2 (by rw [hel]; exact hp)
              clear hp HCL HSo hel hlt2
              generalize done[j] = one at *
              simp only [Gave, nodeV] at kP
              go_wp2_with (first
                | (go_at_call 38; refine (kP _).mono ?_; rintro e w2 ⟨⟨ao, cap, D', rfl, hT⟩, os2, n2, rfl⟩)
                | (at_builtin; refine node_app rfl (.tmp 58) (.tmp 60) rfl (Nr.own HN.out) (by repeat (first | with_reducible exact Adds.refl _ | with_reducible refine Adds.alloc ?_ _ | with_reducible refine Adds.more ?_ _ _ | with_reducible refine Adds.drew ?_ | with_reducible refine Adds.drewN ?_ _)) (by simp [size_more]) rfl (by first | rfl | simp [size_more] | (simp [size_more]; omega)) rfl hnl ?_; intro v6 w6 ho6 hg6 hv6))
              go_roundw
              case rel =>
                refine ⟨j + 1, _, xs ++ [x], _, by omega, by go_num, HNX, Nr.push (D' := D') HN.out (by repeat (first | with_reducible exact Adds.refl _ | with_reducible refine Adds.alloc ?_ _ | with_reducible refine Adds.more ?_ _ _ | with_reducible refine Adds.drew ?_ | with_reducible refine Adds.drewN ?_ _)) ?_ ho6 hg6 hv6⟩
                exact (Tn.adds hT.out (by repeat (first | with_reducible exact Adds.refl _ | with_reducible refine Adds.alloc ?_ _ | with_reducible refine Adds.more ?_ _ _ | with_reducible refine Adds.drew ?_ | with_reducible refine Adds.drewN ?_ _))).weak (fun b hb _ => Nat.le_trans (Nat.le_succ _) hb)
              case measure => simp [intOf]; omega
          · have hj' : j = done.length := by omega
            have HG : Hid (GaveR PA (.returned (.tuple #[.slice uo xs.length uc, .int .i64 0])) (more wq os1 n1)) := by
              have h1 := HSo.out
              rw [hj', show done.length = (done.map ByteArray.toList).length by simp] at h1
              have h2 := HN.out.gave h1
              rw [← HE.out] at h2
              exact h2
            subst hj'
            clear HSo HN hln HE
            go_wp2
            exact bodyPost_ret (v := .tuple #[.slice uo xs.length uc, .int .i64 0]) (by simp [results, Tryz.results18, go_sem]) rfl ⟨HG.out, HA1.out.trans (by repeat (first | with_reducible exact Adds.refl _ | with_reducible refine Adds.alloc ?_ _ | with_reducible refine Adds.more ?_ _ _ | with_reducible refine Adds.drew ?_ | with_reducible refine Adds.drewN ?_ _))⟩

end Go.Proofs.YtiacnmcdfpmcfaaGreatDoor

namespace Go.Proofs.YtiacnmcdfpmcfaaGreatDoor
open Go.RowKit
attribute [local go_sem] cell?_more frozen?_more setCell_more size_more tape_more drew_more drewN_more more_drew more_drewN one_out plus_out plus_end lt_one le_p2 le_p3 le_p4 le_p5 le_p6 le_p7 le_p8 le_p9 le_p10 le_p11 le_p12 le_p13 le_p14 le_p15 le_p16 le_p17 le_p18 le_p19 le_p20 le_p21 le_p22 le_p23 le_p24 le_q0 le_q1 lt_q1 le_q2 lt_q2 le_q3 lt_q3 le_q4 lt_q4 le_q5 lt_q5 le_q6 lt_q6 le_q7 lt_q7 le_q8 lt_q8 le_q9 lt_q9 le_q10 lt_q10 le_q11 lt_q11 le_q12 lt_q12 le_q13 lt_q13 le_q14 lt_q14 le_q15 lt_q15 le_q16 lt_q16 le_q17 lt_q17 le_q18 lt_q18 le_q19 lt_q19 le_q20 lt_q20 le_q21 lt_q21 le_q22 lt_q22 le_q23 lt_q23 le_q24 lt_q24


set_option maxHeartbeats 4000000 in
theorem raw_num {ok : Nat → Prop} {d : Nat} (cs : List E) (hcs : cs.length = 0) (t : ByteArray) (n : Int) (fs : List F) (hm : May fs) (dv : Value) (sn : Value) (w : World) (hT : Tn ok d w sn (cs.map E.toN)) (_hL : Lst w dv fs) (hok : ∀ c ∈ cs, c.ok)
    (HV : ∀ (j : Nat) (h : j < cs.length) (e : Nat) (x : Value) (W : World), Adds w W → Tn ok e W x cs[j].toN.args → Calls Tryz.prog 100 #[nodeV cs[j].toN x, dv] W fun z w' => z = .returned (optV (valE fs cs[j])) ∧ Adds W w') :
    Calls Tryz.prog 126 #[.agg #[.int .i64 2, .string t, .int .i64 n, sn], dv] w fun x w' => x = .returned (optV ((kidsV fs cs).bind (fun _ => some (V.mkNum n)))) ∧ Adds w w' := by
  obtain ⟨ao, cap, rfl⟩ := hT.shape
  have HCS : Hid (cs.length = 0) := hcs
  rw [List.length_map, hcs] at hT ⊢
  have HT : Hid (Tn ok d w (.slice ao 0 cap) (cs.map E.toN)) := hT
  have HC : Hid (∀ (j : Nat) (h : j < cs.length) v, valE fs cs[j] = some v → v.check = 0) := fun j h v hv => valE_ok hm (hok _ (List.getElem_mem h)) hv
  have kN := rNum_any n
  clear hT hok hm _hL
  clear hcs
  have HX : Hid _ := HV
  clear HV
  go_enter Tryz.func126, Tryz.ntmps126
  go_wp2
  go_loopw [6, 7] (fun lv iv wr => ∃ (j : Nat) (vs : List V), j ≤ 0 ∧ iv = .int .i64 j ∧ Hid (Kn fs cs ((w.alloc (.cells #[.int .i64 2, .string t, .int .i64 n, .slice ao 0 cap] 81)).alloc (.cells #[.int .i64 0, .int .i64 0, .string ⟨#[]⟩, .int .i64 0, .int .i64 0] 87)) wr lv j vs)) (fun _ iv _ => 0 - (intOf iv).toNat)
  case atStart =>
    refine ⟨0, [], Nat.zero_le _, rfl, ⟨rfl, ?_, by simp, own_empty (by simp) (Nat.le_refl _), by repeat (first | with_reducible exact Adds.refl _ | with_reducible refine Adds.alloc ?_ _ | with_reducible refine Adds.more ?_ _ _ | with_reducible refine Adds.drew ?_ | with_reducible refine Adds.drewN ?_ _)⟩⟩
    rw [List.drop_zero]
    cases kidsV fs cs <;> rfl
  case round =>
    obtain ⟨j, vs, hj, rfl, hK⟩ := hrel
    by_cases hltM : j < 0
    · exact absurd hltM (by omega)
    · have hj' : j = cs.length := by rw [HCS.out]; omega
      subst hj'
      rw [HCS.out] at hj hltM
      have HLa : Hid (kidsV fs cs = some vs) := hK.out.last
      have hvl := hK.out.len
      have hgood := hK.out.good
      have hown := hK.out.own
      have HA1 : Hid (Adds w wr) := Adds.trans (by repeat (first | with_reducible exact Adds.refl _ | with_reducible refine Adds.alloc ?_ _ | with_reducible refine Adds.more ?_ _ _ | with_reducible refine Adds.drew ?_ | with_reducible refine Adds.drewN ?_ _)) hK.out.adds
      have hA1 := hK.out.adds
      have hbel := hA1.below
      have hsz := hbel.size
      simp only [World.size_alloc] at hsz
      have fB : ∀ i, wr.cell? ⟨w.heap.size, i, none⟩ = (((w.alloc (.cells #[.int .i64 2, .string t, .int .i64 n, .slice ao 0 cap] 81)).alloc (.cells #[.int .i64 0, .int .i64 0, .string ⟨#[]⟩, .int .i64 0, .int .i64 0] 87))).cell? ⟨w.heap.size, i, none⟩ := fun i => World.cell?_of_block (hbel.block _ (by rw [World.size_alloc, World.size_alloc]; show _ < w.heap.size + 1 + 1; simp only; omega))
      have gB : ∀ i, wr.cell? ⟨w.heap.size + 1, i, none⟩ = (((w.alloc (.cells #[.int .i64 2, .string t, .int .i64 n, .slice ao 0 cap] 81)).alloc (.cells #[.int .i64 0, .int .i64 0, .string ⟨#[]⟩, .int .i64 0, .int .i64 0] 87))).cell? ⟨w.heap.size + 1, i, none⟩ := fun i => World.cell?_of_block (hbel.block _ (by rw [World.size_alloc, World.size_alloc]; show _ < w.heap.size + 1 + 1; simp only; omega))
      have zB : ∀ i, wr.frozen? ⟨w.heap.size + 1, i, none⟩ = (((w.alloc (.cells #[.int .i64 2, .string t, .int .i64 n, .slice ao 0 cap] 81)).alloc (.cells #[.int .i64 0, .int .i64 0, .string ⟨#[]⟩, .int .i64 0, .int .i64 0] 87))).frozen? ⟨w.heap.size + 1, i, none⟩ := fun i => World.frozen?_of_block (hbel.block _ (by rw [World.size_alloc, World.size_alloc]; show _ < w.heap.size + 1 + 1; simp only; omega))
      have f0 := (fB 0).trans (show _ = some (.int .i64 2) by simp)
      have f1 := (fB 1).trans (show _ = some (.string t) by simp)
      have f2 := (fB 2).trans (show _ = some (.int .i64 n) by simp)
      have f3 := (fB 3).trans (show _ = some (.slice ao 0 cap) by simp)
      have g0 := (gB 0).trans (show _ = some (.int .i64 0) by simp)
      have g1 := (gB 1).trans (show _ = some (.int .i64 0) by simp)
      have g2 := (gB 2).trans (show _ = some (.string ⟨#[]⟩) by simp)
      have g3 := (gB 3).trans (show _ = some (.int .i64 0) by simp)
      have g4 := (gB 4).trans (show _ = some (.int .i64 0) by simp)
      have z0 := (zB 0).trans (show _ = false by simp)
      have z1 := (zB 1).trans (show _ = false by simp)
      have z2 := (zB 2).trans (show _ = false by simp)
      have z3 := (zB 3).trans (show _ = false by simp)
      have z4 := (zB 4).trans (show _ = false by simp)
      have s0 : w.heap.size < wr.heap.size := by omega
      have s1 : w.heap.size + 1 < wr.heap.size := by omega
      rw [HCS.out] at hvl ⊢
      clear hK HT HX HC hA1 hbel fB gB zB
      clear hgood hown
      go_wp2_with (first
        | (go_at_call 147; refine (kN _).mono ?_; rintro e w2 ⟨rfl, os2, n2, rfl⟩))
      exact bodyPost_ret (v := .tuple #[.agg #[.int .i64 1, .int .i64 n, .string ⟨#[]⟩, .int .i64 0, .int .i64 0], .bool true]) (by simp [results, Tryz.results126, go_sem, s1, g0, g1, g2, g3, g4]) rfl ⟨by rw [HLa.out]; rfl, by repeat (first | with_reducible exact HA1.out | with_reducible refine Adds.put ?_ (by omega) _ _ | with_reducible refine Adds.alloc ?_ _ | with_reducible refine Adds.more ?_ _ _ | with_reducible refine Adds.drew ?_ | with_reducible refine Adds.drewN ?_ _)⟩

end Go.Proofs.YtiacnmcdfpmcfaaGreatDoor

namespace Go.Proofs.YtiacnmcdfpmcfaaGreatDoor
open Go.RowKit
attribute [local go_sem] cell?_more frozen?_more setCell_more size_more tape_more drew_more drewN_more more_drew more_drewN one_out plus_out plus_end lt_one le_p2 le_p3 le_p4 le_p5 le_p6 le_p7 le_p8 le_p9 le_p10 le_p11 le_p12 le_p13 le_p14 le_p15 le_p16 le_p17 le_p18 le_p19 le_p20 le_p21 le_p22 le_p23 le_p24 le_q0 le_q1 lt_q1 le_q2 lt_q2 le_q3 lt_q3 le_q4 lt_q4 le_q5 lt_q5 le_q6 lt_q6 le_q7 lt_q7 le_q8 lt_q8 le_q9 lt_q9 le_q10 lt_q10 le_q11 lt_q11 le_q12 lt_q12 le_q13 lt_q13 le_q14 lt_q14 le_q15 lt_q15 le_q16 lt_q16 le_q17 lt_q17 le_q18 lt_q18 le_q19 lt_q19 le_q20 lt_q20 le_q21 lt_q21 le_q22 lt_q22 le_q23 lt_q23 le_q24 lt_q24


set_option maxHeartbeats 4000000 in
theorem raw_path {ok : Nat → Prop} {d : Nat} (cs : List E) (hcs : cs.length = 0) (t : ByteArray) (n : Int) (fs : List F) (hm : May fs) (dv : Value) (sn : Value) (w : World) (hT : Tn ok d w sn (cs.map E.toN)) (hL : Lst w dv fs) (hok : ∀ c ∈ cs, c.ok)
    (HV : ∀ (j : Nat) (h : j < cs.length) (e : Nat) (x : Value) (W : World), Adds w W → Tn ok e W x cs[j].toN.args → Calls Tryz.prog 100 #[nodeV cs[j].toN x, dv] W fun z w' => z = .returned (optV (valE fs cs[j])) ∧ Adds W w') :
    Calls Tryz.prog 126 #[.agg #[.int .i64 1, .string t, .int .i64 n, sn], dv] w fun x w' => x = .returned (optV ((kidsV fs cs).bind (fun _ => if firstAt t fs < fs.length then some (got t fs) else none))) ∧ Adds w w' := by
  obtain ⟨ao, cap, rfl⟩ := hT.shape
  have HCS : Hid (cs.length = 0) := hcs
  rw [List.length_map, hcs] at hT ⊢
  have HT : Hid (Tn ok d w (.slice ao 0 cap) (cs.map E.toN)) := hT
  have HC : Hid (∀ (j : Nat) (h : j < cs.length) v, valE fs cs[j] = some v → v.check = 0) := fun j h v hv => valE_ok hm (hok _ (List.getElem_mem h)) hv
  have kG := fun W hA => refGet_any dv fs t W (hL.adds hA) (by have := hm.1; omega)
  have hdl := hL
  have hml := hm.1
  obtain ⟨do_, dcap, rfl, hdc, hdl⟩ := hdl
  generalize hres : (if firstAt t fs < fs.length then some (got t fs) else none) = res
  have HRES : Hid ((if firstAt t fs < fs.length then some (got t fs) else none) = res) := hres
  clear hres
  clear hT hok hm hL
  clear hcs
  have HX : Hid _ := HV
  clear HV
  go_enter Tryz.func126, Tryz.ntmps126
  go_wp2
  go_loopw [6, 7] (fun lv iv wr => ∃ (j : Nat) (vs : List V), j ≤ 0 ∧ iv = .int .i64 j ∧ Hid (Kn fs cs ((w.alloc (.cells #[.int .i64 1, .string t, .int .i64 n, .slice ao 0 cap] 81)).alloc (.cells #[.int .i64 0, .int .i64 0, .string ⟨#[]⟩, .int .i64 0, .int .i64 0] 87)) wr lv j vs)) (fun _ iv _ => 0 - (intOf iv).toNat)
  case atStart =>
    refine ⟨0, [], Nat.zero_le _, rfl, ⟨rfl, ?_, by simp, own_empty (by simp) (Nat.le_refl _), by repeat (first | with_reducible exact Adds.refl _ | with_reducible refine Adds.alloc ?_ _ | with_reducible refine Adds.more ?_ _ _ | with_reducible refine Adds.drew ?_ | with_reducible refine Adds.drewN ?_ _)⟩⟩
    rw [List.drop_zero]
    cases kidsV fs cs <;> rfl
  case round =>
    obtain ⟨j, vs, hj, rfl, hK⟩ := hrel
    by_cases hltM : j < 0
    · exact absurd hltM (by omega)
    · have hj' : j = cs.length := by rw [HCS.out]; omega
      subst hj'
      rw [HCS.out] at hj hltM
      have HLa : Hid (kidsV fs cs = some vs) := hK.out.last
      have hvl := hK.out.len
      have hgood := hK.out.good
      have hown := hK.out.own
      have HA1 : Hid (Adds w wr) := Adds.trans (by repeat (first | with_reducible exact Adds.refl _ | with_reducible refine Adds.alloc ?_ _ | with_reducible refine Adds.more ?_ _ _ | with_reducible refine Adds.drew ?_ | with_reducible refine Adds.drewN ?_ _)) hK.out.adds
      have hA1 := hK.out.adds
      have hbel := hA1.below
      have hsz := hbel.size
      simp only [World.size_alloc] at hsz
      have fB : ∀ i, wr.cell? ⟨w.heap.size, i, none⟩ = (((w.alloc (.cells #[.int .i64 1, .string t, .int .i64 n, .slice ao 0 cap] 81)).alloc (.cells #[.int .i64 0, .int .i64 0, .string ⟨#[]⟩, .int .i64 0, .int .i64 0] 87))).cell? ⟨w.heap.size, i, none⟩ := fun i => World.cell?_of_block (hbel.block _ (by rw [World.size_alloc, World.size_alloc]; show _ < w.heap.size + 1 + 1; simp only; omega))
      have gB : ∀ i, wr.cell? ⟨w.heap.size + 1, i, none⟩ = (((w.alloc (.cells #[.int .i64 1, .string t, .int .i64 n, .slice ao 0 cap] 81)).alloc (.cells #[.int .i64 0, .int .i64 0, .string ⟨#[]⟩, .int .i64 0, .int .i64 0] 87))).cell? ⟨w.heap.size + 1, i, none⟩ := fun i => World.cell?_of_block (hbel.block _ (by rw [World.size_alloc, World.size_alloc]; show _ < w.heap.size + 1 + 1; simp only; omega))
      have zB : ∀ i, wr.frozen? ⟨w.heap.size + 1, i, none⟩ = (((w.alloc (.cells #[.int .i64 1, .string t, .int .i64 n, .slice ao 0 cap] 81)).alloc (.cells #[.int .i64 0, .int .i64 0, .string ⟨#[]⟩, .int .i64 0, .int .i64 0] 87))).frozen? ⟨w.heap.size + 1, i, none⟩ := fun i => World.frozen?_of_block (hbel.block _ (by rw [World.size_alloc, World.size_alloc]; show _ < w.heap.size + 1 + 1; simp only; omega))
      have f0 := (fB 0).trans (show _ = some (.int .i64 1) by simp)
      have f1 := (fB 1).trans (show _ = some (.string t) by simp)
      have f2 := (fB 2).trans (show _ = some (.int .i64 n) by simp)
      have f3 := (fB 3).trans (show _ = some (.slice ao 0 cap) by simp)
      have g0 := (gB 0).trans (show _ = some (.int .i64 0) by simp)
      have g1 := (gB 1).trans (show _ = some (.int .i64 0) by simp)
      have g2 := (gB 2).trans (show _ = some (.string ⟨#[]⟩) by simp)
      have g3 := (gB 3).trans (show _ = some (.int .i64 0) by simp)
      have g4 := (gB 4).trans (show _ = some (.int .i64 0) by simp)
      have z0 := (zB 0).trans (show _ = false by simp)
      have z1 := (zB 1).trans (show _ = false by simp)
      have z2 := (zB 2).trans (show _ = false by simp)
      have z3 := (zB 3).trans (show _ = false by simp)
      have z4 := (zB 4).trans (show _ = false by simp)
      have s0 : w.heap.size < wr.heap.size := by omega
      have s1 : w.heap.size + 1 < wr.heap.size := by omega
      rw [HCS.out] at hvl ⊢
      clear hK HT HX HC hA1 hbel fB gB zB
      clear hgood hown
      by_cases hf : firstAt t fs < fs.length
      · have hpl : placeOf t fs = firstAt t fs := by simp [placeOf, hf]
        rw [hpl] at kG
        rcases hdl with rfl | ⟨b, off, rfl, hbb, hll⟩
        · simp at hf
        have HR : Hid (res = some fs[firstAt t fs].val) := by
          show _ = _
          rw [← HRES.out, if_pos hf]
          simp only [got, hf, dif_pos]
        obtain ⟨d0, d1, d2, d3, d4, d5⟩ := hll _ hf
        have hW : ∀ i, wr.cell? ⟨b, i, none⟩ = w.cell? ⟨b, i, none⟩ := fun i => World.cell?_of_block (HA1.out.below.block _ hbb)
        rw [← hW] at d1 d2 d3 d4 d5
        have hbw : b < wr.heap.size := by omega
        have HRR : Hid ((kidsV fs cs).bind (fun _ => res) = some fs[firstAt t fs].val) := by show _ = _; rw [HLa.out]; exact HR.out
        have kG' := kG wr HA1.out
        clear kG hpl hll hW HR HRES d0
        generalize fs[firstAt t fs].val = x at *
        obtain ⟨xk, xn, xt, xr, xi⟩ := x
        generalize hfa : firstAt t fs = fa at *
        simp only at d1 d2 d3 d4 d5
        go_wp2_with (first
          | (go_at_call 146; refine kG'.mono ?_; rintro e w2 ⟨rfl, hw⟩; subst w2))
        exact bodyPost_ret (v := .tuple #[.agg #[.int .i64 xk, .int .i64 xn, .string xt, .int .i64 xr, .int .i64 xi], .bool true]) (by simp [results, Tryz.results126, go_sem, g0, g1, g2, g3, g4]) rfl ⟨by rw [HRR.out]; rfl, by repeat (first | with_reducible exact HA1.out | with_reducible refine Adds.put ?_ (by omega) _ _ | with_reducible refine Adds.alloc ?_ _ | with_reducible refine Adds.more ?_ _ _ | with_reducible refine Adds.drew ?_ | with_reducible refine Adds.drewN ?_ _)⟩
      · have hpl : placeOf t fs = -1 := by simp [placeOf, hf]
        have HR : Hid (res = none) := by show _ = _; rw [← HRES.out, if_neg hf]
        have HRR : Hid ((kidsV fs cs).bind (fun _ => res) = none) := by show _ = _; rw [HLa.out]; exact HR.out
        have kG' := kG wr HA1.out
        rw [hpl] at kG'
        clear kG hpl hdl hf HRES HR
        go_wp2_with (first
          | (go_at_call 146; refine kG'.mono ?_; rintro e w2 ⟨rfl, hw⟩; subst w2))
        exact bodyPost_ret (v := .tuple #[.agg #[.int .i64 0, .int .i64 0, .string ⟨#[]⟩, .int .i64 0, .int .i64 0], .bool false]) (by simp [results, Tryz.results126, go_sem, g0, g1, g2, g3, g4]) rfl ⟨by rw [HRR.out]; rfl, by repeat (first | with_reducible exact HA1.out | with_reducible refine Adds.put ?_ (by omega) _ _ | with_reducible refine Adds.alloc ?_ _ | with_reducible refine Adds.more ?_ _ _ | with_reducible refine Adds.drew ?_ | with_reducible refine Adds.drewN ?_ _)⟩

end Go.Proofs.YtiacnmcdfpmcfaaGreatDoor
