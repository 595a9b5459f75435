/-
  The law ShopFolds, of documents and some that are asked: the walk.
-/
import Derived.Test.YtgnhkpihlghbmaaSfo
namespace Go.Proofs.Ytgnhkpihlghbmaa
open Go.RowKit
attribute [local go_sem] cell?_more frozen?_more setCell_more size_more tape_more drew_more drewN_more more_drew more_drewN one_out plus_out plus_end lt_one le_p2 le_p3 le_p4 le_p5 le_p6 le_p7 le_p8 le_p9 le_p10 le_p11 le_p12 le_p13 le_p14 le_p15 le_p16 le_p17 le_p18 le_p19 le_p20 le_p21 le_p22 le_p23 le_p24 le_q0 le_q1 lt_q1 le_q2 lt_q2 le_q3 lt_q3 le_q4 lt_q4 le_q5 lt_q5 le_q6 lt_q6 le_q7 lt_q7 le_q8 lt_q8 le_q9 lt_q9 le_q10 lt_q10 le_q11 lt_q11 le_q12 lt_q12 le_q13 lt_q13 le_q14 lt_q14 le_q15 lt_q15 le_q16 lt_q16 le_q17 lt_q17 le_q18 lt_q18 le_q19 lt_q19 le_q20 lt_q20 le_q21 lt_q21 le_q22 lt_q22 le_q23 lt_q23 le_q24 lt_q24

set_option maxRecDepth 20000 in
set_option maxHeartbeats 8000000 in
theorem folds_any (s lv : Value) (ds : List Dn) (os : List Qv) (w : World) (hl : LstD w s ds) (ho : LstP w lv os) (hin : ∀ v ∈ os, ∃ xs, LstP w v.lv xs) :
    Calls Try.prog 3 #[s, lv] w fun e w' => e = .returned (.bool true) ∧ Adds w w' := by
  have kD := fun W (hA : Adds w W) => docsL_any s ds W (hl.adds hA)
  have HL : Hid (LstD w s ds) := hl
  have HO0 : Hid (LstP w lv os) := ho
  have HIN : Hid (∀ v ∈ os, ∃ xs, LstP w v.lv xs) := hin
  clear hin
  cases hdl : docsL ds with
  | false =>
    rw [hdl] at kD
    clear hdl
    obtain ⟨so, sc, rfl, _, _⟩ := hl
    obtain ⟨lo, lc, rfl, _, _⟩ := ho
    generalize os.length = n at *
    go_enter Try.func3, Try.ntmps3
    go_wp2_with (first
      | (go_at_call 7; refine (kD _ (by repeat (first | with_reducible exact Adds.refl _ | with_reducible refine Adds.alloc ?_ _ | with_reducible refine Adds.more ?_ _ _ | with_reducible refine Adds.drew ?_ | with_reducible refine Adds.drewN ?_ _))).mono ?_; rintro e w1 ⟨rfl, os1, n1, rfl⟩)
      | (go_at_call 9; refine (awake_any _).mono ?_; rintro e w2 ⟨rfl, os2, n2, rfl⟩))
    go_ret
    exact ⟨rfl, (by repeat (first | with_reducible exact Adds.refl _ | with_reducible refine Adds.alloc ?_ _ | with_reducible refine Adds.more ?_ _ _ | with_reducible refine Adds.drew ?_ | with_reducible refine Adds.drewN ?_ _))⟩
  | true =>
    rw [hdl] at kD
    obtain ⟨h40, h20⟩ := docsL_true hdl
    clear hdl
    have kM := fun W (hA : Adds w W) => refMay_docs s ds W (hl.adds hA) (by omega) (fun d hd => by have := h20 d hd; omega)
    obtain ⟨so, sc, rfl, _, _⟩ := hl
    obtain ⟨lo, lc, rfl, _, _⟩ := ho
    by_cases hf : ds.length ≤ 24 ∧ MayD ds
    rotate_left
    · rw [decide_eq_false hf] at kM
      clear HO0 HIN hf h40 h20
      generalize os.length = n at *
      go_enter Try.func3, Try.ntmps3
      go_wp2_with (first
        | (go_at_call 7; refine (kD _ (by repeat (first | with_reducible exact Adds.refl _ | with_reducible refine Adds.alloc ?_ _ | with_reducible refine Adds.more ?_ _ _ | with_reducible refine Adds.drew ?_ | with_reducible refine Adds.drewN ?_ _))).mono ?_; rintro e w1 ⟨rfl, os1, n1, rfl⟩)
        | (go_at_call 8; refine (kM _ (by repeat (first | with_reducible exact Adds.refl _ | with_reducible refine Adds.alloc ?_ _ | with_reducible refine Adds.more ?_ _ _ | with_reducible refine Adds.drew ?_ | with_reducible refine Adds.drewN ?_ _))).mono ?_; rintro e w3 ⟨rfl, os3, n3, rfl⟩)
        | (go_at_call 9; refine (awake_any _).mono ?_; rintro e w2 ⟨rfl, os2, n2, rfl⟩))
      go_ret
      exact ⟨rfl, (by repeat (first | with_reducible exact Adds.refl _ | with_reducible refine Adds.alloc ?_ _ | with_reducible refine Adds.more ?_ _ _ | with_reducible refine Adds.drew ?_ | with_reducible refine Adds.drewN ?_ _))⟩
    rw [decide_eq_true hf] at kM
    have HFI : Hid (Fine ds) := ⟨hf.2, hf.1⟩
    clear hf h40 h20
    go_enter Try.func3, Try.ntmps3
    go_wp2_with (first
      | (go_at_call 7; refine (kD _ (by repeat (first | with_reducible exact Adds.refl _ | with_reducible refine Adds.alloc ?_ _ | with_reducible refine Adds.more ?_ _ _ | with_reducible refine Adds.drew ?_ | with_reducible refine Adds.drewN ?_ _))).mono ?_; rintro e w1 ⟨rfl, os1, n1, rfl⟩)
      | (go_at_call 8; refine (kM _ (by repeat (first | with_reducible exact Adds.refl _ | with_reducible refine Adds.alloc ?_ _ | with_reducible refine Adds.more ?_ _ _ | with_reducible refine Adds.drew ?_ | with_reducible refine Adds.drewN ?_ _))).mono ?_; rintro e w3 ⟨rfl, os3, n3, rfl⟩))
    clear kD kM
    go_loopw [5, 6, 7] (fun av tv iv wr => ∃ (k : Nat) (As : List Ch) (rs : List Rh) (N : Nat), k ≤ 30 ∧ iv = .int .i64 k ∧ (∃ a c, av = .slice a N c) ∧ (∃ a n m, tv = .slice a n m) ∧ N ≤ 4 * k ∧ Hid (As.length = N) ∧ Hid (OwnH w.heap.size av rs w wr) ∧ Hid (rs.map (·.1) = As) ∧ Hid (LstD wr tv (foldC ds As)) ∧ Hid (∀ i, i ≤ As.length → Fine (foldC ds (As.take i))) ∧ Hid (Ranked As) ∧ Hid (∀ x ∈ As, x.doc.length ≤ 1000)) (fun _ _ iv _ => (31 - intOf iv).toNat)
    case atStart => exact ⟨0, [], [], 0, by omega, rfl, ⟨_, _, rfl⟩, ⟨_, _, _, rfl⟩, by omega, rfl, ownH_none (by repeat (first | with_reducible exact Adds.refl _ | with_reducible refine Adds.alloc ?_ _ | with_reducible refine Adds.more ?_ _ _ | with_reducible refine Adds.drew ?_ | with_reducible refine Adds.drewN ?_ _)) (by simp [go_sem]) (at_newH _ _ _ (by simp [go_sem])), rfl, by show LstD _ _ _; exact HL.out.adds (by repeat (first | with_reducible exact Adds.refl _ | with_reducible refine Adds.alloc ?_ _ | with_reducible refine Adds.more ?_ _ _ | with_reducible refine Adds.drew ?_ | with_reducible refine Adds.drewN ?_ _)), fun i _ => by simpa [foldC] using HFI.out, ranked_nil, fun x hx => by cases hx⟩
    case round =>
      obtain ⟨k, As, rs, N, hk, rfl, ⟨aa, ac0, rfl⟩, ⟨ta, tn, tc, rfl⟩, hN, HAN, HO, HM, HD, HF, HR, HLI⟩ := hrel
      have HA : Hid (Adds w wr) := Adds.of HO.out.2.1
      have HRS : Hid (rs.length = N) := by
        show _ = _
        rw [← HAN.out, ← HM.out, List.length_map]
      by_cases hlt : k < os.length ∧ k < 30
      · obtain ⟨hlt, hk30⟩ := hlt
        obtain ⟨ao', cap', he, _, hx⟩ := HO0.out.adds HA.out
        simp only [Value.slice.injEq] at he
        obtain ⟨rfl, _, rfl⟩ := he
        rcases hx with rfl | ⟨b, off, rfl, hb, hll⟩
        · simp at hlt
        obtain ⟨⟨c0, c1, c2, c3, c4, c5, c6, c7, c8, c9, c10⟩, hq⟩ := hll k hlt
        obtain ⟨xs, hxs⟩ := HIN.out _ (List.getElem_mem hlt)
        have hxs := hxs.adds HA.out
        clear hll
        generalize os[k] = x at *
        have kL := fun W (hA : Adds wr W) => lightL_any x xs W (hq.adds hA) (hxs.adds hA)
        have hft := HF.out As.length (Nat.le_refl _)
        rw [List.take_length] at hft
        have KP : Hid ((x.q.doc.length ≤ 20 ∧ x.q.want.length ≤ 20 ∧ xs.length ≤ 6 ∧ ∀ y ∈ xs, y.q.doc.length ≤ 20 ∧ y.q.want.length ≤ 20) → ∀ W, Adds wr W → Calls Try.prog 11 #[.slice ta tn tc, x.val, .int .i64 (N : Int)] W fun e w' => ApplyAll (foldC ds As) x.q (N : Int) W e w') := fun hlt W hA =>
          apply_all _ _ x xs _ W (HD.out.adds hA) hft ⟨by omega, by omega⟩ ((hq.adds hA).ok (by omega) (by omega)) ((hxs.adds hA).ok (LightTold.bounds hlt)) (by omega) (fun y hy => by have := hlt.2.2.2 y hy; omega)
        have HFT : Hid (Fine (foldC ds As)) := hft
        clear hft
        obtain ⟨q, dv, wv, lv, sv, nv⟩ := x
        obtain ⟨hd1, hw1, ⟨la, ln, lc', h51⟩, ⟨sa, sn, sc', h52⟩, ⟨na, nn, nc, h53⟩⟩ := hq
        simp only at h51 h52 h53 hd1 hw1 hxs KP c0 c1 c2 c3 c4 c5 c6 c7 c8 c9 c10
        subst h51 h52 h53
        obtain ⟨da, dc', rfl, _, _⟩ := hd1
        obtain ⟨wa, wc', rfl, _, _⟩ := hw1
        simp only [Qv.val, opV] at kL KP
        have hki : (k : Int) < (os.length : Int) := by omega
        clear hxs
        go_wp2_with fail
        refine (kL _ (by repeat (first | with_reducible exact Adds.refl _ | with_reducible refine Adds.alloc ?_ _ | with_reducible refine Adds.more ?_ _ _ | with_reducible refine Adds.drew ?_ | with_reducible refine Adds.drewN ?_ _))).mono ?_
        rintro e w4 ⟨bb, rfl, ⟨os4, n4, rfl⟩, HBB⟩
        clear kL
        cases bb with
        | false =>
          go_wp2_with fail
          go_roundw
          case rel => exact ⟨k + 1, As, rs, N, by omega, by go_num, ⟨_, _, rfl⟩, ⟨_, _, _, rfl⟩, by omega, HAN.out, HO.out.adds (by repeat (first | with_reducible exact Adds.refl _ | with_reducible refine Adds.alloc ?_ _ | with_reducible refine Adds.more ?_ _ _ | with_reducible refine Adds.drew ?_ | with_reducible refine Adds.drewN ?_ _)), HM.out, by show LstD _ _ _; exact HD.out.adds (by repeat (first | with_reducible exact Adds.refl _ | with_reducible refine Adds.alloc ?_ _ | with_reducible refine Adds.more ?_ _ _ | with_reducible refine Adds.drew ?_ | with_reducible refine Adds.drewN ?_ _)), HF.out, HR.out, HLI.out⟩
          case measure => simp [intOf]; omega
        | true =>
          have hkp := KP.out (HBB.out rfl)
          clear KP HBB
          go_wp2_with fail
          refine (hkp _ (by repeat (first | with_reducible exact Adds.refl _ | with_reducible refine Adds.alloc ?_ _ | with_reducible refine Adds.more ?_ _ _ | with_reducible refine Adds.drew ?_ | with_reducible refine Adds.drewN ?_ _))).mono ?_
          rintro e w6 ⟨cs, c, ah, to6, tn6, tc6, ao6, an6, ac6, so6, sn6, sc6, co6, cc6, rfl, ⟨os6, n6, rfl⟩, H6⟩
          clear hkp
          obtain ⟨rs6, ho6, hm6⟩ := H6.out.own
          have HO6 : Hid (OwnH (more wr os4 n4).heap.size _ rs6 (more wr os4 n4) _) := ho6
          have HM6 : Hid _ := hm6
          have HF6 : Hid _ := H6.out.far
          have HD6 : Hid _ := H6.out.docs
          have HI6 : Hid _ := H6.out.fine
          have HG6 : Hid (∀ x ∈ cs, x.doc.length ≤ 1000) := H6.out.light
          have HRL : Hid (rs6.length = cs.length) := by
            show _ = _
            have := congrArg List.length hm6
            rwa [List.length_map, placed_len] at this
          have hcs4 := H6.out.few
          have hbad := H6.out.bad
          have hrd := H6.out.reads
          clear H6 ho6 hm6
          have HOUT : Hid (∀ v7 w5 w7, OwnH w.heap.size v7 (rs ++ rs6) w w7 → Adds (more (more wr os4 n4) os6 n6) w5 → Far wr.heap.size w5 w7 → ∃ (k' : Nat) (As' : List Ch) (rs' : List Rh) (N' : Nat), k' ≤ 30 ∧ (Value.int .i64 ((k : Int) + 1)) = .int .i64 k' ∧ (∃ a c, v7 = .slice a N' c) ∧ (∃ a n m, Value.slice to6 tn6 tc6 = .slice a n m) ∧ N' ≤ 4 * k' ∧ Hid (As'.length = N') ∧ Hid (OwnH w.heap.size v7 rs' w w7) ∧ Hid (rs'.map (·.1) = As') ∧ Hid (LstD w7 (.slice to6 tn6 tc6) (foldC ds As')) ∧ Hid (∀ i, i ≤ As'.length → Fine (foldC ds (As'.take i))) ∧ Hid (Ranked As') ∧ Hid (∀ x ∈ As', x.doc.length ≤ 1000)) := by
            intro v7 w5 w7 h7 hA5 hF7
            have hmm : (rs ++ rs6).map (·.1) = As ++ placed (As.length : Int) cs cs.length := by
              rw [List.map_append, HM.out, HM6.out, HAN.out]
            have h8 := h7.lstH
            rw [hmm] at h8
            obtain ⟨va, vc, e7, _, _⟩ := h8
            refine ⟨k + 1, As ++ placed (As.length : Int) cs cs.length, rs ++ rs6, N + cs.length, by omega, by rw [Int.natCast_add]; rfl, ⟨va, vc, ?_⟩, ⟨_, _, _, rfl⟩, by omega, ?_, h7, hmm, ?_, fine_more HF.out HI6.out _, ranked_more HR.out, light_more HLI.out HG6.out⟩
            · rw [e7, List.length_append, placed_len, HAN.out]
            · show _ = _
              rw [List.length_append, placed_len, HAN.out]
            · show LstD _ _ _
              rw [foldC_all]
              refine HF6.out _ (Far.trans (far_adds hA5) (Far.mono hF7 ?_))
              rw [size_more]; omega
          have KDD : Hid (∀ W, Adds (more (more wr os4 n4) os6 n6) W → cs = [] → Calls Try.prog 12 #[.slice to6 tn6 tc6, .slice ta tn tc] W fun e w' => e = .returned (.bool true) ∧ Adds W w') := by
            intro W hA hz
            subst hz
            exact docsS_any _ _ (foldC ds As) W (LstD.adds HD6.out hA) (LstD.adds HD.out (Adds.trans (by repeat (first | with_reducible exact Adds.refl _ | with_reducible refine Adds.alloc ?_ _ | with_reducible refine Adds.more ?_ _ _ | with_reducible refine Adds.drew ?_ | with_reducible refine Adds.drewN ?_ _)) hA)) (by have := HFT.out.2; omega) HFT.out.docs
          have HAPP : Hid (∀ w5, Adds (more (more wr os4 n4) os6 n6) w5 → OwnH (more wr os4 n4).heap.size (.slice co6 cs.length cc6) rs6 (more wr os4 n4) w5) := fun w5 hA => OwnH.adds HO6.out hA
          have hN120 : (N : Int) ≤ 120 := by omega
          have HLL : Hid (rs.length + rs6.length ≤ 100000) := by
            have h1 := HRS.out
            have h2 := HRL.out
            show _ ≤ _
            omega
          have HBC : Hid (w.heap.size ≤ (more wr os4 n4).heap.size) := by
            have := HA.out.below.size
            show _ ≤ _
            rw [size_more]
            omega
          clear HO6 HM6 HF6 HD6 HI6 HG6 HRL
          by_cases hz : cs = []
          · subst hz
            have KDQ : Hid (∀ W, Adds (more (more wr os4 n4) os6 n6) W → Calls Try.prog 12 #[.slice to6 tn6 tc6, .slice ta tn tc] W fun e w' => e = .returned (.bool true) ∧ Adds W w') := fun W hA => KDD.out W hA rfl
            clear KDD
            have e0 : nOf (N : Int) ([] : List Ch).length = 0 := rfl
            simp only [e0, List.length_nil] at *
            clear e0 hbad hrd
            by_cases hc : c = 0
            · subst hc
              by_cases h4 : q.kind = 4
              · rw [h4] at c0
                go_wp2_with (first
                  | (go_at_call 12; refine (KDQ.out _ (by repeat (first | with_reducible exact Adds.refl _ | with_reducible refine Adds.alloc ?_ _ | with_reducible refine Adds.more ?_ _ _ | with_reducible refine Adds.drew ?_ | with_reducible refine Adds.drewN ?_ _))).mono ?_; rintro e w8 ⟨rfl, os8, n8, rfl⟩)
                  | (at_builtin; refine ownH_appL rfl (.tmp 115) (.tmp 116) rfl HO.out (by repeat (first | with_reducible exact Adds.refl _ | with_reducible refine Adds.alloc ?_ _ | with_reducible refine Adds.more ?_ _ _ | with_reducible refine Adds.drew ?_ | with_reducible refine Adds.drewN ?_ _)) rfl rfl (HAPP.out _ (by repeat (first | with_reducible exact Adds.refl _ | with_reducible refine Adds.alloc ?_ _ | with_reducible refine Adds.more ?_ _ _ | with_reducible refine Adds.drew ?_ | with_reducible refine Adds.drewN ?_ _))) HBC.out HLL.out ?_; intro v7 w7 h7 hF7; obtain ⟨o7, c7, e7, _, _⟩ := OwnH.lstH h7; simp only [List.length_map, List.length_append] at e7; subst e7; have H7 : Hid (OwnH w.heap.size _ (rs ++ rs6) w w7) := h7; have HF7 : Hid _ := hF7; clear h7 hF7))
                go_roundw
                case rel => exact HOUT.out _ _ _ H7.out (by repeat (first | with_reducible exact Adds.refl _ | with_reducible refine Adds.alloc ?_ _ | with_reducible refine Adds.more ?_ _ _ | with_reducible refine Adds.drew ?_ | with_reducible refine Adds.drewN ?_ _)) HF7.out
                case measure => simp [intOf]; omega
              by_cases h5 : q.kind = 5
              · rw [h5] at c0
                go_wp2_with (first
                  | (go_at_call 12; refine (KDQ.out _ (by repeat (first | with_reducible exact Adds.refl _ | with_reducible refine Adds.alloc ?_ _ | with_reducible refine Adds.more ?_ _ _ | with_reducible refine Adds.drew ?_ | with_reducible refine Adds.drewN ?_ _))).mono ?_; rintro e w8 ⟨rfl, os8, n8, rfl⟩)
                  | (at_builtin; refine ownH_appL rfl (.tmp 115) (.tmp 116) rfl HO.out (by repeat (first | with_reducible exact Adds.refl _ | with_reducible refine Adds.alloc ?_ _ | with_reducible refine Adds.more ?_ _ _ | with_reducible refine Adds.drew ?_ | with_reducible refine Adds.drewN ?_ _)) rfl rfl (HAPP.out _ (by repeat (first | with_reducible exact Adds.refl _ | with_reducible refine Adds.alloc ?_ _ | with_reducible refine Adds.more ?_ _ _ | with_reducible refine Adds.drew ?_ | with_reducible refine Adds.drewN ?_ _))) HBC.out HLL.out ?_; intro v7 w7 h7 hF7; obtain ⟨o7, c7, e7, _, _⟩ := OwnH.lstH h7; simp only [List.length_map, List.length_append] at e7; subst e7; have H7 : Hid (OwnH w.heap.size _ (rs ++ rs6) w w7) := h7; have HF7 : Hid _ := hF7; clear h7 hF7))
                go_roundw
                case rel => exact HOUT.out _ _ _ H7.out (by repeat (first | with_reducible exact Adds.refl _ | with_reducible refine Adds.alloc ?_ _ | with_reducible refine Adds.more ?_ _ _ | with_reducible refine Adds.drew ?_ | with_reducible refine Adds.drewN ?_ _)) HF7.out
                case measure => simp [intOf]; omega
              · have h41 : (q.kind == 4) = false := by simpa using h4
                have h51 : (q.kind == 5) = false := by simpa using h5
                go_wp2_with (first
                  | (at_builtin; refine ownH_appL rfl (.tmp 115) (.tmp 116) rfl HO.out (by repeat (first | with_reducible exact Adds.refl _ | with_reducible refine Adds.alloc ?_ _ | with_reducible refine Adds.more ?_ _ _ | with_reducible refine Adds.drew ?_ | with_reducible refine Adds.drewN ?_ _)) rfl rfl (HAPP.out _ (by repeat (first | with_reducible exact Adds.refl _ | with_reducible refine Adds.alloc ?_ _ | with_reducible refine Adds.more ?_ _ _ | with_reducible refine Adds.drew ?_ | with_reducible refine Adds.drewN ?_ _))) HBC.out HLL.out ?_; intro v7 w7 h7 hF7; obtain ⟨o7, c7, e7, _, _⟩ := OwnH.lstH h7; simp only [List.length_map, List.length_append] at e7; subst e7; have H7 : Hid (OwnH w.heap.size _ (rs ++ rs6) w w7) := h7; have HF7 : Hid _ := hF7; clear h7 hF7))
                go_roundw
                case rel => exact HOUT.out _ _ _ H7.out (by repeat (first | with_reducible exact Adds.refl _ | with_reducible refine Adds.alloc ?_ _ | with_reducible refine Adds.more ?_ _ _ | with_reducible refine Adds.drew ?_ | with_reducible refine Adds.drewN ?_ _)) HF7.out
                case measure => simp [intOf]; omega
            · have hc1 : (c == 0) = false := by simpa using hc
              have hc2 : (c != 0) = true := by simpa using hc
              by_cases h4 : q.kind = 4
              · rw [h4] at c0
                go_wp2_with (first
                  | (go_at_call 12; refine (KDQ.out _ (by repeat (first | with_reducible exact Adds.refl _ | with_reducible refine Adds.alloc ?_ _ | with_reducible refine Adds.more ?_ _ _ | with_reducible refine Adds.drew ?_ | with_reducible refine Adds.drewN ?_ _))).mono ?_; rintro e w8 ⟨rfl, os8, n8, rfl⟩)
                  | (at_builtin; refine ownH_appL rfl (.tmp 115) (.tmp 116) rfl HO.out (by repeat (first | with_reducible exact Adds.refl _ | with_reducible refine Adds.alloc ?_ _ | with_reducible refine Adds.more ?_ _ _ | with_reducible refine Adds.drew ?_ | with_reducible refine Adds.drewN ?_ _)) rfl rfl (HAPP.out _ (by repeat (first | with_reducible exact Adds.refl _ | with_reducible refine Adds.alloc ?_ _ | with_reducible refine Adds.more ?_ _ _ | with_reducible refine Adds.drew ?_ | with_reducible refine Adds.drewN ?_ _))) HBC.out HLL.out ?_; intro v7 w7 h7 hF7; obtain ⟨o7, c7, e7, _, _⟩ := OwnH.lstH h7; simp only [List.length_map, List.length_append] at e7; subst e7; have H7 : Hid (OwnH w.heap.size _ (rs ++ rs6) w w7) := h7; have HF7 : Hid _ := hF7; clear h7 hF7))
                go_roundw
                case rel => exact HOUT.out _ _ _ H7.out (by repeat (first | with_reducible exact Adds.refl _ | with_reducible refine Adds.alloc ?_ _ | with_reducible refine Adds.more ?_ _ _ | with_reducible refine Adds.drew ?_ | with_reducible refine Adds.drewN ?_ _)) HF7.out
                case measure => simp [intOf]; omega
              by_cases h5 : q.kind = 5
              · rw [h5] at c0
                go_wp2_with (first
                  | (go_at_call 12; refine (KDQ.out _ (by repeat (first | with_reducible exact Adds.refl _ | with_reducible refine Adds.alloc ?_ _ | with_reducible refine Adds.more ?_ _ _ | with_reducible refine Adds.drew ?_ | with_reducible refine Adds.drewN ?_ _))).mono ?_; rintro e w8 ⟨rfl, os8, n8, rfl⟩)
                  | (at_builtin; refine ownH_appL rfl (.tmp 115) (.tmp 116) rfl HO.out (by repeat (first | with_reducible exact Adds.refl _ | with_reducible refine Adds.alloc ?_ _ | with_reducible refine Adds.more ?_ _ _ | with_reducible refine Adds.drew ?_ | with_reducible refine Adds.drewN ?_ _)) rfl rfl (HAPP.out _ (by repeat (first | with_reducible exact Adds.refl _ | with_reducible refine Adds.alloc ?_ _ | with_reducible refine Adds.more ?_ _ _ | with_reducible refine Adds.drew ?_ | with_reducible refine Adds.drewN ?_ _))) HBC.out HLL.out ?_; intro v7 w7 h7 hF7; obtain ⟨o7, c7, e7, _, _⟩ := OwnH.lstH h7; simp only [List.length_map, List.length_append] at e7; subst e7; have H7 : Hid (OwnH w.heap.size _ (rs ++ rs6) w w7) := h7; have HF7 : Hid _ := hF7; clear h7 hF7))
                go_roundw
                case rel => exact HOUT.out _ _ _ H7.out (by repeat (first | with_reducible exact Adds.refl _ | with_reducible refine Adds.alloc ?_ _ | with_reducible refine Adds.more ?_ _ _ | with_reducible refine Adds.drew ?_ | with_reducible refine Adds.drewN ?_ _)) HF7.out
                case measure => simp [intOf]; omega
              · have h41 : (q.kind == 4) = false := by simpa using h4
                have h51 : (q.kind == 5) = false := by simpa using h5
                go_wp2_with (first
                  | (go_at_call 12; refine (KDQ.out _ (by repeat (first | with_reducible exact Adds.refl _ | with_reducible refine Adds.alloc ?_ _ | with_reducible refine Adds.more ?_ _ _ | with_reducible refine Adds.drew ?_ | with_reducible refine Adds.drewN ?_ _))).mono ?_; rintro e w8 ⟨rfl, os8, n8, rfl⟩)
                  | (at_builtin; refine ownH_appL rfl (.tmp 115) (.tmp 116) rfl HO.out (by repeat (first | with_reducible exact Adds.refl _ | with_reducible refine Adds.alloc ?_ _ | with_reducible refine Adds.more ?_ _ _ | with_reducible refine Adds.drew ?_ | with_reducible refine Adds.drewN ?_ _)) rfl rfl (HAPP.out _ (by repeat (first | with_reducible exact Adds.refl _ | with_reducible refine Adds.alloc ?_ _ | with_reducible refine Adds.more ?_ _ _ | with_reducible refine Adds.drew ?_ | with_reducible refine Adds.drewN ?_ _))) HBC.out HLL.out ?_; intro v7 w7 h7 hF7; obtain ⟨o7, c7, e7, _, _⟩ := OwnH.lstH h7; simp only [List.length_map, List.length_append] at e7; subst e7; have H7 : Hid (OwnH w.heap.size _ (rs ++ rs6) w w7) := h7; have HF7 : Hid _ := hF7; clear h7 hF7))
                go_roundw
                case rel => exact HOUT.out _ _ _ H7.out (by repeat (first | with_reducible exact Adds.refl _ | with_reducible refine Adds.alloc ?_ _ | with_reducible refine Adds.more ?_ _ _ | with_reducible refine Adds.drew ?_ | with_reducible refine Adds.drewN ?_ _)) HF7.out
                case measure => simp [intOf]; omega
          · have hc : c = 0 := Decidable.byContradiction fun h => hz (hbad h)
            have h45 : ¬ (q.kind = 4 ∨ q.kind = 5) := fun h => hz (hrd h)
            have h41 : (q.kind == 4) = false := by simpa using fun h => h45 (.inl h)
            have h51 : (q.kind == 5) = false := by simpa using fun h => h45 (.inr h)
            have hpos : 0 < cs.length := List.length_pos_iff.2 hz
            have hn : nOf (N : Int) cs.length = (N : Int) + (cs.length : Int) := by unfold nOf; rw [if_neg (by omega)]
            rw [hn]
            have hposi : (0 : Int) < (cs.length : Int) := by omega
            have hcs4i : (cs.length : Int) ≤ 4 := by omega
            subst hc
            clear hz hbad hrd h45 hn hpos hcs4 KDD
            go_wp2_with (first
              | (at_builtin; refine ownH_appL rfl (.tmp 115) (.tmp 116) rfl HO.out (by repeat (first | with_reducible exact Adds.refl _ | with_reducible refine Adds.alloc ?_ _ | with_reducible refine Adds.more ?_ _ _ | with_reducible refine Adds.drew ?_ | with_reducible refine Adds.drewN ?_ _)) rfl rfl (HAPP.out _ (by repeat (first | with_reducible exact Adds.refl _ | with_reducible refine Adds.alloc ?_ _ | with_reducible refine Adds.more ?_ _ _ | with_reducible refine Adds.drew ?_ | with_reducible refine Adds.drewN ?_ _))) HBC.out HLL.out ?_; intro v7 w7 h7 hF7; obtain ⟨o7, c7, e7, _, _⟩ := OwnH.lstH h7; simp only [List.length_map, List.length_append] at e7; subst e7; have H7 : Hid (OwnH w.heap.size _ (rs ++ rs6) w w7) := h7; have HF7 : Hid _ := hF7; clear h7 hF7))
            go_roundw
            case rel => exact HOUT.out _ _ _ H7.out (by repeat (first | with_reducible exact Adds.refl _ | with_reducible refine Adds.alloc ?_ _ | with_reducible refine Adds.more ?_ _ _ | with_reducible refine Adds.drew ?_ | with_reducible refine Adds.drewN ?_ _)) HF7.out
            case measure => simp [intOf]; omega
      · have HLH : Hid (LstH wr (.slice aa N ac0) As) := by
          have := HO.out.lstH
          rw [HM.out] at this
          exact this
        obtain ⟨ho, hcp, he, hcc, hrow⟩ := HLH.out
        simp only [Value.slice.injEq] at he
        obtain ⟨ea, _, ec⟩ := he
        subst ea ec
        have hcpi : (N : Int) ≤ (ac0 : Int) := by
          have := HAN.out
          omega
        have hft := HF.out As.length (Nat.le_refl _)
        rw [List.take_length] at hft
        have hN120 : (N : Int) ≤ 120 := by omega
        have kMM := fun W (hA : Adds wr W) => refMay_docs (.slice ta tn tc) (foldC ds As) W (LstD.adds HD.out hA) (by have := hft.2; omega) hft.docs
        rw [decide_eq_true ⟨hft.2, hft.1⟩] at kMM
        have KMM : Hid _ := kMM
        clear kMM
        have KSS : Hid (∀ W s', LstD W s' (foldC ds As) → Adds wr W → Calls Try.prog 12 #[s', .slice ta tn tc] W fun e w' => e = .returned (.bool true) ∧ Adds W w') := fun W s' h hA => docsS_any s' _ (foldC ds As) W h (LstD.adds HD.out hA) (by have := hft.2; omega) hft.docs
        clear hft HO HM HRS HLH HD
        rename World => W5
        by_cases hk1 : k < os.length
        · have hk2 : ¬ (k : Int) < 30 := by omega
          go_wp2_with fail
          go_loopw [13, 14, 15] (fun fv gv iv w2 => ∃ j : Nat, j ≤ N ∧ iv = .int .i64 j ∧ (∃ a n m, fv = .slice a n m) ∧ (∃ a n m, gv = .slice a n m) ∧ Hid (LstD w2 fv (foldC ds (As.take j))) ∧ Hid (LstD w2 gv (foldC ds (As.take j))) ∧ Hid (Adds W5 w2)) (fun _ _ iv _ => N - (intOf iv).toNat)
          case atStart => exact ⟨0, by omega, rfl, ⟨_, _, _, rfl⟩, ⟨_, _, _, rfl⟩, by show LstD _ _ _; rw [foldC_zero]; exact HL.out.adds HA.out, by show LstD _ _ _; rw [foldC_zero]; exact HL.out.adds HA.out, by show Adds _ _; exact (by repeat (first | with_reducible exact Adds.refl _ | with_reducible refine Adds.alloc ?_ _ | with_reducible refine Adds.more ?_ _ _ | with_reducible refine Adds.drew ?_ | with_reducible refine Adds.drewN ?_ _))⟩
          case round =>
            obtain ⟨j, hj, rfl, ⟨fa, fn, fc, rfl⟩, ⟨ga, gn, gc, rfl⟩, HFV, HGV, HA2⟩ := hrel
            by_cases hlt2 : j < N
            · have hjl : j < As.length := by
                have := HAN.out
                omega
              rcases hrow with h0 | ⟨b, off, rfl, hb, hl⟩
              · rw [h0] at hjl
                simp at hjl
              obtain ⟨v, c0, c1, c2, c3, hdoc⟩ := (hl.adds HA2.out hb) j hjl
              have hbw : b < wr.heap.size := Nat.lt_of_lt_of_le hb HA2.out.below.size
              have hpos := HR.out j hjl
              rw [hpos] at c0
              have HNX : Hid _ := foldC_next (ds := ds) hjl
              have hfn := HF.out j (by omega)
              have hfn1 := HF.out (j + 1) (by omega)
              have hdl := HLI.out _ (List.getElem_mem hjl)
              clear hpos hl
              generalize As[j] = y at *
              obtain ⟨yp, yk, yh, yd⟩ := y
              simp only at c1 c2 hdoc hdl HNX
              rw [HNX.out] at hfn1
              have kF := fun W (hA : Adds wr W) => shopFold_any (.slice fa fn fc) (foldC ds (As.take j)) ((j : Int) + 1) yk yh v yd W (LstD.adds HFV.out hA) (hdoc.adds hA) (by have := hfn.2; omega) hfn.risen hfn.docs hdl
              have kG := fun W (hA : Adds wr W) => fold_any (.slice ga gn gc) (foldC ds (As.take j)) ((j : Int) + 1) yk yh v yd W (LstD.adds HGV.out hA) (hdoc.adds hA) (by have := hfn.2; omega)
              rw [← foldS_eq hfn.risen] at kG
              generalize hZ : foldS (foldC ds (As.take j)) yk yh yd = Z at *
              clear hZ
              have kS := fun W s1 s2 h1 h2 => docsS_any s1 s2 Z W h1 h2 (by have := hfn1.2; omega) hfn1.docs
              obtain ⟨vo, vc, rfl, _, _⟩ := id hdoc
              have hji : (j : Int) < (N : Int) := by omega
              clear hfn hfn1 hdl hdoc HFV HGV hjl
              go_wp2_with (first
                | (go_at_call 13; refine (kF _ (by repeat (first | with_reducible exact Adds.refl _ | with_reducible refine Adds.alloc ?_ _ | with_reducible refine Adds.more ?_ _ _ | with_reducible refine Adds.drew ?_ | with_reducible refine Adds.drewN ?_ _))).mono ?_; rintro e w7 ⟨⟨v7, rfl, hv7⟩, os7, n7, rfl⟩; obtain ⟨o7, c7, rfl, _, _⟩ := hv7.out _ (Far.refl _ _); clear kF)
                | (go_at_call 14; refine (kG _ (by repeat (first | with_reducible exact Adds.refl _ | with_reducible refine Adds.alloc ?_ _ | with_reducible refine Adds.more ?_ _ _ | with_reducible refine Adds.drew ?_ | with_reducible refine Adds.drewN ?_ _))).mono ?_; rintro e w8 ⟨⟨v8, rfl, hL8⟩, os8, n8, rfl⟩; have HL8 : Hid _ := hL8; obtain ⟨o8, c8, rfl, _, _⟩ := hL8; clear kG)
                | (go_at_call 12; refine (kS _ _ _ (by exact hv7.out _ (by repeat (first | with_reducible exact Far.refl _ _ | with_reducible refine Far.mores ?_ (by simp [go_sem]) _ _ _ | with_reducible refine Far.allocs ?_ (by simp [go_sem]) _ | with_reducible refine Far.low ?_ (by simp [go_sem]) (by first | omega | (simp [go_sem] <;> omega)) _ _ | with_reducible refine Far.more ?_ _ _ | with_reducible refine Far.alloc ?_ _ | with_reducible refine Far.drew ?_ | with_reducible refine Far.drewN ?_ _))) (by exact LstD.adds HL8.out (by repeat (first | with_reducible exact Adds.refl _ | with_reducible refine Adds.alloc ?_ _ | with_reducible refine Adds.more ?_ _ _ | with_reducible refine Adds.drew ?_ | with_reducible refine Adds.drewN ?_ _)))).mono ?_; rintro e w9 ⟨rfl, os9, n9, rfl⟩))
              go_roundw
              case rel => exact ⟨j + 1, by omega, by go_num, ⟨_, _, _, rfl⟩, ⟨_, _, _, rfl⟩, by show LstD _ _ _; rw [HNX.out]; exact hv7.out _ (by repeat (first | with_reducible exact Far.refl _ _ | with_reducible refine Far.mores ?_ (by simp [go_sem]) _ _ _ | with_reducible refine Far.allocs ?_ (by simp [go_sem]) _ | with_reducible refine Far.low ?_ (by simp [go_sem]) (by first | omega | (simp [go_sem] <;> omega)) _ _ | with_reducible refine Far.more ?_ _ _ | with_reducible refine Far.alloc ?_ _ | with_reducible refine Far.drew ?_ | with_reducible refine Far.drewN ?_ _)), by show LstD _ _ _; rw [HNX.out]; exact LstD.adds HL8.out (by repeat (first | with_reducible exact Adds.refl _ | with_reducible refine Adds.alloc ?_ _ | with_reducible refine Adds.more ?_ _ _ | with_reducible refine Adds.drew ?_ | with_reducible refine Adds.drewN ?_ _)), by show Adds _ _; exact HA2.out.trans (by repeat (first | with_reducible exact Adds.refl _ | with_reducible refine Adds.alloc ?_ _ | with_reducible refine Adds.more ?_ _ _ | with_reducible refine Adds.drew ?_ | with_reducible refine Adds.drewN ?_ _))⟩
              case measure => simp [intOf]; omega
            · have hjN : j = As.length := by
                have := HAN.out
                omega
              have HFW : Hid (LstD wr (.slice fa fn fc) (foldC ds As)) := by
                have := HFV.out
                rw [hjN, List.take_length] at this
                exact this
              have hji : ¬ (j : Int) < (N : Int) := by omega
              clear hjN HFV HGV hrow
              go_wp2_with (first
                | (go_at_call 12; refine (KSS.out _ _ (by exact LstD.adds HFW.out (by repeat (first | with_reducible exact Adds.refl _ | with_reducible refine Adds.alloc ?_ _ | with_reducible refine Adds.more ?_ _ _ | with_reducible refine Adds.drew ?_ | with_reducible refine Adds.drewN ?_ _))) (HA2.out.trans (by repeat (first | with_reducible exact Adds.refl _ | with_reducible refine Adds.alloc ?_ _ | with_reducible refine Adds.more ?_ _ _ | with_reducible refine Adds.drew ?_ | with_reducible refine Adds.drewN ?_ _)))).mono ?_; rintro e w9 ⟨rfl, os9, n9, rfl⟩)
                | (go_at_call 8; refine (KMM.out _ (HA2.out.trans (by repeat (first | with_reducible exact Adds.refl _ | with_reducible refine Adds.alloc ?_ _ | with_reducible refine Adds.more ?_ _ _ | with_reducible refine Adds.drew ?_ | with_reducible refine Adds.drewN ?_ _)))).mono ?_; rintro e w10 ⟨rfl, os10, n10, rfl⟩)
                | (go_at_call 9; refine (awake_any _).mono ?_; rintro e w11 ⟨rfl, os11, n11, rfl⟩))
              go_ret
              exact ⟨rfl, HA.out.trans (HA2.out.trans (by repeat (first | with_reducible exact Adds.refl _ | with_reducible refine Adds.alloc ?_ _ | with_reducible refine Adds.more ?_ _ _ | with_reducible refine Adds.drew ?_ | with_reducible refine Adds.drewN ?_ _)))⟩
        · have hk2 : ¬ (k : Int) < (os.length : Int) := by omega
          go_wp2_with fail
          go_loopw [13, 14, 15] (fun fv gv iv w2 => ∃ j : Nat, j ≤ N ∧ iv = .int .i64 j ∧ (∃ a n m, fv = .slice a n m) ∧ (∃ a n m, gv = .slice a n m) ∧ Hid (LstD w2 fv (foldC ds (As.take j))) ∧ Hid (LstD w2 gv (foldC ds (As.take j))) ∧ Hid (Adds W5 w2)) (fun _ _ iv _ => N - (intOf iv).toNat)
          case atStart => exact ⟨0, by omega, rfl, ⟨_, _, _, rfl⟩, ⟨_, _, _, rfl⟩, by show LstD _ _ _; rw [foldC_zero]; exact HL.out.adds HA.out, by show LstD _ _ _; rw [foldC_zero]; exact HL.out.adds HA.out, by show Adds _ _; exact (by repeat (first | with_reducible exact Adds.refl _ | with_reducible refine Adds.alloc ?_ _ | with_reducible refine Adds.more ?_ _ _ | with_reducible refine Adds.drew ?_ | with_reducible refine Adds.drewN ?_ _))⟩
          case round =>
            obtain ⟨j, hj, rfl, ⟨fa, fn, fc, rfl⟩, ⟨ga, gn, gc, rfl⟩, HFV, HGV, HA2⟩ := hrel
            by_cases hlt2 : j < N
            · have hjl : j < As.length := by
                have := HAN.out
                omega
              rcases hrow with h0 | ⟨b, off, rfl, hb, hl⟩
              · rw [h0] at hjl
                simp at hjl
              obtain ⟨v, c0, c1, c2, c3, hdoc⟩ := (hl.adds HA2.out hb) j hjl
              have hbw : b < wr.heap.size := Nat.lt_of_lt_of_le hb HA2.out.below.size
              have hpos := HR.out j hjl
              rw [hpos] at c0
              have HNX : Hid _ := foldC_next (ds := ds) hjl
              have hfn := HF.out j (by omega)
              have hfn1 := HF.out (j + 1) (by omega)
              have hdl := HLI.out _ (List.getElem_mem hjl)
              clear hpos hl
              generalize As[j] = y at *
              obtain ⟨yp, yk, yh, yd⟩ := y
              simp only at c1 c2 hdoc hdl HNX
              rw [HNX.out] at hfn1
              have kF := fun W (hA : Adds wr W) => shopFold_any (.slice fa fn fc) (foldC ds (As.take j)) ((j : Int) + 1) yk yh v yd W (LstD.adds HFV.out hA) (hdoc.adds hA) (by have := hfn.2; omega) hfn.risen hfn.docs hdl
              have kG := fun W (hA : Adds wr W) => fold_any (.slice ga gn gc) (foldC ds (As.take j)) ((j : Int) + 1) yk yh v yd W (LstD.adds HGV.out hA) (hdoc.adds hA) (by have := hfn.2; omega)
              rw [← foldS_eq hfn.risen] at kG
              generalize hZ : foldS (foldC ds (As.take j)) yk yh yd = Z at *
              clear hZ
              have kS := fun W s1 s2 h1 h2 => docsS_any s1 s2 Z W h1 h2 (by have := hfn1.2; omega) hfn1.docs
              obtain ⟨vo, vc, rfl, _, _⟩ := id hdoc
              have hji : (j : Int) < (N : Int) := by omega
              clear hfn hfn1 hdl hdoc HFV HGV hjl
              go_wp2_with (first
                | (go_at_call 13; refine (kF _ (by repeat (first | with_reducible exact Adds.refl _ | with_reducible refine Adds.alloc ?_ _ | with_reducible refine Adds.more ?_ _ _ | with_reducible refine Adds.drew ?_ | with_reducible refine Adds.drewN ?_ _))).mono ?_; rintro e w7 ⟨⟨v7, rfl, hv7⟩, os7, n7, rfl⟩; obtain ⟨o7, c7, rfl, _, _⟩ := hv7.out _ (Far.refl _ _); clear kF)
                | (go_at_call 14; refine (kG _ (by repeat (first | with_reducible exact Adds.refl _ | with_reducible refine Adds.alloc ?_ _ | with_reducible refine Adds.more ?_ _ _ | with_reducible refine Adds.drew ?_ | with_reducible refine Adds.drewN ?_ _))).mono ?_; rintro e w8 ⟨⟨v8, rfl, hL8⟩, os8, n8, rfl⟩; have HL8 : Hid _ := hL8; obtain ⟨o8, c8, rfl, _, _⟩ := hL8; clear kG)
                | (go_at_call 12; refine (kS _ _ _ (by exact hv7.out _ (by repeat (first | with_reducible exact Far.refl _ _ | with_reducible refine Far.mores ?_ (by simp [go_sem]) _ _ _ | with_reducible refine Far.allocs ?_ (by simp [go_sem]) _ | with_reducible refine Far.low ?_ (by simp [go_sem]) (by first | omega | (simp [go_sem] <;> omega)) _ _ | with_reducible refine Far.more ?_ _ _ | with_reducible refine Far.alloc ?_ _ | with_reducible refine Far.drew ?_ | with_reducible refine Far.drewN ?_ _))) (by exact LstD.adds HL8.out (by repeat (first | with_reducible exact Adds.refl _ | with_reducible refine Adds.alloc ?_ _ | with_reducible refine Adds.more ?_ _ _ | with_reducible refine Adds.drew ?_ | with_reducible refine Adds.drewN ?_ _)))).mono ?_; rintro e w9 ⟨rfl, os9, n9, rfl⟩))
              go_roundw
              case rel => exact ⟨j + 1, by omega, by go_num, ⟨_, _, _, rfl⟩, ⟨_, _, _, rfl⟩, by show LstD _ _ _; rw [HNX.out]; exact hv7.out _ (by repeat (first | with_reducible exact Far.refl _ _ | with_reducible refine Far.mores ?_ (by simp [go_sem]) _ _ _ | with_reducible refine Far.allocs ?_ (by simp [go_sem]) _ | with_reducible refine Far.low ?_ (by simp [go_sem]) (by first | omega | (simp [go_sem] <;> omega)) _ _ | with_reducible refine Far.more ?_ _ _ | with_reducible refine Far.alloc ?_ _ | with_reducible refine Far.drew ?_ | with_reducible refine Far.drewN ?_ _)), by show LstD _ _ _; rw [HNX.out]; exact LstD.adds HL8.out (by repeat (first | with_reducible exact Adds.refl _ | with_reducible refine Adds.alloc ?_ _ | with_reducible refine Adds.more ?_ _ _ | with_reducible refine Adds.drew ?_ | with_reducible refine Adds.drewN ?_ _)), by show Adds _ _; exact HA2.out.trans (by repeat (first | with_reducible exact Adds.refl _ | with_reducible refine Adds.alloc ?_ _ | with_reducible refine Adds.more ?_ _ _ | with_reducible refine Adds.drew ?_ | with_reducible refine Adds.drewN ?_ _))⟩
              case measure => simp [intOf]; omega
            · have hjN : j = As.length := by
                have := HAN.out
                omega
              have HFW : Hid (LstD wr (.slice fa fn fc) (foldC ds As)) := by
                have := HFV.out
                rw [hjN, List.take_length] at this
                exact this
              have hji : ¬ (j : Int) < (N : Int) := by omega
              clear hjN HFV HGV hrow
              go_wp2_with (first
                | (go_at_call 12; refine (KSS.out _ _ (by exact LstD.adds HFW.out (by repeat (first | with_reducible exact Adds.refl _ | with_reducible refine Adds.alloc ?_ _ | with_reducible refine Adds.more ?_ _ _ | with_reducible refine Adds.drew ?_ | with_reducible refine Adds.drewN ?_ _))) (HA2.out.trans (by repeat (first | with_reducible exact Adds.refl _ | with_reducible refine Adds.alloc ?_ _ | with_reducible refine Adds.more ?_ _ _ | with_reducible refine Adds.drew ?_ | with_reducible refine Adds.drewN ?_ _)))).mono ?_; rintro e w9 ⟨rfl, os9, n9, rfl⟩)
                | (go_at_call 8; refine (KMM.out _ (HA2.out.trans (by repeat (first | with_reducible exact Adds.refl _ | with_reducible refine Adds.alloc ?_ _ | with_reducible refine Adds.more ?_ _ _ | with_reducible refine Adds.drew ?_ | with_reducible refine Adds.drewN ?_ _)))).mono ?_; rintro e w10 ⟨rfl, os10, n10, rfl⟩)
                | (go_at_call 9; refine (awake_any _).mono ?_; rintro e w11 ⟨rfl, os11, n11, rfl⟩))
              go_ret
              exact ⟨rfl, HA.out.trans (HA2.out.trans (by repeat (first | with_reducible exact Adds.refl _ | with_reducible refine Adds.alloc ?_ _ | with_reducible refine Adds.more ?_ _ _ | with_reducible refine Adds.drew ?_ | with_reducible refine Adds.drewN ?_ _)))⟩

end Go.Proofs.Ytgnhkpihlghbmaa
