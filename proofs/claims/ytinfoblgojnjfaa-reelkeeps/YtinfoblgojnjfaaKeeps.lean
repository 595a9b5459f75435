/-
  The law ReelKeeps by contract.
-/
import Derived.Test.YtinfoblgojnjfaaStates2
import Derived.StillTailTactics
namespace Go.Proofs.Ytinfoblgojnjfaa
open Go.RowKit Go.Maps

set_option maxRecDepth 20000 in
set_option maxHeartbeats 40000000 in
theorem reelKeeps_any (v1 v2 : Value) (la lb : List A) (keep : Int) (w : World) (h1 : LstA w v1 la) (h2 : LstA w v2 lb) :
    Calls Try.prog 4 #[v1, v2, .int .i64 keep] w fun e w' => e = .returned (.bool true) ∧ Adds w w' := by
  have kN := live_new 2000 (by decide) w
  rw [show ((2000 : Nat) : Int) = 2000 from rfl] at kN
  have kA := fun W (hW : Adds w W) => light_any v1 la W (h1.adds hW)
  have kB := fun W (hW : Adds w W) => light_any v2 lb W (h2.adds hW)
  have H1 : Hid (LstA w v1 la) := h1
  have H2 : Hid (LstA w v2 lb) := h2
  obtain ⟨ao1, cap1, hv1, hcap1, hm1, _⟩ := h1.1
  obtain ⟨ao2, cap2, hv2, hcap2, hm2, _⟩ := h2.1
  subst hv1 hv2
  clear h1 h2
  go_enter Try.func4, Try.ntmps4
  go_upto_block 0 with (first
    | (go_at_call 6; refine kN.mono ?_; rintro e w1 ⟨rfl, R1, p1, L1, d1, f1, r1, q1, b1, a1⟩; have HL : Hid (Live w1 w.heap.size (fun _ => none) R1) := L1; have HA : Hid (Adds w w1) := a1; have HQ : Hid (R1.p = w.heap.size + 1 ∧ R1.pw = ⟨0, false, 0, false⟩ ∧ R1.bulk = 0) := And.intro p1 (And.intro q1 b1); clear L1 a1 p1 d1 f1 r1 q1 b1)
    | (go_at_call 8; with_reducible refine (kA _ HA.out).mono ?_; rintro e w2 ⟨t1, rfl, rfl, ht1⟩)
    | (go_at_call 8; with_reducible refine (kB _ HA.out).mono ?_; rintro e w3 ⟨t2, rfl, rfl, ht2⟩)
    | (go_at_call 7; refine (awake_any _).mono ?_; rintro e w4 ⟨rfl, a4⟩))
  rotate_left
  all_goals try (go_ret; exact ⟨rfl, Adds.trans HA.out a4⟩)
  have ht1 := ht1 ‹_›
  have ht2 := ht2 (by have h : (!t2) = false := by assumption
                      simpa using h)
  rename (!t2) = false => hx2
  clear hx2
  clear kA kB kN
  go_cut [9] from 25 (fun _ wc => S1 w wc)
  case first => as_aux_lemma =>
    go_wp2
    go_loopw [9] (fun i W => ∃ (j : Nat) (R : Rw) (f : Fs), i = .int .i64 (j : Int) ∧ j ≤ la.length ∧ j ≤ 60 ∧ Live W w.heap.size f R ∧ R.p = w.heap.size + 1 ∧ R.gone = false ∧ R.armed = false ∧ R.bulk ≤ j * 1202 ∧ Adds w W) (fun i _ => (60 - intOf i).toNat)
    case atStart =>
      obtain ⟨p1, q1, b1⟩ := HQ.out
      exact ⟨0, R1, _, rfl, by omega, by omega, HL.out, p1, congrArg Pw.gone q1, congrArg Pw.armed q1, by omega, HA.out⟩
    case round => as_aux_lemma =>
      obtain ⟨j, R, f, rfl, hj, hj6, L, p, hgn, har, hbk, hAd⟩ := hrel
      have HAd : Hid (Adds w wr) := hAd
      have HLv : Hid (Live wr w.heap.size f R) := L
      have HG : Hid (R.gone = false ∧ R.armed = false) := ⟨hgn, har⟩
      clear L hgn har hAd HL HA HQ ht2
      by_cases hlt : j < la.length ∧ j < 60
      · obtain ⟨hlt, h60⟩ := hlt
        obtain ⟨b, off, cap', hv, _, hb, e0, e1, e2, e3, hbyt, hwf, _⟩ := LstA.at (LstA.adds H1.out HAd.out) hlt
        simp only [Value.slice.injEq, true_and] at hv
        obtain ⟨rfl, rfl⟩ := hv
        have hle := ht1 j hlt h60
        have k12 := fun W (hW : Adds wr W) => append_all (HLv.out.adds hW) la[j].file la[j].val la[j].b (hbyt.adds hW) (by omega)
        have k13 := fun W (hW : Adds wr W) => drop_all (HLv.out.adds hW) la[j].file hwf (by omega)
        rw [p] at k12 k13
        obtain ⟨bo, bc, hbv, _⟩ := hbyt.open
        rw [hbv] at e2 k12
        have HN : Hid (∀ (w2 : World) (R2 : Rw), Live w2 w.heap.size f R2 → Moves wr R w2 R2 → R2.p = w.heap.size + 1 → (R.gone = false → R.armed = false → R2.gone = false ∧ R2.armed = false) → R2.bulk ≤ R.bulk + 2 * la[j].b.length + 2 → ∃ (j' : Nat) (R' : Rw) (f : Fs), Value.int .i64 ((j : Int) + 1) = .int .i64 (j' : Int) ∧ j' ≤ la.length ∧ j' ≤ 60 ∧ Live w2 w.heap.size f R' ∧ R'.p = w.heap.size + 1 ∧ R'.gone = false ∧ R'.armed = false ∧ R'.bulk ≤ j' * 1202 ∧ Adds w w2) := by
          intro w2 R2 L2 mv p2 g2 b2
          obtain ⟨g1, g2⟩ := g2 HG.out.1 HG.out.2
          exact ⟨j + 1, R2, f, by go_num, by omega, by omega, L2, p2, g1, g2, by omega, adds_low mv HLv.out.mem HAd.out rfl⟩
        clear hbyt hwf hbv ht1
        generalize la[j].file = fl at *
        generalize la[j].b = bb at *
        generalize la[j].act = ac at *
        generalize la[j].val = vv at *
        by_cases h0 : ac = 0
        · subst h0
          go_wp2
          refine wp_region_still_tail 11 (by kernel_rfl) (by kernel_rfl) ?_
          simp only [List.take_succ_cons, List.take_zero, List.drop_succ_cons, List.drop_zero]
          change wpStill _ _ (World.drew _) (fun a' => wpList _ _ _ _ a' (World.drew _)) _ _
          repeat still_step
          refine wpStill_nil ?_
          go_wp2_with (go_at_call 12; with_reducible refine (k12 _ (by repeat (first | with_reducible exact Adds.refl _ | with_reducible refine Adds.alloc ?_ _ | with_reducible refine Adds.more ?_ _ _ | with_reducible refine Adds.drew ?_ | with_reducible refine Adds.drewN ?_ _))).mono ?_; rintro e w5 ⟨n5, rfl, R5, L5, mv5, gr5, p5, b5, g5⟩)
          go_roundw
          case rel => exact HN.out _ R5 L5 ((Moves.adds R (by repeat (first | with_reducible exact Adds.refl _ | with_reducible refine Adds.alloc ?_ _ | with_reducible refine Adds.more ?_ _ _ | with_reducible refine Adds.drew ?_ | with_reducible refine Adds.drewN ?_ _))).trans mv5) p5 g5 (by omega)
          case measure => simp [intOf]; omega
        · have h0' : (ac == 0) = false := by simpa using h0
          by_cases h1 : ac = 1
          · subst h1
            go_wp2_with (go_at_call 13; with_reducible refine (k13 _ (by repeat (first | with_reducible exact Adds.refl _ | with_reducible refine Adds.alloc ?_ _ | with_reducible refine Adds.more ?_ _ _ | with_reducible refine Adds.drew ?_ | with_reducible refine Adds.drewN ?_ _))).mono ?_; rintro e w5 ⟨n5, rfl, R5, L5, mv5, gr5, p5, b5, g5⟩)
            go_roundw
            case rel => exact HN.out _ R5 L5 ((Moves.adds R (by repeat (first | with_reducible exact Adds.refl _ | with_reducible refine Adds.alloc ?_ _ | with_reducible refine Adds.more ?_ _ _ | with_reducible refine Adds.drew ?_ | with_reducible refine Adds.drewN ?_ _))).trans mv5) p5 g5 (by omega)
            case measure => simp [intOf]; omega
          · have h1' : (ac == 1) = false := by simpa using h1
            go_wp2
            go_roundw
            case rel => exact HN.out _ R HLv.out (Moves.refl _ _) p (fun a b => ⟨a, b⟩) (by omega)
            case measure => simp [intOf]; omega
      · have HS : Hid (S1 w wr) := ⟨R, f, HLv.out, p, HG.out.1, HG.out.2, by omega, HAd.out⟩
        clear HLv HG HAd p hbk
        by_cases hend : j = la.length
        · subst hend
          go_wp2
          go_meet
          case rel => exact HS.out
        · have : j = 60 := by omega
          subst this
          have hl60 : 60 < la.length := by omega
          go_wp2
          go_meet
          case rel => exact HS.out
  case rest => as_aux_lemma =>
    obtain ⟨⟨R, f, L, p, hgn, har, hbk, hAd⟩⟩ := hcut
    obtain ⟨W1, hW1⟩ : ∃ x, x = wc := ⟨wc, rfl⟩
    subst hW1
    have kS := live_sync L hgn
    rw [p] at kS
    have HR : Hid (R.p = w.heap.size + 1 ∧ R.bulk ≤ 72120 ∧ Adds w W1 ∧ Live W1 w.heap.size f R) := ⟨p, hbk, hAd, L⟩
    clear L p hgn har hbk hAd HL HA HQ ht1
    go_upto_block 2 with (first
      | (go_at_call 14; refine kS.mono ?_; rintro e w4 ⟨rfl, R4, L4, mv4, d4, f4, p4, r4, q4, b4⟩; have kF := files_any L4; rw [p4] at kF; have HA4 : Hid (Adds w w4) := adds_low mv4 HR.out.2.2.2.mem HR.out.2.2.1 rfl; have HQ4 : Hid (R4.p = w.heap.size + 1 ∧ R4.deeds = [] ∧ R4.bulk ≤ 72120) := ⟨p4, d4, Nat.le_trans b4 HR.out.2.1⟩; have HL4 : Hid (Live w4 w.heap.size (filesF R.fs) R4) := L4; clear L4 mv4 d4 f4 p4 r4 q4 b4 kS)
      | (go_at_call 15; refine kF.mono ?_; rintro e w5 ⟨v5, rfl, o5, a5⟩))
    have HS5 : Hid (S2 w (filesF R.fs) (keysF R4.fs) R4 0 v5 (.slice (some ⟨w5.heap.size, 0, none⟩) 0 0) [] ((w5.alloc (.cells #[] 36)).alloc (.cells #[] 4)) ∧ ((w5.alloc (.cells #[] 36)).alloc (.cells #[] 4)).ownsRow w.heap.size 4 1 (.slice (some ⟨w5.heap.size + 1, 0, none⟩) 0 0) 0 []) := by
      have ha : Adds w5 ((w5.alloc (.cells #[] 36)).alloc (.cells #[] 4)) := ((Adds.refl _).alloc _).alloc _
      have hlow : w.heap.size ≤ w4.heap.size := HA4.out.below.size
      have hlow5 : w4.heap.size ≤ w5.heap.size := a5.below.size
      refine ⟨S2.start (B := 0) ((HL4.out.adds a5).adds ha) HQ4.out.2.1 HQ4.out.1 ((HA4.out.trans a5).trans ha) hlow (row_adds o5 ha) (Nat.le_refl _) ?_, ?_⟩
      · exact row_adds (row_base (row_empty w5 36) (by omega)) ((Adds.refl _).alloc _)
      · have := row_base (row_empty (w5.alloc (.cells #[] 36)) 4) (B := w.heap.size) (by simp; omega)
        simpa using this
    have HQ5 : Hid (R4.deeds = [] ∧ R4.bulk ≤ 72120) := HQ4.out.2
    clear HA4 HQ4 HL4 kF o5 a5 HR
    generalize filesF R.fs = f0 at *
    generalize keysF R4.fs = ks at *
    obtain ⟨vo, vc, hv5⟩ := HS5.out.1.len
    subst hv5
    go_cut [10, 11, 12] from 25 (fun x10 x11 x12 wc => T2 w x10 x11 x12 wc)
    case first => as_aux_lemma =>
      go_wp2
      go_loopw [11, 12, 13] (fun v11 v12 i W => ∃ (j : Nat) (xs : List Value), i = .int .i64 (j : Int) ∧ j ≤ ks.length ∧ S2 w f0 ks R4 j (.slice vo ks.length vc) v11 xs W ∧ W.ownsRow w.heap.size 4 1 v12 j (cellsT (List.replicate j false))) (fun _ _ i _ => (ks.length - intOf i).toNat)
      case atStart => exact ⟨0, [], rfl, by omega, HS5.out.1, HS5.out.2⟩
      case round => as_aux_lemma =>
        obtain ⟨j, xs, rfl, hj, S, o12⟩ := hrel
        have HS : Hid (S2 w f0 ks R4 j (.slice vo ks.length vc) u11 xs wr) := S
        have HO : Hid (wr.ownsRow w.heap.size 4 1 u12 j (cellsT (List.replicate j false))) := o12
        have hfew := S.few
        clear HS5 S o12
        by_cases hlt : j < ks.length
        · obtain ⟨g, cap, hv, hcp, hgl, hcell⟩ := HS.out.at hlt
          simp only [Value.slice.injEq, true_and] at hv
          obtain ⟨rfl, rfl⟩ := hv
          have kR := read_all HS.out.live ks[j] (wf_key (HS.out.keys _ (List.getElem_mem hlt))) (by have := HQ5.out.2; omega)
          rw [HS.out.p] at kR
          have hf : filesF R4.fs = f0 := by rw [HS.out.live.files, HQ5.out.1]; rfl
          rw [hf] at kR
          have HK : Hid (ks[j] = ks[j]) := rfl
          have hxl : xs.length = j := by
            have := HS.out.each.1
            simp at this
            omega
          generalize hkj : ks[j] = kj at kR hcell
          have HJ : Hid (ks[j] = kj) := hkj
          clear hkj HK hf
          go_wp2_with (first
            | (go_at_call 16; refine kR.mono ?_; rintro e w6 ⟨r6, rfl, s6, a6⟩; obtain ⟨ro, rc, hr6, hrc6, _⟩ := id s6; subst hr6; have HS6 : Hid (S2 w f0 ks R4 j (.slice (some ⟨g, 0, none⟩) ks.length vc) u11 xs (w6.alloc (.cells #[.slice ro (bytes f0 kj).length rc] 36))) := (HS.out.more a6).more ((Adds.refl _).alloc _); have HF6 : Hid (Safe (w6.alloc (.cells #[.slice ro (bytes f0 kj).length rc] 36)) R4 (.slice ro (bytes f0 kj).length rc) (bytes f0 kj)) := s6.adds ((Adds.refl _).alloc _); have HO6 : Hid ((w6.alloc (.cells #[.slice ro (bytes f0 kj).length rc] 36)).ownsRow w.heap.size 4 1 u12 j (cellsT (List.replicate j false))) := row_adds (row_adds HO.out a6) ((Adds.refl _).alloc _); clear s6 a6)
            | (at_builtin; refine sl_app rfl (.tmp 106) (.tmp 108) rfl HS6.out.was HS6.out.low rfl (.slice ro (bytes f0 kj).length rc) rfl _ _ rfl (by simp) (by omega) ?_; intro v7 w7 o7 g7; have HS7 : Hid (S2 w f0 ks R4 (j + 1) (.slice (some ⟨g, 0, none⟩) ks.length vc) v7 (xs ++ [.slice ro (bytes f0 kj).length rc]) (w7.alloc (.cells #[.bool false] 4))) := (HS6.out.push hlt (by rw [HJ.out]; exact HF6.out) o7 g7).more ((Adds.refl _).alloc _); have HO7 : Hid ((w7.alloc (.cells #[.bool false] 4)).ownsRow w.heap.size 4 1 u12 (cellsT (List.replicate j false)).length (cellsT (List.replicate j false))) := (by rw [cellsT_length, List.length_replicate]; exact row_adds (row_other HO6.out HS6.out.was (by decide) g7) ((Adds.refl _).alloc _)); clear o7 g7)
            | (at_builtin; refine bo_app rfl (.tmp 110) (.tmp 111) rfl HO7.out HS7.out.low rfl false _ _ rfl (by simp) (by rw [cellsT_length]; simp; omega) ?_; intro v8 w8 o8 g8))
          go_roundw
          case rel =>
            refine ⟨j + 1, _, by go_num, by omega, HS7.out.grown ⟨by decide, by decide, by decide⟩ (by decide) (by decide) HO7.out g8, ?_⟩
            have e : cellsT (List.replicate (j + 1) false) = cellsT (List.replicate j false) ++ [Value.bool false] := by simp [cellsT, List.replicate_succ']
            rw [e]
            have el : (cellsT (List.replicate j false) ++ [Value.bool false]).length = j + 1 := by simp [cellsT]
            rw [el] at o8
            exact o8
          case measure => simp [intOf]; omega
        · have hje : j = ks.length := by omega
          subst hje
          have HT : Hid (T2 w (.slice vo ks.length vc) u11 u12 wr) := ⟨f0, ks, R4, xs, HS.out, HQ5.out.1, HQ5.out.2, HO.out⟩
          clear HS HO
          go_wp2
          go_meet
          case rel => exact HT.out
    case rest => as_aux_lemma =>
      obtain ⟨⟨f, ks, R, xs, S, hd, hbk, o12⟩⟩ := hcut
      obtain ⟨W2, hW2⟩ : ∃ x, x = wc := ⟨wc, rfl⟩
      subst hW2
      obtain ⟨vo, vc, hv⟩ := S.len
      subst hv
      have hxl : xs.length = ks.length := by
        have := S.each.1
        simpa using this
      obtain ⟨wo, wcp, hv⟩ : ∃ wo wcp, u11 = .slice wo ks.length wcp := by
        obtain ⟨a, b, e⟩ := row_len S.was
        exact ⟨a, b, by rw [e, hxl]⟩
      subst hv
      have HXL : Hid (xs.length = ks.length) := hxl
      clear hxl
      obtain ⟨bo, bc, hv⟩ : ∃ bo bc, u12 = .slice bo ks.length bc := by
        rcases o12.2 with ⟨e, hn⟩ | ⟨g, cap, cur, e, _⟩
        · exact ⟨none, 0, by rw [e, hn]⟩
        · exact ⟨_, _, e⟩
      subst hv
      have hfew := S.few
      have HS2 : Hid (S2 w f ks R ks.length (.slice vo ks.length vc) (.slice wo ks.length wcp) xs W2) := S
      have HO2 : Hid (W2.ownsRow w.heap.size 4 1 (.slice bo ks.length bc) ks.length (cellsT (List.replicate ks.length false))) := o12
      have HD2 : Hid (R.deeds = [] ∧ R.bulk ≤ 72120) := ⟨hd, hbk⟩
      clear S hd hbk o12
      go_upto_block 4 with fail
      go_cut [16] from 25 (fun _ wc => T3 w f ks xs (.slice vo ks.length vc) (.slice wo ks.length wcp) (.slice bo ks.length bc) wc)
      case first => as_aux_lemma =>
        go_wp2
        go_loopw [16] (fun i W => ∃ (j : Nat) (R' : Rw) (fl : List Bool), i = .int .i64 (j : Int) ∧ j ≤ lb.length ∧ j ≤ 60 ∧ S2 w f ks R' ks.length (.slice vo ks.length vc) (.slice wo ks.length wcp) xs W ∧ R'.bulk ≤ 72120 + j * 1202 ∧ fl.length = ks.length ∧ W.ownsRow w.heap.size 4 1 (.slice bo ks.length bc) ks.length (cellsT fl) ∧ (∀ i (h : i < fl.length) (h' : i < ks.length), fl[i] = false → noDrop R'.deeds ks[i])) (fun i _ => (60 - intOf i).toNat)
        case atStart => exact ⟨0, R, List.replicate ks.length false, rfl, by omega, by omega, HS2.out, by have := HD2.out.2; omega, by simp, HO2.out, fun i _ _ _ d hd => by rw [HD2.out.1] at hd; cases hd⟩
        case round => as_aux_lemma =>
          obtain ⟨j, R3, fl, rfl, hj, hj6, S, hbk, hfl, o12, hno⟩ := hrel
          have HS : Hid (S2 w f ks R3 ks.length (.slice vo ks.length vc) (.slice wo ks.length wcp) xs wr) := S
          have HO : Hid (wr.ownsRow w.heap.size 4 1 (.slice bo ks.length bc) ks.length (cellsT fl)) := o12
          have HNo : Hid (∀ i (h : i < fl.length) (h' : i < ks.length), fl[i] = false → noDrop R3.deeds ks[i]) := hno
          clear S o12 hno HS2 HO2 HD2
          by_cases hlt : j < lb.length ∧ j < 60
          · obtain ⟨hlt, h60⟩ := hlt
            obtain ⟨b, off, cap', hv, _, hb, e0, e1, e2, e3, hbyt, hwf, hwn⟩ := LstA.at (LstA.adds H2.out HS.out.adds) hlt
            have hbw : b < w.heap.size := by
              obtain ⟨b0, off0, cap0, hv0, _, hb0, _⟩ := LstA.at H2.out hlt
              rw [hv] at hv0
              simp only [Value.slice.injEq, Option.some.injEq, Addr.mk.injEq, true_and, and_true] at hv0
              obtain ⟨⟨e, _⟩, _⟩ := hv0
              rw [e]
              exact hb0
            simp only [Value.slice.injEq, true_and] at hv
            obtain ⟨rfl, rfl⟩ := hv
            have hle := ht2 j hlt h60
            have k12 := fun W (hW : Adds wr W) => append_all (HS.out.live.adds hW) lb[j].file lb[j].val lb[j].b (hbyt.adds hW) (by omega)
            have k13 := fun W (hW : Adds wr W) => drop_all (HS.out.live.adds hW) lb[j].file hwf (by omega)
            have k17 := fun W (hW : Adds wr W) => live_arm (HS.out.live.adds hW) lb[j].n hwn
            rw [HS.out.p] at k12 k13 k17
            obtain ⟨bo', bc', hbv, _⟩ := hbyt.open
            rw [hbv] at e2 k12
            have HN : Hid (∀ (w2 : World) (R2 : Rw), Live w2 w.heap.size f R2 → Moves wr R3 w2 R2 → R2.p = w.heap.size + 1 → (R2.deeds = R3.deeds ∨ ∃ d, d.drop = false ∧ R2.deeds = R3.deeds ++ [d]) → R2.bulk ≤ R3.bulk + 2 * lb[j].b.length + 2 → ∃ (j' : Nat) (R' : Rw) (fl : List Bool), Value.int .i64 ((j : Int) + 1) = .int .i64 (j' : Int) ∧ j' ≤ lb.length ∧ j' ≤ 60 ∧ S2 w f ks R' ks.length (.slice vo ks.length vc) (.slice wo ks.length wcp) xs w2 ∧ R'.bulk ≤ 72120 + j' * 1202 ∧ fl.length = ks.length ∧ w2.ownsRow w.heap.size 4 1 (.slice bo ks.length bc) ks.length (cellsT fl) ∧ (∀ i (h : i < fl.length) (h' : i < ks.length), fl[i] = false → noDrop R'.deeds ks[i])) := by
              intro w2 R2 L2 mv p2 g2 b2
              refine ⟨j + 1, R2, fl, by go_num, by omega, by omega, HS.out.moves L2 mv (p2.trans HS.out.p.symm), by omega, hfl, row_moves HS.out.live.mem mv ⟨by decide, by decide, by decide⟩ HO.out, fun i h h' hf => ?_⟩
              have hn := HNo.out i h h' hf
              rcases g2 with e | ⟨d, hd, e⟩
              · rw [e]
                exact hn
              · rw [e]
                intro x hx hk
                rcases List.mem_append.1 hx with hx | hx
                · exact hn x hx hk
                · simp only [List.mem_singleton] at hx
                  rw [hx]
                  exact hd
            have hfile : lb[j].file = lb[j].file := rfl
            generalize hfd : lb[j].file = fd at e1 k12 k13
            have HFD : Hid (lb[j].file = fd) := hfd
            clear hbyt hwf hbv hwn hfile hfd
            generalize lb[j].b = bb at *
            generalize lb[j].act = ac at *
            generalize lb[j].val = vv at *
            generalize lb[j].n = nn at *
            by_cases h0 : ac = 0
            · subst h0
              go_wp2
              refine wp_region_still_tail 11 (by kernel_rfl) (by kernel_rfl) ?_
              simp only [List.take_succ_cons, List.take_zero, List.drop_succ_cons, List.drop_zero]
              change wpStill _ _ (World.drew _) (fun a' => wpList _ _ _ _ a' (World.drew _)) _ _
              repeat still_step
              refine wpStill_nil ?_
              go_wp2_with (go_at_call 12; with_reducible refine (k12 _ (by repeat (first | with_reducible exact Adds.refl _ | with_reducible refine Adds.alloc ?_ _ | with_reducible refine Adds.more ?_ _ _ | with_reducible refine Adds.drew ?_ | with_reducible refine Adds.drewN ?_ _))).mono ?_; rintro e w5 ⟨n5, rfl, R5, L5, mv5, gr5, p5, b5, g5⟩)
              go_roundw
              case rel => exact HN.out _ R5 L5 ((Moves.adds R3 (by repeat (first | with_reducible exact Adds.refl _ | with_reducible refine Adds.alloc ?_ _ | with_reducible refine Adds.more ?_ _ _ | with_reducible refine Adds.drew ?_ | with_reducible refine Adds.drewN ?_ _))).trans mv5) p5 (gr5.imp id fun ⟨d, _, hd, e⟩ => ⟨d, hd, e⟩) (by omega)
              case measure => simp [intOf]; omega
            · have h0' : (ac == 0) = false := by simpa using h0
              by_cases h1 : ac = 1
              · subst h1
                clear k12 k17 e2 e3
                go_wp2_with (go_at_call 13; with_reducible refine (k13 _ (by repeat (first | with_reducible exact Adds.refl _ | with_reducible refine Adds.alloc ?_ _ | with_reducible refine Adds.more ?_ _ _ | with_reducible refine Adds.drew ?_ | with_reducible refine Adds.drewN ?_ _))).mono ?_; rintro e w5 ⟨n5, rfl, R5, L5, mv5, gr5, p5, b5, g5⟩)
                have HS5 : Hid (S2 w f ks R5 ks.length (.slice vo ks.length vc) (.slice wo ks.length wcp) xs w5) := HS.out.moves L5 ((Moves.adds R3 (by repeat (first | with_reducible exact Adds.refl _ | with_reducible refine Adds.alloc ?_ _ | with_reducible refine Adds.more ?_ _ _ | with_reducible refine Adds.drew ?_ | with_reducible refine Adds.drewN ?_ _))).trans mv5) (p5.trans HS.out.p.symm)
                have HO5 : Hid (w5.ownsRow w.heap.size 4 1 (.slice bo ks.length bc) ks.length (cellsT fl)) := row_moves HS.out.live.mem ((Moves.adds R3 (by repeat (first | with_reducible exact Adds.refl _ | with_reducible refine Adds.alloc ?_ _ | with_reducible refine Adds.more ?_ _ _ | with_reducible refine Adds.drew ?_ | with_reducible refine Adds.drewN ?_ _))).trans mv5) ⟨by decide, by decide, by decide⟩ HO.out
                have HB5 : Hid (R5.bulk ≤ 72120 + (j + 1) * 1202) := (by show _ ≤ _; omega)
                have HG5 : Hid (Grew R3 R5 fd true) := gr5
                clear L5 mv5 gr5 p5 b5 g5 HN k13 HS HO hbk hle
                go_loopw [17] (fun i W => ∃ (m : Nat) (fl' : List Bool), i = .int .i64 (m : Int) ∧ m ≤ ks.length ∧ fl'.length = ks.length ∧ S2 w f ks R5 ks.length (.slice vo ks.length vc) (.slice wo ks.length wcp) xs W ∧ W.ownsRow w.heap.size 4 1 (.slice bo ks.length bc) ks.length (cellsT fl') ∧ (∀ i (h : i < fl'.length) (h1 : i < fl.length) (h2 : i < ks.length), i < m → fl'[i] = (fl[i] || ks[i] == fd)) ∧ (∀ i (h : i < fl'.length) (h1 : i < fl.length), m ≤ i → fl'[i] = fl[i])) (fun i _ => (ks.length - intOf i).toNat)
                case atStart => exact ⟨0, fl, rfl, by omega, hfl, HS5.out, HO5.out, fun i _ _ _ h => by omega, fun i _ _ _ => rfl⟩
                case round => as_aux_lemma =>
                  obtain ⟨m, fl', rfl, hm, hfl', S, o12, hd1, hd2⟩ := hrel
                  have HS : Hid (S2 w f ks R5 ks.length (.slice vo ks.length vc) (.slice wo ks.length wcp) xs wr) := S
                  have HO : Hid (wr.ownsRow w.heap.size 4 1 (.slice bo ks.length bc) ks.length (cellsT fl')) := o12
                  have HD1 : Hid (∀ i (h : i < fl'.length) (h1 : i < fl.length) (h2 : i < ks.length), i < m → fl'[i] = (fl[i] || ks[i] == fd)) := hd1
                  have HD2 : Hid (∀ i (h : i < fl'.length) (h1 : i < fl.length), m ≤ i → fl'[i] = fl[i]) := hd2
                  clear S o12 hd1 hd2 HS5 HO5 e0 e1
                  by_cases hlm : m < ks.length
                  · obtain ⟨g, cap, hv, hcp, hgl, hcell⟩ := HS.out.at hlm
                    simp only [Value.slice.injEq, true_and] at hv
                    obtain ⟨rfl, rfl⟩ := hv
                    have ho := HO.out
                    rw [show ks.length = (cellsT fl').length by rw [cellsT_length]; exact hfl'.symm] at ho
                    obtain ⟨g2, cap2', hv2, hcp2, hgb2, hgl2, hcell2, hfz2⟩ := row_at ho (j := m) (by rw [cellsT_length]; omega)
                    simp only [Value.slice.injEq, true_and] at hv2
                    obtain ⟨rfl, rfl⟩ := hv2
                    have hset := fun x => row_set ho m (by rw [cellsT_length]; omega) x
                    rw [cellsT_length, hfl'] at hcp2 hset
                    obtain ⟨b', off', cap'', hv3, _, hb', _, e1', _, _, _, _, _⟩ := LstA.at (LstA.adds H2.out HS.out.adds) hlt
                    simp only [Value.slice.injEq, Option.some.injEq, Addr.mk.injEq, true_and, and_true] at hv3
                    obtain ⟨⟨rfl, rfl⟩, rfl⟩ := hv3
                    rw [HFD.out] at e1'
                    have hc2 : wr.cell? ⟨g2, m, none⟩ = some (.bool fl'[m]) := by
                      rw [hcell2]
                      simp [cellsT]
                    have hold : fl'[m] = fl[m] := HD2.out m (by omega) (by omega) (Nat.le_refl _)
                    have HSet : Hid (∀ x : Bool, x = (fl[m] || ks[m] == fd) → ∃ (m' : Nat) (fl'' : List Bool), Value.int .i64 ((m : Int) + 1) = .int .i64 (m' : Int) ∧ m' ≤ ks.length ∧ fl''.length = ks.length ∧ S2 w f ks R5 ks.length (.slice (some ⟨g, 0, none⟩) ks.length vc) (.slice wo ks.length wcp) xs (wr.setCell ⟨g2, m, none⟩ (.bool x)).drew ∧ (wr.setCell ⟨g2, m, none⟩ (.bool x)).drew.ownsRow w.heap.size 4 1 (.slice (some ⟨g2, 0, none⟩) ks.length bc) ks.length (cellsT fl'') ∧ (∀ i (h : i < fl''.length) (h1 : i < fl.length) (h2 : i < ks.length), i < m' → fl''[i] = (fl[i] || ks[i] == fd)) ∧ (∀ i (h : i < fl''.length) (h1 : i < fl.length), m' ≤ i → fl''[i] = fl[i])) := by
                      intro x hx
                      have hgr : wr.grownBy (wr.setCell ⟨g2, m, none⟩ (.bool x)) (Value.slice (some ⟨g2, 0, none⟩) ks.length bc).ownBlock := grown_set wr g2 m (.bool x)
                      have ad : Adds (wr.setCell ⟨g2, m, none⟩ (.bool x)) (wr.setCell ⟨g2, m, none⟩ (.bool x)).drew := (Adds.refl _).drew
                      refine ⟨m + 1, fl'.set m x, by go_num, by omega, by simp [hfl'], (HS.out.grown ⟨by decide, by decide, by decide⟩ (by decide) (by decide) HO.out hgr).more ad, ?_, ?_, ?_⟩
                      · have e : cellsT (fl'.set m x) = (cellsT fl').set m (.bool x) := by simp [cellsT, List.map_set]
                        rw [e]
                        exact row_adds (hset (.bool x)) ad
                      · intro i h h1 h2 hi
                        by_cases e : i = m
                        · subst e
                          simp [hx]
                        · rw [List.getElem_set_ne (fun e' => e e'.symm)]
                          exact HD1.out i (by simpa using h) h1 h2 (by omega)
                      · intro i h h1 hi
                        rw [List.getElem_set_ne (by omega)]
                        exact HD2.out i (by simpa using h) h1 (by omega)
                    have hgne : g ≠ g2 := by
                      intro e
                      obtain ⟨C1, hC1⟩ := row_block HS.out.files (i := g) rfl
                      obtain ⟨C2, hC2⟩ := row_block HO.out (i := g2) rfl
                      rw [e, hC2] at hC1
                      simp at hC1
                    have hbg : b ≠ g2 := by omega
                    rw [hold] at hc2
                    have hmf : m < fl.length := by omega
                    clear hset ho hcell2 hold HD1 HD2 HS HO
                    generalize hfm : fl[m] = fm at hc2 HSet
                    generalize hkm : ks[m] = km at hcell HSet
                    clear hfm hkm
                    cases fm
                    · go_wp2
                      go_region
                      all_goals
                        go_wp2
                        go_roundw
                        case rel => exact HSet.out (km == fd) (by simp)
                        case measure => simp [intOf]; omega
                    · go_wp2
                      go_region
                      all_goals
                        go_wp2
                        go_roundw
                        case rel => exact HSet.out true (by simp)
                        case measure => simp [intOf]; omega
                  · have hme : m = ks.length := by omega
                    subst hme
                    have HF : Hid (∃ (j' : Nat) (R' : Rw) (fl : List Bool), Value.int .i64 ((j : Int) + 1) = .int .i64 (j' : Int) ∧ j' ≤ lb.length ∧ j' ≤ 60 ∧ S2 w f ks R' ks.length (.slice vo ks.length vc) (.slice wo ks.length wcp) xs wr ∧ R'.bulk ≤ 72120 + j' * 1202 ∧ fl.length = ks.length ∧ wr.ownsRow w.heap.size 4 1 (.slice bo ks.length bc) ks.length (cellsT fl) ∧ (∀ i (h : i < fl.length) (h' : i < ks.length), fl[i] = false → noDrop R'.deeds ks[i])) := by
                      refine ⟨j + 1, R5, fl', by go_num, by omega, by omega, HS.out, HB5.out, hfl', HO.out, fun i h h' hf => ?_⟩
                      have h1 := HD1.out i h (by omega) h' h'
                      rw [hf] at h1
                      have h2 : fl[i]'(by omega) = false ∧ (ks[i] == fd) = false := Bool.or_eq_false_iff.1 h1.symm
                      have hn := HNo.out i (by omega) h' h2.1
                      rcases HG5.out with e | ⟨d, hdf, _, e⟩
                      · rw [e]
                        exact hn
                      · rw [e]
                        intro x hx hk
                        rcases List.mem_append.1 hx with hx | hx
                        · exact hn x hx hk
                        · simp only [List.mem_singleton] at hx
                          rw [hx, hdf] at hk
                          rw [hk] at h2
                          simp at h2
                    clear HS HO HD1 HD2 HB5 HG5 HNo
                    go_wp2
                    go_roundw
                    case rel => exact HF.out
                    case measure => simp [intOf]; omega
              · have h1' : (ac == 1) = false := by simpa using h1
                by_cases h3 : ac = 3
                · subst h3
                  go_wp2_with (go_at_call 17; with_reducible refine (k17 _ (by repeat (first | with_reducible exact Adds.refl _ | with_reducible refine Adds.alloc ?_ _ | with_reducible refine Adds.more ?_ _ _ | with_reducible refine Adds.drew ?_ | with_reducible refine Adds.drewN ?_ _))).mono ?_; rintro e w5 ⟨rfl, R5, L5, mv5, d5, f5, p5, r5, q5, b5⟩)
                  go_roundw
                  case rel => exact HN.out _ R5 L5 ((Moves.adds R3 (by repeat (first | with_reducible exact Adds.refl _ | with_reducible refine Adds.alloc ?_ _ | with_reducible refine Adds.more ?_ _ _ | with_reducible refine Adds.drew ?_ | with_reducible refine Adds.drewN ?_ _))).trans mv5) p5 (.inl d5) (by omega)
                  case measure => simp [intOf]; omega
                · have h3' : (ac == 3) = false := by simpa using h3
                  go_wp2
                  go_roundw
                  case rel => exact HN.out _ R3 HS.out.live (Moves.refl _ _) HS.out.p (.inl rfl) (by omega)
                  case measure => simp [intOf]; omega
          · have HT : Hid (T3 w f ks xs (.slice vo ks.length vc) (.slice wo ks.length wcp) (.slice bo ks.length bc) wr) := ⟨R3, fl, HS.out, by omega, hfl, HO.out, HNo.out⟩
            clear HS HO HNo
            by_cases hend : j = lb.length
            · subst hend
              go_wp2
              go_meet
              case rel => exact HT.out
            · have : j = 60 := by omega
              subst this
              have hl60 : 60 < lb.length := by omega
              go_wp2
              go_meet
              case rel => exact HT.out
      case rest => as_aux_lemma =>
        obtain ⟨⟨R3, fl, S, hbk, hfl, o12, hno⟩⟩ := hcut
        obtain ⟨W3, hW3⟩ : ∃ x, x = wc := ⟨wc, rfl⟩
        subst hW3
        have h11 : ∀ i, (Value.slice wo ks.length wcp).ownBlock = some i → i < W3.heap.size := fun i hi => (S.was.lt i hi).2
        have hlow := S.low
        have HS3 : Hid (S2 w f ks R3 ks.length (.slice vo ks.length vc) (.slice wo ks.length wcp) xs (W3.alloc (.cells #[] 36))) := S.more ((Adds.refl _).alloc _)
        have HO3 : Hid ((W3.alloc (.cells #[] 36)).ownsRow w.heap.size 4 1 (.slice bo ks.length bc) ks.length (cellsT fl)) := row_adds o12 ((Adds.refl _).alloc _)
        have HB3 : Hid (R3.bulk ≤ 200000) := hbk
        have HN3 : Hid (∀ i (h : i < fl.length) (h' : i < ks.length), fl[i] = false → noDrop R3.deeds ks[i]) := hno
        have H11 : Hid (∀ i, (Value.slice wo ks.length wcp).ownBlock = some i → i < W3.heap.size) := h11
        clear S o12 hno hbk HS2 HO2 HD2 h11
        go_upto_block 9 with fail
        go_cut [18, 19] from 25 (fun v18 _ wc => T5 w f ks R3 xs fl (.slice vo ks.length vc) (.slice wo ks.length wcp) (.slice bo ks.length bc) v18 wc)
        case first => as_aux_lemma =>
          go_wp2
          go_loopw [18, 19] (fun v18 i W => ∃ (j : Nat) (ys : List Value), i = .int .i64 (j : Int) ∧ j ≤ ks.length ∧ S2 w f ks R3 ks.length (.slice vo ks.length vc) (.slice wo ks.length wcp) xs W ∧ W.ownsRow W3.heap.size 36 1 v18 ys.length ys ∧ Eachs W R3 ys ((ks.take j).map (bytes (filesF R3.fs))) ∧ W.ownsRow w.heap.size 4 1 (.slice bo ks.length bc) ks.length (cellsT fl) ∧ W3.heap.size ≤ W.heap.size) (fun _ i _ => (ks.length - intOf i).toNat)
          case atStart => exact ⟨0, [], rfl, by omega, HS3.out, row_empty W3 36, ⟨rfl, fun i hi _ => by simp at hi⟩, HO3.out, by simp⟩
          case round => as_aux_lemma =>
            obtain ⟨j, ys, rfl, hj, S, o18, hE, o12, hlow3⟩ := hrel
            have HS : Hid (S2 w f ks R3 ks.length (.slice vo ks.length vc) (.slice wo ks.length wcp) xs wr) := S
            have HO : Hid (wr.ownsRow w.heap.size 4 1 (.slice bo ks.length bc) ks.length (cellsT fl)) := o12
            have HY : Hid (wr.ownsRow W3.heap.size 36 1 u18 ys.length ys ∧ Eachs wr R3 ys ((ks.take j).map (bytes (filesF R3.fs)))) := ⟨o18, hE⟩
            have hyl : ys.length = j := by
              have := hE.1
              simp at this
              omega
            clear HS3 HO3 S o12 o18 hE
            by_cases hlt : j < ks.length
            · obtain ⟨g, cap, hv, hcp, hgl, hcell⟩ := HS.out.at hlt
              simp only [Value.slice.injEq, true_and] at hv
              obtain ⟨rfl, rfl⟩ := hv
              have kR := read_all HS.out.live ks[j] (wf_key (HS.out.keys _ (List.getElem_mem hlt))) (by have := HB3.out; omega)
              rw [HS.out.p] at kR
              have hj1 : (ks.take (j + 1)).map (bytes (filesF R3.fs)) = (ks.take j).map (bytes (filesF R3.fs)) ++ [bytes (filesF R3.fs) ks[j]] := by
                rw [List.take_succ_eq_append_getElem hlt, List.map_append]
                rfl
              have HJ : Hid _ := hj1
              clear hj1
              generalize ks[j] = kj at kR hcell HJ
              generalize bytes (filesF R3.fs) kj = bj at kR HJ
              go_wp2_with (first
                | (go_at_call 16; refine kR.mono ?_; rintro e w6 ⟨r6, rfl, s6, a6⟩; obtain ⟨ro, rc, hr6, hrc6, _⟩ := id s6; subst hr6; have HS6 : Hid (S2 w f ks R3 ks.length (.slice (some ⟨g, 0, none⟩) ks.length vc) (.slice wo ks.length wcp) xs (w6.alloc (.cells #[.slice ro bj.length rc] 36))) := (HS.out.more a6).more ((Adds.refl _).alloc _); have HF6 : Hid (Safe (w6.alloc (.cells #[.slice ro bj.length rc] 36)) R3 (.slice ro bj.length rc) bj) := s6.adds ((Adds.refl _).alloc _); have HO6 : Hid ((w6.alloc (.cells #[.slice ro bj.length rc] 36)).ownsRow w.heap.size 4 1 (.slice bo ks.length bc) ks.length (cellsT fl)) := row_adds (row_adds HO.out a6) ((Adds.refl _).alloc _); have HY6 : Hid ((w6.alloc (.cells #[.slice ro bj.length rc] 36)).ownsRow W3.heap.size 36 1 u18 ys.length ys ∧ Eachs (w6.alloc (.cells #[.slice ro bj.length rc] 36)) R3 ys ((ks.take j).map (bytes (filesF R3.fs)))) := ⟨row_adds (row_adds HY.out.1 a6) ((Adds.refl _).alloc _), (HY.out.2.imp fun _ _ hs => hs.adds a6).imp fun _ _ hs => hs.adds ((Adds.refl _).alloc _)⟩; have hl6 : W3.heap.size ≤ (w6.alloc (.cells #[.slice ro bj.length rc] 36)).heap.size := (by have := a6.below.size; simp; omega); have HL6 : Hid _ := hl6; clear s6 a6 hl6)
                | (at_builtin; refine sl_app rfl (.tmp 201) (.tmp 203) rfl HY6.out.1 HL6.out rfl (.slice ro bj.length rc) rfl _ _ rfl (by simp) (by omega) ?_; intro v7 w7 o7 g7))
              go_roundw
              case rel =>
                have o36 : Odd 36 := ⟨by decide, by decide, by decide⟩
                refine ⟨j + 1, ys ++ [.slice ro bj.length rc], by go_num, by omega, HS6.out.apart hlow H11.out HY6.out.1 g7, o7, ?_, row_other HO6.out HY6.out.1 (by decide) g7, Nat.le_trans HL6.out g7.size⟩
                rw [HJ.out]
                exact (HY6.out.2.imp fun _ _ hs => hs.grown o36 HY6.out.1 g7).snoc (HF6.out.grown o36 HY6.out.1 g7)
              case measure => simp [intOf]; omega
            · have hje : j = ks.length := by omega
              subst hje
              have HT : Hid (T5 w f ks R3 xs fl (.slice vo ks.length vc) (.slice wo ks.length wcp) (.slice bo ks.length bc) u18 wr) := ⟨ys, HS.out, row_base HY.out.1 hlow, by have := HY.out.2; rw [List.take_length] at this; exact this, HO.out⟩
              clear HS HO HY
              go_wp2
              go_meet
              case rel => exact HT.out
        case rest => as_aux_lemma =>
          obtain ⟨⟨ys, S, o18, hE, o12⟩⟩ := hcut
          obtain ⟨W5, hW5⟩ : ∃ x, x = wc := ⟨wc, rfl⟩
          subst hW5
          have hyl : ys.length = ks.length := by
            have := hE.1
            simpa using this
          obtain ⟨yo, yc, hv⟩ : ∃ yo yc, u18 = .slice yo ks.length yc := by
            obtain ⟨a, b, e⟩ := row_len o18
            exact ⟨a, b, by rw [e, hyl]⟩
          subst hv
          have HYL : Hid (ys.length = ks.length) := hyl
          clear hyl
          obtain ⟨n, hn⟩ : ∃ n : Nat, (n : Int) = min (max keep 0) (R3.count : Int) := ⟨(min (max keep 0) (R3.count : Int)).toNat, by omega⟩
          have kC := live_crash S.live keep n hn (by have := HB3.out; omega)
          rw [S.p] at kC
          have HPu : Hid (∀ (R6 : Rw), filesF R6.fs = keepF f R3.deeds n → ∀ i (h : i < ks.length) (h' : i < fl.length), fl[i] = false → ∃ c e, filesF R6.fs ks[i] = some (bytes f ks[i] ++ c) ∧ bytes (filesF R3.fs) ks[i] = bytes f ks[i] ++ c ++ e) := by
            intro R6 h6 i h h' hf
            obtain ⟨c, e, hc, he⟩ := keep_at (S.has _ (List.getElem_mem h)) (HN3.out i h' h hf) n
            refine ⟨c, e, by rw [h6]; exact hc, ?_⟩
            simp only [bytes, S.live.files]
            rw [he]
            simp only [bytes, Option.getD_some]
          have HK : Hid (∀ k ∈ ks, 0 ≤ k ∧ k ≤ 1048576) := S.keys
          have HS5 : Hid (S2 w f ks R3 ks.length (.slice vo ks.length vc) (.slice wo ks.length wcp) xs W5 ∧ W5.ownsRow w.heap.size 36 1 (.slice yo ks.length yc) ys.length ys ∧ Eachs W5 R3 ys (ks.map (bytes (filesF R3.fs))) ∧ W5.ownsRow w.heap.size 4 1 (.slice bo ks.length bc) ks.length (cellsT fl)) := ⟨S, o18, hE, o12⟩
          clear S o18 hE o12 HN3 H11 HS3 HO3 hn
          go_upto_block 11 with (go_at_call 18; refine kC.mono ?_; rintro e w6 ⟨rfl, R6, L6, mv6, d6, f6, p6, r6, c6, a6, g6, b6⟩; have HS6 : Hid (S6 w R6 (keepF f R3.deeds n) f (filesF R3.fs) ks xs ys fl (.slice vo ks.length vc) (.slice wo ks.length wcp) (.slice bo ks.length bc) (.slice yo ks.length yc) w6) := S6.of HS5.out.1 HS5.out.2.1 HS5.out.2.2.1 HS5.out.2.2.2 L6 mv6 (p6.trans HS5.out.1.p.symm); have HP6 : Hid _ := HPu.out R6 f6; have HC6 : Hid (R6.count = 0 ∧ R6.bulk ≤ 1099511627776) := ⟨c6, (by have := HB3.out; omega)⟩; clear L6 mv6 d6 f6 p6 r6 c6 a6 g6 b6)
          clear HPu HS5 kC HB3
          generalize keepF f R3.deeds n = f6 at *
          generalize hg1 : filesF R3.fs = g1 at HS6 HP6
          clear hg1
          go_wp2
          go_loopw [22] (fun i W => ∃ (j : Nat), i = .int .i64 (j : Int) ∧ j ≤ ks.length ∧ S6 w R6 f6 f g1 ks xs ys fl (.slice vo ks.length vc) (.slice wo ks.length wcp) (.slice bo ks.length bc) (.slice yo ks.length yc) W) (fun i _ => (ks.length - intOf i).toNat)
          case atStart => exact ⟨0, rfl, by omega, HS6.out⟩
          case round => as_aux_lemma =>
            obtain ⟨j, rfl, hj, S⟩ := hrel
            have HS : Hid (S6 w R6 f6 f g1 ks xs ys fl (.slice vo ks.length vc) (.slice wo ks.length wcp) (.slice bo ks.length bc) (.slice yo ks.length yc) wr) := S
            clear S HS6
            by_cases hlt : j < ks.length
            · have ofi := HS.out.files
              rw [← cellsZ_length ks] at ofi
              obtain ⟨g, cap, hv, hcp, _, hgl, hcz, _⟩ := row_at ofi (j := j) (by rw [cellsZ_length]; exact hlt)
              rw [cellsZ_length] at hv hcp
              simp only [Value.slice.injEq, true_and] at hv
              obtain ⟨rfl, rfl⟩ := hv
              have hcell : wr.cell? ⟨g, j, none⟩ = some (.int .i64 ks[j]) := by rw [hcz]; simp [cellsZ]
              clear hcz
              have ob := HS.out.flags
              rw [show ks.length = (cellsT fl).length by rw [cellsT_length]; exact hfl.symm] at ob
              obtain ⟨g2, cap2', hv2, hcp2, _, hgl2, hcz2, _⟩ := row_at ob (j := j) (by rw [cellsT_length]; omega)
              rw [cellsT_length, hfl] at hv2 hcp2
              simp only [Value.slice.injEq, true_and] at hv2
              obtain ⟨rfl, rfl⟩ := hv2
              have hcell2 : wr.cell? ⟨g2, j, none⟩ = some (.bool (fl[j]'(by omega))) := by rw [hcz2]; simp [cellsT]
              clear hcz2
              have ow := HS.out.was
              obtain ⟨g3, cap3, hv3, hcp3, _, hgl3, hcell3, _⟩ := row_at ow (j := j) (by have := HXL.out; omega)
              rw [HXL.out] at hv3 hcp3
              simp only [Value.slice.injEq, true_and] at hv3
              obtain ⟨rfl, rfl⟩ := hv3
              have oy := HS.out.after
              obtain ⟨g4, cap4, hv4, hcp4, _, hgl4, hcell4, _⟩ := row_at oy (j := j) (by have := HYL.out; omega)
              rw [HYL.out] at hv4 hcp4
              simp only [Value.slice.injEq, true_and] at hv4
              obtain ⟨rfl, rfl⟩ := hv4
              have sx := HS.out.each.2 j (by have := HXL.out; omega) (by simp; omega)
              have sy := HS.out.eacha.2 j (by have := HYL.out; omega) (by simp; omega)
              simp only [List.getElem_map] at sx sy
              have kR := read_all HS.out.live ks[j] (wf_key (HK.out _ (List.getElem_mem hlt))) HC6.out.2
              rw [HS.out.p] at kR
              have hp6 := HP6.out j hlt (by omega)
              obtain ⟨xo, xc, hx1, hx2, _⟩ := id sx
              obtain ⟨zo, zc, hz1, hz2, _⟩ := id sy
              rw [hx1] at hcell3
              rw [hz1] at hcell4 sy
              have HY : Hid (Safe wr R6 (.slice zo (bytes g1 ks[j]).length zc) (bytes g1 ks[j])) := sy
              clear ofi ob ow oy sx sy hx1 hz1
              generalize ks[j] = kj at *
              have hbf : j < fl.length := by omega
              generalize hfj : fl[j] = fj at hcell2 hp6
              clear hfj hbf
              cases fj
              · obtain ⟨c, e, hq1, hq2⟩ := hp6 rfl
                have hb1 : bytes (filesF R6.fs) kj = bytes f kj ++ c := by simp [bytes, hq1]
                rw [hq1, hb1] at kR
                simp only [Option.isSome_some] at kR
                rw [hq2] at hcell4 hz2 HY
                clear hp6 hq1 hq2 hb1
                generalize bytes f kj = b0 at *
                obtain ⟨N, hN⟩ : ∃ N, N = (b0 ++ c).length := ⟨_, rfl⟩
                obtain ⟨M, hM⟩ : ∃ M, M = (b0 ++ c ++ e).length := ⟨_, rfl⟩
                obtain ⟨L0, hL0⟩ : ∃ L0, L0 = b0.length := ⟨_, rfl⟩
                have hNM : N ≤ M := by rw [hN, hM]; simp
                have hLN : L0 ≤ N := by rw [hN, hL0]; simp
                have htk : (b0 ++ c ++ e).take N = b0 ++ c := by rw [hN]; exact List.take_left
                rw [← hM] at hcell4 hz2 HY
                rw [← hL0] at hcell3 hx2
                have HT : Hid ((b0 ++ c ++ e).take N = b0 ++ c ∧ N ≤ (b0 ++ c ++ e).length ∧ N = (b0 ++ c).length) := ⟨htk, by omega, hN⟩
                clear htk hM hL0 hN
                go_wp2_with (go_at_call 16; refine kR.mono ?_; rintro ee w7 ⟨r7, rfl, s7, a7⟩; obtain ⟨ro, rc, hr7, hrc7, _⟩ := id s7; rw [← HT.out.2.2] at hr7 hrc7; subst hr7; have HS7 : Hid _ := HS.out.more a7; have t3 : w7.cell? ⟨g3, j, none⟩ = some (.slice xo L0 xc) := (World.cell?_of_block (a7.below.block g3 hgl3)).trans hcell3; have t4 : w7.cell? ⟨g4, j, none⟩ = some (.slice zo M zc) := (World.cell?_of_block (a7.below.block g4 hgl4)).trans hcell4; have t2 : w7.cell? ⟨g2, j, none⟩ = some (.bool false) := (World.cell?_of_block (a7.below.block g2 hgl2)).trans hcell2; have cv1 : ∀ k, (convert 36 9 (.slice ro N rc)).run Try.prog (w7.drewN k) = .ok (.string ⟨(b0 ++ c).toArray⟩) (w7.drewN k) := (fun k => (s7.byt.adds ((Adds.refl _).drewN k)).str); have cv2 : ∀ k, (convert 36 9 (.slice zo N zc)).run Try.prog (w7.drewN k) = .ok (.string ⟨(b0 ++ c).toArray⟩) (w7.drewN k) := (fun k => by have := (((HY.out.adds a7).byt.first HT.out.2.1).adds ((Adds.refl _).drewN k)).str; rw [HT.out.1] at this; exact this); clear s7 a7)
                have q1 : decide ((N : Int) < (L0 : Int)) = false := by simp; omega
                have q2 : decide ((M : Int) < (N : Int)) = false := by simp; omega
                have q3 : (j : Int) < (ks.length : Int) := by omega
                have q4 : (N : Int) ≤ (zc : Int) := by omega
                clear HT
                go_quiet (fail)
                go_wp2
                go_roundw
                case rel => exact ⟨j + 1, by go_num, by omega, HS7.out.more ((Adds.refl _).drewN _)⟩
                case measure => simp [intOf]; omega
              · clear hp6
                go_wp2_with (go_at_call 16; refine kR.mono ?_; rintro ee w7 ⟨r7, rfl, s7, a7⟩; have HS7 : Hid _ := HS.out.more a7; have t2 : w7.cell? ⟨g2, j, none⟩ = some (.bool true) := (World.cell?_of_block (a7.below.block g2 hgl2)).trans hcell2; clear s7 a7)
                go_roundw
                case rel => exact ⟨j + 1, by go_num, by omega, HS7.out⟩
                case measure => simp [intOf]; omega
            · have hje : j = ks.length := by omega
              subst hje
              have kP := pending_any HS.out.live.mem
              rw [HS.out.p, HC6.out.1] at kP
              rw [show ((0 : Nat) : Int) = 0 from rfl] at kP
              have HA6 : Hid (Adds w wr) := HS.out.adds
              clear HS
              go_wp2_with (first
                | (go_at_call 19; refine kP.mono ?_; rintro ee w7 ⟨rfl, hw7⟩; subst hw7)
                | (go_at_call 7; refine (awake_any _).mono ?_; rintro ee w8 ⟨rfl, a8⟩))
              go_ret
              exact ⟨rfl, Adds.trans HA6.out a8⟩

end Go.Proofs.Ytinfoblgojnjfaa
