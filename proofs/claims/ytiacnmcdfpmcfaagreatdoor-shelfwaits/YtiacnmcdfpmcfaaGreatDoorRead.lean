/-
  The function read, by a contract.
-/
import Derived.Test.YtiacnmcdfpmcfaaGreatDoorQ20
namespace Go.Proofs.YtiacnmcdfpmcfaaGreatDoor
open Go.RowKit
attribute [local go_sem] cell?_more frozen?_more setCell_more size_more tape_more drew_more drewN_more more_drew more_drewN one_out plus_out plus_end lt_one le_p2 le_p3 le_p4 le_p5 le_p6 le_p7 le_p8 le_p9 le_p10 le_p11 le_p12 le_p13 le_p14 le_p15 le_p16 le_p17 le_p18 le_p19 le_p20 le_p21 le_p22 le_p23 le_p24 le_q0 le_q1 lt_q1 le_q2 lt_q2 le_q3 lt_q3 le_q4 lt_q4 le_q5 lt_q5 le_q6 lt_q6 le_q7 lt_q7 le_q8 lt_q8 le_q9 lt_q9 le_q10 lt_q10 le_q11 lt_q11 le_q12 lt_q12 le_q13 lt_q13 le_q14 lt_q14 le_q15 lt_q15 le_q16 lt_q16 le_q17 lt_q17 le_q18 lt_q18 le_q19 lt_q19 le_q20 lt_q20 le_q21 lt_q21 le_q22 lt_q22 le_q23 lt_q23 le_q24 lt_q24

structure Us where
  u5 : Value
  u6 : Value
  u8 : Value
  u9 : Value
  u10 : Value
  u11 : Value
  u12 : Value
  u13 : Value
  u14 : Value
  u15 : Value
  u16 : Value
  u17 : Value
  u18 : Value
  u19 : Value
  u20 : Value
  u21 : Value
  u22 : Value
  u23 : Value
  u24 : Value
  u25 : Value
  u26 : Value
  u27 : Value
  u28 : Value
  u29 : Value
  u30 : Value
  u31 : Value
  u32 : Value
  u33 : Value
  u34 : Value
  u35 : Value
  u36 : Value
  u37 : Value
  u38 : Value
  u39 : Value
  u40 : Value
  u41 : Value
  u42 : Value
  u43 : Value
  u44 : Value
  u45 : Value
  u46 : Value
  u47 : Value
  u48 : Value
  u49 : Value
  u50 : Value
  u51 : Value
  u52 : Value
  u53 : Value
  u54 : Value
  u55 : Value
  u56 : Value
  u57 : Value
  u58 : Value
  u59 : Value
  u60 : Value
  u61 : Value
  u62 : Value
  u63 : Value
  u64 : Value
  u65 : Value
  u66 : Value
  u67 : Value
  u68 : Value
  u69 : Value
  u70 : Value

/-- The frame's slots. -/
@[reducible] def Us.act (u : Us) (s0 : ByteArray) (R : Nat) : Act := { tmps := #[.string s0, undef, .pointer (some ⟨R, 0, none⟩), .bool false, .pointer (some ⟨R + 1, 0, none⟩), u.u5, u.u6, .pointer (some ⟨R + 3, 0, none⟩), u.u8, u.u9, u.u10, u.u11, u.u12, u.u13, u.u14, u.u15, u.u16, u.u17, u.u18, u.u19, u.u20, u.u21, u.u22, u.u23, u.u24, u.u25, u.u26, u.u27, u.u28, u.u29, u.u30, u.u31, u.u32, u.u33, u.u34, u.u35, u.u36, u.u37, u.u38, u.u39, u.u40, u.u41, u.u42, u.u43, u.u44, u.u45, u.u46, u.u47, u.u48, u.u49, u.u50, u.u51, u.u52, u.u53, u.u54, u.u55, u.u56, u.u57, u.u58, u.u59, u.u60, u.u61, u.u62, u.u63, u.u64, u.u65, u.u66, u.u67, u.u68, u.u69, u.u70], defers := [] }

def IsAct (a : Act) (s0 : ByteArray) (R : Nat) : Prop := ∃ u : Us, a = u.act s0 R

theorem isAct {s0 : ByteArray} {R : Nat} {v5 v6 v8 v9 v10 v11 v12 v13 v14 v15 v16 v17 v18 v19 v20 v21 v22 v23 v24 v25 v26 v27 v28 v29 v30 v31 v32 v33 v34 v35 v36 v37 v38 v39 v40 v41 v42 v43 v44 v45 v46 v47 v48 v49 v50 v51 v52 v53 v54 v55 v56 v57 v58 v59 v60 v61 v62 v63 v64 v65 v66 v67 v68 v69 v70 : Value} : IsAct { tmps := #[.string s0, undef, .pointer (some ⟨R, 0, none⟩), .bool false, .pointer (some ⟨R + 1, 0, none⟩), v5, v6, .pointer (some ⟨R + 3, 0, none⟩), v8, v9, v10, v11, v12, v13, v14, v15, v16, v17, v18, v19, v20, v21, v22, v23, v24, v25, v26, v27, v28, v29, v30, v31, v32, v33, v34, v35, v36, v37, v38, v39, v40, v41, v42, v43, v44, v45, v46, v47, v48, v49, v50, v51, v52, v53, v54, v55, v56, v57, v58, v59, v60, v61, v62, v63, v64, v65, v66, v67, v68, v69, v70], defers := [] } s0 R := ⟨⟨v5, v6, v8, v9, v10, v11, v12, v13, v14, v15, v16, v17, v18, v19, v20, v21, v22, v23, v24, v25, v26, v27, v28, v29, v30, v31, v32, v33, v34, v35, v36, v37, v38, v39, v40, v41, v42, v43, v44, v45, v46, v47, v48, v49, v50, v51, v52, v53, v54, v55, v56, v57, v58, v59, v60, v61, v62, v63, v64, v65, v66, v67, v68, v69, v70⟩, rfl⟩

set_option maxHeartbeats 8000000 in
set_option maxRecDepth 20000 in
theorem read_any (s0 : ByteArray) (hs : s0.size ≤ 256) (w : World) :
    Calls Tryz.prog 65 #[.string s0] w fun e W' => ReadTold s0.toList w e W' := by
  obtain ⟨Rs, hRs⟩ : ∃ Rs, M s0.toList [] Fr.none none = Rs := ⟨_, rfl⟩
  unfold ReadTold
  rw [hRs]
  have HRs : Hid (M s0.toList [] Fr.none none = Rs) := hRs
  clear hRs
  go_enter Tryz.func65, Tryz.ntmps65
  go_wp2
  refine wp_scope_two (fun a' W => ∃ (l : List UInt8) (st : List Fr) (f : Fr) (g cap d : Nat) (ms : List Fm) (m : Fm), IsAct a' s0 w.heap.size ∧ Sg w.heap.size w W l st f g cap d ms m ∧ NBox w.heap.size W ∧ Hid (M l st f none = Rs))
    (fun a' W => ∃ (l : List UInt8) (st : List Fr) (f : Fr) (g cap d : Nat) (ms : List Fm) (m : Fm) (e : E) (sn : Value), IsAct a' s0 w.heap.size ∧ Sg w.heap.size w W l st f g cap d ms m ∧ NB w.heap.size W e.toN sn ∧ Tn (okS w.heap.size g) d W sn e.toN.args ∧ e.ok ∧ Hid (M l st f (some e) = Rs))
    (fun _ W => left w.heap.size W) rfl rfl ?_ ?_ ?_
  · -- behind
    rintro a' W ⟨l, st, f, g, cap, d, ms, m, e, sn, ⟨u, rfl⟩, hS, hN, hT, hE, hR⟩
    have hmu := hS.left
    rw [hmu]
    clear hmu
    have hlen := hS.len
    have k1 := mult_any hS e hE sn hT
    obtain ⟨⟨n0, n1, n2, n3⟩, nf, hRl⟩ := hN.cells
    obtain ⟨an, nc, hsn⟩ := hT.shape
    rw [hsn] at n3 k1
    have HNB : Hid (NB w.heap.size W e.toN sn) := hN
    have hg1 : g ≠ w.heap.size + 1 := hS.g1
    have hg3 : g ≠ w.heap.size + 3 := fun e => hS.rdr.far (by simp [Value.ownBlock, e])
    have HO : Hid ((mulE f.mul e).ok ∧ (addE f.sum (mulE f.mul e)).ok) := ⟨mulE_ok hS.top.2.2.2.2.2.2.2.2 hE, addE_ok hS.top.2.2.2.2.2.2.2.1 (mulE_ok hS.top.2.2.2.2.2.2.2.2 hE)⟩
    have HST : Hid ((st = [] → ms.length = 0) ∧ (st ≠ [] → 0 < ms.length)) := by
      have hr := hS.rest
      constructor
      · rintro rfl
        rw [show ms = [] from hr]
        rfl
      · intro hne
        cases st with
        | nil => exact absurd rfl hne
        | cons _ _ =>
          obtain ⟨ms', m', e, _⟩ := hr
          rw [e]
          simp
    have HNM : Hid (f.name = [] ∨ isName f.name = true) := hS.names f (by simp)
    have hcap : ms.length + 1 ≤ cap := by
      obtain ⟨g2, c2, hv, hc, _⟩ := hS.rdr.top
      simp only [Value.slice.injEq, Option.some.injEq, Addr.mk.injEq] at hv
      omega
    clear hsn hT hN hS nf
    simp only [nodeV] at k1

    cases l with
    | cons c r =>
      simp only [List.length_cons] at hlen
      by_cases h42 : c = 42
      · subst h42
        have hw : IntKind.i64.wrap (ms.length : Int) = (ms.length : Int) := by rw [IntKind.wrap_i64]; omega
        go_wp2_with (first
          | (go_at_call 92; refine k1.mono ?_; rintro x1 W1 ⟨sr, m1, rfl, hS1, hT1, hm1⟩; obtain ⟨⟨an0, an1, an2, an3⟩, anf, ahl⟩ := NB.cells (NB.mv HNB.out hm1 (fun e => hg1 e.symm)); have anf0 := anf 0; have anf1 := anf 1; have anf2 := anf 2; have anf3 := anf 3; clear anf; obtain ⟨aq0, aq1, aqf, aqr, ahq⟩ := Sg.facts (hS1); have aqf0 := aqf 0; have aqr0 := aqr 0; have aqr1 := aqr 1; have aqr2 := aqr 2; have aqr3 := aqr 3; clear aqf aqr; obtain ⟨ar0, ar1, ar2, ar3⟩ := Sg.resc (hS1); obtain ⟨ag2, ac2, ahv, ahcc, ahgl, ahgB, ahgM, agf, at0, ⟨as0, as1, as2, as3⟩, am0, am1, am2, am3⟩ := Rdr.top (Sg.rdr (hS1)); simp only [Value.slice.injEq, Option.some.injEq, Addr.mk.injEq] at ahv; obtain ⟨⟨rfl, _⟩, _, rfl⟩ := ahv; clear ahgM ahcc ahgB; obtain ⟨ar, rc, hsr⟩ := hT1.shape; have HN1 : Hid _ := NB.mv HNB.out hm1 (fun e => hg1 e.symm); have HS1 : Hid (Sg _ _ _ _ _ _ _ _ _ _ _) := hS1; have HT1 : Hid (Tn _ _ _ _ _) := hT1; clear hS1 hT1 hm1 n0 n1 n2 n3 hRl k1 HNB; subst hsr)
          | (go_at_call_of 90 (Value.int IntKind.u8 42); refine (take_yes (c := 42) (r := r) (Sg.rdr (HS1.out.mv (setN_mv W1 (w.heap.size + 1) (mulE f.mul e).toN (.slice ar (mulE f.mul e).toN.args.length rc)))) (by simp [toB_size]; omega) (toB_toList _)).mono ?_; rintro xy Wy ⟨rfl, hwy⟩; subst hwy; (try unfold setN)))
        go_region_with (go_at_call 93; refine (top_any (Sg.rdr (Sg.adds (Sg.text (HS1.out.mv (setN_mv W1 (w.heap.size + 1) (mulE f.mul e).toN (.slice ar (mulE f.mul e).toN.args.length rc))) r (by simp)) (by repeat (first | with_reducible exact Adds.refl _ | with_reducible refine Adds.alloc ?_ _ | with_reducible refine Adds.more ?_ _ _ | with_reducible refine Adds.drew ?_ | with_reducible refine Adds.drewN ?_ _)))) (by omega)).mono ?_; rintro x4 W4 ⟨rfl, q4, rfl⟩)
        all_goals
          go_wp2
          go_step3
          obtain ⟨mz, z1, z2, z3⟩ := star_end HS1.out HN1.out HT1.out HO.out.1 #[] _
          exact .inl ⟨rfl, ⟨r, st, _, g, cap, _, ms, mz, isAct, z1, z2, (by have := hR.out; rw [M_star] at this; exact this)⟩, Nat.lt_of_le_of_lt (Nat.le_of_eq z3) (by simp)⟩
      by_cases h43 : c = 43
      · subst h43
        go_wp2_with (first
          | (go_at_call 92; refine k1.mono ?_; rintro x1 W1 ⟨sr, m1, rfl, hS1, hT1, hm1⟩; obtain ⟨⟨an0, an1, an2, an3⟩, anf, ahl⟩ := NB.cells (NB.mv HNB.out hm1 (fun e => hg1 e.symm)); have anf0 := anf 0; have anf1 := anf 1; have anf2 := anf 2; have anf3 := anf 3; clear anf; obtain ⟨aq0, aq1, aqf, aqr, ahq⟩ := Sg.facts (hS1); have aqf0 := aqf 0; have aqr0 := aqr 0; have aqr1 := aqr 1; have aqr2 := aqr 2; have aqr3 := aqr 3; clear aqf aqr; obtain ⟨ar0, ar1, ar2, ar3⟩ := Sg.resc (hS1); obtain ⟨ag2, ac2, ahv, ahcc, ahgl, ahgB, ahgM, agf, at0, ⟨as0, as1, as2, as3⟩, am0, am1, am2, am3⟩ := Rdr.top (Sg.rdr (hS1)); simp only [Value.slice.injEq, Option.some.injEq, Addr.mk.injEq] at ahv; obtain ⟨⟨rfl, _⟩, _, rfl⟩ := ahv; clear ahgM ahcc ahgB; obtain ⟨ar, rc, hsr⟩ := hT1.shape; have HN1 : Hid _ := NB.mv HNB.out hm1 (fun e => hg1 e.symm); have HS1 : Hid (Sg _ _ _ _ _ _ _ _ _ _ _) := hS1; have HT1 : Hid (Tn _ _ _ _ _) := hT1; clear hS1 hT1 hm1 n0 n1 n2 n3 hRl k1 HNB; subst hsr)
          | (go_at_call_of 90 (Value.int IntKind.u8 42); refine (take_no (c := 42) (Sg.rdr (HS1.out.mv (setN_mv W1 (w.heap.size + 1) (mulE f.mul e).toN (.slice ar (mulE f.mul e).toN.args.length rc)))) (fun r' h => by rw [toB_toList] at h; simp at h)).mono ?_; rintro xn Wn ⟨rfl, hwn⟩; subst hwn; (try unfold setN))
          | (go_at_call 94; refine (plus_any (HS1.out.mv (setN_mv W1 (w.heap.size + 1) (mulE f.mul e).toN (.slice ar (mulE f.mul e).toN.args.length rc))) (mulE f.mul e) HO.out.1 _ (HT1.out.mv (setN_mv W1 (w.heap.size + 1) (mulE f.mul e).toN (.slice ar (mulE f.mul e).toN.args.length rc)) (fun b _ hb => hb.2.1))).mono ?_; rintro x3 W3 ⟨sr3, rfl, hS3, hT3, hA3⟩; obtain ⟨⟨bn0, bn1, bn2, bn3⟩, bnf, bhl⟩ := NB.cells (NB.adds (NBox.set (NB.box HN1.out) (mulE f.mul e).toN (.slice ar (mulE f.mul e).toN.args.length rc)) hA3); have bnf0 := bnf 0; have bnf1 := bnf 1; have bnf2 := bnf 2; have bnf3 := bnf 3; clear bnf; obtain ⟨bq0, bq1, bqf, bqr, bhq⟩ := Sg.facts (hS3); have bqf0 := bqf 0; have bqr0 := bqr 0; have bqr1 := bqr 1; have bqr2 := bqr 2; have bqr3 := bqr 3; clear bqf bqr; obtain ⟨br0, br1, br2, br3⟩ := Sg.resc (hS3); obtain ⟨bg2, bc2, bhv, bhcc, bhgl, bhgB, bhgM, bgf, bt0, ⟨bs0, bs1, bs2, bs3⟩, bm0, bm1, bm2, bm3⟩ := Rdr.top (Sg.rdr (hS3)); simp only [Value.slice.injEq, Option.some.injEq, Addr.mk.injEq] at bhv; obtain ⟨⟨rfl, _⟩, _, rfl⟩ := bhv; clear bhgM bhcc bhgB; obtain ⟨ar3, rc3, hsr3⟩ := hT3.shape; have HN3 : Hid _ := NB.adds (NBox.set (NB.box HN1.out) (mulE f.mul e).toN (.slice ar (mulE f.mul e).toN.args.length rc)) hA3; have HS3 : Hid (Sg _ _ _ _ _ _ _ _ _ _ _) := hS3; have HT3 : Hid (Tn _ _ _ _ _) := hT3; clear hS3 hT3 hA3; subst hsr3)
          | (go_at_call_of 90 (Value.int IntKind.u8 43); refine (take_yes (c := 43) (r := r) (Sg.rdr (HS3.out.mv (setN_mv W3 (w.heap.size + 1) (addE f.sum (mulE f.mul e)).toN (.slice ar3 (addE f.sum (mulE f.mul e)).toN.args.length rc3)))) (by simp [toB_size]; omega) (toB_toList _)).mono ?_; rintro xy Wy ⟨rfl, hwy⟩; subst hwy; (try unfold setN)))
        go_region_with (go_at_call 93; refine (top_any (Sg.rdr (Sg.adds (Sg.text (HS3.out.mv (setN_mv W3 (w.heap.size + 1) (addE f.sum (mulE f.mul e)).toN (.slice ar3 (addE f.sum (mulE f.mul e)).toN.args.length rc3))) r (by simp)) (by repeat (first | with_reducible exact Adds.refl _ | with_reducible refine Adds.alloc ?_ _ | with_reducible refine Adds.more ?_ _ _ | with_reducible refine Adds.drew ?_ | with_reducible refine Adds.drewN ?_ _)))) (by omega)).mono ?_; rintro x4 W4 ⟨rfl, q4, rfl⟩)
        all_goals
          go_wp2
          go_step3
          obtain ⟨mz, z1, z2, z3⟩ := plus_end' HS3.out HN3.out HT3.out HO.out.2 #[] _
          exact .inl ⟨rfl, ⟨r, st, _, g, cap, _, ms, mz, isAct, z1, z2, (by have := hR.out; rw [M_plus] at this; exact this)⟩, Nat.lt_of_le_of_lt (Nat.le_of_eq z3) (by simp)⟩
      by_cases h41 : c = 41
      · subst h41
        rcases st with _ | ⟨f2, st⟩
        · have hms : ms = [] := List.length_eq_zero_iff.1 (HST.out.1 rfl)
          subst hms
          simp only [List.length_nil, Nat.zero_add] at hlen hcap
          clear HST
          have hne : (!(toB (41 :: r)).toList.isEmpty) = true := by simp [toB_toList]
          go_wp2_with (first
            | (go_at_call 92; refine k1.mono ?_; rintro x1 W1 ⟨sr, m1, rfl, hS1, hT1, hm1⟩; obtain ⟨⟨an0, an1, an2, an3⟩, anf, ahl⟩ := NB.cells (NB.mv HNB.out hm1 (fun e => hg1 e.symm)); have anf0 := anf 0; have anf1 := anf 1; have anf2 := anf 2; have anf3 := anf 3; clear anf; obtain ⟨aq0, aq1, aqf, aqr, ahq⟩ := Sg.facts (hS1); have aqf0 := aqf 0; have aqr0 := aqr 0; have aqr1 := aqr 1; have aqr2 := aqr 2; have aqr3 := aqr 3; clear aqf aqr; obtain ⟨ar0, ar1, ar2, ar3⟩ := Sg.resc (hS1); obtain ⟨ag2, ac2, ahv, ahcc, ahgl, ahgB, ahgM, agf, at0, ⟨as0, as1, as2, as3⟩, am0, am1, am2, am3⟩ := Rdr.top (Sg.rdr (hS1)); simp only [Value.slice.injEq, Option.some.injEq, Addr.mk.injEq] at ahv; obtain ⟨⟨rfl, _⟩, _, rfl⟩ := ahv; clear ahgM ahcc ahgB; obtain ⟨ar, rc, hsr⟩ := hT1.shape; have HN1 : Hid _ := NB.mv HNB.out hm1 (fun e => hg1 e.symm); have HS1 : Hid (Sg _ _ _ _ _ _ _ _ _ _ _) := hS1; have HT1 : Hid (Tn _ _ _ _ _) := hT1; clear hS1 hT1 hm1 n0 n1 n2 n3 hRl k1 HNB; subst hsr)
            | (go_at_call_of 90 (Value.int IntKind.u8 42); refine (take_no (c := 42) (Sg.rdr (HS1.out.mv (setN_mv W1 (w.heap.size + 1) (mulE f.mul e).toN (.slice ar (mulE f.mul e).toN.args.length rc)))) (fun r' h => by rw [toB_toList] at h; simp at h)).mono ?_; rintro xn Wn ⟨rfl, hwn⟩; subst hwn; (try unfold setN))
            | (go_at_call 94; refine (plus_any (HS1.out.mv (setN_mv W1 (w.heap.size + 1) (mulE f.mul e).toN (.slice ar (mulE f.mul e).toN.args.length rc))) (mulE f.mul e) HO.out.1 _ (HT1.out.mv (setN_mv W1 (w.heap.size + 1) (mulE f.mul e).toN (.slice ar (mulE f.mul e).toN.args.length rc)) (fun b _ hb => hb.2.1))).mono ?_; rintro x3 W3 ⟨sr3, rfl, hS3, hT3, hA3⟩; obtain ⟨⟨bn0, bn1, bn2, bn3⟩, bnf, bhl⟩ := NB.cells (NB.adds (NBox.set (NB.box HN1.out) (mulE f.mul e).toN (.slice ar (mulE f.mul e).toN.args.length rc)) hA3); have bnf0 := bnf 0; have bnf1 := bnf 1; have bnf2 := bnf 2; have bnf3 := bnf 3; clear bnf; obtain ⟨bq0, bq1, bqf, bqr, bhq⟩ := Sg.facts (hS3); have bqf0 := bqf 0; have bqr0 := bqr 0; have bqr1 := bqr 1; have bqr2 := bqr 2; have bqr3 := bqr 3; clear bqf bqr; obtain ⟨br0, br1, br2, br3⟩ := Sg.resc (hS3); obtain ⟨bg2, bc2, bhv, bhcc, bhgl, bhgB, bhgM, bgf, bt0, ⟨bs0, bs1, bs2, bs3⟩, bm0, bm1, bm2, bm3⟩ := Rdr.top (Sg.rdr (hS3)); simp only [Value.slice.injEq, Option.some.injEq, Addr.mk.injEq] at bhv; obtain ⟨⟨rfl, _⟩, _, rfl⟩ := bhv; clear bhgM bhcc bhgB; obtain ⟨ar3, rc3, hsr3⟩ := hT3.shape; have HN3 : Hid _ := NB.adds (NBox.set (NB.box HN1.out) (mulE f.mul e).toN (.slice ar (mulE f.mul e).toN.args.length rc)) hA3; have HS3 : Hid (Sg _ _ _ _ _ _ _ _ _ _ _) := hS3; have HT3 : Hid (Tn _ _ _ _ _) := hT3; clear hS3 hT3 hA3; subst hsr3)
            | (go_at_call_of 90 (Value.int IntKind.u8 43); refine (take_no (c := 43) (Sg.rdr (HS3.out.mv (setN_mv W3 (w.heap.size + 1) (addE f.sum (mulE f.mul e)).toN (.slice ar3 (addE f.sum (mulE f.mul e)).toN.args.length rc3)))) (fun r' h => by rw [toB_toList] at h; simp at h)).mono ?_; rintro xn Wn ⟨rfl, hwn⟩; subst hwn; (try unfold setN)))

          have HZ := ret_end (HS3.out.mv (setN_mv W3 (w.heap.size + 1) (addE f.sum (mulE f.mul e)).toN (.slice ar3 (addE f.sum (mulE f.mul e)).toN.args.length rc3))) N.zero nilV (fun _ => True) (Tn.nil _ 0 _) (fun _ _ => trivial)
          simp only [jump2]
          exact bodyPost_ret (ret13 rfl rfl HZ.2.2) rfl (.inr ⟨by rw [← hR.out]; exact M_close0 _ _ _, rfl, HZ.2.1⟩)
        · have hms : 0 < ms.length := HST.out.2 (by simp)
          have hpos : (1 : Int) < (ms.length : Int) + 1 := by omega
          go_wp2_with (first
            | (go_at_call 92; refine k1.mono ?_; rintro x1 W1 ⟨sr, m1, rfl, hS1, hT1, hm1⟩; obtain ⟨⟨an0, an1, an2, an3⟩, anf, ahl⟩ := NB.cells (NB.mv HNB.out hm1 (fun e => hg1 e.symm)); have anf0 := anf 0; have anf1 := anf 1; have anf2 := anf 2; have anf3 := anf 3; clear anf; obtain ⟨aq0, aq1, aqf, aqr, ahq⟩ := Sg.facts (hS1); have aqf0 := aqf 0; have aqr0 := aqr 0; have aqr1 := aqr 1; have aqr2 := aqr 2; have aqr3 := aqr 3; clear aqf aqr; obtain ⟨ar0, ar1, ar2, ar3⟩ := Sg.resc (hS1); obtain ⟨ag2, ac2, ahv, ahcc, ahgl, ahgB, ahgM, agf, at0, ⟨as0, as1, as2, as3⟩, am0, am1, am2, am3⟩ := Rdr.top (Sg.rdr (hS1)); simp only [Value.slice.injEq, Option.some.injEq, Addr.mk.injEq] at ahv; obtain ⟨⟨rfl, _⟩, _, rfl⟩ := ahv; clear ahgM ahcc ahgB; obtain ⟨ar, rc, hsr⟩ := hT1.shape; have HN1 : Hid _ := NB.mv HNB.out hm1 (fun e => hg1 e.symm); have HS1 : Hid (Sg _ _ _ _ _ _ _ _ _ _ _) := hS1; have HT1 : Hid (Tn _ _ _ _ _) := hT1; clear hS1 hT1 hm1 n0 n1 n2 n3 hRl k1 HNB; subst hsr)
            | (go_at_call_of 90 (Value.int IntKind.u8 42); refine (take_no (c := 42) (Sg.rdr (HS1.out.mv (setN_mv W1 (w.heap.size + 1) (mulE f.mul e).toN (.slice ar (mulE f.mul e).toN.args.length rc)))) (fun r' h => by rw [toB_toList] at h; simp at h)).mono ?_; rintro xn Wn ⟨rfl, hwn⟩; subst hwn; (try unfold setN))
            | (go_at_call 94; refine (plus_any (HS1.out.mv (setN_mv W1 (w.heap.size + 1) (mulE f.mul e).toN (.slice ar (mulE f.mul e).toN.args.length rc))) (mulE f.mul e) HO.out.1 _ (HT1.out.mv (setN_mv W1 (w.heap.size + 1) (mulE f.mul e).toN (.slice ar (mulE f.mul e).toN.args.length rc)) (fun b _ hb => hb.2.1))).mono ?_; rintro x3 W3 ⟨sr3, rfl, hS3, hT3, hA3⟩; obtain ⟨⟨bn0, bn1, bn2, bn3⟩, bnf, bhl⟩ := NB.cells (NB.adds (NBox.set (NB.box HN1.out) (mulE f.mul e).toN (.slice ar (mulE f.mul e).toN.args.length rc)) hA3); have bnf0 := bnf 0; have bnf1 := bnf 1; have bnf2 := bnf 2; have bnf3 := bnf 3; clear bnf; obtain ⟨bq0, bq1, bqf, bqr, bhq⟩ := Sg.facts (hS3); have bqf0 := bqf 0; have bqr0 := bqr 0; have bqr1 := bqr 1; have bqr2 := bqr 2; have bqr3 := bqr 3; clear bqf bqr; obtain ⟨br0, br1, br2, br3⟩ := Sg.resc (hS3); obtain ⟨bg2, bc2, bhv, bhcc, bhgl, bhgB, bhgM, bgf, bt0, ⟨bs0, bs1, bs2, bs3⟩, bm0, bm1, bm2, bm3⟩ := Rdr.top (Sg.rdr (hS3)); simp only [Value.slice.injEq, Option.some.injEq, Addr.mk.injEq] at bhv; obtain ⟨⟨rfl, _⟩, _, rfl⟩ := bhv; clear bhgM bhcc bhgB; obtain ⟨ar3, rc3, hsr3⟩ := hT3.shape; have HN3 : Hid _ := NB.adds (NBox.set (NB.box HN1.out) (mulE f.mul e).toN (.slice ar (mulE f.mul e).toN.args.length rc)) hA3; have HS3 : Hid (Sg _ _ _ _ _ _ _ _ _ _ _) := hS3; have HT3 : Hid (Tn _ _ _ _ _) := hT3; clear hS3 hT3 hA3; subst hsr3)
            | (go_at_call_of 90 (Value.int IntKind.u8 43); refine (take_no (c := 43) (Sg.rdr (HS3.out.mv (setN_mv W3 (w.heap.size + 1) (addE f.sum (mulE f.mul e)).toN (.slice ar3 (addE f.sum (mulE f.mul e)).toN.args.length rc3)))) (fun r' h => by rw [toB_toList] at h; simp at h)).mono ?_; rintro xn Wn ⟨rfl, hwn⟩; subst hwn; (try unfold setN))
            | (go_at_call_of 90 (Value.int IntKind.u8 41); refine (take_yes (c := 41) (r := r) (Sg.rdr (HS3.out.mv (setN_mv W3 (w.heap.size + 1) (addE f.sum (mulE f.mul e)).toN (.slice ar3 (addE f.sum (mulE f.mul e)).toN.args.length rc3)))) (by simp [toB_size]; omega) (toB_toList _)).mono ?_; rintro xy Wy ⟨rfl, hwy⟩; subst hwy; (try unfold setN))
            | (go_at_call 95; refine (close_any (Sg.text (HS3.out.mv (setN_mv W3 (w.heap.size + 1) (addE f.sum (mulE f.mul e)).toN (.slice ar3 (addE f.sum (mulE f.mul e)).toN.args.length rc3))) r (by simp)) (addE f.sum (mulE f.mul e)) HO.out.2 _ ((HT3.out.mv (setN_mv W3 (w.heap.size + 1) (addE f.sum (mulE f.mul e)).toN (.slice ar3 (addE f.sum (mulE f.mul e)).toN.args.length rc3)) (fun b _ hb => hb.2.1)).mv (Mv.set1 _ _ _ _) (fun b _ hb => hb.2.2.1))).mono ?_; rintro x6 W6 ⟨sr6, ms6, m6, rfl, hS6, hT6, hm6⟩; obtain ⟨⟨dn0, dn1, dn2, dn3⟩, dnf, dhl⟩ := NB.cells (NB.mv (NB.mv (NBox.set (NB.box HN3.out) (addE f.sum (mulE f.mul e)).toN (.slice ar3 (addE f.sum (mulE f.mul e)).toN.args.length rc3)) (Mv.set1 _ _ _ _) (by omega)) hm6 (by omega)); have dnf0 := dnf 0; have dnf1 := dnf 1; have dnf2 := dnf 2; have dnf3 := dnf 3; clear dnf; obtain ⟨dq0, dq1, dqf, dqr, dhq⟩ := Sg.facts (hS6); have dqf0 := dqf 0; have dqr0 := dqr 0; have dqr1 := dqr 1; have dqr2 := dqr 2; have dqr3 := dqr 3; clear dqf dqr; obtain ⟨dr0, dr1, dr2, dr3⟩ := Sg.resc (hS6); obtain ⟨dg2, dc2, dhv, dhcc, dhgl, dhgB, dhgM, dgf, dt0, ⟨ds0, ds1, ds2, ds3⟩, dm0, dm1, dm2, dm3⟩ := Rdr.top (Sg.rdr (hS6)); simp only [Value.slice.injEq, Option.some.injEq, Addr.mk.injEq] at dhv; obtain ⟨⟨rfl, _⟩, _, rfl⟩ := dhv; clear dhgM dhcc dhgB; obtain ⟨ar6, rc6, hsr6⟩ := hT6.shape; have HN6 : Hid _ := NB.mv (NB.mv (NBox.set (NB.box HN3.out) (addE f.sum (mulE f.mul e)).toN (.slice ar3 (addE f.sum (mulE f.mul e)).toN.args.length rc3)) (Mv.set1 _ _ _ _) (by omega)) hm6 (by omega); have HS6 : Hid (Sg _ _ _ _ _ _ _ _ _ _ _) := hS6; have HT6 : Hid (Tn _ _ _ _ _) := hT6; clear hS6 hT6 hm6; subst hsr6))
          go_step3
          obtain ⟨z1, z2, z3, z4⟩ := store_end HS6.out (NB.box HN6.out) HT6.out
          exact .inr ⟨rfl, ⟨r, st, f2, g, cap, _, ms6, m6, _, _, isAct, z1, z2, z3, closeE_ok HNM.out HO.out.2, (by have := hR.out; rw [M_close] at this; exact this)⟩, Nat.lt_of_le_of_lt (Nat.le_of_eq z4) (by simp)⟩
      · rcases st with _ | ⟨f2, st⟩
        · have hms : ms = [] := List.length_eq_zero_iff.1 (HST.out.1 rfl)
          subst hms
          simp only [List.length_nil, Nat.zero_add] at hlen hcap
          clear HST
          have hne : (!(toB (c :: r)).toList.isEmpty) = true := by simp [toB_toList]
          go_wp2_with (first
            | (go_at_call 92; refine k1.mono ?_; rintro x1 W1 ⟨sr, m1, rfl, hS1, hT1, hm1⟩; obtain ⟨⟨an0, an1, an2, an3⟩, anf, ahl⟩ := NB.cells (NB.mv HNB.out hm1 (fun e => hg1 e.symm)); have anf0 := anf 0; have anf1 := anf 1; have anf2 := anf 2; have anf3 := anf 3; clear anf; obtain ⟨aq0, aq1, aqf, aqr, ahq⟩ := Sg.facts (hS1); have aqf0 := aqf 0; have aqr0 := aqr 0; have aqr1 := aqr 1; have aqr2 := aqr 2; have aqr3 := aqr 3; clear aqf aqr; obtain ⟨ar0, ar1, ar2, ar3⟩ := Sg.resc (hS1); obtain ⟨ag2, ac2, ahv, ahcc, ahgl, ahgB, ahgM, agf, at0, ⟨as0, as1, as2, as3⟩, am0, am1, am2, am3⟩ := Rdr.top (Sg.rdr (hS1)); simp only [Value.slice.injEq, Option.some.injEq, Addr.mk.injEq] at ahv; obtain ⟨⟨rfl, _⟩, _, rfl⟩ := ahv; clear ahgM ahcc ahgB; obtain ⟨ar, rc, hsr⟩ := hT1.shape; have HN1 : Hid _ := NB.mv HNB.out hm1 (fun e => hg1 e.symm); have HS1 : Hid (Sg _ _ _ _ _ _ _ _ _ _ _) := hS1; have HT1 : Hid (Tn _ _ _ _ _) := hT1; clear hS1 hT1 hm1 n0 n1 n2 n3 hRl k1 HNB; subst hsr)
            | (go_at_call_of 90 (Value.int IntKind.u8 42); refine (take_no (c := 42) (Sg.rdr (HS1.out.mv (setN_mv W1 (w.heap.size + 1) (mulE f.mul e).toN (.slice ar (mulE f.mul e).toN.args.length rc)))) (fun r' h => by rw [toB_toList] at h; simp at h; exact h42 h.1)).mono ?_; rintro xn Wn ⟨rfl, hwn⟩; subst hwn; (try unfold setN))
            | (go_at_call 94; refine (plus_any (HS1.out.mv (setN_mv W1 (w.heap.size + 1) (mulE f.mul e).toN (.slice ar (mulE f.mul e).toN.args.length rc))) (mulE f.mul e) HO.out.1 _ (HT1.out.mv (setN_mv W1 (w.heap.size + 1) (mulE f.mul e).toN (.slice ar (mulE f.mul e).toN.args.length rc)) (fun b _ hb => hb.2.1))).mono ?_; rintro x3 W3 ⟨sr3, rfl, hS3, hT3, hA3⟩; obtain ⟨⟨bn0, bn1, bn2, bn3⟩, bnf, bhl⟩ := NB.cells (NB.adds (NBox.set (NB.box HN1.out) (mulE f.mul e).toN (.slice ar (mulE f.mul e).toN.args.length rc)) hA3); have bnf0 := bnf 0; have bnf1 := bnf 1; have bnf2 := bnf 2; have bnf3 := bnf 3; clear bnf; obtain ⟨bq0, bq1, bqf, bqr, bhq⟩ := Sg.facts (hS3); have bqf0 := bqf 0; have bqr0 := bqr 0; have bqr1 := bqr 1; have bqr2 := bqr 2; have bqr3 := bqr 3; clear bqf bqr; obtain ⟨br0, br1, br2, br3⟩ := Sg.resc (hS3); obtain ⟨bg2, bc2, bhv, bhcc, bhgl, bhgB, bhgM, bgf, bt0, ⟨bs0, bs1, bs2, bs3⟩, bm0, bm1, bm2, bm3⟩ := Rdr.top (Sg.rdr (hS3)); simp only [Value.slice.injEq, Option.some.injEq, Addr.mk.injEq] at bhv; obtain ⟨⟨rfl, _⟩, _, rfl⟩ := bhv; clear bhgM bhcc bhgB; obtain ⟨ar3, rc3, hsr3⟩ := hT3.shape; have HN3 : Hid _ := NB.adds (NBox.set (NB.box HN1.out) (mulE f.mul e).toN (.slice ar (mulE f.mul e).toN.args.length rc)) hA3; have HS3 : Hid (Sg _ _ _ _ _ _ _ _ _ _ _) := hS3; have HT3 : Hid (Tn _ _ _ _ _) := hT3; clear hS3 hT3 hA3; subst hsr3)
            | (go_at_call_of 90 (Value.int IntKind.u8 43); refine (take_no (c := 43) (Sg.rdr (HS3.out.mv (setN_mv W3 (w.heap.size + 1) (addE f.sum (mulE f.mul e)).toN (.slice ar3 (addE f.sum (mulE f.mul e)).toN.args.length rc3)))) (fun r' h => by rw [toB_toList] at h; simp at h; exact h43 h.1)).mono ?_; rintro xn Wn ⟨rfl, hwn⟩; subst hwn; (try unfold setN)))

          have HZ := ret_end (HS3.out.mv (setN_mv W3 (w.heap.size + 1) (addE f.sum (mulE f.mul e)).toN (.slice ar3 (addE f.sum (mulE f.mul e)).toN.args.length rc3))) N.zero nilV (fun _ => True) (Tn.nil _ 0 _) (fun _ _ => trivial)
          simp only [jump2]
          exact bodyPost_ret (ret13 rfl rfl HZ.2.2) rfl (.inr ⟨by rw [← hR.out]; exact M_bad h42 h43 h41 _ _ _ _, rfl, HZ.2.1⟩)
        · have hms : 0 < ms.length := HST.out.2 (by simp)
          have hpos : (1 : Int) < (ms.length : Int) + 1 := by omega
          go_wp2_with (first
            | (go_at_call 92; refine k1.mono ?_; rintro x1 W1 ⟨sr, m1, rfl, hS1, hT1, hm1⟩; obtain ⟨⟨an0, an1, an2, an3⟩, anf, ahl⟩ := NB.cells (NB.mv HNB.out hm1 (fun e => hg1 e.symm)); have anf0 := anf 0; have anf1 := anf 1; have anf2 := anf 2; have anf3 := anf 3; clear anf; obtain ⟨aq0, aq1, aqf, aqr, ahq⟩ := Sg.facts (hS1); have aqf0 := aqf 0; have aqr0 := aqr 0; have aqr1 := aqr 1; have aqr2 := aqr 2; have aqr3 := aqr 3; clear aqf aqr; obtain ⟨ar0, ar1, ar2, ar3⟩ := Sg.resc (hS1); obtain ⟨ag2, ac2, ahv, ahcc, ahgl, ahgB, ahgM, agf, at0, ⟨as0, as1, as2, as3⟩, am0, am1, am2, am3⟩ := Rdr.top (Sg.rdr (hS1)); simp only [Value.slice.injEq, Option.some.injEq, Addr.mk.injEq] at ahv; obtain ⟨⟨rfl, _⟩, _, rfl⟩ := ahv; clear ahgM ahcc ahgB; obtain ⟨ar, rc, hsr⟩ := hT1.shape; have HN1 : Hid _ := NB.mv HNB.out hm1 (fun e => hg1 e.symm); have HS1 : Hid (Sg _ _ _ _ _ _ _ _ _ _ _) := hS1; have HT1 : Hid (Tn _ _ _ _ _) := hT1; clear hS1 hT1 hm1 n0 n1 n2 n3 hRl k1 HNB; subst hsr)
            | (go_at_call_of 90 (Value.int IntKind.u8 42); refine (take_no (c := 42) (Sg.rdr (HS1.out.mv (setN_mv W1 (w.heap.size + 1) (mulE f.mul e).toN (.slice ar (mulE f.mul e).toN.args.length rc)))) (fun r' h => by rw [toB_toList] at h; simp at h; exact h42 h.1)).mono ?_; rintro xn Wn ⟨rfl, hwn⟩; subst hwn; (try unfold setN))
            | (go_at_call 94; refine (plus_any (HS1.out.mv (setN_mv W1 (w.heap.size + 1) (mulE f.mul e).toN (.slice ar (mulE f.mul e).toN.args.length rc))) (mulE f.mul e) HO.out.1 _ (HT1.out.mv (setN_mv W1 (w.heap.size + 1) (mulE f.mul e).toN (.slice ar (mulE f.mul e).toN.args.length rc)) (fun b _ hb => hb.2.1))).mono ?_; rintro x3 W3 ⟨sr3, rfl, hS3, hT3, hA3⟩; obtain ⟨⟨bn0, bn1, bn2, bn3⟩, bnf, bhl⟩ := NB.cells (NB.adds (NBox.set (NB.box HN1.out) (mulE f.mul e).toN (.slice ar (mulE f.mul e).toN.args.length rc)) hA3); have bnf0 := bnf 0; have bnf1 := bnf 1; have bnf2 := bnf 2; have bnf3 := bnf 3; clear bnf; obtain ⟨bq0, bq1, bqf, bqr, bhq⟩ := Sg.facts (hS3); have bqf0 := bqf 0; have bqr0 := bqr 0; have bqr1 := bqr 1; have bqr2 := bqr 2; have bqr3 := bqr 3; clear bqf bqr; obtain ⟨br0, br1, br2, br3⟩ := Sg.resc (hS3); obtain ⟨bg2, bc2, bhv, bhcc, bhgl, bhgB, bhgM, bgf, bt0, ⟨bs0, bs1, bs2, bs3⟩, bm0, bm1, bm2, bm3⟩ := Rdr.top (Sg.rdr (hS3)); simp only [Value.slice.injEq, Option.some.injEq, Addr.mk.injEq] at bhv; obtain ⟨⟨rfl, _⟩, _, rfl⟩ := bhv; clear bhgM bhcc bhgB; obtain ⟨ar3, rc3, hsr3⟩ := hT3.shape; have HN3 : Hid _ := NB.adds (NBox.set (NB.box HN1.out) (mulE f.mul e).toN (.slice ar (mulE f.mul e).toN.args.length rc)) hA3; have HS3 : Hid (Sg _ _ _ _ _ _ _ _ _ _ _) := hS3; have HT3 : Hid (Tn _ _ _ _ _) := hT3; clear hS3 hT3 hA3; subst hsr3)
            | (go_at_call_of 90 (Value.int IntKind.u8 43); refine (take_no (c := 43) (Sg.rdr (HS3.out.mv (setN_mv W3 (w.heap.size + 1) (addE f.sum (mulE f.mul e)).toN (.slice ar3 (addE f.sum (mulE f.mul e)).toN.args.length rc3)))) (fun r' h => by rw [toB_toList] at h; simp at h; exact h43 h.1)).mono ?_; rintro xn Wn ⟨rfl, hwn⟩; subst hwn; (try unfold setN))
            | (go_at_call_of 90 (Value.int IntKind.u8 41); refine (take_no (c := 41) (Sg.rdr (HS3.out.mv (setN_mv W3 (w.heap.size + 1) (addE f.sum (mulE f.mul e)).toN (.slice ar3 (addE f.sum (mulE f.mul e)).toN.args.length rc3)))) (fun r' h => by rw [toB_toList] at h; simp at h; exact h41 h.1)).mono ?_; rintro xn Wn ⟨rfl, hwn⟩; subst hwn; (try unfold setN)))

          have HZ := ret_end (HS3.out.mv (setN_mv W3 (w.heap.size + 1) (addE f.sum (mulE f.mul e)).toN (.slice ar3 (addE f.sum (mulE f.mul e)).toN.args.length rc3))) N.zero nilV (fun _ => True) (Tn.nil _ 0 _) (fun _ _ => trivial)
          simp only [jump2]
          exact bodyPost_ret (ret13 rfl rfl HZ.2.2) rfl (.inr ⟨by rw [← hR.out]; exact M_bad h42 h43 h41 _ _ _ _, rfl, HZ.2.1⟩)
    | nil =>
      rcases st with _ | ⟨f2, st⟩
      · have hms : ms = [] := List.length_eq_zero_iff.1 (HST.out.1 rfl)
        subst hms
        simp only [List.length_nil, Nat.zero_add] at hlen hcap
        clear HST
        have hne : (!(toB []).toList.isEmpty) = false := by simp [toB_toList]
        go_wp2_with (first
          | (go_at_call 92; refine k1.mono ?_; rintro x1 W1 ⟨sr, m1, rfl, hS1, hT1, hm1⟩; obtain ⟨⟨an0, an1, an2, an3⟩, anf, ahl⟩ := NB.cells (NB.mv HNB.out hm1 (fun e => hg1 e.symm)); have anf0 := anf 0; have anf1 := anf 1; have anf2 := anf 2; have anf3 := anf 3; clear anf; obtain ⟨aq0, aq1, aqf, aqr, ahq⟩ := Sg.facts (hS1); have aqf0 := aqf 0; have aqr0 := aqr 0; have aqr1 := aqr 1; have aqr2 := aqr 2; have aqr3 := aqr 3; clear aqf aqr; obtain ⟨ar0, ar1, ar2, ar3⟩ := Sg.resc (hS1); obtain ⟨ag2, ac2, ahv, ahcc, ahgl, ahgB, ahgM, agf, at0, ⟨as0, as1, as2, as3⟩, am0, am1, am2, am3⟩ := Rdr.top (Sg.rdr (hS1)); simp only [Value.slice.injEq, Option.some.injEq, Addr.mk.injEq] at ahv; obtain ⟨⟨rfl, _⟩, _, rfl⟩ := ahv; clear ahgM ahcc ahgB; obtain ⟨ar, rc, hsr⟩ := hT1.shape; have HN1 : Hid _ := NB.mv HNB.out hm1 (fun e => hg1 e.symm); have HS1 : Hid (Sg _ _ _ _ _ _ _ _ _ _ _) := hS1; have HT1 : Hid (Tn _ _ _ _ _) := hT1; clear hS1 hT1 hm1 n0 n1 n2 n3 hRl k1 HNB; subst hsr)
          | (go_at_call_of 90 (Value.int IntKind.u8 42); refine (take_no (c := 42) (Sg.rdr (HS1.out.mv (setN_mv W1 (w.heap.size + 1) (mulE f.mul e).toN (.slice ar (mulE f.mul e).toN.args.length rc)))) (fun r' h => by rw [toB_toList] at h; cases h)).mono ?_; rintro xn Wn ⟨rfl, hwn⟩; subst hwn; (try unfold setN))
          | (go_at_call 94; refine (plus_any (HS1.out.mv (setN_mv W1 (w.heap.size + 1) (mulE f.mul e).toN (.slice ar (mulE f.mul e).toN.args.length rc))) (mulE f.mul e) HO.out.1 _ (HT1.out.mv (setN_mv W1 (w.heap.size + 1) (mulE f.mul e).toN (.slice ar (mulE f.mul e).toN.args.length rc)) (fun b _ hb => hb.2.1))).mono ?_; rintro x3 W3 ⟨sr3, rfl, hS3, hT3, hA3⟩; obtain ⟨⟨bn0, bn1, bn2, bn3⟩, bnf, bhl⟩ := NB.cells (NB.adds (NBox.set (NB.box HN1.out) (mulE f.mul e).toN (.slice ar (mulE f.mul e).toN.args.length rc)) hA3); have bnf0 := bnf 0; have bnf1 := bnf 1; have bnf2 := bnf 2; have bnf3 := bnf 3; clear bnf; obtain ⟨bq0, bq1, bqf, bqr, bhq⟩ := Sg.facts (hS3); have bqf0 := bqf 0; have bqr0 := bqr 0; have bqr1 := bqr 1; have bqr2 := bqr 2; have bqr3 := bqr 3; clear bqf bqr; obtain ⟨br0, br1, br2, br3⟩ := Sg.resc (hS3); obtain ⟨bg2, bc2, bhv, bhcc, bhgl, bhgB, bhgM, bgf, bt0, ⟨bs0, bs1, bs2, bs3⟩, bm0, bm1, bm2, bm3⟩ := Rdr.top (Sg.rdr (hS3)); simp only [Value.slice.injEq, Option.some.injEq, Addr.mk.injEq] at bhv; obtain ⟨⟨rfl, _⟩, _, rfl⟩ := bhv; clear bhgM bhcc bhgB; obtain ⟨ar3, rc3, hsr3⟩ := hT3.shape; have HN3 : Hid _ := NB.adds (NBox.set (NB.box HN1.out) (mulE f.mul e).toN (.slice ar (mulE f.mul e).toN.args.length rc)) hA3; have HS3 : Hid (Sg _ _ _ _ _ _ _ _ _ _ _) := hS3; have HT3 : Hid (Tn _ _ _ _ _) := hT3; clear hS3 hT3 hA3; subst hsr3)
          | (go_at_call_of 90 (Value.int IntKind.u8 43); refine (take_no (c := 43) (Sg.rdr (HS3.out.mv (setN_mv W3 (w.heap.size + 1) (addE f.sum (mulE f.mul e)).toN (.slice ar3 (addE f.sum (mulE f.mul e)).toN.args.length rc3)))) (fun r' h => by rw [toB_toList] at h; cases h)).mono ?_; rintro xn Wn ⟨rfl, hwn⟩; subst hwn; (try unfold setN)))
        have HZ := ret_end (HS3.out.mv (setN_mv W3 (w.heap.size + 1) (addE f.sum (mulE f.mul e)).toN (.slice ar3 (addE f.sum (mulE f.mul e)).toN.args.length rc3))) (addE f.sum (mulE f.mul e)).toN (.slice ar3 (addE f.sum (mulE f.mul e)).toN.args.length rc3) (fun b => w.heap.size ≤ b) (HT3.out.mv (setN_mv W3 (w.heap.size + 1) (addE f.sum (mulE f.mul e)).toN (.slice ar3 (addE f.sum (mulE f.mul e)).toN.args.length rc3)) (fun b _ hb => hb.2.1)) (fun b hb => hb.2.2.2.2)
        simp only [jump2]
        refine bodyPost_ret (ret13 rfl rfl HZ.2.2) rfl ?_
        have hz1 := HZ.1
        have hz2 := HZ.2.1
        have hz0 : Rs = some (addE f.sum (mulE f.mul e)) := by rw [← hR.out]; exact M_end f e
        clear HZ
        exact Or.inl ⟨addE f.sum (mulE f.mul e), (.slice ar3 (addE f.sum (mulE f.mul e)).toN.args.length rc3), d + 1 + 1, hz0, rfl, hz1, hz2⟩
      · have hms : 0 < ms.length := HST.out.2 (by simp)
        have hpos : (1 : Int) < (ms.length : Int) + 1 := by omega
        go_wp2_with (first
          | (go_at_call 92; refine k1.mono ?_; rintro x1 W1 ⟨sr, m1, rfl, hS1, hT1, hm1⟩; obtain ⟨⟨an0, an1, an2, an3⟩, anf, ahl⟩ := NB.cells (NB.mv HNB.out hm1 (fun e => hg1 e.symm)); have anf0 := anf 0; have anf1 := anf 1; have anf2 := anf 2; have anf3 := anf 3; clear anf; obtain ⟨aq0, aq1, aqf, aqr, ahq⟩ := Sg.facts (hS1); have aqf0 := aqf 0; have aqr0 := aqr 0; have aqr1 := aqr 1; have aqr2 := aqr 2; have aqr3 := aqr 3; clear aqf aqr; obtain ⟨ar0, ar1, ar2, ar3⟩ := Sg.resc (hS1); obtain ⟨ag2, ac2, ahv, ahcc, ahgl, ahgB, ahgM, agf, at0, ⟨as0, as1, as2, as3⟩, am0, am1, am2, am3⟩ := Rdr.top (Sg.rdr (hS1)); simp only [Value.slice.injEq, Option.some.injEq, Addr.mk.injEq] at ahv; obtain ⟨⟨rfl, _⟩, _, rfl⟩ := ahv; clear ahgM ahcc ahgB; obtain ⟨ar, rc, hsr⟩ := hT1.shape; have HN1 : Hid _ := NB.mv HNB.out hm1 (fun e => hg1 e.symm); have HS1 : Hid (Sg _ _ _ _ _ _ _ _ _ _ _) := hS1; have HT1 : Hid (Tn _ _ _ _ _) := hT1; clear hS1 hT1 hm1 n0 n1 n2 n3 hRl k1 HNB; subst hsr)
          | (go_at_call_of 90 (Value.int IntKind.u8 42); refine (take_no (c := 42) (Sg.rdr (HS1.out.mv (setN_mv W1 (w.heap.size + 1) (mulE f.mul e).toN (.slice ar (mulE f.mul e).toN.args.length rc)))) (fun r' h => by rw [toB_toList] at h; cases h)).mono ?_; rintro xn Wn ⟨rfl, hwn⟩; subst hwn; (try unfold setN))
          | (go_at_call 94; refine (plus_any (HS1.out.mv (setN_mv W1 (w.heap.size + 1) (mulE f.mul e).toN (.slice ar (mulE f.mul e).toN.args.length rc))) (mulE f.mul e) HO.out.1 _ (HT1.out.mv (setN_mv W1 (w.heap.size + 1) (mulE f.mul e).toN (.slice ar (mulE f.mul e).toN.args.length rc)) (fun b _ hb => hb.2.1))).mono ?_; rintro x3 W3 ⟨sr3, rfl, hS3, hT3, hA3⟩; obtain ⟨⟨bn0, bn1, bn2, bn3⟩, bnf, bhl⟩ := NB.cells (NB.adds (NBox.set (NB.box HN1.out) (mulE f.mul e).toN (.slice ar (mulE f.mul e).toN.args.length rc)) hA3); have bnf0 := bnf 0; have bnf1 := bnf 1; have bnf2 := bnf 2; have bnf3 := bnf 3; clear bnf; obtain ⟨bq0, bq1, bqf, bqr, bhq⟩ := Sg.facts (hS3); have bqf0 := bqf 0; have bqr0 := bqr 0; have bqr1 := bqr 1; have bqr2 := bqr 2; have bqr3 := bqr 3; clear bqf bqr; obtain ⟨br0, br1, br2, br3⟩ := Sg.resc (hS3); obtain ⟨bg2, bc2, bhv, bhcc, bhgl, bhgB, bhgM, bgf, bt0, ⟨bs0, bs1, bs2, bs3⟩, bm0, bm1, bm2, bm3⟩ := Rdr.top (Sg.rdr (hS3)); simp only [Value.slice.injEq, Option.some.injEq, Addr.mk.injEq] at bhv; obtain ⟨⟨rfl, _⟩, _, rfl⟩ := bhv; clear bhgM bhcc bhgB; obtain ⟨ar3, rc3, hsr3⟩ := hT3.shape; have HN3 : Hid _ := NB.adds (NBox.set (NB.box HN1.out) (mulE f.mul e).toN (.slice ar (mulE f.mul e).toN.args.length rc)) hA3; have HS3 : Hid (Sg _ _ _ _ _ _ _ _ _ _ _) := hS3; have HT3 : Hid (Tn _ _ _ _ _) := hT3; clear hS3 hT3 hA3; subst hsr3)
          | (go_at_call_of 90 (Value.int IntKind.u8 43); refine (take_no (c := 43) (Sg.rdr (HS3.out.mv (setN_mv W3 (w.heap.size + 1) (addE f.sum (mulE f.mul e)).toN (.slice ar3 (addE f.sum (mulE f.mul e)).toN.args.length rc3)))) (fun r' h => by rw [toB_toList] at h; cases h)).mono ?_; rintro xn Wn ⟨rfl, hwn⟩; subst hwn; (try unfold setN))
          | (go_at_call_of 90 (Value.int IntKind.u8 41); refine (take_no (c := 41) (Sg.rdr (HS3.out.mv (setN_mv W3 (w.heap.size + 1) (addE f.sum (mulE f.mul e)).toN (.slice ar3 (addE f.sum (mulE f.mul e)).toN.args.length rc3)))) (fun r' h => by rw [toB_toList] at h; cases h)).mono ?_; rintro xn Wn ⟨rfl, hwn⟩; subst hwn; (try unfold setN)))

        have HZ := ret_end (HS3.out.mv (setN_mv W3 (w.heap.size + 1) (addE f.sum (mulE f.mul e)).toN (.slice ar3 (addE f.sum (mulE f.mul e)).toN.args.length rc3))) N.zero nilV (fun _ => True) (Tn.nil _ 0 _) (fun _ _ => trivial)
        simp only [jump2]
        exact bodyPost_ret (ret13 rfl rfl HZ.2.2) rfl (.inr ⟨by rw [← hR.out]; exact M_open0 _ _ _ _, rfl, HZ.2.1⟩)
  · -- a part begins
    rintro a' W ⟨l, st, f, g, cap, d, ms, m, ⟨u, rfl⟩, hS, hB, hR⟩ hp1
    have hmu := hS.left
    rw [hmu] at hp1 ⊢
    clear hmu
    have hlen := hS.len
    have k1 := word_any hS.rdr (by rw [toB_size]; omega)
    rw [toB_toList] at k1
    have htd := take_drop l
    obtain ⟨wd, hwd⟩ : ∃ wd, l.takeWhile wc = wd := ⟨_, rfl⟩
    obtain ⟨rs, hrs⟩ : ∃ rs, l.dropWhile wc = rs := ⟨_, rfl⟩
    rw [hwd, hrs] at k1 htd
    have HWD : Hid (l.takeWhile wc = wd) := hwd
    have HRS : Hid (l.dropWhile wc = rs) := hrs
    have hll : wd.length + rs.length = l.length := by rw [← htd, List.length_append]
    have hS0 := hS.text rs (by omega)
    have hB0 := hB.mv (Mv.set1 W (w.heap.size + 3) 0 (.string (toB rs))) (by omega)
    obtain ⟨ca, cb, cc, ce, n0, n1, n2, n3⟩ := hB0.cells
    obtain ⟨nf, hRl⟩ := hB0.facts
    have nf0 := nf 0
    have nf1 := nf 1
    have nf2 := nf 2
    have nf3 := nf 3
    obtain ⟨q0, q1, qf, qr, hq⟩ := hS0.facts
    have hR0 := Nat.lt_of_le_of_lt (Nat.le_add_right w.heap.size 1) hRl
    have qf0 := qf 0
    have qf1 := qf 1
    have qr0 := qr 0
    have qr1 := qr 1
    have qr2 := qr 2
    have qr3 := qr 3
    obtain ⟨r0, r1, r2, r3⟩ := hS0.resc
    have HS0 : Hid (Sg _ _ _ _ _ _ _ _ _ _ _) := hS0
    have HB0 : Hid (NBox _ _) := hB0
    have HP1 : Hid _ := hp1
    have HG1 : Hid (g ≠ w.heap.size + 1) := hS.g1
    have hms : ms.length + l.length ≤ 256 := hlen
    have HLL : Hid _ := hll
    have hl256 : l.length ≤ 256 := by omega
    have kN := isName_any (toB wd)
    rw [toB_toList] at kN
    have kL := leaf_any wd (by omega)
    generalize hW0 : W.setCell ⟨w.heap.size + 3, 0, none⟩ (.string (toB rs)) = W0 at *
    clear hW0 htd hwd hrs hS hB hp1 nf qf qr hS0 hB0 hlen hll

    by_cases hw : wd = [] ∨ isName wd = true
    · by_cases hr40 : ∃ r, rs = 40 :: r
      · obtain ⟨r, rfl⟩ := hr40
        have HMM : Hid (M l st f none = M r (f :: st) ⟨wd, none, none⟩ none) := M_pushy HWD.out HRS.out hw st f
        have HW : Hid (wd = [] ∨ isName wd = true) := hw
        by_cases hwd0 : wd = []
        · have h1 : ((toB wd).toList == []) = true := by rw [toB_toList]; simpa using hwd0
          clear hw hwd0
          have HS1 : Hid (Sg _ _ _ _ _ _ _ _ _ _ _) := Sg.text HS0.out r (by simp)
          have HB1 : Hid (NBox _ _) := NBox.mv HB0.out (Mv.set1 W0 (w.heap.size + 3) 0 (.string (toB r))) (by omega)
          go_wp2_with (first
            | (go_at_call 88; refine k1.mono ?_; rintro x1 W1 ⟨rfl, hw1⟩; replace hw1 := hw1.symm; subst hw1)
            | (go_at_call 90; refine (take_yes (c := 40) (r := r) (Sg.rdr HS0.out) (by simp only [toB_size, List.length_cons]; have := HLL.out; simp only [List.length_cons] at this; omega) (toB_toList _)).mono ?_; rintro x3 W3 ⟨rfl, hw3⟩; subst hw3)
            | (at_builtin; refine frame_app_n rfl (.tmp 23) (.tmp 26) rfl HS1.out (Adds.refl _) wd rfl (by simp) rfl ?_; intro g' cap' w5 hown hgr hgg; obtain ⟨z1, z2, z3⟩ := grow_facts HS1.out (by repeat (first | with_reducible exact Adds.refl _ | with_reducible refine Adds.alloc ?_ _ | with_reducible refine Adds.more ?_ _ _ | with_reducible refine Adds.drew ?_ | with_reducible refine Adds.drewN ?_ _)) hgr))
          go_step3
          have hlz := HLL.out
          simp only [List.length_cons] at hlz
          have hz1 := Sg.push (nm := wd) HS1.out (by repeat (first | with_reducible exact Adds.refl _ | with_reducible refine Adds.alloc ?_ _ | with_reducible refine Adds.more ?_ _ _ | with_reducible refine Adds.drew ?_ | with_reducible refine Adds.drewN ?_ _)) hgr HW.out hown hgg (by omega)
          have hz2 : NBox w.heap.size (w5.setCell ⟨w.heap.size + 3, 1, none⟩ (.slice (some ⟨g', 0, none⟩) (ms.length + 1 + 1) cap')) := by
            refine NBox.mv (NBox.mv (NBox.mv (X := fun _ => False) HB1.out (Adds.mv (by repeat (first | with_reducible exact Adds.refl _ | with_reducible refine Adds.alloc ?_ _ | with_reducible refine Adds.more ?_ _ _ | with_reducible refine Adds.drew ?_ | with_reducible refine Adds.drewN ?_ _))) (fun h => h)) (X := fun b => b = g) ⟨hgr.os, hgr.tape, hgr.output, hgr.size, fun b hb hx => hgr.block b hb (fun e => hx (by simpa using e))⟩ (fun e => HG1.out e.symm)) (Mv.set1 _ _ _ _) (by omega)
          have hz3 := hz1.left
          exact .inl ⟨rfl, ⟨r, f :: st, ⟨wd, none, none⟩, g', cap', d, ms ++ [m], _, isAct, hz1, hz2, (by have := hR.out; rw [HMM.out] at this; exact this)⟩, (by show left _ _ < _; rw [hz3]; omega)⟩
        · have h1 : ((toB wd).toList == []) = false := by rw [toB_toList]; simpa using hwd0
          have h2 : isName wd = true := hw.resolve_left hwd0
          rw [h2] at kN
          clear hw hwd0
          have HS1 : Hid (Sg _ _ _ _ _ _ _ _ _ _ _) := Sg.text HS0.out r (by simp)
          have HB1 : Hid (NBox _ _) := NBox.mv HB0.out (Mv.set1 W0 (w.heap.size + 3) 0 (.string (toB r))) (by omega)
          go_wp2_with (first
            | (go_at_call 88; refine k1.mono ?_; rintro x1 W1 ⟨rfl, hw1⟩; replace hw1 := hw1.symm; subst hw1)
            | (go_at_call 89; refine (kN _).mono ?_; rintro x2 W2 ⟨rfl, hw2⟩; replace hw2 := hw2.symm; subst hw2)
            | (go_at_call 90; refine (take_yes (c := 40) (r := r) (Sg.rdr HS0.out) (by simp only [toB_size, List.length_cons]; have := HLL.out; simp only [List.length_cons] at this; omega) (toB_toList _)).mono ?_; rintro x3 W3 ⟨rfl, hw3⟩; subst hw3)
            | (at_builtin; refine frame_app_n rfl (.tmp 23) (.tmp 26) rfl HS1.out (Adds.refl _) wd rfl (by simp) rfl ?_; intro g' cap' w5 hown hgr hgg; obtain ⟨z1, z2, z3⟩ := grow_facts HS1.out (by repeat (first | with_reducible exact Adds.refl _ | with_reducible refine Adds.alloc ?_ _ | with_reducible refine Adds.more ?_ _ _ | with_reducible refine Adds.drew ?_ | with_reducible refine Adds.drewN ?_ _)) hgr))
          go_step3
          have hlz := HLL.out
          simp only [List.length_cons] at hlz
          have hz1 := Sg.push (nm := wd) HS1.out (by repeat (first | with_reducible exact Adds.refl _ | with_reducible refine Adds.alloc ?_ _ | with_reducible refine Adds.more ?_ _ _ | with_reducible refine Adds.drew ?_ | with_reducible refine Adds.drewN ?_ _)) hgr HW.out hown hgg (by omega)
          have hz2 : NBox w.heap.size (w5.setCell ⟨w.heap.size + 3, 1, none⟩ (.slice (some ⟨g', 0, none⟩) (ms.length + 1 + 1) cap')) := by
            refine NBox.mv (NBox.mv (NBox.mv (X := fun _ => False) HB1.out (Adds.mv (by repeat (first | with_reducible exact Adds.refl _ | with_reducible refine Adds.alloc ?_ _ | with_reducible refine Adds.more ?_ _ _ | with_reducible refine Adds.drew ?_ | with_reducible refine Adds.drewN ?_ _))) (fun h => h)) (X := fun b => b = g) ⟨hgr.os, hgr.tape, hgr.output, hgr.size, fun b hb hx => hgr.block b hb (fun e => hx (by simpa using e))⟩ (fun e => HG1.out e.symm)) (Mv.set1 _ _ _ _) (by omega)
          have hz3 := hz1.left
          exact .inl ⟨rfl, ⟨r, f :: st, ⟨wd, none, none⟩, g', cap', d, ms ++ [m], _, isAct, hz1, hz2, (by have := hR.out; rw [HMM.out] at this; exact this)⟩, (by show left _ _ < _; rw [hz3]; omega)⟩
      · have hno : ∀ r', rs ≠ 40 :: r' := fun r' h => hr40 ⟨r', h⟩
        have HMM : Hid (M l st f none = (leafE wd).bind fun n => M rs st f (some n)) := M_leafy HWD.out HRS.out (fun h => hr40 h.2) st f
        have HNO : Hid (∀ r', rs ≠ 40 :: r') := hno
        clear hr40 hno
        by_cases hwd0 : wd = []
        · have h1 : ((toB wd).toList == []) = true := by rw [toB_toList]; simpa using hwd0
          clear hw
          have HW0 : Hid (wd = []) := hwd0
          clear hwd0
          cases hle : leafE wd with
          | none =>
            rw [hle] at kL HMM
            have HLE : Hid (leafE wd = none) := hle
            clear hle
            go_wp2_with (first
              | (go_at_call 88; refine k1.mono ?_; rintro x1 W1 ⟨rfl, hw1⟩; replace hw1 := hw1.symm; subst hw1)
              | (go_at_call 90; refine (take_no (c := 40) (Sg.rdr HS0.out) (fun r' h => by rw [toB_toList] at h; exact HNO.out r' h)).mono ?_; rintro x3 W3 ⟨rfl, hw3⟩; replace hw3 := hw3.symm; subst hw3)
              | (go_at_call 91; refine (kL _).mono ?_; rintro x4 W4 ⟨⟨nl, ql, rfl, hql, hnl⟩, os4, k4, rfl⟩; simp only [Option.isSome_none] at hql; subst hql; clear hnl))
            have HZ := ret_end2 (HS0.out.mv (setN_mv W0 (w.heap.size + 1) nl nilV)) N.zero nilV os4 k4
            have hz0 : Rs = none := by
              have := hR.out
              rw [HMM.out] at this
              exact this.symm
            (try simp only [jump2])
            exact bodyPost_ret (ret13 rfl rfl HZ.2) rfl (.inr ⟨hz0, rfl, HZ.1⟩)
          | some x =>
            rw [hle] at kL HMM
            have HLE : Hid (leafE wd = some x) := hle
            clear hle
            go_wp2_with (first
              | (go_at_call 88; refine k1.mono ?_; rintro x1 W1 ⟨rfl, hw1⟩; replace hw1 := hw1.symm; subst hw1)
              | (go_at_call 90; refine (take_no (c := 40) (Sg.rdr HS0.out) (fun r' h => by rw [toB_toList] at h; exact HNO.out r' h)).mono ?_; rintro x3 W3 ⟨rfl, hw3⟩; replace hw3 := hw3.symm; subst hw3)
              | (go_at_call 91; refine (kL _).mono ?_; rintro x4 W4 ⟨⟨nl, ql, rfl, hql, hnl⟩, os4, k4, rfl⟩; obtain ⟨hnx, hargs⟩ := hnl x rfl; simp only [Option.isSome_some] at hql; subst hql; subst hnx; clear hnl))
            go_step3
            rename_i K9 hK9
            have hz2 := store_end (sr := nilV) (e := x) HS0.out HB0.out (by rw [hargs]; exact Tn.nil _ _ _)
            have hA : Adds (setN W0 (w.heap.size + 1) x.toN nilV) (more (setN W0 (w.heap.size + 1) x.toN nilV) os4 k4) := ⟨os4, k4, rfl⟩
            have hz3 := hz2.1.adds hA
            have hz4 : Hid (M rs st f (some x) = Rs) := by
              have := hR.out
              rw [HMM.out] at this
              exact this
            have hz5 : left w.heap.size (more (setN W0 (w.heap.size + 1) x.toN nilV) os4 k4) ≤ l.length := by
              rw [hz3.left]
              have := HLL.out
              omega
            exact hK9 _ _ (HP1.out _ _ ⟨rs, st, f, g, cap, d, ms, m, x, nilV, isAct, hz3, NB.adds hz2.2.1 hA, Tn.adds hz2.2.2.1 hA, leaf_ok HLE.out, hz4⟩ hz5)
        · have h1 : ((toB wd).toList == []) = false := by rw [toB_toList]; simpa using hwd0
          have h2 : isName wd = true := hw.resolve_left hwd0
          rw [h2] at kN
          clear hw hwd0
          cases hle : leafE wd with
          | none =>
            rw [hle] at kL HMM
            have HLE : Hid (leafE wd = none) := hle
            clear hle
            go_wp2_with (first
              | (go_at_call 88; refine k1.mono ?_; rintro x1 W1 ⟨rfl, hw1⟩; replace hw1 := hw1.symm; subst hw1)
              | (go_at_call 89; refine (kN _).mono ?_; rintro x2 W2 ⟨rfl, hw2⟩; replace hw2 := hw2.symm; subst hw2)
              | (go_at_call 90; refine (take_no (c := 40) (Sg.rdr HS0.out) (fun r' h => by rw [toB_toList] at h; exact HNO.out r' h)).mono ?_; rintro x3 W3 ⟨rfl, hw3⟩; replace hw3 := hw3.symm; subst hw3)
              | (go_at_call 91; refine (kL _).mono ?_; rintro x4 W4 ⟨⟨nl, ql, rfl, hql, hnl⟩, os4, k4, rfl⟩; simp only [Option.isSome_none] at hql; subst hql; clear hnl))
            have HZ := ret_end2 (HS0.out.mv (setN_mv W0 (w.heap.size + 1) nl nilV)) N.zero nilV os4 k4
            have hz0 : Rs = none := by
              have := hR.out
              rw [HMM.out] at this
              exact this.symm
            (try simp only [jump2])
            exact bodyPost_ret (ret13 rfl rfl HZ.2) rfl (.inr ⟨hz0, rfl, HZ.1⟩)
          | some x =>
            rw [hle] at kL HMM
            have HLE : Hid (leafE wd = some x) := hle
            clear hle
            go_wp2_with (first
              | (go_at_call 88; refine k1.mono ?_; rintro x1 W1 ⟨rfl, hw1⟩; replace hw1 := hw1.symm; subst hw1)
              | (go_at_call 89; refine (kN _).mono ?_; rintro x2 W2 ⟨rfl, hw2⟩; replace hw2 := hw2.symm; subst hw2)
              | (go_at_call 90; refine (take_no (c := 40) (Sg.rdr HS0.out) (fun r' h => by rw [toB_toList] at h; exact HNO.out r' h)).mono ?_; rintro x3 W3 ⟨rfl, hw3⟩; replace hw3 := hw3.symm; subst hw3)
              | (go_at_call 91; refine (kL _).mono ?_; rintro x4 W4 ⟨⟨nl, ql, rfl, hql, hnl⟩, os4, k4, rfl⟩; obtain ⟨hnx, hargs⟩ := hnl x rfl; simp only [Option.isSome_some] at hql; subst hql; subst hnx; clear hnl))
            go_step3
            rename_i K9 hK9
            have hz2 := store_end (sr := nilV) (e := x) HS0.out HB0.out (by rw [hargs]; exact Tn.nil _ _ _)
            have hA : Adds (setN W0 (w.heap.size + 1) x.toN nilV) (more (setN W0 (w.heap.size + 1) x.toN nilV) os4 k4) := ⟨os4, k4, rfl⟩
            have hz3 := hz2.1.adds hA
            have hz4 : Hid (M rs st f (some x) = Rs) := by
              have := hR.out
              rw [HMM.out] at this
              exact this
            have hz5 : left w.heap.size (more (setN W0 (w.heap.size + 1) x.toN nilV) os4 k4) ≤ l.length := by
              rw [hz3.left]
              have := HLL.out
              omega
            exact hK9 _ _ (HP1.out _ _ ⟨rs, st, f, g, cap, d, ms, m, x, nilV, isAct, hz3, NB.adds hz2.2.1 hA, Tn.adds hz2.2.2.1 hA, leaf_ok HLE.out, hz4⟩ hz5)
    · have h1 : ((toB wd).toList == []) = false := by rw [toB_toList]; simpa using fun h => hw (.inl h)
      have h2 : isName wd = false := by simpa using fun h => hw (.inr h)
      rw [h2] at kN
      have HMM : Hid (M l st f none = (leafE wd).bind fun n => M rs st f (some n)) := M_leafy HWD.out HRS.out (fun h => hw h.1) st f
      clear hw
      cases hle : leafE wd with
      | none =>
        rw [hle] at kL HMM
        have HLE : Hid (leafE wd = none) := hle
        clear hle
        go_wp2_with (first
          | (go_at_call 88; refine k1.mono ?_; rintro x1 W1 ⟨rfl, hw1⟩; replace hw1 := hw1.symm; subst hw1)
          | (go_at_call 89; refine (kN _).mono ?_; rintro x2 W2 ⟨rfl, hw2⟩; replace hw2 := hw2.symm; subst hw2)
          | (go_at_call 91; refine (kL _).mono ?_; rintro x4 W4 ⟨⟨nl, ql, rfl, hql, hnl⟩, os4, k4, rfl⟩; simp only [Option.isSome_none] at hql; subst hql; clear hnl))
        have HZ := ret_end2 (HS0.out.mv (setN_mv W0 (w.heap.size + 1) nl nilV)) N.zero nilV os4 k4
        have hz0 : Rs = none := by
          have := hR.out
          rw [HMM.out] at this
          exact this.symm
        (try simp only [jump2])
        exact bodyPost_ret (ret13 rfl rfl HZ.2) rfl (.inr ⟨hz0, rfl, HZ.1⟩)
      | some x =>
        rw [hle] at kL HMM
        have HLE : Hid (leafE wd = some x) := hle
        clear hle
        go_wp2_with (first
          | (go_at_call 88; refine k1.mono ?_; rintro x1 W1 ⟨rfl, hw1⟩; replace hw1 := hw1.symm; subst hw1)
          | (go_at_call 89; refine (kN _).mono ?_; rintro x2 W2 ⟨rfl, hw2⟩; replace hw2 := hw2.symm; subst hw2)
          | (go_at_call 91; refine (kL _).mono ?_; rintro x4 W4 ⟨⟨nl, ql, rfl, hql, hnl⟩, os4, k4, rfl⟩; obtain ⟨hnx, hargs⟩ := hnl x rfl; simp only [Option.isSome_some] at hql; subst hql; subst hnx; clear hnl))
        go_step3
        rename_i K9 hK9
        have hz2 := store_end (sr := nilV) (e := x) HS0.out HB0.out (by rw [hargs]; exact Tn.nil _ _ _)
        have hA : Adds (setN W0 (w.heap.size + 1) x.toN nilV) (more (setN W0 (w.heap.size + 1) x.toN nilV) os4 k4) := ⟨os4, k4, rfl⟩
        have hz3 := hz2.1.adds hA
        have hz4 : Hid (M rs st f (some x) = Rs) := by
          have := hR.out
          rw [HMM.out] at this
          exact this
        have hz5 : left w.heap.size (more (setN W0 (w.heap.size + 1) x.toN nilV) os4 k4) ≤ l.length := by
          rw [hz3.left]
          have := HLL.out
          omega
        exact hK9 _ _ (HP1.out _ _ ⟨rs, st, f, g, cap, d, ms, m, x, nilV, isAct, hz3, NB.adds hz2.2.1 hA, Tn.adds hz2.2.2.1 hA, leaf_ok HLE.out, hz4⟩ hz5)
  · -- the beginning
    intro hp0
    go_wp2
    go_step3
    rename_i K9 hK9
    have hl0 : s0.toList.length ≤ 256 := by rw [toList_length]; exact hs
    obtain ⟨z1, z2⟩ := Sg.begin (w := w) (l := s0.toList) hl0 rfl
    rw [toB_of] at z1 z2
    exact hK9 _ _ (hp0 _ _ ⟨s0.toList, [], Fr.none, w.heap.size + 2, 1, 0, [], _, isAct, z1, z2, HRs⟩)

end Go.Proofs.YtiacnmcdfpmcfaaGreatDoor
