/-
  The law ShopBatches, of documents and some that are asked. An argument of type []Op opened: what is within them reads too.
-/
import Derived.Test.YtgnhkpihlghbmaaMsld
import Derived.Test.YtgnhkpihlghbmaaSop
namespace Go.Proofs.Ytgnhkpihlghbmaa
open Go.RowKit
attribute [local go_sem] cell?_more frozen?_more setCell_more size_more tape_more drew_more drewN_more more_drew more_drewN one_out plus_out plus_end lt_one le_p2 le_p3 le_p4 le_p5 le_p6 le_p7 le_p8 le_p9 le_p10 le_p11 le_p12 le_p13 le_p14 le_p15 le_p16 le_p17 le_p18 le_p19 le_p20 le_p21 le_p22 le_p23 le_p24 le_q0 le_q1 lt_q1 le_q2 lt_q2 le_q3 lt_q3 le_q4 lt_q4 le_q5 lt_q5 le_q6 lt_q6 le_q7 lt_q7 le_q8 lt_q8 le_q9 lt_q9 le_q10 lt_q10 le_q11 lt_q11 le_q12 lt_q12 le_q13 lt_q13 le_q14 lt_q14 le_q15 lt_q15 le_q16 lt_q16 le_q17 lt_q17 le_q18 lt_q18 le_q19 lt_q19 le_q20 lt_q20 le_q21 lt_q21 le_q22 lt_q22 le_q23 lt_q23 le_q24 lt_q24

theorem codeB_append (ds : List Dn) (qs : List Qs) (q : Qs) : codeB ds (qs ++ [q]) = if codeB ds qs = 0 then codeT (qs.foldl stepT ds) q else codeB ds qs := by
  induction qs generalizing ds with
  | nil =>
    show (if codeT ds q = 0 then (0 : Int) else codeT ds q) = if (0 : Int) = 0 then codeT ds q else 0
    rw [if_pos rfl]
    split
    · rename_i h; exact h.symm
    · rfl
  | cons x r ih =>
    rw [List.cons_append, codeB_cons, codeB_cons, ih]
    by_cases h : codeT ds x = 0
    · rw [if_pos h, if_pos h]
      rfl
    · rw [if_neg h, if_neg h, if_neg h]

theorem foldT_qs (ds : List Dn) (os : List Qv) : foldT ds os = (qsOf os).foldl stepT ds := by
  unfold foldT qsOf
  rw [List.foldl_map]

theorem codeB_next {ds : List Dn} {os : List Qv} {k : Nat} (h : k < os.length) : codeB ds (qsOf (os.take (k + 1))) = if codeB ds (qsOf (os.take k)) = 0 then codeT (foldT ds (os.take k)) os[k].q else codeB ds (qsOf (os.take k)) := by
  rw [List.take_succ_eq_append_getElem h, foldT_qs]
  have e : qsOf (os.take k ++ [os[k]]) = qsOf (os.take k) ++ [os[k].q] := by
    unfold qsOf
    rw [List.map_append]
    rfl
  rw [e, codeB_append]

theorem foldT_fine {ds : List Dn} {os : List Qv} {k : Nat} (hf : Fine ds) (h0 : codeB ds (qsOf (os.take k)) = 0) : Fine (foldT ds (os.take k)) := by
  have := codeB_fine hf h0 (os.take k).length (Nat.le_refl _)
  rwa [List.take_length] at this

/-- What Apply tells of one that turns a document, opened. -/
theorem turn_opened (s : Value) (ds : List Dn) (q : Qs) (da : Option Addr) (dn dc : Nat) (wa : Option Addr) (wn wc : Nat) (la : Option Addr) (ln lc : Nat) (sa : Option Addr) (sn sc : Nat) (na : Option Addr) (nn nc : Nat) (w : World) (hl : LstD w s ds) (hf : Fine ds) (hd : Lst w (.slice da dn dc) q.doc) (hw : Lst w (.slice wa wn wc) q.want) (h1 : q.doc.length ≤ 20) (h2 : q.want.length ≤ 20) (hk1 : 1 ≤ q.kind) (hk3 : q.kind ≤ 3) :
    Calls Try.prog 11 #[s, .agg #[.int .i64 q.kind, .string q.key, .string q.to, .slice da dn dc, .slice wa wn wc, .bool q.has, .int .i64 q.n, .int .i64 q.most, .slice la ln lc, .slice sa sn sc, .slice na nn nc], .int .i64 0] w fun e w' =>
      ∃ to tn tc ao an ac co cn cc, e = .returned (.tuple #[.slice to tn tc, ansW (codeT ds q) (decide (codeT ds q = 7) && hasAt q.key ds) (.slice ao an ac) nilV (nOf 0 (csT ds q).length), .slice co cn cc, .int .i64 0]) ∧ Adds w w' ∧ Hid (LstD w' (.slice to tn tc) (if codeT ds q = 0 then stepT ds q else ds)) := by
  have := apply_turn s ds ⟨q, .slice da dn dc, .slice wa wn wc, .slice la ln lc, .slice sa sn sc, .slice na nn nc⟩ 0 w hl hf ⟨by omega, by omega⟩ ⟨hd, by show q.doc.length ≤ 1000; omega, hw, by show q.want.length ≤ 1000; omega, ⟨la, ln, lc, rfl⟩, ⟨sa, sn, sc, rfl⟩, ⟨na, nn, nc, rfl⟩⟩ (by show ¬ q.kind = 4; omega) (by show ¬ q.kind = 5; omega) (by show ¬ q.kind = 6; omega)
  simp only [Qv.val, opV] at this
  refine this.mono ?_
  intro e w' h
  obtain ⟨to, tn, tc, ao, an, ac, co, cn, cc, he, hA, hF⟩ := h.opened
  have hd := hF.out.1 _ (Far.refl _ _)
  rw [csT_fold] at hd
  exact ⟨to, tn, tc, ao, an, ac, co, cn, cc, he, hA, hd⟩

/-- What Apply tells of a batch, opened. -/
theorem batch_opened (s lv : Value) (ds : List Dn) (os : List Qv) (total : Int) (w : World) (hl : LstD w s ds) (hf : Fine ds) (ho : LstO w lv os) (ho6 : os.length ≤ 1000) (hod : ∀ x ∈ os, x.q.doc.length ≤ 1000) (ht : 0 ≤ total ∧ total ≤ 2147483643) :
    Calls Try.prog 11 #[s, .agg #[.int .i64 6, .string ⟨#[]⟩, .string ⟨#[]⟩, .slice none 0 0, .slice none 0 0, .bool false, .int .i64 0, .int .i64 0, lv, .slice none 0 0, .slice none 0 0], .int .i64 total] w fun e w' =>
      ∃ to tn tc ao an ac co cc, e = .returned (.tuple #[.slice to tn tc, ansW (codeBt ds os) false (.slice ao an ac) nilV (nOf total (csB ds os).length), .slice co (csB ds os).length cc, .int .i64 0]) ∧ Adds w w' ∧ Hid (LstD w' (.slice to tn tc) (foldC ds (csB ds os))) := by
  obtain ⟨lo, lc, rfl, hlc, hlr⟩ := ho
  have := apply_batch s ds ⟨⟨6, ⟨#[]⟩, ⟨#[]⟩, [], [], false, 0, 0⟩, .slice none 0 0, .slice none 0 0, .slice lo os.length lc, .slice none 0 0, .slice none 0 0⟩ os total w hl hf ht ⟨lst_nil w, by simp, lst_nil w, by simp, ⟨_, _, _, rfl⟩, ⟨_, _, _, rfl⟩, ⟨_, _, _, rfl⟩⟩ ⟨lo, lc, rfl, hlc, hlr⟩ ho6 hod rfl
  simp only [Qv.val, opV] at this
  refine this.mono ?_
  rintro e w' ⟨tv, ah, av, cv, rfl, hA, hF⟩
  have h1 := hF.out.docs _ (Far.refl _ _)
  have h2 := hF.out.has
  have h3 := hF.out.doc _ (Far.refl _ _)
  have h4 := hF.out.news _ (Far.refl _ _)
  subst h2
  obtain ⟨to, tc, rfl, _, _⟩ := id h1
  obtain ⟨ao, ac, rfl, _, _⟩ := h3
  obtain ⟨co, cc, rfl, _, _⟩ := h4
  refine ⟨to, (foldC ds (csB ds os)).length, tc, ao, ([] : List F).length, ac, co, cc, ?_, hA, h1⟩
  rw [placed_len]

set_option maxRecDepth 20000 in
set_option maxHeartbeats 4000000 in
theorem batches_any (s lv : Value) (ds : List Dn) (os : List Qv) (w : World) (hl : LstD w s ds) (ho : LstP w lv os) (hin : ∀ v ∈ os, ∃ xs, LstP w v.lv xs) :
    Calls Try.prog 4 #[s, lv] w fun e w' => e = .returned (.bool true) ∧ Adds w w' := by
  have kD := fun W (hA : Adds w W) => docsL_any s ds W (hl.adds hA)
  have HL : Hid (LstD w s ds) := hl
  have HO : Hid (LstP w lv os) := ho
  have HIN : Hid (∀ v ∈ os, ∃ xs, LstP w v.lv xs) := hin
  clear hin
  cases hdl : docsL ds with
  | false =>
    rw [hdl] at kD
    clear hdl
    obtain ⟨so, sc, rfl, _, _⟩ := hl
    obtain ⟨lo, lc, rfl, _, _⟩ := ho
    generalize os.length = n at *
    go_enter Try.func4, Try.ntmps4
    go_wp2_with (first
      | (go_at_call 7; refine (kD _ (by repeat (first | with_reducible exact Adds.refl _ | with_reducible refine Adds.alloc ?_ _ | with_reducible refine Adds.more ?_ _ _ | with_reducible refine Adds.drew ?_ | with_reducible refine Adds.drewN ?_ _))).mono ?_; rintro e w1 ⟨rfl, os1, n1, rfl⟩)
      | (go_at_call 9; refine (awake_any _).mono ?_; rintro e w2 ⟨rfl, os2, n2, rfl⟩))
    go_ret
    exact ⟨rfl, (by repeat (first | with_reducible exact Adds.refl _ | with_reducible refine Adds.alloc ?_ _ | with_reducible refine Adds.more ?_ _ _ | with_reducible refine Adds.drew ?_ | with_reducible refine Adds.drewN ?_ _))⟩
  | true =>
    rw [hdl] at kD
    obtain ⟨h40, h20⟩ := docsL_true hdl
    clear hdl
    have kM := fun W (hA : Adds w W) => refMay_docs s ds W (hl.adds hA) (by omega) (fun d hd => by have := h20 d hd; omega)
    obtain ⟨so, sc, rfl, _, _⟩ := hl
    by_cases hf : ds.length ≤ 24 ∧ MayD ds
    · rw [decide_eq_true hf] at kM
      have HFI : Hid (Fine ds) := ⟨hf.2, hf.1⟩
      clear hf h40 h20
      by_cases hn1 : os.length < 1 ∨ 4 < os.length
      · obtain ⟨lo, lc, rfl, _, _⟩ := ho
        clear HO HIN
        generalize os.length = n at *
        rcases hn1 with hn1 | hn1
        · have hn1' : (n : Int) < 1 := by omega
          clear hn1
          go_enter Try.func4, Try.ntmps4
          go_wp2_with (first
            | (go_at_call 7; refine (kD _ (by repeat (first | with_reducible exact Adds.refl _ | with_reducible refine Adds.alloc ?_ _ | with_reducible refine Adds.more ?_ _ _ | with_reducible refine Adds.drew ?_ | with_reducible refine Adds.drewN ?_ _))).mono ?_; rintro e w1 ⟨rfl, os1, n1, rfl⟩)
            | (go_at_call 8; refine (kM _ (by repeat (first | with_reducible exact Adds.refl _ | with_reducible refine Adds.alloc ?_ _ | with_reducible refine Adds.more ?_ _ _ | with_reducible refine Adds.drew ?_ | with_reducible refine Adds.drewN ?_ _))).mono ?_; rintro e w3 ⟨rfl, os3, n3, rfl⟩)
            | (go_at_call 9; refine (awake_any _).mono ?_; rintro e w2 ⟨rfl, os2, n2, rfl⟩))
          go_ret
          exact ⟨rfl, (by repeat (first | with_reducible exact Adds.refl _ | with_reducible refine Adds.alloc ?_ _ | with_reducible refine Adds.more ?_ _ _ | with_reducible refine Adds.drew ?_ | with_reducible refine Adds.drewN ?_ _))⟩
        · have hn1' : (4 : Int) < (n : Int) := by omega
          have hn2' : ¬ (n : Int) < 1 := by omega
          clear hn1
          go_enter Try.func4, Try.ntmps4
          go_wp2_with (first
            | (go_at_call 7; refine (kD _ (by repeat (first | with_reducible exact Adds.refl _ | with_reducible refine Adds.alloc ?_ _ | with_reducible refine Adds.more ?_ _ _ | with_reducible refine Adds.drew ?_ | with_reducible refine Adds.drewN ?_ _))).mono ?_; rintro e w1 ⟨rfl, os1, n1, rfl⟩)
            | (go_at_call 8; refine (kM _ (by repeat (first | with_reducible exact Adds.refl _ | with_reducible refine Adds.alloc ?_ _ | with_reducible refine Adds.more ?_ _ _ | with_reducible refine Adds.drew ?_ | with_reducible refine Adds.drewN ?_ _))).mono ?_; rintro e w3 ⟨rfl, os3, n3, rfl⟩)
            | (go_at_call 9; refine (awake_any _).mono ?_; rintro e w2 ⟨rfl, os2, n2, rfl⟩))
          go_ret
          exact ⟨rfl, (by repeat (first | with_reducible exact Adds.refl _ | with_reducible refine Adds.alloc ?_ _ | with_reducible refine Adds.more ?_ _ _ | with_reducible refine Adds.drew ?_ | with_reducible refine Adds.drewN ?_ _))⟩
      · obtain ⟨lo, lc, rfl, hcap, _⟩ := ho
        have h1' : ¬ (os.length : Int) < 1 := by omega
        have h4' : ¬ (4 : Int) < (os.length : Int) := by omega
        have hol : os.length ≤ 4 := by omega
        have hol1 : 1 ≤ os.length := by omega
        clear hn1
        go_enter Try.func4, Try.ntmps4
        go_wp2_with (first
          | (go_at_call 7; refine (kD _ (by repeat (first | with_reducible exact Adds.refl _ | with_reducible refine Adds.alloc ?_ _ | with_reducible refine Adds.more ?_ _ _ | with_reducible refine Adds.drew ?_ | with_reducible refine Adds.drewN ?_ _))).mono ?_; rintro e w1 ⟨rfl, os1, n1, rfl⟩)
          | (go_at_call 8; refine (kM _ (by repeat (first | with_reducible exact Adds.refl _ | with_reducible refine Adds.alloc ?_ _ | with_reducible refine Adds.more ?_ _ _ | with_reducible refine Adds.drew ?_ | with_reducible refine Adds.drewN ?_ _))).mono ?_; rintro e w3 ⟨rfl, os3, n3, rfl⟩))
        clear kD kM
        go_loopw [5, 6, 7] (fun tv cv iv wr => ∃ (k : Nat) (c : Int), k ≤ os.length ∧ iv = .int .i64 k ∧ cv = .int .i64 c ∧ (∃ a n m, tv = .slice a n m) ∧ Hid (c = codeB ds (qsOf (os.take k))) ∧ Hid (c = 0 → LstD wr tv (foldT ds (os.take k))) ∧ Hid (∀ j (hj : j < os.length), j < k → os[j].q.doc.length ≤ 20 ∧ os[j].q.want.length ≤ 20 ∧ 1 ≤ os[j].q.kind ∧ os[j].q.kind ≤ 3) ∧ Hid (Adds w wr)) (fun _ _ iv _ => os.length - (intOf iv).toNat)
        case atStart => exact ⟨0, 0, by omega, rfl, rfl, ⟨_, _, _, rfl⟩, by show (0 : Int) = _; simp [qsOf, codeB], by show (0 : Int) = 0 → _; intro _; rw [foldT_zero]; exact HL.out.adds (by repeat (first | with_reducible exact Adds.refl _ | with_reducible refine Adds.alloc ?_ _ | with_reducible refine Adds.more ?_ _ _ | with_reducible refine Adds.drew ?_ | with_reducible refine Adds.drewN ?_ _)), fun j hj h0 => absurd h0 (by omega), by show Adds _ _; exact (by repeat (first | with_reducible exact Adds.refl _ | with_reducible refine Adds.alloc ?_ _ | with_reducible refine Adds.more ?_ _ _ | with_reducible refine Adds.drew ?_ | with_reducible refine Adds.drewN ?_ _))⟩
        case round =>
          obtain ⟨k, c, hk, rfl, rfl, ⟨ta, tn, tc, rfl⟩, HC, HD, HB, HA⟩ := hrel
          by_cases hlt : k < os.length
          · obtain ⟨ao', cap', he, _, hx⟩ := HO.out.adds HA.out
            simp only [Value.slice.injEq] at he
            obtain ⟨rfl, _, rfl⟩ := he
            rcases hx with rfl | ⟨b, off, rfl, hb, hll⟩
            · simp at hlt
            obtain ⟨⟨c0, c1, c2, c3, c4, c5, c6, c7, c8, c9, c10⟩, hq⟩ := hll k hlt
            obtain ⟨xs, hxs⟩ := HIN.out _ (List.getElem_mem hlt)
            have hxs := hxs.adds HA.out
            have HNX : Hid _ := codeB_next (ds := ds) hlt
            have HFT : Hid _ := foldT_next (ds := ds) hlt
            have HBN : Hid (os[k].q.doc.length ≤ 20 → os[k].q.want.length ≤ 20 → 1 ≤ os[k].q.kind → os[k].q.kind ≤ 3 → ∀ j (hj : j < os.length), j < k + 1 → os[j].q.doc.length ≤ 20 ∧ os[j].q.want.length ≤ 20 ∧ 1 ≤ os[j].q.kind ∧ os[j].q.kind ≤ 3) := by
              intro a1 a2 a3 a4 j hj hjk
              by_cases e : j = k
              · subst e; exact ⟨a1, a2, a3, a4⟩
              · exact HB.out j hj (by omega)
            clear hll
            generalize os[k] = x at *
            have kL := fun W (hA : Adds wr W) => lightL_any x xs W (hq.adds hA) (hxs.adds hA)
            obtain ⟨q, dv, wv, lv, sv, nv⟩ := x
            obtain ⟨hd1, hw1, ⟨la, ln, lc', h51⟩, ⟨sa, sn, sc', h52⟩, ⟨na, nn, nc', h53⟩⟩ := hq
            simp only at h51 h52 h53 hd1 hw1 hxs HBN HFT HNX c0 c1 c2 c3 c4 c5 c6 c7 c8 c9 c10
            subst h51 h52 h53
            have HD1 : Hid (Lst wr dv q.doc) := hd1
            have HW1 : Hid (Lst wr wv q.want) := hw1
            obtain ⟨da, dc', rfl, _, _⟩ := hd1
            obtain ⟨wa, wc', rfl, _, _⟩ := hw1
            simp only [Qv.val, opV] at kL
            have hki : (k : Int) < (os.length : Int) := by omega
            have hk4 : (k : Int) ≤ 4 := by omega
            clear hxs
            go_wp2_with fail
            refine (kL _ (by repeat (first | with_reducible exact Adds.refl _ | with_reducible refine Adds.alloc ?_ _ | with_reducible refine Adds.more ?_ _ _ | with_reducible refine Adds.drew ?_ | with_reducible refine Adds.drewN ?_ _))).mono ?_
            rintro e w4 ⟨bb, rfl, ⟨os4, n4, rfl⟩, HBB⟩
            clear kL
            cases bb with
            | false =>
              go_wp2_with (go_at_call 9; refine (awake_any _).mono ?_; rintro e w2 ⟨rfl, os2, n2, rfl⟩)
              go_ret
              exact ⟨rfl, HA.out.trans (by repeat (first | with_reducible exact Adds.refl _ | with_reducible refine Adds.alloc ?_ _ | with_reducible refine Adds.more ?_ _ _ | with_reducible refine Adds.drew ?_ | with_reducible refine Adds.drewN ?_ _))⟩
            | true =>
              obtain ⟨h1, h2, _, _⟩ := HBB.out rfl
              simp only at h1 h2
              have H12 : Hid (q.doc.length ≤ 20 ∧ q.want.length ≤ 20) := ⟨h1, h2⟩
              clear h1 h2 HBB
              by_cases hk1 : q.kind < 1
              · go_wp2_with (go_at_call 9; refine (awake_any _).mono ?_; rintro e w2 ⟨rfl, os2, n2, rfl⟩)
                go_ret
                exact ⟨rfl, HA.out.trans (by repeat (first | with_reducible exact Adds.refl _ | with_reducible refine Adds.alloc ?_ _ | with_reducible refine Adds.more ?_ _ _ | with_reducible refine Adds.drew ?_ | with_reducible refine Adds.drewN ?_ _))⟩
              by_cases hk3 : 3 < q.kind
              · go_wp2_with (go_at_call 9; refine (awake_any _).mono ?_; rintro e w2 ⟨rfl, os2, n2, rfl⟩)
                go_ret
                exact ⟨rfl, HA.out.trans (by repeat (first | with_reducible exact Adds.refl _ | with_reducible refine Adds.alloc ?_ _ | with_reducible refine Adds.more ?_ _ _ | with_reducible refine Adds.drew ?_ | with_reducible refine Adds.drewN ?_ _))⟩
              have HBN' : Hid _ := HBN.out H12.out.1 H12.out.2 (by omega) (by omega)
              clear HBN
              by_cases hc0 : c = 0
              · subst hc0
                have hD := HD.out rfl
                have hF := foldT_fine HFI.out HC.out.symm
                have kP := fun W (hA : Adds wr W) => turn_opened (.slice ta tn tc) (foldT ds (os.take k)) q da q.doc.length dc' wa q.want.length wc' la ln lc' sa sn sc' na nn nc' W (hD.adds hA) hF (Lst.adds HD1.out hA) (Lst.adds HW1.out hA) H12.out.1 H12.out.2 (by omega) (by omega)
                have HFF : Hid (Fine (foldT ds (os.take k))) := hF
                clear hD hF HD
                generalize (decide (codeT (foldT ds (os.take k)) q = 7) && hasAt q.key (foldT ds (os.take k))) = ah at *
                generalize nOf 0 (csT (foldT ds (os.take k)) q).length = N at *
                generalize hct : codeT (foldT ds (os.take k)) q = ct at *
                have HCT : Hid (codeT (foldT ds (os.take k)) q = ct) := hct
                clear hct
                go_wp2_with fail
                refine (kP _ (by repeat (first | with_reducible exact Adds.refl _ | with_reducible refine Adds.alloc ?_ _ | with_reducible refine Adds.more ?_ _ _ | with_reducible refine Adds.drew ?_ | with_reducible refine Adds.drewN ?_ _))).mono ?_
                rintro e w6 ⟨to6, tn6, tc6, ao6, an6, ac6, co6, cn6, cc6, rfl, ⟨os6, n6, rfl⟩, H6⟩
                go_wp2_with fail
                go_roundw
                case rel =>
                  refine ⟨k + 1, ct, by omega, by go_num, rfl, ⟨_, _, _, rfl⟩, ?_, ?_, HBN'.out, ?_⟩
                  · show _ = _
                    rw [HNX.out, if_pos HC.out.symm]
                  · show _ → _
                    intro h0
                    rw [HFT.out]
                    have := H6.out
                    rw [if_pos h0] at this
                    exact this.adds (by repeat (first | with_reducible exact Adds.refl _ | with_reducible refine Adds.alloc ?_ _ | with_reducible refine Adds.more ?_ _ _ | with_reducible refine Adds.drew ?_ | with_reducible refine Adds.drewN ?_ _))
                  · show Adds _ _
                    exact HA.out.trans (by repeat (first | with_reducible exact Adds.refl _ | with_reducible refine Adds.alloc ?_ _ | with_reducible refine Adds.more ?_ _ _ | with_reducible refine Adds.drew ?_ | with_reducible refine Adds.drewN ?_ _))
                case measure => simp [intOf]; omega
              · have hc1 : (c == 0) = false := by simpa using hc0
                have hc2 : (c != 0) = true := by simpa using hc0
                go_wp2_with fail
                go_roundw
                case rel =>
                  refine ⟨k + 1, c, by omega, by go_num, rfl, ⟨_, _, _, rfl⟩, ?_, ?_, HBN'.out, ?_⟩
                  · show _ = _
                    rw [HNX.out, if_neg (by rw [← HC.out]; exact hc0), HC.out]
                  · show _ → _
                    intro h0
                    exact absurd h0 hc0
                  · show Adds _ _
                    exact HA.out.trans (by repeat (first | with_reducible exact Adds.refl _ | with_reducible refine Adds.alloc ?_ _ | with_reducible refine Adds.more ?_ _ _ | with_reducible refine Adds.drew ?_ | with_reducible refine Adds.drewN ?_ _))
                case measure => simp [intOf]; omega
          · have hkk : k = os.length := by omega
            subst hkk
            have hC := HC.out
            rw [List.take_length] at hC
            have hB : ∀ x ∈ os, x.q.doc.length ≤ 20 ∧ x.q.want.length ≤ 20 ∧ 1 ≤ x.q.kind ∧ x.q.kind ≤ 3 := by
              intro x hx
              obtain ⟨j, hj, rfl⟩ := List.mem_iff_getElem.1 hx
              exact HB.out j hj hj
            have hal : os.any (fun v => aloneQ v.q) = false := by
              rw [Bool.eq_false_iff]
              intro h
              obtain ⟨x, hx, hxa⟩ := List.any_eq_true.1 h
              obtain ⟨_, _, b1, b2⟩ := hB x hx
              unfold aloneQ at hxa
              simp at hxa
              omega
            have hbt : codeBt ds os = c := by
              unfold codeBt
              rw [if_neg (by rw [hal]; rintro (h | h | h) <;> first | omega | cases h), hC]
            have kB := fun W (hA : Adds w W) => batch_opened (.slice so ds.length sc) (.slice lo os.length lc) ds os 7 W (HL.out.adds hA) HFI.out ((HO.out.adds hA).ok (fun v hv => by have := hB v hv; omega)) (by omega) (fun x hx => by have := hB x hx; omega) ⟨by omega, by omega⟩
            rw [hbt] at kB
            have kB := fun W (hA : Adds wr W) => kB W (HA.out.trans hA)
            by_cases hc0 : c = 0
            · subst hc0
              have hD := HD.out rfl
              rw [List.take_length] at hD
              have hcs : csB ds os = os.map (fun v => chgT v.q) := by
                unfold csB
                rw [if_pos hbt]
              have hln : (csB ds os).length = os.length := by rw [hcs, List.length_map]
              have hfd : foldC ds (csB ds os) = foldT ds os := by rw [hcs, foldT_foldC]
              have hN : nOf 7 (csB ds os).length = 7 + (os.length : Int) := by
                unfold nOf
                rw [hln, if_neg (by omega)]
              rw [hN, hfd, hln] at kB
              have hff : Fine (foldT ds os) := by
                have := foldT_fine (os := os) (k := os.length) HFI.out (by rw [List.take_length]; exact hC.symm)
                rwa [List.take_length] at this
              have kS := fun W s' (hl' : LstD W s' (foldT ds os)) (hA : Adds wr W) => docsS_any s' (.slice ta tn tc) (foldT ds os) W hl' (hD.adds hA) (by have := hff.2; omega) hff.docs
              clear hD hcs hln hfd hN hff hbt hB hal hC HB HC HD
              go_wp2_with fail
              refine (kB _ (by repeat (first | with_reducible exact Adds.refl _ | with_reducible refine Adds.alloc ?_ _ | with_reducible refine Adds.more ?_ _ _ | with_reducible refine Adds.drew ?_ | with_reducible refine Adds.drewN ?_ _))).mono ?_
              rintro e w6 ⟨to6, tn6, tc6, ao6, an6, ac6, co6, cc6, rfl, ⟨os6, n6, rfl⟩, H6⟩
              go_wp2_with (first
                | (go_at_call 12; refine (kS _ _ (by exact H6.out.adds (by repeat (first | with_reducible exact Adds.refl _ | with_reducible refine Adds.alloc ?_ _ | with_reducible refine Adds.more ?_ _ _ | with_reducible refine Adds.drew ?_ | with_reducible refine Adds.drewN ?_ _))) (by repeat (first | with_reducible exact Adds.refl _ | with_reducible refine Adds.alloc ?_ _ | with_reducible refine Adds.more ?_ _ _ | with_reducible refine Adds.drew ?_ | with_reducible refine Adds.drewN ?_ _))).mono ?_; rintro e w8 ⟨rfl, os8, n8, rfl⟩)
                | (go_at_call 9; refine (awake_any _).mono ?_; rintro e w2 ⟨rfl, os2, n2, rfl⟩))
              go_ret
              exact ⟨rfl, HA.out.trans (by repeat (first | with_reducible exact Adds.refl _ | with_reducible refine Adds.alloc ?_ _ | with_reducible refine Adds.more ?_ _ _ | with_reducible refine Adds.drew ?_ | with_reducible refine Adds.drewN ?_ _))⟩
            · have hcs : csB ds os = [] := by
                unfold csB
                rw [if_neg (by rw [hbt]; exact hc0)]
              have hfd : foldC ds (csB ds os) = ds := by rw [hcs]; rfl
              have hln : (csB ds os).length = 0 := by rw [hcs]; rfl
              have hN : nOf 7 0 = 0 := rfl
              rw [hfd, hln, hN] at kB
              have kS := fun W s' (hl' : LstD W s' ds) (hA : Adds wr W) => docsS_any s' (.slice so ds.length sc) ds W hl' (HL.out.adds (HA.out.trans hA)) (by have := HFI.out.2; omega) HFI.out.docs
              have hc1 : (c == 0) = false := by simpa using hc0
              have hc2 : (c != 0) = true := by simpa using hc0
              have hz : ((0 : Int) == (os.length : Int)) = false := by simp; omega
              clear hcs hln hfd hN hbt hB hal hC HB HC HD
              go_wp2_with fail
              refine (kB _ (by repeat (first | with_reducible exact Adds.refl _ | with_reducible refine Adds.alloc ?_ _ | with_reducible refine Adds.more ?_ _ _ | with_reducible refine Adds.drew ?_ | with_reducible refine Adds.drewN ?_ _))).mono ?_
              rintro e w6 ⟨to6, tn6, tc6, ao6, an6, ac6, co6, cc6, rfl, ⟨os6, n6, rfl⟩, H6⟩
              go_wp2_with (first
                | (go_at_call 12; refine (kS _ _ (by exact H6.out.adds (by repeat (first | with_reducible exact Adds.refl _ | with_reducible refine Adds.alloc ?_ _ | with_reducible refine Adds.more ?_ _ _ | with_reducible refine Adds.drew ?_ | with_reducible refine Adds.drewN ?_ _))) (by repeat (first | with_reducible exact Adds.refl _ | with_reducible refine Adds.alloc ?_ _ | with_reducible refine Adds.more ?_ _ _ | with_reducible refine Adds.drew ?_ | with_reducible refine Adds.drewN ?_ _))).mono ?_; rintro e w8 ⟨rfl, os8, n8, rfl⟩)
                | (go_at_call 9; refine (awake_any _).mono ?_; rintro e w2 ⟨rfl, os2, n2, rfl⟩))
              go_ret
              exact ⟨rfl, HA.out.trans (by repeat (first | with_reducible exact Adds.refl _ | with_reducible refine Adds.alloc ?_ _ | with_reducible refine Adds.more ?_ _ _ | with_reducible refine Adds.drew ?_ | with_reducible refine Adds.drewN ?_ _))⟩
    · rw [decide_eq_false hf] at kM
      obtain ⟨lo, lc, rfl, _, _⟩ := ho
      clear HO HIN hf h40 h20
      generalize os.length = n at *
      go_enter Try.func4, Try.ntmps4
      go_wp2_with (first
        | (go_at_call 7; refine (kD _ (by repeat (first | with_reducible exact Adds.refl _ | with_reducible refine Adds.alloc ?_ _ | with_reducible refine Adds.more ?_ _ _ | with_reducible refine Adds.drew ?_ | with_reducible refine Adds.drewN ?_ _))).mono ?_; rintro e w1 ⟨rfl, os1, n1, rfl⟩)
        | (go_at_call 8; refine (kM _ (by repeat (first | with_reducible exact Adds.refl _ | with_reducible refine Adds.alloc ?_ _ | with_reducible refine Adds.more ?_ _ _ | with_reducible refine Adds.drew ?_ | with_reducible refine Adds.drewN ?_ _))).mono ?_; rintro e w3 ⟨rfl, os3, n3, rfl⟩)
        | (go_at_call 9; refine (awake_any _).mono ?_; rintro e w2 ⟨rfl, os2, n2, rfl⟩))
      go_ret
      exact ⟨rfl, (by repeat (first | with_reducible exact Adds.refl _ | with_reducible refine Adds.alloc ?_ _ | with_reducible refine Adds.more ?_ _ _ | with_reducible refine Adds.drew ?_ | with_reducible refine Adds.drewN ?_ _))⟩

end Go.Proofs.Ytgnhkpihlghbmaa

namespace Go.Proofs.Ytgnhkpihlghbmaa
open Go.RowKit
attribute [local go_sem] cell?_more frozen?_more setCell_more size_more tape_more drew_more drewN_more more_drew more_drewN one_out plus_out plus_end lt_one le_p2 le_p3 le_p4 le_p5 le_p6 le_p7 le_p8 le_p9 le_p10 le_p11 le_p12 le_p13 le_p14 le_p15 le_p16 le_p17 le_p18 le_p19 le_p20 le_p21 le_p22 le_p23 le_p24 le_q0 le_q1 lt_q1 le_q2 lt_q2 le_q3 lt_q3 le_q4 lt_q4 le_q5 lt_q5 le_q6 lt_q6 le_q7 lt_q7 le_q8 lt_q8 le_q9 lt_q9 le_q10 lt_q10 le_q11 lt_q11 le_q12 lt_q12 le_q13 lt_q13 le_q14 lt_q14 le_q15 lt_q15 le_q16 lt_q16 le_q17 lt_q17 le_q18 lt_q18 le_q19 lt_q19 le_q20 lt_q20 le_q21 lt_q21 le_q22 lt_q22 le_q23 lt_q23 le_q24 lt_q24

open Go.ChangeShapes Go.WideShapes Go.ChangeAt Go.RowKit Go.Joins Go.ChangeMaps

set_option maxRecDepth 20000 in
theorem trod_ops2 {H : Type} {enc : TypeId × Value → H} {w : World} {fuel : Nat} {c : Value} {x : DataW H × List MemPlace} (hf : DataW.trod enc Try.prog w 0 (fun _ => true) true fuel 23 [c] = some x) : ∃ os, LstP w c os ∧ ∀ v ∈ os, ∃ xs, LstP w v.lv xs := by
  obtain ⟨l, ao, cap, rfl, hle, h⟩ := open_gen (α := Qv) (R := fun v cs => cs = v.cells ∧ QvRaw w v ∧ ∃ xs, LstP w v.lv xs) Try.underlying23 Try.cells31 (by omega) (fun n cs y h _ => by
    obtain ⟨v, h1, h2, m, z, hz⟩ := trod_op h
    exact ⟨v, h1, h2, trod_ops hz⟩) hf
  refine ⟨l, ⟨ao, cap, rfl, hle, ?_⟩, ?_⟩
  · rcases h with h | ⟨b, off, rfl, hb, hh⟩
    · exact .inl h
    · refine .inr ⟨b, off, rfl, hb, fun j hj => ?_⟩
      obtain ⟨cs, ⟨rfl, hr, _⟩, _, hc⟩ := hh j hj
      exact ⟨⟨hc 0 (by simp [Qv.cells]), hc 1 (by simp [Qv.cells]), hc 2 (by simp [Qv.cells]), hc 3 (by simp [Qv.cells]), hc 4 (by simp [Qv.cells]), hc 5 (by simp [Qv.cells]), hc 6 (by simp [Qv.cells]), hc 7 (by simp [Qv.cells]), hc 8 (by simp [Qv.cells]), hc 9 (by simp [Qv.cells]), hc 10 (by simp [Qv.cells])⟩, hr⟩
  · intro v hv
    rcases h with rfl | ⟨b, off, rfl, hb, hh⟩
    · cases hv
    · obtain ⟨j, hj, rfl⟩ := List.mem_iff_getElem.1 hv
      obtain ⟨cs, ⟨rfl, _, hx⟩, _, _⟩ := hh j hj
      exact hx

set_option maxRecDepth 20000 in
theorem open_ops {H : Type} {enc : TypeId × Value → H} {w : World} {b0 : Nat} {r : Reach} {v : Value} {d : DataW H} {ps : List MemPlace}
    (hv : Value.okWide Try.prog w r b0 23 v) (h : DataW.Trod enc Try.prog w 0 (fun _ => true) true 23 v d ps) : ∃ os, LstP w v os ∧ ∀ x ∈ os, ∃ xs, LstP w x.lv xs := by
  obtain ⟨ao, len, cap, rfl⟩ := okWide_slice Try.underlying23 hv
  obtain ⟨fuel, hf⟩ := h
  exact trod_ops2 hf

end Go.Proofs.Ytgnhkpihlghbmaa
