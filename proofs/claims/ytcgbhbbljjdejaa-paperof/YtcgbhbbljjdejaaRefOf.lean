/-
  The document's own Of, by a contract.
-/
import Derived.Test.YtcgbhbbljjdejaaLoose
namespace Go.Proofs.Ytcgbhbbljjdejaa
open Go.RowKit
attribute [local go_sem] cell?_more frozen?_more setCell_more size_more tape_more drew_more drewN_more more_drew more_drewN one_out plus_out plus_end lt_one le_p2 le_p3 le_p4 le_p5 le_p6 le_p7 le_p8 le_p9 le_p10 le_p11 le_p12 le_p13 le_p14 le_p15 le_p16 le_p17 le_p18 le_p19 le_p20 le_p21 le_p22 le_p23 le_p24 le_q0 le_q1 lt_q1 le_q2 lt_q2 le_q3 lt_q3 le_q4 lt_q4 le_q5 lt_q5 le_q6 lt_q6 le_q7 lt_q7 le_q8 lt_q8 le_q9 lt_q9 le_q10 lt_q10 le_q11 lt_q11 le_q12 lt_q12 le_q13 lt_q13 le_q14 lt_q14 le_q15 lt_q15 le_q16 lt_q16 le_q17 lt_q17 le_q18 lt_q18 le_q19 lt_q19 le_q20 lt_q20 le_q21 lt_q21 le_q22 lt_q22 le_q23 lt_q23 le_q24 lt_q24

def RefTold (c : T) (w : World) (v : Value) (q : Bool) : Prop :=
  (∀ L, loose c.list = some L → May L → docT L = c → q = true ∧ Lst w v L) ∧ ((∀ L, loose c.list = some L → ¬ (May L ∧ docT L = c)) → v = .slice none 0 0 ∧ q = false)

theorem refTold_no {c : T} {w : World} (h : ∀ L, loose c.list = some L → ¬ (May L ∧ docT L = c)) : RefTold c w (.slice none 0 0) false :=
  ⟨fun L h1 h2 h3 => absurd ⟨h2, h3⟩ (h L h1), fun _ => ⟨rfl, rfl⟩⟩

theorem refTold_yes {c : T} {w : World} {v : Value} {L : List F} (h1 : loose c.list = some L) (h2 : May L) (h3 : docT L = c) (h4 : Lst w v L) : RefTold c w v true := by
  refine ⟨fun L' h' _ _ => ?_, fun h => absurd ⟨h2, h3⟩ (h L h1)⟩
  rw [h1] at h'
  cases h'
  exact ⟨rfl, h4⟩

set_option maxRecDepth 20000 in
set_option maxHeartbeats 4000000 in
theorem refOf_of (hRef : ∀ (s : Value) (fs : List F) (w : World), Lst w s fs → May fs →
      Calls Try.prog 29 #[s] w fun e w' => ∃ r, e = .returned (.agg #[.int .i64 3, .int .i64 0, .string ⟨#[]⟩, r]) ∧ Tr (fun _ => True) 3 w' r (docT fs).list ∧ Adds w w')
    {ok : Nat → Prop} {d : Nat} (c : T) (s : Value) (w : World) (h : Tr ok d w s c.list) (hlen : c.list.length ≤ 1000) :
    Calls Try.prog 31 #[cellV c s] w fun e w' => ∃ v q, e = .returned (.tuple #[v, .bool q]) ∧ RefTold c w' v q ∧ Adds w w' := by
  obtain ⟨ao, cap, rfl⟩ := h.shape
  obtain ⟨ck, cn, cx, ts⟩ := c
  simp only [T.list] at h hlen
  simp only [cellV, T.kind, T.num, T.text, T.list]
  have hW1 : (w.alloc (.cells #[.int .i64 ck, .int .i64 cn, .string cx, .slice ao ts.length cap] 50)).heap.size = w.heap.size + 1 := by simp
  go_enter Try.func31, Try.ntmps31
  go_wp2
  go_loopw [4, 5] (fun dv i W => ∃ (k : Nat) (l : List F), k ≤ ts.length ∧ i = .int .i64 k ∧ l.length = k ∧ loose ts = (loose (ts.drop k)).map (l ++ ·) ∧ Own (w.heap.size + 1) dv l (w.alloc (.cells #[.int .i64 ck, .int .i64 cn, .string cx, .slice ao ts.length cap] 50)) W) (fun _ i _ => ts.length - (intOf i).toNat)
  case atStart =>
    refine ⟨0, [], Nat.zero_le _, rfl, rfl, by simp, ?_⟩
    have := own_empty (w.alloc (.cells #[.int .i64 ck, .int .i64 cn, .string cx, .slice ao ts.length cap] 50))
    rw [hW1] at this
    exact this
  case round =>
    obtain ⟨_, l, hk, rfl, rfl, hlo, hown⟩ := hrel
    have hb := hown.2.1
    have hbox := fun i => (hb.cell (p := ⟨w.heap.size, i, none⟩) (show w.heap.size < w.heap.size + 1 by omega))
    have x0 := hbox 0
    have x1 := hbox 1
    have x2 := hbox 2
    have x3 := hbox 3
    simp at x0 x1 x2 x3
    have hB1 : w.heap.size < wr.heap.size := Nat.lt_of_lt_of_le (by omega) hown.2.2
    have HL : Hid _ := hlo
    clear hlo hbox
    by_cases hlt : l.length < ts.length
    · obtain ⟨e, b, off, x, he, rfl, hbb, ⟨c0, c1, c2, c3⟩, htx⟩ := h.elem hlt
      have mv : ∀ (B i : Nat) (u : Value), B < w.heap.size → w.cell? ⟨B, i, none⟩ = some u → wr.cell? ⟨B, i, none⟩ = some u := fun B i u hB hu => by
        rw [hb.cell (p := ⟨B, i, none⟩) (show B < w.heap.size + 1 by omega), ((Adds.refl w).alloc _).below.cell (p := ⟨B, i, none⟩) hB]
        exact hu
      have c0 := mv _ _ _ hbb c0
      have c1 := mv _ _ _ hbb c1
      have c2 := mv _ _ _ hbb c2
      have c3 := mv _ _ _ hbb c3
      have hb1 : b < wr.heap.size := by omega
      have HD : Hid (ts.drop l.length = ts[l.length] :: ts.drop (l.length + 1)) := List.drop_eq_getElem_cons hlt
      generalize ts[l.length] = t at *
      by_cases h2 : t.list.length = 2
      · obtain ⟨p, q, hpq⟩ : ∃ p q, t.list = [p, q] := by
          match hq : t.list, h2 with
          | [p, q], _ => exact ⟨p, q, rfl⟩
        have HN : Hid (loose ts = (loose (ts.drop (l.length + 1))).map ((l ++ [fOfL p q]) ++ ·)) := by
          show loose ts = _
          rw [HL.out, HD.out, loose_next hpq]
          simp [Option.map_map, Function.comp_def]
        rw [hpq] at htx
        cases e with
        | zero =>
          obtain ⟨h0, _⟩ := htx
          cases h0
        | succ e =>
        obtain ⟨xo, xc, rfl, _, h0 | ⟨b', off', rfl, hb', hok', hx'⟩⟩ := htx
        · exact absurd h0 (by simp)
        obtain ⟨y0, ⟨p0, p1, p2, p3⟩, hps, _⟩ := hx' 0 (by simp)
        obtain ⟨y1, ⟨q0, q1, q2, q3⟩, _, hqt⟩ := hx' 1 (by simp)
        simp only [List.length_cons, List.length_nil, List.getElem_cons_zero, List.getElem_cons_succ, Nat.zero_mul, Nat.add_zero, Nat.one_mul, Nat.zero_add, Nat.reduceAdd] at p0 p1 p2 p3 q0 q1 q2 q3 c3 hps hqt
        have p2 := mv _ _ _ hb' p2
        have q0 := mv _ _ _ hb' q0
        have q1 := mv _ _ _ hb' q1
        have q2 := mv _ _ _ hb' q2
        have q3 := mv _ _ _ hb' q3
        have hb'' : b' < wr.heap.size := by omega
        obtain ⟨no, nc, hnv⟩ : ∃ no nc, u4 = .slice no l.length nc := by
          obtain ⟨no, nc, e, _⟩ := hown.lst
          exact ⟨no, nc, e⟩
        subst hnv
        clear hx' p0 p1 p3 hpq HL HD
        by_cases hq2 : q.list.length = 2
        · obtain ⟨a, a2, hqq⟩ : ∃ a b, q.list = [a, b] := by
            match hq : q.list, hq2 with
            | [a, b], _ => exact ⟨a, b, rfl⟩
          rw [hqq] at hqt
          cases e with
          | zero =>
            obtain ⟨h0, _⟩ := hqt
            cases h0
          | succ e =>
          obtain ⟨zo, zc, rfl, _, h0 | ⟨b3, off3, rfl, hb3, hok3, hx3⟩⟩ := hqt
          · exact absurd h0 (by simp)
          obtain ⟨z0, ⟨_, a1, _, _⟩, _, _⟩ := hx3 0 (by simp)
          obtain ⟨z1, ⟨_, a21, _, _⟩, _, _⟩ := hx3 1 (by simp)
          simp only [List.length_cons, List.length_nil, List.getElem_cons_zero, List.getElem_cons_succ, Nat.zero_mul, Nat.add_zero, Nat.one_mul, Nat.zero_add, Nat.reduceAdd] at a1 a21 q3
          have a1 := mv _ _ _ hb3 a1
          have a21 := mv _ _ _ hb3 a21
          have hb3' : b3 < wr.heap.size := by omega
          clear hx3 mv
          by_cases hk2 : q.kind = 2
          · skip
            have HF : Hid (fOfL p q = ⟨p.text, ⟨3, 0, ⟨#[]⟩, a.num, a2.num⟩, hps⟩) := by
              show fOfL p q = _
              simp [fOfL, hps, valL_two hqq]
            have hkq : (q.kind == 2) = true := by simp [hk2]
            generalize t.kind = tk at *
            generalize t.num = tn at *
            generalize t.text = tx at *
            go_wp2
            go_region_with (fail)
            all_goals go_wp2
            all_goals go_region_law (refine own_step rfl (.tmp 62) (.tmp 69) rfl (hown.adds (by repeat (first | with_reducible exact Adds.refl _ | with_reducible refine Adds.alloc ?_ _ | with_reducible refine Adds.more ?_ _ _ | with_reducible refine Adds.drew ?_ | with_reducible refine Adds.drewN ?_ _))) rfl (lst_new (f := ⟨p.text, ⟨3, 0, ⟨#[]⟩, a.num, a2.num⟩, hps⟩) (by simp [go_sem])) rfl (by simp only [List.length_singleton]; omega) ?_; intro v2 w2 hown2)
            all_goals
              go_wp2
              go_roundw
              case rel => exact ⟨l.length + 1, l ++ [fOfL p q], by omega, by go_num, by simp, HN.out, by rw [HF.out]; exact hown2⟩
              case measure => simp [intOf]; omega
          · skip
            have HF : Hid (fOfL p q = ⟨p.text, ⟨3, 0, ⟨#[]⟩, a.num, a2.num⟩, hps⟩) := by
              show fOfL p q = _
              simp [fOfL, hps, valL_two hqq]
            have hkq : (q.kind == 2) = false := by simp [hk2]
            generalize t.kind = tk at *
            generalize t.num = tn at *
            generalize t.text = tx at *
            go_wp2
            go_region_with (fail)
            all_goals go_wp2
            all_goals go_region_law (refine own_step rfl (.tmp 62) (.tmp 69) rfl (hown.adds (by repeat (first | with_reducible exact Adds.refl _ | with_reducible refine Adds.alloc ?_ _ | with_reducible refine Adds.more ?_ _ _ | with_reducible refine Adds.drew ?_ | with_reducible refine Adds.drewN ?_ _))) rfl (lst_new (f := ⟨p.text, ⟨3, 0, ⟨#[]⟩, a.num, a2.num⟩, hps⟩) (by simp [go_sem])) rfl (by simp only [List.length_singleton]; omega) ?_; intro v2 w2 hown2)
            all_goals
              go_wp2
              go_roundw
              case rel => exact ⟨l.length + 1, l ++ [fOfL p q], by omega, by go_num, by simp, HN.out, by rw [HF.out]; exact hown2⟩
              case measure => simp [intOf]; omega
        · obtain ⟨yo, yc, rfl⟩ := hqt.shape
          have hq2' : ((q.list.length : Int) == 2) = false := by simp; omega
          clear hqt mv
          by_cases hk2 : q.kind = 2
          · skip
            have HF : Hid (fOfL p q = ⟨p.text, ⟨2, 0, q.text, 0, 0⟩, hps⟩) := by
              show fOfL p q = _
              simp [fOfL, hps, valL_not hq2, hk2]
            have hkq : (q.kind == 2) = true := by simp [hk2]
            generalize t.kind = tk at *
            generalize t.num = tn at *
            generalize t.text = tx at *
            go_wp2
            go_region_law (refine own_step rfl (.tmp 62) (.tmp 69) rfl (hown.adds (by repeat (first | with_reducible exact Adds.refl _ | with_reducible refine Adds.alloc ?_ _ | with_reducible refine Adds.more ?_ _ _ | with_reducible refine Adds.drew ?_ | with_reducible refine Adds.drewN ?_ _))) rfl (lst_new (f := ⟨p.text, ⟨2, 0, q.text, 0, 0⟩, hps⟩) (by simp [go_sem])) rfl (by simp only [List.length_singleton]; omega) ?_; intro v2 w2 hown2)
            all_goals
              go_wp2
              go_roundw
              case rel => exact ⟨l.length + 1, l ++ [fOfL p q], by omega, by go_num, by simp, HN.out, by rw [HF.out]; exact hown2⟩
              case measure => simp [intOf]; omega
          · skip
            have HF : Hid (fOfL p q = ⟨p.text, ⟨1, q.num, ⟨#[]⟩, 0, 0⟩, hps⟩) := by
              show fOfL p q = _
              simp [fOfL, hps, valL_not hq2, hk2]
            have hkq : (q.kind == 2) = false := by simp [hk2]
            generalize t.kind = tk at *
            generalize t.num = tn at *
            generalize t.text = tx at *
            go_wp2
            go_region_law (refine own_step rfl (.tmp 62) (.tmp 69) rfl (hown.adds (by repeat (first | with_reducible exact Adds.refl _ | with_reducible refine Adds.alloc ?_ _ | with_reducible refine Adds.more ?_ _ _ | with_reducible refine Adds.drew ?_ | with_reducible refine Adds.drewN ?_ _))) rfl (lst_new (f := ⟨p.text, ⟨1, q.num, ⟨#[]⟩, 0, 0⟩, hps⟩) (by simp [go_sem])) rfl (by simp only [List.length_singleton]; omega) ?_; intro v2 w2 hown2)
            all_goals
              go_wp2
              go_roundw
              case rel => exact ⟨l.length + 1, l ++ [fOfL p q], by omega, by go_num, by simp, HN.out, by rw [HF.out]; exact hown2⟩
              case measure => simp [intOf]; omega
      · have HE : Hid (loose ts = none) := by
          show loose ts = none
          rw [HL.out, HD.out, loose_stop h2]
          rfl
        obtain ⟨xo, xc, rfl⟩ := htx.shape
        have h2' : ((t.list.length : Int) != 2) = true := by simp; omega
        clear htx HD HL mv
        generalize t.list.length = tl at *
        generalize t.kind = tk at *
        generalize t.num = tn at *
        generalize t.text = tx at *
        go_wp2
        go_ret2
        refine ⟨_, _, rfl, refTold_no (fun L hL => by simp only [T.list] at hL; rw [HE.out] at hL; cases hL), ?_⟩
        exact Adds.of ((Adds.refl w).alloc _ |>.below.trans (hb.mono (by omega)))
    · have hk' : l.length = ts.length := by omega
      have HE : Hid (loose ts = some l) := by
        show loose ts = some l
        rw [HL.out, hk', List.drop_length]
        simp [loose]
      have hAw : Adds w wr := Adds.of ((Adds.refl w).alloc _ |>.below.trans (hb.mono (by omega)))
      have hlst := hown.lst
      have hlt' : ¬ (l.length : Int) < (ts.length : Int) := by omega
      have kM := fun W (hA : Adds wr W) => refMay_any _ l W (hlst.adds hA) (by omega)
      by_cases hm : May l
      · rw [decide_eq_true hm] at kM
        have kC := fun W (hA : Adds wr W) => hRef _ l W (hlst.adds hA) hm
        have kS : ∀ r2 W, Adds wr W → Tr (fun _ => True) 3 W r2 (docT l).list → Calls Try.prog 27 #[.agg #[.int .i64 3, .int .i64 0, .string ⟨#[]⟩, r2], .agg #[.int .i64 ck, .int .i64 cn, .string cx, .slice ao ts.length cap]] W fun e w' => ∃ q : Bool, e = .returned (.bool q) ∧ (q = true ↔ docT l = .mk ck cn cx ts) ∧ Adds W w' :=
          fun r2 W hA h2 => refSame_tree 3 _ (docT l) (.mk ck cn cx ts) r2 _ W h2 (h.adds (hAw.trans hA)) ((docT_slim hm.1).2 (docT l) (by simp [tList, T.list]))
        clear hRef HL h hk' hown hb
        generalize (docT l).list = dt at *
        go_wp2
        refine wp_region_any (by kernel_rfl) ?_
        change wpAny _ _ _ _ _ _ _ (World.drew _)
        refine wpAny_take (i := 0) (v := ?_) rfl (by kernel_rfl) (by kernel_rfl) (by kernel_rfl) (fun _ _ _ h => h) (Or.inl ⟨by rfl, fun _ => ?_⟩) ?_
        rotate_left
        · (go_simp; try with_reducible rfl)
        go_simp
        refine wpAny_ready (rs := [1]) (by kernel_rfl) (by simp) ?_
        refine AllReady.cons rfl (fun K hK => ?_) ?_
        · go_simp
          go_wp2_with (go_at_call 13; (with_reducible refine (kM _ (by repeat (first | with_reducible exact Adds.refl _ | with_reducible refine Adds.alloc ?_ _ | with_reducible refine Adds.more ?_ _ _ | with_reducible refine Adds.drew ?_ | with_reducible refine Adds.drewN ?_ _))).mono ?_); rintro e w5 ⟨rfl, os5, n5, rfl⟩)
          try (refine hK _ _ ?_; clear hK K)
          go_simp
          refine wpAny_take (i := 2) (v := ?_) rfl (by kernel_rfl) (by kernel_rfl) (by kernel_rfl) (fun _ _ _ h => h) (Or.inl ⟨by rfl, fun _ => ?_⟩) ?_
          rotate_left
          · (go_simp; try with_reducible rfl)
          go_simp
          refine wpAny_take (i := 3) (v := ?_) rfl (by kernel_rfl) (by kernel_rfl) (by kernel_rfl) (fun _ _ _ h => h) (Or.inl ⟨by rfl, fun _ => ?_⟩) ?_
          rotate_left
          · (go_simp; try with_reducible rfl)
          go_simp
          refine wpAny_take (i := 4) (v := ?_) rfl (by kernel_rfl) (by kernel_rfl) (by kernel_rfl) (fun _ _ _ h => h) (Or.inl ⟨by rfl, fun _ => ?_⟩) ?_
          rotate_left
          · (go_simp; try with_reducible rfl)
          go_simp
          refine wpAny_ready (rs := [5, 6]) (by kernel_rfl) (by simp) ?_
          refine AllReady.cons rfl (fun K hK => ?_) ?_
          · go_simp
            go_wp2_with (go_at_call 29; (with_reducible refine (kC _ (by repeat (first | with_reducible exact Adds.refl _ | with_reducible refine Adds.alloc ?_ _ | with_reducible refine Adds.more ?_ _ _ | with_reducible refine Adds.drew ?_ | with_reducible refine Adds.drewN ?_ _))).mono ?_); rintro e w6 ⟨r6, rfl, hr6, os6, n6, rfl⟩; try simp only [more_drew] at hr6)
            try (refine hK _ _ ?_; clear hK K)
            go_simp
            refine wpAny_ready (rs := [6]) (by kernel_rfl) (by simp) ?_
            refine AllReady.cons rfl (fun K hK => ?_) ?_
            · go_simp
              refine hK _ _ ?_
              clear hK K
              go_simp
              refine wpAny_ready (rs := [7]) (by kernel_rfl) (by simp) ?_
              refine AllReady.cons rfl (fun K hK => ?_) ?_
              · go_simp
                go_wp2_with (go_at_call 27; (with_reducible refine (kS _ _ (by repeat (first | with_reducible exact Adds.refl _ | with_reducible refine Adds.alloc ?_ _ | with_reducible refine Adds.more ?_ _ _ | with_reducible refine Adds.drew ?_ | with_reducible refine Adds.drewN ?_ _)) hr6).mono ?_); rintro e w7 ⟨q7, rfl, hq7, os7, n7, rfl⟩; have HQ : Hid _ := hq7; clear hq7)
                try (refine hK _ _ ?_; clear hK K)
                go_simp
                refine wpAny_take (i := 8) (v := ?_) rfl (by kernel_rfl) (by kernel_rfl) (by kernel_rfl) (fun _ _ _ h => h) (Or.inl ⟨by rfl, fun _ => ?_⟩) ?_
                rotate_left
                · (go_simp; try with_reducible rfl)
                go_simp
                refine wpAny_take (i := 9) (v := ?_) rfl (by kernel_rfl) (by kernel_rfl) (by kernel_rfl) (fun _ _ _ h => h) (Or.inl ⟨by rfl, fun _ => ?_⟩) ?_
                rotate_left
                · (go_simp; try with_reducible rfl)
                go_simp
                refine wpAny_done (by kernel_rfl) ?_ _
                cases q7
                · go_wp2
                  go_ret2
                  refine ⟨_, _, rfl, refTold_no (fun L hL => ?_), hAw.trans (by repeat (first | with_reducible exact Adds.refl _ | with_reducible refine Adds.alloc ?_ _ | with_reducible refine Adds.more ?_ _ _ | with_reducible refine Adds.drew ?_ | with_reducible refine Adds.drewN ?_ _))⟩
                  simp only [T.list] at hL
                  rw [HE.out] at hL
                  cases hL
                  exact fun hh => absurd (HQ.out.2 hh.2) (by simp)
                · go_wp2
                  go_ret2
                  have hyes : docT l = .mk ck cn cx ts := by first | exact HQ.out.1 rfl | exact HQ.out.1 trivial
                  first
                    | exact ⟨u4, true, rfl, refTold_yes HE.out hm hyes (hlst.adds (by repeat (first | with_reducible exact Adds.refl _ | with_reducible refine Adds.alloc ?_ _ | with_reducible refine Adds.more ?_ _ _ | with_reducible refine Adds.drew ?_ | with_reducible refine Adds.drewN ?_ _))), hAw.trans (by repeat (first | with_reducible exact Adds.refl _ | with_reducible refine Adds.alloc ?_ _ | with_reducible refine Adds.more ?_ _ _ | with_reducible refine Adds.drew ?_ | with_reducible refine Adds.drewN ?_ _))⟩
                    | exact ⟨u4, .inr ⟨rfl, refTold_yes HE.out hm hyes (hlst.adds (by repeat (first | with_reducible exact Adds.refl _ | with_reducible refine Adds.alloc ?_ _ | with_reducible refine Adds.more ?_ _ _ | with_reducible refine Adds.drew ?_ | with_reducible refine Adds.drewN ?_ _))), hAw.trans (by repeat (first | with_reducible exact Adds.refl _ | with_reducible refine Adds.alloc ?_ _ | with_reducible refine Adds.more ?_ _ _ | with_reducible refine Adds.drew ?_ | with_reducible refine Adds.drewN ?_ _))⟩⟩
              exact AllReady.nil
            exact AllReady.nil
          refine AllReady.cons rfl (fun K hK => ?_) ?_
          · go_simp
            refine hK _ _ ?_
            clear hK K
            go_simp
            refine wpAny_ready (rs := [5]) (by kernel_rfl) (by simp) ?_
            refine AllReady.cons rfl (fun K hK => ?_) ?_
            · go_simp
              go_wp2_with (go_at_call 29; (with_reducible refine (kC _ (by repeat (first | with_reducible exact Adds.refl _ | with_reducible refine Adds.alloc ?_ _ | with_reducible refine Adds.more ?_ _ _ | with_reducible refine Adds.drew ?_ | with_reducible refine Adds.drewN ?_ _))).mono ?_); rintro e w6 ⟨r6, rfl, hr6, os6, n6, rfl⟩; try simp only [more_drew] at hr6)
              try (refine hK _ _ ?_; clear hK K)
              go_simp
              refine wpAny_ready (rs := [7]) (by kernel_rfl) (by simp) ?_
              refine AllReady.cons rfl (fun K hK => ?_) ?_
              · go_simp
                go_wp2_with (go_at_call 27; (with_reducible refine (kS _ _ (by repeat (first | with_reducible exact Adds.refl _ | with_reducible refine Adds.alloc ?_ _ | with_reducible refine Adds.more ?_ _ _ | with_reducible refine Adds.drew ?_ | with_reducible refine Adds.drewN ?_ _)) hr6).mono ?_); rintro e w7 ⟨q7, rfl, hq7, os7, n7, rfl⟩; have HQ : Hid _ := hq7; clear hq7)
                try (refine hK _ _ ?_; clear hK K)
                go_simp
                refine wpAny_take (i := 8) (v := ?_) rfl (by kernel_rfl) (by kernel_rfl) (by kernel_rfl) (fun _ _ _ h => h) (Or.inl ⟨by rfl, fun _ => ?_⟩) ?_
                rotate_left
                · (go_simp; try with_reducible rfl)
                go_simp
                refine wpAny_take (i := 9) (v := ?_) rfl (by kernel_rfl) (by kernel_rfl) (by kernel_rfl) (fun _ _ _ h => h) (Or.inl ⟨by rfl, fun _ => ?_⟩) ?_
                rotate_left
                · (go_simp; try with_reducible rfl)
                go_simp
                refine wpAny_done (by kernel_rfl) ?_ _
                cases q7
                · go_wp2
                  go_ret2
                  refine ⟨_, _, rfl, refTold_no (fun L hL => ?_), hAw.trans (by repeat (first | with_reducible exact Adds.refl _ | with_reducible refine Adds.alloc ?_ _ | with_reducible refine Adds.more ?_ _ _ | with_reducible refine Adds.drew ?_ | with_reducible refine Adds.drewN ?_ _))⟩
                  simp only [T.list] at hL
                  rw [HE.out] at hL
                  cases hL
                  exact fun hh => absurd (HQ.out.2 hh.2) (by simp)
                · go_wp2
                  go_ret2
                  have hyes : docT l = .mk ck cn cx ts := by first | exact HQ.out.1 rfl | exact HQ.out.1 trivial
                  first
                    | exact ⟨u4, true, rfl, refTold_yes HE.out hm hyes (hlst.adds (by repeat (first | with_reducible exact Adds.refl _ | with_reducible refine Adds.alloc ?_ _ | with_reducible refine Adds.more ?_ _ _ | with_reducible refine Adds.drew ?_ | with_reducible refine Adds.drewN ?_ _))), hAw.trans (by repeat (first | with_reducible exact Adds.refl _ | with_reducible refine Adds.alloc ?_ _ | with_reducible refine Adds.more ?_ _ _ | with_reducible refine Adds.drew ?_ | with_reducible refine Adds.drewN ?_ _))⟩
                    | exact ⟨u4, .inr ⟨rfl, refTold_yes HE.out hm hyes (hlst.adds (by repeat (first | with_reducible exact Adds.refl _ | with_reducible refine Adds.alloc ?_ _ | with_reducible refine Adds.more ?_ _ _ | with_reducible refine Adds.drew ?_ | with_reducible refine Adds.drewN ?_ _))), hAw.trans (by repeat (first | with_reducible exact Adds.refl _ | with_reducible refine Adds.alloc ?_ _ | with_reducible refine Adds.more ?_ _ _ | with_reducible refine Adds.drew ?_ | with_reducible refine Adds.drewN ?_ _))⟩⟩
              exact AllReady.nil
            exact AllReady.nil
          exact AllReady.nil
        exact AllReady.nil
      · rw [decide_eq_false hm] at kM
        clear hRef HL h hk' hown hb
        go_wp2
        refine wp_region_adds (by kernel_rfl) (by kernel_rfl) ?_
        repeat (go_big_quiet_step ((go_at_call 13; exact Calls.adds_of (kM _ ⟨_, _, rfl⟩))))
        refine wpQuiet_nil ?_
        rintro _ ⟨pl, rfl⟩
        unfold addTo
        go_wp2
        go_ret2
        refine ⟨_, _, rfl, refTold_no (fun L hL => ?_), hAw.trans (by repeat (first | with_reducible exact Adds.refl _ | with_reducible refine Adds.alloc ?_ _ | with_reducible refine Adds.more ?_ _ _ | with_reducible refine Adds.drew ?_ | with_reducible refine Adds.drewN ?_ _))⟩
        simp only [T.list] at hL
        rw [HE.out] at hL
        cases hL
        exact fun hh => hm hh.1

end Go.Proofs.Ytcgbhbbljjdejaa
