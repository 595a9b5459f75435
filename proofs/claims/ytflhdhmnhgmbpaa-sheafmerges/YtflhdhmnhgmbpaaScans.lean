/-
  The walk of the statement SheafScans: it returns true, whatever is handed in, and leaves all that was there as it was.
-/
import Derived.Test.YtflhdhmnhgmbpaaRefScan
namespace Go.Proofs.Ytflhdhmnhgmbpaa
open Go.RowKit
attribute [local go_sem] cell?_more frozen?_more setCell_more size_more tape_more drew_more drewN_more more_drew more_drewN one_out plus_out plus_end lt_one le_p2 le_p3 le_p4 le_p5 le_p6 le_p7 le_p8 le_p9 le_p10 le_p11 le_p12 le_p13 le_p14 le_p15 le_p16 le_p17 le_p18 le_p19 le_p20 le_p21 le_p22 le_p23 le_p24 le_q0 le_q1 lt_q1 le_q2 lt_q2 le_q3 lt_q3 le_q4 lt_q4 le_q5 lt_q5 le_q6 lt_q6 le_q7 lt_q7 le_q8 lt_q8 le_q9 lt_q9 le_q10 lt_q10 le_q11 lt_q11 le_q12 lt_q12 le_q13 lt_q13 le_q14 lt_q14 le_q15 lt_q15 le_q16 lt_q16 le_q17 lt_q17 le_q18 lt_q18 le_q19 lt_q19 le_q20 lt_q20 le_q21 lt_q21 le_q22 lt_q22 le_q23 lt_q23 le_q24 lt_q24

theorem rows_lst {B : Nat} {v : Value} {fs : List F} {w : World} (h : w.ownsRow B 35 2 v fs.length (cellsF fs)) : Lst w v fs := by
  have hc := fun g => h.cells (g := g)
  have hlt := h.lt
  rcases h.2 with ⟨rfl, hn⟩ | ⟨g, cap, cur, rfl, hb, hg, hnc, hcm, hcs, htk⟩
  · have : fs = [] := List.eq_nil_of_length_eq_zero hn
    subst this
    exact ⟨none, 0, rfl, Nat.le_refl _, .inl rfl⟩
  · exact ⟨_, cap, rfl, hnc, .inr ⟨g, 0, rfl, (hlt g rfl).2, lies_of (hc g rfl)⟩⟩

/-- append to a row that a call owns, and what it leaves. -/
theorem own_append2 (w : World) (B : Nat) (ty : TypeId) (v : Value) (fs : List F) (W0 : World) (h : Own B v fs W0 w) (x : Value) (gs : List F) (hx : Lst w x gs) (hlen : fs.length + gs.length ≤ 100000) :
    ∃ v' w', (Builtin.append_ #[22, 22] ty #[v, x]).run Try.prog w = .ok v' w' ∧ Lst w' v' (fs ++ gs) ∧ w.grownBy w' v.ownBlock := by
  obtain ⟨i0, hi, hz0, hz1, hz2⟩ := info_parts Try.info35
  obtain ⟨ao, cap, rfl, hcap, hxs⟩ := hx
  rcases hxs with rfl | ⟨b, off, rfl, hb, hl⟩
  · have hrun : (Builtin.append_ #[22, 22] ty #[v, .slice ao 0 cap]).run Try.prog w = .ok v w := by
      rcases h.1.2 with ⟨rfl, hn⟩ | ⟨g, cp, cur, rfl, hbb, hg, hnc, hcm, hcs, htk⟩
      · cases ao <;> simp [Builtin.append_, run_underlying Try.underlying22, sizeOf, typeInfo, hi, Builtin.lenOf, Builtin.firstCells, loadCells, loadCellsFrom]
      · cases ao <;> simp [Builtin.append_, run_underlying Try.underlying22, sizeOf, typeInfo, hi, Builtin.lenOf, Builtin.firstCells, loadCells, loadCellsFrom, hnc, storeCells]
    refine ⟨v, w, by simpa using hrun, ?_, ⟨rfl, rfl, rfl, Nat.le_refl _, fun _ _ _ => rfl⟩⟩
    rw [List.append_nil]
    exact h.lst
  · obtain ⟨v', w', h1, h2, h3, _⟩ := run_append_own (P := Try.prog) w B 22 ty 35 i0 _ 2 32 Try.underlying22 hi hz0 hz1 hz2 rfl (by decide) v fs.length (cellsF fs) h.1 ⟨b, off, none⟩ gs.length cap (cellsF gs) (cellsF_length gs) hl.cells (cellsF_one gs) (by unfold maxLen; omega) (by omega) h.2.2
    refine ⟨v', w', h1, rows_lst (B := B) ?_, h3⟩
    rw [List.length_append, cellsF_append]
    exact h2

theorem app_wanted {ops : Array Oper} {rest : List Oper} {o : Oper} {a : Act} {w : World} {Q : Exit → Act → World → Prop} (hw : Region.wanted o (yielded ops a.tmps) = true) (s x : Operand) (ho : o.op = .call { callee := .builtin .append, args := #[s, x], argTypes := #[22, 22] })
    {v x' v' : Value} {w' : World} (hs : a.eval s = v) (hx : a.eval x = x') (hr : (Builtin.append_ #[22, 22] o.type #[v, x']).run Try.prog w = .ok v' w') (hk : wpList Try.prog ops Q rest (a.put o.dst v') w') : wpList Try.prog ops Q (o :: rest) a w :=
  wpList_step fun K hK => by rw [if_pos hw]; exact Lib.wp_append_run w s x 22 22 ho v x' hs hx v' w' hr (hK _ _ hk)

/-- Two rows that calls have made, the first ahead of the second. -/
def Beside (w : World) (r : Value) (l1 : List F) (v : Value) (l2 : List F) (w' : World) : Prop := Fresh w r l1 w' ∧ ∃ B W0, Own B v l2 W0 w' ∧ ∀ g, r.ownBlock = some g → g < B

theorem Beside.adds {w w1 w2 : World} {r v : Value} {l1 l2 : List F} (h : Beside w r l1 v l2 w1) (hA : Adds w1 w2) : Beside w r l1 v l2 w2 := by
  obtain ⟨h1, B, W0, h2, h3⟩ := h
  exact ⟨h1.adds hA, B, W0, h2.adds hA, h3⟩

theorem Beside.snd {w w1 : World} {r v : Value} {l1 l2 : List F} (h : Beside w r l1 v l2 w1) : Lst w1 v l2 := by
  obtain ⟨h1, B, W0, h2, h3⟩ := h
  exact h2.lst

theorem Fresh.beside {w X w' : World} {r v : Value} {l1 l2 : List F} (h : Fresh w r l1 X) (hv : Fresh X v l2 w') (hA : Adds X w') : Beside w r l1 v l2 w' := by
  refine ⟨h.adds hA, ?_⟩
  obtain ⟨B, W0, hB, ho⟩ := hv
  obtain ⟨B1, W1, hB1, ho1⟩ := h
  exact ⟨B, W0, ho, fun g hg => Nat.lt_of_lt_of_le (ho1.1.lt g hg).2 hB⟩

theorem Beside.append {w W : World} {r v x : Value} {l1 l2 l3 : List F} (h : Beside w r l1 v l2 W) (hx : Lst W x l3) (hlen : l1.length + l3.length ≤ 100000) (ty : TypeId) :
    ∃ v' W', (Builtin.append_ #[22, 22] ty #[r, x]).run Try.prog W = .ok v' W' ∧ Lst W' v' (l1 ++ l3) ∧ Lst W' v l2 ∧ Below w.heap.size W W' := by
  obtain ⟨⟨B1, W1, hB1, ho1⟩, B, W0, h2, h3⟩ := h
  obtain ⟨v', W', hr, hl, hg⟩ := own_append2 W B1 ty r l1 W1 ho1 x l3 hx hlen
  refine ⟨v', W', hr, hl, rows_lst (h2.1.kept hg ?_), ?_⟩
  · cases hv : v.ownBlock with
    | none => exact .inl rfl
    | some k =>
      refine .inr fun e => ?_
      have := h3 k e.symm
      have := (h2.1.lt k hv).1
      omega
  · refine ⟨hg.os, hg.tape, hg.output, hg.size, fun k hk => hg.block k (Nat.lt_of_lt_of_le hk (Nat.le_trans hB1 ho1.2.2)) ?_⟩
    intro e
    have := (ho1.1.lt k e.symm).1
    omega

theorem scan_next {w : World} {r : Value} {l1 : List F} (s : Value) (fs : List F) (p t : ByteArray) (X : World) (hf : Fresh w r l1 X) (h : Lst X s fs) (hl6 : fs.length ≤ 1000) (hM : May fs) :
    Calls Try.prog 19 #[s, .string p, .string t, .int .i64 fs.length] X fun e w' => ∃ v, e = .returned (.tuple #[v, .int .i64 0]) ∧ Beside w r l1 v (fs.filter (isIn p t)) w' ∧ Adds X w' := by
  refine (scan_ok s fs p t fs.length X h hl6 hM).mono ?_
  rintro e w' ⟨v, rfl, hv, hA⟩
  rw [List.take_of_length_le (List.length_filter_le _ _)] at hv
  exact ⟨v, rfl, hf.beside hv hA, hA⟩

theorem scan_last (s : Value) (fs : List F) (p t : ByteArray) (X : World) (h : Lst X s fs) (hl6 : fs.length ≤ 1000) (hM : May fs) :
    Calls Try.prog 19 #[s, .string p, .string t, .int .i64 fs.length] X fun e w' => ∃ v, e = .returned (.tuple #[v, .int .i64 0]) ∧ Lst w' v (fs.filter (isIn p t)) ∧ Adds X w' := by
  refine (scan_ok s fs p t fs.length X h hl6 hM).mono ?_
  rintro e w' ⟨v, rfl, hv, hA⟩
  rw [List.take_of_length_le (List.length_filter_le _ _)] at hv
  exact ⟨v, rfl, hv.lst, hA⟩

theorem take_short {A : List F} {M : Nat} (h : ¬ (A.take M).length = A.length) : M < A.length ∧ (A.take M).length = M := by
  rw [List.length_take] at *
  exact ⟨by omega, by omega⟩

theorem scan_goesA {l A : List F} (p t : ByteArray) (h : Rises l) (hA : l.filter (isIn p t) = A) {n : Nat} (hn : n < A.length) : A.take n ++ l.filter (isIn A[n].path t) = A := by
  subst hA
  exact scan_goes p t h hn

theorem scan_first {w : World} (s : Value) (fs : List F) (p t : ByteArray) (M : Nat) (X : World) (hA0 : Adds w X) (h : Lst X s fs) (hl6 : fs.length ≤ 1000) (hM : May fs) :
    Calls Try.prog 19 #[s, .string p, .string t, .int .i64 M] X fun e w' => ∃ v, e = .returned (.tuple #[v, .int .i64 0]) ∧ Fresh w v ((fs.filter (isIn p t)).take M) w' ∧ Adds X w' := by
  refine (scan_ok s fs p t M X h hl6 hM).mono ?_
  rintro e w' ⟨v, rfl, ⟨B, W0, hB, ho⟩, hA⟩
  exact ⟨v, rfl, ⟨B, W0, Nat.le_trans hA0.size hB, ho⟩, hA⟩

set_option maxHeartbeats 4000000 in
set_option maxRecDepth 20000 in
theorem sheafScans_any (s : Value) (fs : List F) (p t : ByteArray) (m : Int) (w : World) (h : Lst w s fs) :
    Calls Try.prog 4 #[s, .agg #[.string p, .string t], .int .i64 m] w fun e w' => e = .returned (.bool true) ∧ Adds w w' := by
  by_cases hl3 : fs.length ≤ 300
  · have hl3' : ¬ (300 : Int) < (fs.length : Int) := by omega
    by_cases hM : May fs
    · by_cases hm : m < 0
      · have k19 := fun w' hA => scan_bad s fs p t m w' (h.adds hA) (by omega) (.inr hm)
        have k10 := fun w' hA => refMay_yes s fs w' (h.adds hA) (by omega) hM
        obtain ⟨ao, cap, rfl, hcap, hlo⟩ := h
        go_enter Try.func4, Try.ntmps4
        go_wp2
        go_quiet (fail)
        go_wp2_with (first
          | (go_at_call 19; (refine (k19 _ (by repeat (first | with_reducible exact Adds.refl _ | with_reducible refine Adds.alloc ?_ _ | with_reducible refine Adds.more ?_ _ _ | with_reducible refine Adds.drew ?_ | with_reducible refine Adds.drewN ?_ _))).mono ?_); rintro e w1 ⟨rfl, os1, n1, rfl⟩)
          | (go_at_call 10; (refine (k10 _ (by repeat (first | with_reducible exact Adds.refl _ | with_reducible refine Adds.alloc ?_ _ | with_reducible refine Adds.more ?_ _ _ | with_reducible refine Adds.drew ?_ | with_reducible refine Adds.drewN ?_ _))).mono ?_); rintro e w3 ⟨rfl, os3, n3, rfl⟩)
          | (go_at_call 12; (refine (none_yes _).mono ?_); rintro e w6 ⟨rfl, hw⟩; subst w6)
          | (go_at_call 7; (refine (awake_any _).mono ?_); rintro e w15 ⟨rfl, os15, n15, rfl⟩))
        go_ret
        refine ⟨rfl, ?_⟩
        repeat (first | with_reducible exact Adds.refl _ | with_reducible refine Adds.alloc ?_ _ | with_reducible refine Adds.more ?_ _ _ | with_reducible refine Adds.drew ?_ | with_reducible refine Adds.drewN ?_ _)
      · obtain ⟨M, rfl⟩ : ∃ M : Nat, m = (M : Int) := ⟨m.toNat, by omega⟩
        have k19 := fun w' hA => scan_first (w := w) s fs p t M w' hA (h.adds hA) (by omega) hM
        have k10 := fun w' hA => refMay_yes s fs w' (h.adds hA) (by omega) hM
        have k20 := fun w' hA => refScan_any s fs p t M w' (h.adds hA) (by omega)
        have hlA : (fs.filter (isIn p t)).length ≤ fs.length := List.length_filter_le _ _
        have hlS : ((fs.filter (isIn p t)).take M).length ≤ (fs.filter (isIn p t)).length := List.length_take_le' _ _
        obtain ⟨A, hA⟩ : ∃ A, fs.filter (isIn p t) = A := ⟨_, rfl⟩
        have hgo := fun hn => scan_goesA (n := M) p t hM.rises hA hn
        have k19n := fun (r : Value) X (hf : Fresh w r (A.take M) X) (hA' : Adds w X) => scan_next s fs p t X hf (h.adds hA') (by omega) hM
        simp only [hA] at k19 k20 hlA hlS k19n
        have hsh := take_short (A := A) (M := M)
        have k19l := fun q X (hA' : Adds w X) => scan_last s fs q t X (h.adds hA') (by omega) hM
        obtain ⟨S, hS⟩ : ∃ S, A.take M = S := ⟨_, rfl⟩
        simp only [hS] at k19 k20 hlS hgo k19n hsh
        have HA : Hid _ := hA
        have HS : Hid _ := hS
        clear hA hS
        obtain ⟨ao, cap, rfl, hcap, hlo⟩ := h
        by_cases hE : S.length = A.length
        · have hE1 : ((S.length : Int) == (A.length : Int)) = true := by simp; omega
          have hE2 : ¬ (A.length : Int) < (S.length : Int) := by omega
          have HE : Hid _ := hE
          have hS1 : S.length ≤ 1000 := by omega
          clear hsh hgo k19l hE
          go_enter Try.func4, Try.ntmps4
          go_wp2
          go_quiet (fail)
          go_wp2_with (first
            | (go_at_call 19; (with_reducible refine (k19 _ (by repeat (first | with_reducible exact Adds.refl _ | with_reducible refine Adds.alloc ?_ _ | with_reducible refine Adds.more ?_ _ _ | with_reducible refine Adds.drew ?_ | with_reducible refine Adds.drewN ?_ _))).mono ?_); rintro e w1 ⟨r1, rfl, f1, os1, n1, rfl⟩; clear k19; obtain ⟨a1, c1, rfl⟩ := f1.lst.slice; rw [more_drewN] at f1)
            | (go_at_call 10; (refine (k10 _ (by repeat (first | with_reducible exact Adds.refl _ | with_reducible refine Adds.alloc ?_ _ | with_reducible refine Adds.more ?_ _ _ | with_reducible refine Adds.drew ?_ | with_reducible refine Adds.drewN ?_ _))).mono ?_); rintro e w3 ⟨rfl, os3, n3, rfl⟩)
            | (go_at_call 20; (refine (k20 _ (by repeat (first | with_reducible exact Adds.refl _ | with_reducible refine Adds.alloc ?_ _ | with_reducible refine Adds.more ?_ _ _ | with_reducible refine Adds.drew ?_ | with_reducible refine Adds.drewN ?_ _))).mono ?_); rintro e w4 ⟨r4, rfl, l4, os4, n4, rfl⟩)
            | (go_at_call 15; (with_reducible refine (refSame_eq _ _ _ _ (f1.lst.adds (by repeat (first | with_reducible exact Adds.refl _ | with_reducible refine Adds.alloc ?_ _ | with_reducible refine Adds.more ?_ _ _ | with_reducible refine Adds.drew ?_ | with_reducible refine Adds.drewN ?_ _))) l4 hS1).mono ?_); rintro e w5 ⟨rfl, os5, n5, rfl⟩)
            | (go_at_call 19; (with_reducible refine (k19n _ _ (f1.adds (by repeat (first | with_reducible exact Adds.refl _ | with_reducible refine Adds.alloc ?_ _ | with_reducible refine Adds.more ?_ _ _ | with_reducible refine Adds.drew ?_ | with_reducible refine Adds.drewN ?_ _))) (by repeat (first | with_reducible exact Adds.refl _ | with_reducible refine Adds.alloc ?_ _ | with_reducible refine Adds.more ?_ _ _ | with_reducible refine Adds.drew ?_ | with_reducible refine Adds.drewN ?_ _))).mono ?_); rintro e w6 ⟨r6, rfl, f6, os6, n6, rfl⟩; obtain ⟨a6, c6, rfl⟩ := f6.snd.slice)
            | (go_at_call 7; (refine (awake_any _).mono ?_); rintro e w15 ⟨rfl, os15, n15, rfl⟩))
          go_ret
          refine ⟨rfl, ?_⟩
          repeat (first | with_reducible exact Adds.refl _ | with_reducible refine Adds.alloc ?_ _ | with_reducible refine Adds.more ?_ _ _ | with_reducible refine Adds.drew ?_ | with_reducible refine Adds.drewN ?_ _)
        · obtain ⟨hn, hSM⟩ := hsh hE
          have HG : Hid _ := hgo hn
          have hE1 : ((S.length : Int) == (A.length : Int)) = false := by simp; omega
          have hE2 : ¬ (A.length : Int) < (S.length : Int) := by omega
          have hSA : S.length < A.length := by omega
          have hcell : ∀ W a c, Lst W (.slice a A.length c) A → ∃ b off, a = some ⟨b, off, none⟩ ∧ b < W.heap.size ∧ W.cell? ⟨b, off + S.length * 2, none⟩ = some (.string A[M].path) := by
            rintro W a c ⟨ao', cap', he, _, h0 | ⟨b, off, rfl, hb, hl⟩⟩
            · subst h0; simp at hn
            · simp only [Value.slice.injEq] at he
              refine ⟨b, off, he.1, hb, ?_⟩
              rw [hSM]
              exact (hl M hn).1
          have hbl : (fs.filter (isIn A[M].path t)).length ≤ fs.length := List.length_filter_le _ _
          generalize A[M].path = P at *
          have k19P := k19l P
          clear k19l
          generalize fs.filter (isIn P t) = R at *
          have hS1 : S.length ≤ 1000 := by omega
          have hA1 : A.length ≤ 1000 := by omega
          have hSR : S.length + R.length ≤ 100000 := by omega
          clear hgo hsh hSM hE
          go_enter Try.func4, Try.ntmps4
          go_wp2
          go_quiet (fail)
          go_wp2_with (first
            | (go_at_call 19; (with_reducible refine (k19 _ (by repeat (first | with_reducible exact Adds.refl _ | with_reducible refine Adds.alloc ?_ _ | with_reducible refine Adds.more ?_ _ _ | with_reducible refine Adds.drew ?_ | with_reducible refine Adds.drewN ?_ _))).mono ?_); rintro e w1 ⟨r1, rfl, f1, os1, n1, rfl⟩; clear k19; obtain ⟨a1, c1, rfl⟩ := f1.lst.slice; rw [more_drewN] at f1)
            | (go_at_call 10; (refine (k10 _ (by repeat (first | with_reducible exact Adds.refl _ | with_reducible refine Adds.alloc ?_ _ | with_reducible refine Adds.more ?_ _ _ | with_reducible refine Adds.drew ?_ | with_reducible refine Adds.drewN ?_ _))).mono ?_); rintro e w3 ⟨rfl, os3, n3, rfl⟩)
            | (go_at_call 20; (refine (k20 _ (by repeat (first | with_reducible exact Adds.refl _ | with_reducible refine Adds.alloc ?_ _ | with_reducible refine Adds.more ?_ _ _ | with_reducible refine Adds.drew ?_ | with_reducible refine Adds.drewN ?_ _))).mono ?_); rintro e w4 ⟨r4, rfl, l4, os4, n4, rfl⟩)
            | (go_at_call 15; (with_reducible refine (refSame_eq _ _ _ _ (f1.lst.adds (by repeat (first | with_reducible exact Adds.refl _ | with_reducible refine Adds.alloc ?_ _ | with_reducible refine Adds.more ?_ _ _ | with_reducible refine Adds.drew ?_ | with_reducible refine Adds.drewN ?_ _))) l4 hS1).mono ?_); rintro e w5 ⟨rfl, os5, n5, rfl⟩; clear l4)
            | (go_at_call 19; (with_reducible refine (k19n _ _ (f1.adds (by repeat (first | with_reducible exact Adds.refl _ | with_reducible refine Adds.alloc ?_ _ | with_reducible refine Adds.more ?_ _ _ | with_reducible refine Adds.drew ?_ | with_reducible refine Adds.drewN ?_ _))) (by repeat (first | with_reducible exact Adds.refl _ | with_reducible refine Adds.alloc ?_ _ | with_reducible refine Adds.more ?_ _ _ | with_reducible refine Adds.drew ?_ | with_reducible refine Adds.drewN ?_ _))).mono ?_); rintro e w6 ⟨r6, rfl, f6, hA6⟩; clear k19n; obtain ⟨a6, c6, rfl⟩ := f6.snd.slice; obtain ⟨b6, o6, rfl, hb6, hc6⟩ := hcell _ _ _ f6.snd; replace hA6 := Adds.trans (a := w) (by repeat (first | with_reducible exact Adds.refl _ | with_reducible refine Adds.alloc ?_ _ | with_reducible refine Adds.more ?_ _ _ | with_reducible refine Adds.drew ?_ | with_reducible refine Adds.drewN ?_ _)) hA6)
            | (go_at_call 19; (with_reducible refine (k19P _ hA6).mono ?_); rintro e w7 ⟨r7, rfl, l7, os7, n7, rfl⟩)
            | (at_builtin; obtain ⟨v8, w8, hr8, l8, l9, hb8⟩ := Beside.append (f6.adds (by repeat (first | with_reducible exact Adds.refl _ | with_reducible refine Adds.alloc ?_ _ | with_reducible refine Adds.more ?_ _ _ | with_reducible refine Adds.drew ?_ | with_reducible refine Adds.drewN ?_ _))) l7 hSR _; refine app_wanted rfl (.tmp 97) (.tmp 98) rfl rfl rfl hr8 ?_; rw [HG.out] at l8; replace hA6 := Adds.trans hA6 (Adds.trans (b := more w6 os7 n7) (by repeat (first | with_reducible exact Adds.refl _ | with_reducible refine Adds.alloc ?_ _ | with_reducible refine Adds.more ?_ _ _ | with_reducible refine Adds.drew ?_ | with_reducible refine Adds.drewN ?_ _)) (Adds.refl _)))
            | (go_at_call 15; (with_reducible refine (refSame_eq _ _ _ _ l8 l9 hA1).mono ?_); rintro e w10 ⟨rfl, os10, n10, rfl⟩)
            | (go_at_call 7; (refine (awake_any _).mono ?_); rintro e w15 ⟨rfl, os15, n15, rfl⟩))
          go_ret
          refine ⟨rfl, ?_⟩
          exact Adds.of (hA6.below.trans (hb8.trans (Below.mono (Adds.below (by repeat (first | with_reducible exact Adds.refl _ | with_reducible refine Adds.alloc ?_ _ | with_reducible refine Adds.more ?_ _ _ | with_reducible refine Adds.drew ?_ | with_reducible refine Adds.drewN ?_ _))) (Nat.le_trans hA6.size hb8.size))))
    · have k19 := fun w' hA => scan_bad s fs p t m w' (h.adds hA) (by omega) (.inl hM)
      have k10 := fun w' hA => refMay_no s fs w' (h.adds hA) (by omega) hM
      obtain ⟨ao, cap, rfl, hcap, hlo⟩ := h
      go_enter Try.func4, Try.ntmps4
      go_wp2
      go_quiet (fail)
      go_wp2_with (first
        | (go_at_call 19; (refine (k19 _ (by repeat (first | with_reducible exact Adds.refl _ | with_reducible refine Adds.alloc ?_ _ | with_reducible refine Adds.more ?_ _ _ | with_reducible refine Adds.drew ?_ | with_reducible refine Adds.drewN ?_ _))).mono ?_); rintro e w1 ⟨rfl, os1, n1, rfl⟩)
        | (go_at_call 10; (refine (k10 _ (by repeat (first | with_reducible exact Adds.refl _ | with_reducible refine Adds.alloc ?_ _ | with_reducible refine Adds.more ?_ _ _ | with_reducible refine Adds.drew ?_ | with_reducible refine Adds.drewN ?_ _))).mono ?_); rintro e w3 ⟨rfl, os3, n3, rfl⟩)
        | (go_at_call 12; (refine (none_yes _).mono ?_); rintro e w6 ⟨rfl, hw⟩; subst w6)
        | (go_at_call 7; (refine (awake_any _).mono ?_); rintro e w15 ⟨rfl, os15, n15, rfl⟩))
      go_ret
      refine ⟨rfl, ?_⟩
      repeat (first | with_reducible exact Adds.refl _ | with_reducible refine Adds.alloc ?_ _ | with_reducible refine Adds.more ?_ _ _ | with_reducible refine Adds.drew ?_ | with_reducible refine Adds.drewN ?_ _)
  · have hl3' : (300 : Int) < (fs.length : Int) := by omega
    obtain ⟨ao, cap, rfl, hcap, hlo⟩ := h
    go_enter Try.func4, Try.ntmps4
    go_wp2_with (go_at_call 7; refine (awake_any _).mono ?_; rintro e w1 ⟨rfl, os5, n5, rfl⟩)
    go_ret
    refine ⟨rfl, ?_⟩
    repeat (first | with_reducible exact Adds.refl _ | with_reducible refine Adds.alloc ?_ _ | with_reducible refine Adds.more ?_ _ _ | with_reducible refine Adds.drew ?_ | with_reducible refine Adds.drewN ?_ _)

end Go.Proofs.Ytflhdhmnhgmbpaa
