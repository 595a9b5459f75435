/-
  SealRuns: the law's walk, where both lists together have no more than two million records.
-/
import Derived.Test.YtmbnpglnanfdoaaCuts
namespace Go.Proofs.Ytmbnpglnanfdoaa
open Go.RowKit
attribute [local go_sem] cell?_more frozen?_more setCell_more size_more tape_more drew_more drewN_more more_drew more_drewN more_more one_out plus_out plus_end lt_one le_p2 le_p3 le_p4 le_p5 le_p6 le_p7 le_p8 le_p9 le_p10 le_p11 le_p12 le_p13 le_p14 le_p15 le_p16 le_p17 le_p18 le_p19 le_p20 le_p21 le_p22 le_p23 le_p24 le_q0 le_q1 lt_q1 le_q2 lt_q2 le_q3 lt_q3 le_q4 lt_q4 le_q5 lt_q5 le_q6 lt_q6 le_q7 lt_q7 le_q8 lt_q8 le_q9 lt_q9 le_q10 lt_q10 le_q11 lt_q11 le_q12 lt_q12 le_q13 lt_q13 le_q14 lt_q14 le_q15 lt_q15 le_q16 lt_q16 le_q17 lt_q17 le_q18 lt_q18 le_q19 lt_q19 le_q20 lt_q20 le_q21 lt_q21 le_q22 lt_q22 le_q23 lt_q23 le_q24 lt_q24

/-- append of many slices. -/
theorem slices_append (w : World) (B : Nat) (ty : TypeId) (v : Value) (xs : List Value) (W0 : World) (h : OwnV B 22 v xs W0 w) (x : Value) (ys : List Value) (hx : LstV w x ys) (hys : ∀ u ∈ ys, u.oneCell' = true) (hlen : xs.length + ys.length ≤ 2000000) :
    ∃ v' w', (Builtin.append_ #[33, 33] ty #[v, x]).run Try.prog w = .ok v' w' ∧ OwnV B 22 v' (xs ++ ys) W0 w' := by
  obtain ⟨i0, hi, hz0, hzs, hzb⟩ := info_parts Try.info22
  by_cases hs : xs.length + ys.length ≤ 1000000
  · obtain ⟨v', w', h1, h2, _⟩ := ownV_append Try.underlying33 Try.info22 rfl (by decide) w B ty v xs W0 h x ys hx hys hs
    exact ⟨v', w', h1, h2⟩
  obtain ⟨ao, cap, rfl, hcap, hxs⟩ := hx
  have key : ∀ v' w', w'.ownsRow B 22 1 v' (xs.length + ys.length) (xs ++ ys) → w.grownBy w' v.ownBlock → OwnV B 22 v' (xs ++ ys) W0 w' := by
    intro v' w' h2 h3
    refine ⟨by rw [List.length_append]; exact h2, ?_, Nat.le_trans h.2.2 h3.size⟩
    refine ⟨h3.os.trans h.2.1.os, h3.tape.trans h.2.1.tape, h3.output.trans h.2.1.output, Nat.le_trans h.2.1.size h3.size, fun k hk => ?_⟩
    rw [h3.block k (Nat.lt_of_lt_of_le hk h.2.2) ?_]
    · exact h.2.1.block k hk
    · intro e
      have := h.1.lt k e.symm
      omega
  rcases hxs with rfl | ⟨b, off, rfl, hb, hl⟩
  · have hrun : (Builtin.append_ #[33, 33] ty #[v, .slice ao 0 cap]).run Try.prog w = .ok v w := by
      rcases h.1.2 with ⟨rfl, hn⟩ | ⟨g, cp, cur, rfl, hbb, hg, hnc, hcm, hcs, htk⟩
      · cases ao <;> simp [Builtin.append_, run_underlying Try.underlying33, sizeOf, typeInfo, hi, Builtin.lenOf, Builtin.firstCells, loadCells, loadCellsFrom]
      · cases ao <;> simp [Builtin.append_, run_underlying Try.underlying33, sizeOf, typeInfo, hi, Builtin.lenOf, Builtin.firstCells, loadCells, loadCellsFrom, hnc, storeCells]
    refine ⟨v, w, by simpa using hrun, ?_⟩
    rw [List.append_nil]
    exact h
  · obtain ⟨v', w', h1, h2, h3, _⟩ := run_append_own (P := Try.prog) w B 33 ty 22 i0 (.slice none 0 0) 1 24 Try.underlying33 hi hz0 hzs hzb rfl (by decide) v xs.length xs h.1 ⟨b, off, none⟩ ys.length cap ys (by omega) hl.cells hys (by unfold maxLen; omega) (by omega) h.2.2
    exact ⟨v', w', h1, key v' w' h2 h3⟩

theorem slices_app {ops : Array Oper} {rest : List Oper} {o : Oper} {a : Act} {w : World} {Q : Exit → Act → World → Prop} (hgd : o.guard = none) (s x : Operand) (ho : o.op = .call { callee := .builtin .append, args := #[s, x], argTypes := #[33, 33] })
    {B : Nat} {v : Value} {xs : List Value} {W0 : World} (h : OwnV B 22 v xs W0 w) (hs : a.eval s = v) {x' : Value} {ys : List Value} (hg : LstV w x' ys) (hx : a.eval x = x') (hys : ∀ u ∈ ys, u.oneCell' = true) (hlen : xs.length + ys.length ≤ 2000000)
    (hk : ∀ v' w', OwnV B 22 v' (xs ++ ys) W0 w' → wpList Try.prog ops Q rest (a.put o.dst v') w') : wpList Try.prog ops Q (o :: rest) a w := by
  obtain ⟨v', w', hr, h2⟩ := slices_append w B o.type v xs W0 h x' ys hg hys hlen
  exact Lib.wpList_append_run w hgd s x 33 33 ho v x' hs hx v' w' hr (hk v' w' h2)

set_option maxHeartbeats 4000000 in
set_option maxRecDepth 20000 in
theorem sealRuns_any (v u : Value) (la lb : List (List UInt8)) (w : World) (h : Rws w v la) (g : Rws w u lb) (hlen : la.length + lb.length ≤ 2000000) :
    Calls Try.prog 7 #[v, u] w fun e w' => e = .returned (.bool true) ∧ Adds w w' := by
  obtain ⟨xa, hva, hxa⟩ := h
  obtain ⟨xb, hvb, hxb⟩ := g
  have ea := hxa.length
  have eb := hxb.length
  have hE := hxa.append hxb
  have hoa := slices_one hxa
  have hob := slices_one hxb
  have hva' := hva
  have hvb' := hvb
  obtain ⟨ao, ac, rfl, _⟩ := hva
  obtain ⟨bo, bc, rfl, _⟩ := hvb
  rw [ea] at hva' ⊢
  rw [eb] at hvb' ⊢
  have he := ownV_empty w 22
  by_cases h30 : la.length ≤ 30 ∧ lb.length ≤ 30
  · have h30a := h30.1
    have h30b := h30.2
    go_enter Try.func7, Try.ntmps7
    go_wp2_with (first
      | (at_builtin; refine slices_app rfl (.tmp 13) (.tmp 14) rfl he rfl (hva'.adds (by repeat (first | with_reducible exact Adds.refl _ | with_reducible refine Adds.alloc ?_ _ | with_reducible refine Adds.more ?_ _ _ | with_reducible refine Adds.drew ?_ | with_reducible refine Adds.drewN ?_ _))) rfl hoa (by simp; omega) ?_; intro v1 w1 h1; rw [List.nil_append] at h1)
      | (at_builtin; refine slices_app rfl (.tmp 15) (.tmp 16) rfl h1 rfl (hvb'.adds h1.added) rfl hob (by omega) ?_; intro v2 w2 h2))
    obtain ⟨L, hL⟩ : ∃ L, L = la ++ lb := ⟨_, rfl⟩
    obtain ⟨xs, hxs⟩ : ∃ xs, xs = xa ++ xb := ⟨_, rfl⟩
    have hLl : L.length ≤ 60 := by rw [hL, List.length_append]; omega
    rw [← hL, ← hxs] at hE
    rw [← hxs] at h2
    have ex := hE.length
    have hone := slices_one hE
    clear hL hxs hxa hxb hoa hob hva' hvb' ea eb he h1
    obtain ⟨vo, vc, hv2, _⟩ := h2.lst
    subst hv2
    rw [ex] at h2 ⊢
    go_loopw [5, 7, 8] (fun n ov i W => ∃ k : Nat, k ≤ L.length ∧ i = .int .i64 k ∧ n = .int .i64 (tot (L.take k) : Nat) ∧ tot (L.take k) ≤ 3000 ∧ OwnV w.heap.size 22 (.slice vo L.length vc) xs w W ∧ OwnV w.heap.size 5 ov (cellsB (recs (L.take k))) w W) (fun _ _ i _ => (L.length - intOf i).toNat)
    case atStart => exact ⟨0, by omega, rfl, rfl, by simp [tot], h2.alloc _, ownV_new h2.2.1 h2.2.2 5⟩
    case round =>
      obtain ⟨k, hk, rfl, rfl, ht, how, hou⟩ := hrel
      have hp1 : (recs (L.take k)).length ≤ 4000 := by
        have h1 := recs_tot (L.take k)
        have h3 : (L.take k).length ≤ 60 := by simp; omega
        omega
      by_cases hlt : k < L.length
      · obtain ⟨vo', vc', hve, hvc, hcs⟩ := how.lst
        simp only [Value.slice.injEq] at hve
        obtain ⟨rfl, hve2, rfl⟩ := hve
        clear hve2
        rcases hcs with hcs | ⟨b, off, rfl, hb, hc⟩
        · rw [hcs] at ex; simp at ex; omega
        have hc0 := hc k (by omega)
        have hxk := hE.get k (by omega) hlt
        have hxb := hxk.byt.adds hou.added
        obtain ⟨eo, ec, hxe, _⟩ := hxk
        have hn := tot_next hlt
        have hrn := recs_next hlt
        rw [hxe] at hc0 hxb
        generalize L[k] = lk at *
        by_cases hgt : tot (L.take k) + lk.length ≤ 3000
        · have k1 := record_any _ _ _ hxb (by omega)
          have hrl := record_length lk
          generalize tot (L.take k) = t at *
          go_wp2_with (first
            | (go_at_call 8; (with_reducible refine (awake_any _).mono ?_); rintro e w8 ⟨rfl, a8⟩)
            | (go_at_call 9; (with_reducible refine k1.mono ?_); rintro e w4 ⟨r4, rfl, h4⟩)
            | (at_builtin; refine byt_app2 rfl (.tmp 60) (.tmp 61) rfl (hou.adds h4.added) rfl h4.byt rfl (by omega) ?_; intro v5 w5 h5 g5; have how5 := (how.adds h4.added).other (hou.adds h4.added) (by decide) g5))
          go_roundw
          case rel => exact ⟨k + 1, by omega, by go_num, by rw [hn]; go_num, by omega, how5, by rw [hrn]; exact h5⟩
          case measure => simp [intOf]; omega
        · generalize tot (L.take k) = t at *
          go_wp2_with (go_at_call 8; (with_reducible refine (awake_any _).mono ?_); rintro e w8 ⟨rfl, a8⟩)
          go_ret
          exact ⟨rfl, hou.added.trans a8⟩
      · have hk' : k = L.length := by omega
        subst hk'
        rw [List.take_length] at hou hp1 ht ⊢
        have hle : ∀ b ∈ L, b.length ≤ 16384 := fun b hb => Nat.le_trans (le_tot hb) (by omega)
        have hrr := rows_recs L hle
        have k1 := row_any _ _ _ hou.byt (by omega)
        rw [hrr] at k1
        obtain ⟨oo, oc, hov, _⟩ := hou.byt.open
        subst hov
        have hR : Rws wr (.slice vo L.length vc) L := ⟨xs, how.lst, hE.imp fun x l hx => (hx.adds hou.added).mono hou.2.2⟩
        simp only at k1
        generalize (recs L).length = N at *
        generalize tot L = t at *
        go_wp2_with (first
          | (go_at_call 15; (with_reducible refine k1.mono ?_); rintro e w3 ⟨r3, rfl, h4, a3⟩)
          | (go_at_call 17; (with_reducible refine (same_any _ _ _ _ _ h4 (hR.adds a3) (by omega) (by omega)).mono ?_); rintro e w4 ⟨rfl, a4⟩)
          | (go_at_call 8; (with_reducible refine (awake_any _).mono ?_); rintro e w8 ⟨rfl, a8⟩))
        go_ret
        exact ⟨by simp, ((hou.added.trans a3).trans a4).trans a8⟩
  · go_enter Try.func7, Try.ntmps7
    go_wp2_with (first
      | (at_builtin; refine slices_app rfl (.tmp 13) (.tmp 14) rfl he rfl (hva'.adds (by repeat (first | with_reducible exact Adds.refl _ | with_reducible refine Adds.alloc ?_ _ | with_reducible refine Adds.more ?_ _ _ | with_reducible refine Adds.drew ?_ | with_reducible refine Adds.drewN ?_ _))) rfl hoa (by simp; omega) ?_; intro v1 w1 h1; rw [List.nil_append] at h1)
      | (at_builtin; refine slices_app rfl (.tmp 15) (.tmp 16) rfl h1 rfl (hvb'.adds h1.added) rfl hob (by omega) ?_; intro v2 w2 h2)
      | (go_at_call 8; (with_reducible refine (awake_any _).mono ?_); rintro e w8 ⟨rfl, a8⟩))
    all_goals first
      | (go_ret
         exact ⟨rfl, h2.added.trans a8⟩)
      | (exfalso; omega)

end Go.Proofs.Ytmbnpglnanfdoaa
