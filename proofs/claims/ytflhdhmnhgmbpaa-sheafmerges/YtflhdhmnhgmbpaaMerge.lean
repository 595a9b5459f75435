/-
  The function Merge of package sheaf, by a contract.
-/
import Derived.Test.YtflhdhmnhgmbpaaSplit2
import Derived.Deep.RegionLaw
namespace Go.Proofs.Ytflhdhmnhgmbpaa
open Go.RowKit
attribute [local go_sem] cell?_more frozen?_more setCell_more size_more tape_more drew_more drewN_more more_drew more_drewN one_out plus_out plus_end lt_one le_p2 le_p3 le_p4 le_p5 le_p6 le_p7 le_p8 le_p9 le_p10 le_p11 le_p12 le_p13 le_p14 le_p15 le_p16 le_p17 le_p18 le_p19 le_p20 le_p21 le_p22 le_p23 le_p24 le_q0 le_q1 lt_q1 le_q2 lt_q2 le_q3 lt_q3 le_q4 lt_q4 le_q5 lt_q5 le_q6 lt_q6 le_q7 lt_q7 le_q8 lt_q8 le_q9 lt_q9 le_q10 lt_q10 le_q11 lt_q11 le_q12 lt_q12 le_q13 lt_q13 le_q14 lt_q14 le_q15 lt_q15 le_q16 lt_q16 le_q17 lt_q17 le_q18 lt_q18 le_q19 lt_q19 le_q20 lt_q20 le_q21 lt_q21 le_q22 lt_q22 le_q23 lt_q23 le_q24 lt_q24

theorem merge_bad (s s' : Value) (a b : List F) (w : World) (h : Lst w s a) (h' : Lst w s' b) (hl6 : a.length ≤ 1000) (hl6' : b.length ≤ 1000) (hb : ¬ May a ∨ ¬ May b) :
    Calls Try.prog 21 #[s, s'] w fun e w' => e = .returned (.tuple #[.slice none 0 0, .int .i64 1]) ∧ Adds w w' := by
  by_cases hM : May a
  · have hm := hb.resolve_left (fun h => h hM)
    have hd0 := check_yes s a w h hl6 hM
    have hd1 := fun w' hA => check_no s' b w' (h'.adds hA) hl6' hm
    go_enter Try.func21, Try.ntmps21
    go_wp2_with (first
      | (go_at_call 11; (with_reducible refine hd0.mono ?_); rintro e w1 ⟨rfl, os1, n1, rfl⟩; clear hd0)
      | (go_at_call 11; (with_reducible refine (hd1 _ (by repeat (first | with_reducible exact Adds.refl _ | with_reducible refine Adds.alloc ?_ _ | with_reducible refine Adds.more ?_ _ _ | with_reducible refine Adds.drew ?_ | with_reducible refine Adds.drewN ?_ _))).mono ?_); rintro e w2 ⟨rfl, os2, n2, rfl⟩))
    go_ret2
    refine ⟨rfl, ?_⟩
    repeat (first | with_reducible exact Adds.refl _ | with_reducible refine Adds.alloc ?_ _ | with_reducible refine Adds.more ?_ _ _ | with_reducible refine Adds.drew ?_ | with_reducible refine Adds.drewN ?_ _)
  · have hd0 := check_no s a w h hl6 hM
    go_enter Try.func21, Try.ntmps21
    go_wp2_with (go_at_call 11; (with_reducible refine hd0.mono ?_); rintro e w1 ⟨rfl, os1, n1, rfl⟩)
    go_ret2
    exact ⟨rfl, ⟨_, _, rfl⟩⟩

/-- append to a row that a call owns: the row, and what else has turned. -/
theorem own_append3 (w : World) (B : Nat) (ty : TypeId) (v : Value) (fs : List F) (W0 : World) (h : Own B v fs W0 w) (x : Value) (gs : List F) (hx : Lst w x gs) (hlen : fs.length + gs.length ≤ 100000) :
    ∃ v' w', (Builtin.append_ #[22, 22] ty #[v, x]).run Try.prog w = .ok v' w' ∧ Own B v' (fs ++ gs) W0 w' ∧ w.grownBy w' v.ownBlock := by
  obtain ⟨i0, hi, hz0, hz1, hz2⟩ := info_parts Try.info35
  obtain ⟨ao, cap, rfl, hcap, hxs⟩ := hx
  have key : ∀ v' w', w'.ownsRow B 35 2 v' (fs.length + gs.length) (cellsF fs ++ cellsF gs) → w.grownBy w' v.ownBlock → Own B v' (fs ++ gs) W0 w' := by
    intro v' w' h2 h3
    refine ⟨by rw [List.length_append, cellsF_append]; exact h2, ?_, Nat.le_trans h.2.2 h3.size⟩
    refine ⟨h3.os.trans h.2.1.os, h3.tape.trans h.2.1.tape, h3.output.trans h.2.1.output, Nat.le_trans h.2.1.size h3.size, fun k hk => ?_⟩
    rw [h3.block k (Nat.lt_of_lt_of_le hk h.2.2) ?_]
    · exact h.2.1.block k hk
    · intro e
      have := h.1.lt k e.symm
      omega
  rcases hxs with rfl | ⟨b, off, rfl, hb, hl⟩
  · have hrun : (Builtin.append_ #[22, 22] ty #[v, .slice ao 0 cap]).run Try.prog w = .ok v w := by
      rcases h.1.2 with ⟨rfl, hn⟩ | ⟨g, cp, cur, rfl, hbb, hg, hnc, hcm, hcs, htk⟩
      · cases ao <;> simp [Builtin.append_, run_underlying Try.underlying22, sizeOf, typeInfo, hi, Builtin.lenOf, Builtin.firstCells, loadCells, loadCellsFrom]
      · cases ao <;> simp [Builtin.append_, run_underlying Try.underlying22, sizeOf, typeInfo, hi, Builtin.lenOf, Builtin.firstCells, loadCells, loadCellsFrom, hnc, storeCells]
    refine ⟨v, w, by simpa using hrun, ?_, ⟨rfl, rfl, rfl, Nat.le_refl _, fun _ _ _ => rfl⟩⟩
    rw [List.append_nil]
    exact h
  · obtain ⟨v', w', h1, h2, h3, _⟩ := run_append_own (P := Try.prog) w B 22 ty 35 i0 _ 2 32 Try.underlying22 hi hz0 hz1 hz2 rfl (by decide) v fs.length (cellsF fs) h.1 ⟨b, off, none⟩ gs.length cap (cellsF gs) (cellsF_length gs) hl.cells (cellsF_one gs) (by unfold maxLen; omega) (by omega) h.2.2
    exact ⟨v', w', h1, key v' w' h2 h3, h3⟩

/-- A pair in a block that is not the row's. -/
def Box (bx : Nat) (x : F) (v : Value) (W : World) : Prop := bx < W.heap.size ∧ W.cell? ⟨bx, 0, none⟩ = some (.string x.path) ∧ W.cell? ⟨bx, 1, none⟩ = some (.string x.val) ∧ ¬ v.ownBlock = some bx

theorem Box.kept {bx : Nat} {x : F} {v : Value} {W W' : World} (h : Box bx x v W) (hg : W.grownBy W' v.ownBlock) : bx < W'.heap.size ∧ W'.cell? ⟨bx, 0, none⟩ = some (.string x.path) ∧ W'.cell? ⟨bx, 1, none⟩ = some (.string x.val) := by
  obtain ⟨h1, h2, h3, h4⟩ := h
  have hb := hg.block bx h1 (fun e => h4 e.symm)
  exact ⟨Nat.lt_of_lt_of_le h1 hg.size, (World.cell?_of_block hb).trans h2, (World.cell?_of_block hb).trans h3⟩

theorem Box.lst {bx : Nat} {x : F} {v : Value} {W W' : World} (h : Box bx x v W) (hg : W.grownBy W' v.ownBlock) : Lst W' (.slice (some ⟨bx, 0, none⟩) 1 1) [x] := by
  obtain ⟨h1, h2, h3⟩ := h.kept hg
  refine ⟨_, 1, rfl, Nat.le_refl _, .inr ⟨bx, 0, rfl, h1, fun j hj => ?_⟩⟩
  have : j = 0 := by simpa using hj
  subst this
  exact ⟨by simpa using h2, by simpa using h3⟩

theorem box_new {x : F} {B : Nat} {v : Value} {fs : List F} {W0 w : World} (h : Own B v fs W0 w) {T : TypeId} {k : Nat} (hk : k = w.heap.size) {W : World} (hA : Adds (w.alloc (.cells #[.string x.path, .string x.val] T)) W) : Box k x v W := by
  subst hk
  have hb := hA.below
  have h1 : w.heap.size < (w.alloc (.cells #[.string x.path, .string x.val] T)).heap.size := by simp
  refine ⟨Nat.lt_of_lt_of_le h1 hb.size, (hb.cell (p := ⟨w.heap.size, 0, none⟩) h1).trans (by simp), (hb.cell (p := ⟨w.heap.size, 1, none⟩) h1).trans (by simp), fun e => ?_⟩
  have := (h.1.lt _ e).2
  omega

/-- append, as one step of a region that draws its order; all other blocks stay. -/
theorem own_step {ops : Array Oper} {o : Oper} {a : Act} {w : World} {K : Act → World → Prop} {Q : Exit → Act → World → Prop} {E : Prop} (hgd : o.guard = none) (s x : Operand) (ho : o.op = .call { callee := .builtin .append, args := #[s, x], argTypes := #[22, 22] })
    {B : Nat} {v : Value} {fs : List F} {W0 : World} (h : Own B v fs W0 w) (hs : a.eval s = v) {x' : Value} {gs : List F} (hg : Lst w x' gs) (hx : a.eval x = x') (hlen : fs.length + gs.length ≤ 100000)
    (hk : ∀ v' w', Own B v' (fs ++ gs) W0 w' → w.grownBy w' v.ownBlock → K (a.put o.dst v') w') : if Region.wanted o (yielded ops a.tmps) = true then Oper.wp Try.prog o a w K Q else E := by
  have hw : Region.wanted o (yielded ops a.tmps) = true := by simp [Region.wanted, hgd]
  rw [if_pos hw]
  obtain ⟨v', w', hr, h2, h3⟩ := own_append3 w B o.type v fs W0 h x' gs hg hlen
  exact Lib.wp_append_run w s x 22 22 ho v x' hs hx v' w' hr (hk v' w' h2 h3)

set_option maxHeartbeats 2000000 in
theorem merge_ok (s s' : Value) (a b : List F) (w : World) (h : Lst w s a) (h' : Lst w s' b) (hl6 : a.length ≤ 400) (hl6' : b.length ≤ 400) (hMa : May a) (hMb : May b) :
    Calls Try.prog 21 #[s, s'] w fun e w' => ∃ v, e = .returned (.tuple #[v, .int .i64 0]) ∧ Lst w' v (mergeDoc a b) ∧ Adds w w' := by
  have hd0 := check_yes s a w h (by omega) hMa
  have hd1 := fun w' hA => check_yes s' b w' (h'.adds hA) (by omega) hMb
  obtain ⟨bo, cap', rfl, hcap', hbo⟩ := h'
  go_enter Try.func21, Try.ntmps21
  go_wp2_with (first
    | (go_at_call 11; (with_reducible refine hd0.mono ?_); rintro e w1 ⟨rfl, os1, n1, rfl⟩; clear hd0)
    | (go_at_call 11; (with_reducible refine (hd1 _ (by repeat (first | with_reducible exact Adds.refl _ | with_reducible refine Adds.alloc ?_ _ | with_reducible refine Adds.more ?_ _ _ | with_reducible refine Adds.drew ?_ | with_reducible refine Adds.drewN ?_ _))).mono ?_); rintro e w2 ⟨rfl, os2, n2, rfl⟩))
  clear hd1
  go_loopw [0, 6, 21] (fun av nv i w2 => ∃ (k : Nat) (A L : List F), k ≤ b.length ∧ i = .int .i64 k ∧ Lst w av A ∧ Rises A ∧ A.length ≤ a.length ∧ L.length + A.length ≤ a.length + k ∧ L ++ mergeDoc A (b.drop k) = mergeDoc a b ∧ Own w.heap.size nv L w w2) (fun _ _ i _ => b.length - (intOf i).toNat)
  case atStart => exact ⟨0, a, [], Nat.zero_le _, rfl, h, hMa.rises, Nat.le_refl _, by simp, by simp, (Own.nil _ _ (Nat.le_refl _)).adds (by repeat (first | with_reducible exact Adds.refl _ | with_reducible refine Adds.alloc ?_ _ | with_reducible refine Adds.more ?_ _ _ | with_reducible refine Adds.drew ?_ | with_reducible refine Adds.drewN ?_ _))⟩
  case round =>
    obtain ⟨k, A, L, hk, rfl, hA, hr, hAl, hLl, hm, hown⟩ := hrel
    have HM : Hid _ := hm
    clear hm
    have hB := hown.2.2
    by_cases hlt : k < b.length
    · rcases hbo with rfl | ⟨bb, boff, rfl, hbb, hbl⟩
      · simp at hlt
      obtain ⟨c0, c1⟩ := hbl.below hown.2.1 hbb k hlt
      have hbs : bb < wr.heap.size := by omega
      have HD : Hid (b.drop k = b[k] :: b.drop (k + 1)) := List.drop_eq_getElem_cons hlt
      generalize b[k] = x at *
      have ks := fun W (hW : Below w.heap.size w W) => split_from u0 A x.path W (hA.below hW) (by omega) hr
      have HE : Hid (mergeDoc A (x :: b.drop (k + 1)) = A.take (cutAt x.path A) ++ x :: mergeDoc (restOf x.path A) (b.drop (k + 1))) := rfl
      have hr2 := hr.rest x.path
      have hle3 : (A.take (cutAt x.path A)).length + (restOf x.path A).length ≤ A.length := by
        unfold restOf
        have := cutAt_le x.path A
        split <;> simp <;> omega
      generalize A.take (cutAt x.path A) = L1 at *
      generalize restOf x.path A = L2 at *
      obtain ⟨p, v⟩ := x
      go_wp2_with (first
        | (go_at_call 23; (refine (ks _ (hown.2.1.trans (Below.mono (Adds.below (by repeat (first | with_reducible exact Adds.refl _ | with_reducible refine Adds.alloc ?_ _ | with_reducible refine Adds.more ?_ _ _ | with_reducible refine Adds.drew ?_ | with_reducible refine Adds.drewN ?_ _))) hB))).mono ?_); rintro e w3 ⟨y1, y2, rfl, hy, os3, n3, rfl⟩; obtain ⟨hy1, hy2⟩ := hy w hA; obtain ⟨a1, q1, rfl⟩ := hy1.slice; obtain ⟨a2, q2, rfl⟩ := hy2.slice))
      go_region_law (first
        | (refine own_step rfl (.tmp 32) (.tmp 33) rfl (hown.adds (by repeat (first | with_reducible exact Adds.refl _ | with_reducible refine Adds.alloc ?_ _ | with_reducible refine Adds.more ?_ _ _ | with_reducible refine Adds.drew ?_ | with_reducible refine Adds.drewN ?_ _))) rfl (hy1.below ((hown.adds (by repeat (first | with_reducible exact Adds.refl _ | with_reducible refine Adds.alloc ?_ _ | with_reducible refine Adds.more ?_ _ _ | with_reducible refine Adds.drew ?_ | with_reducible refine Adds.drewN ?_ _))).2.1)) rfl (by omega) ?_; intro v4 w4 hown4 hg4; obtain ⟨e0, e1, e2⟩ := Box.kept (box_new (x := ⟨p, v⟩) (k := wr.heap.size) hown rfl (by repeat (first | with_reducible exact Adds.refl _ | with_reducible refine Adds.alloc ?_ _ | with_reducible refine Adds.more ?_ _ _ | with_reducible refine Adds.drew ?_ | with_reducible refine Adds.drewN ?_ _))) hg4)
        | (refine own_step rfl (.tmp 34) (.tmp 36) rfl (hown4.adds (by repeat (first | with_reducible exact Adds.refl _ | with_reducible refine Adds.alloc ?_ _ | with_reducible refine Adds.more ?_ _ _ | with_reducible refine Adds.drew ?_ | with_reducible refine Adds.drewN ?_ _))) rfl (lst_new (f := ⟨p, v⟩) (by simp [go_sem])) rfl (by simp only [List.length_append, List.length_singleton]; omega) ?_; intro v5 w5 hown5 hg5)
        | (refine own_step rfl (.tmp 34) (.tmp 36) rfl hown4 rfl (Box.lst (box_new (x := ⟨p, v⟩) (hown.adds (by repeat (first | with_reducible exact Adds.refl _ | with_reducible refine Adds.alloc ?_ _ | with_reducible refine Adds.more ?_ _ _ | with_reducible refine Adds.drew ?_ | with_reducible refine Adds.drewN ?_ _))) (by simp [go_sem]) (Adds.refl _)) hg4) rfl (by simp only [List.length_append, List.length_singleton]; omega) ?_; intro v5 w5 hown5 hg5))
      all_goals
        go_wp2
        go_roundw
        case rel =>
          refine ⟨k + 1, L2, L ++ L1 ++ [⟨p, v⟩], by omega, by go_num, hy2, hr2, by omega, by simp only [List.length_append, List.length_singleton]; omega, ?_, hown5⟩
          rw [← HM.out, HD.out, HE.out]
          simp
        case measure => simp [intOf]; omega
    · have hk' : k = b.length := by omega
      subst hk'
      go_wp2_with (at_builtin; refine own_app rfl (.tmp 40) (.tmp 41) rfl hown rfl (hA.below hown.2.1) rfl (by omega) ?_; intro v1 w1 hown1)
      go_ret2
      refine ⟨_, rfl, ?_, Adds.of hown1.2.1⟩
      rw [← HM.out, List.drop_length]
      exact hown1.lst

end Go.Proofs.Ytflhdhmnhgmbpaa
