/-
  The tape's method Append by contract, where there is room.
-/
import Derived.Test.YtelkkpomehgcjaaGreatTape
import Derived.StillTailTactics
namespace Go.Proofs.YtelkkpomehgcjaaGreat
open Go.RowKit Go.Maps
attribute [local go_sem] cell?_more frozen?_more setCell_more size_more tape_more drew_more drewN_more more_drew more_drewN more_more one_out plus_out plus_end lt_one le_p2 le_p3 le_p4 le_p5 le_p6 le_p7 le_p8 le_p9 le_p10 le_p11 le_p12 le_p13 le_p14 le_p15 le_p16 le_p17 le_p18 le_p19 le_p20 le_p21 le_p22 le_p23 le_p24 le_q0 le_q1 lt_q1 le_q2 lt_q2 le_q3 lt_q3 le_q4 lt_q4 le_q5 lt_q5 le_q6 lt_q6 le_q7 lt_q7 le_q8 lt_q8 le_q9 lt_q9 le_q10 lt_q10 le_q11 lt_q11 le_q12 lt_q12 le_q13 lt_q13 le_q14 lt_q14 le_q15 lt_q15 le_q16 lt_q16 le_q17 lt_q17 le_q18 lt_q18 le_q19 lt_q19 le_q20 lt_q20 le_q21 lt_q21 le_q22 lt_q22 le_q23 lt_q23 le_q24 lt_q24

theorem call_step {ops : Array Oper} {o : Oper} {a : Act} {w : World} {K : Act → World → Prop} {Q : Exit → Act → World → Prop} {E : Prop} (hg : o.guard = none) (f : FuncId) (x : Operand) (t : TypeId)
    (_ho : o.op = .call { callee := .value (.func f), args := #[x], argTypes := #[t] }) (v : Value) (hx : a.eval x = v) {R : Value → World → Prop}
    (hc : Calls Tryz.prog f #[v] w fun e w' => ∃ u, e = .returned u ∧ R u w') (hrun : (execOp a.eval o).run Tryz.prog w = .ok (.enter f #[a.eval x]) w) (hk : ∀ u w', R u w' → K (a.put o.dst u) w') : if Region.wanted o (yielded ops a.tmps) = true then Oper.wp Tryz.prog o a w K Q else E := by
  have hw : Region.wanted o (yielded ops a.tmps) = true := by simp [Region.wanted, hg]
  rw [if_pos hw]
  unfold Oper.wp
  rw [hrun, hx]
  simp only [Oper.upon]
  refine hc.mono ?_
  rintro e w' ⟨u, rfl, hR⟩
  exact hk u w' hR

theorem slice_append (w : World) (B : Nat) (ty : TypeId) (v : Value) (xs : List Value) (h : w.ownsRow B 40 1 v xs.length xs) (hB : B ≤ w.heap.size) (x : Value) (hx : x.oneCell' = true) (g c : Nat) (hg : w.cell? ⟨g, 0, none⟩ = some x) (hlen : xs.length ≤ 1000000000) :
    ∃ v' w', (Builtin.append_ #[37, 37] ty #[v, .slice (some ⟨g, 0, none⟩) 1 c]).run Tryz.prog w = .ok v' w' ∧ w'.ownsRow B 40 1 v' (xs ++ [x]).length (xs ++ [x]) ∧ w.grownBy w' v.ownBlock ∧ (v'.ownBlock = v.ownBlock ∨ v'.ownBlock = some w.heap.size) := by
  obtain ⟨i0, hi, hz0, hzs, hzb⟩ := info_parts Tryz.info40
  obtain ⟨v', w', h1, h2, h3, _, h5⟩ := run_append_own_at (P := Tryz.prog) w B 37 ty 40 i0 (.slice none 0 0) 1 24 Tryz.underlying37 hi hz0 hzs hzb rfl (by decide) v xs.length xs h ⟨g, 0, none⟩ 1 c [x] (by simp)
    (fun j u hu => by
      have : j = 0 := by
        have := (List.getElem?_eq_some_iff.1 hu).1
        simpa using this
      subst this
      simp at hu
      subst hu
      simpa [Addr.add] using hg) (by intro u hu; simp at hu; subst hu; exact hx) (by unfold maxLen; omega) (by omega) hB
  refine ⟨v', w', h1, ?_, h3, h5⟩
  rw [List.length_append]
  exact h2

theorem slice_step {ops : Array Oper} {o : Oper} {a : Act} {w : World} {K : Act → World → Prop} {Q : Exit → Act → World → Prop} {E : Prop} (hgd : o.guard = none) (s x : Operand) (ho : o.op = .call { callee := .builtin .append, args := #[s, x], argTypes := #[37, 37] })
    {B : Nat} {v : Value} {xs : List Value} (h : w.ownsRow B 40 1 v xs.length xs) (hB : B ≤ w.heap.size) (hs : a.eval s = v) (y : Value) (hy : y.oneCell' = true) (g c : Nat) (hx : a.eval x = .slice (some ⟨g, 0, none⟩) 1 c) (hg : w.cell? ⟨g, 0, none⟩ = some y) (hlen : xs.length ≤ 1000000000)
    (hk : ∀ v' w', w'.ownsRow B 40 1 v' (xs ++ [y]).length (xs ++ [y]) → w.grownBy w' v.ownBlock → (v'.ownBlock = v.ownBlock ∨ v'.ownBlock = some w.heap.size) → K (a.put o.dst v') w') :
    if Region.wanted o (yielded ops a.tmps) = true then Oper.wp Tryz.prog o a w K Q else E := by
  have hw : Region.wanted o (yielded ops a.tmps) = true := by simp [Region.wanted, hgd]
  rw [if_pos hw]
  obtain ⟨v', w', hr, h2, h3, h5⟩ := slice_append w B o.type v xs h hB y hy g c hg hlen
  exact Lib.wp_append_run w s x 37 37 ho v _ hs hx v' w' hr (hk v' w' h2 h3 h5)

theorem TapW.adds {w w' : World} {B : Nat} {T : Tw} {d : Dk} (h : TapW w B T d) (ha : Adds w w') : TapW w' B T d := by
  obtain ⟨xs, h1, h2⟩ := h.row
  exact ⟨h.st.adds ha, ha.at h.hp, h.bp, xs, row_adds h1 ha, h2.imp fun _ _ hx => hx.mv (Mv.adds _ ha)⟩

/-- The reel moves: the tape stays. -/
theorem TapW.moves {w w' : World} {B : Nat} {T : Tw} {d d' : Dk} {R' : Rw} {n : Nat} (h : TapW w B T d) (s : St w' B R' d') (g : Goes w T.R w' R' n) : TapW w' B { T with R := R' } d' ∧ Mv w T.foot w' ({ T with R := R' } : Tw).foot := by
  have hm : Mv w T.foot w' ({ T with R := R' } : Tw).foot := by
    refine ⟨g.moves.os, g.moves.tape, g.moves.output, g.moves.size, fun i hi hn => ?_⟩
    obtain ⟨e, hf⟩ := g.moves.block i hi fun hf => hn (.inl hf)
    exact ⟨e, fun hc => hc.elim hf fun hc => hn (.inr hc)⟩
  obtain ⟨xs, h1, h2⟩ := h.row
  refine ⟨⟨s, ?_, h.bp, xs, row_moves h.st.live.mem g.moves odd40 h1, h2.imp fun _ _ hx => hx.mv hm⟩, hm⟩
  show w'.heap[T.p]? = some (.cells #[ptr R'.p, _, _, _] 112 (0, 0))
  rw [g.p]
  exact (g.moves.block T.p (Array.getElem?_eq_some_iff.1 h.hp).1 (tape_out h.st.live.mem h.hp odd112)).1.trans h.hp

theorem set_recs {w : World} {p : Nat} {a b c v : Value} (x : Value) (h : w.heap[p]? = some (.cells #[a, b, c, v] 112 (0, 0))) :
    (w.setCell ⟨p, 3, none⟩ x).heap[p]? = some (.cells #[a, b, c, x] 112 (0, 0)) := by
  rw [heap_setCell_at x h (by simp)]
  rfl

/-- A record more in the row. -/
theorem TapW.push {W w7 : World} {B : Nat} {T : Tw} {d : Dk} (h : TapW W B T d) {xs : List Value} {r v' : Value} {m : List UInt8} (hx : EachA W T.foot xs T.ls) (ho : W.ownsRow B 40 1 T.v xs.length xs) (hr : BytA W T.foot r m)
    (h7 : w7.ownsRow B 40 1 v' (xs ++ [r]).length (xs ++ [r])) (hg : W.grownBy w7 T.v.ownBlock) (hv : v'.ownBlock = T.v.ownBlock ∨ v'.ownBlock = some W.heap.size) :
    TapW (w7.setCell ⟨T.p, 3, none⟩ v') B { T with v := v', ls := T.ls ++ [m] } d ∧ Mv W T.foot (w7.setCell ⟨T.p, 3, none⟩ v') ({ T with v := v', ls := T.ls ++ [m] } : Tw).foot := by
  have hpo := tape_out h.st.live.mem h.hp odd112
  have hvp : T.v.ownBlock ≠ some T.p := fun e => by
    obtain ⟨C, hC⟩ := row_block ho e
    rw [h.hp] at hC
    simp at hC
  have hpl := (Array.getElem?_eq_some_iff.1 h.hp).1
  have hp7 : w7.heap[T.p]? = some (.cells #[ptr T.R.p, .int .i64 T.file, .int .i64 (T.base : Int), T.v] 112 (0, 0)) := (hg.block T.p hpl (fun e => hvp e.symm)).trans h.hp
  have hs := grown_set w7 T.p 3 v'
  have hm : Mv W T.foot (w7.setCell ⟨T.p, 3, none⟩ v') ({ T with v := v', ls := T.ls ++ [m] } : Tw).foot := by
    refine ⟨hs.os.trans hg.os, hs.tape.trans hg.tape, hs.output.trans hg.output, Nat.le_trans hg.size hs.size, fun i hi hn => ⟨?_, ?_⟩⟩
    · refine (hs.block i (Nat.lt_of_lt_of_le hi hg.size) fun e => hn (.inr (.inl (by simpa using e)))).trans (hg.block i hi fun e => hn (.inr (.inr e.symm)))
    · rintro (hc | hc | hc)
      · exact hn (.inl hc)
      · exact hn (.inr (.inl hc))
      · have hc' : v'.ownBlock = some i := hc
        rcases hv with e | e
        · exact hn (.inr (.inr (e.symm.trans hc')))
        · rw [e] at hc'
          simp at hc'
          omega
  refine ⟨⟨?_, set_recs v' hp7, h.bp, xs ++ [r], ?_, ?_⟩, hm⟩
  · refine h.st.keep (Nat.le_trans hg.size hs.size) fun i hi => ?_
    have hil := (h.st.live.mem.lt hi).2
    have hip : i ≠ T.p := fun e => hpo (e ▸ hi)
    refine (hs.block i (Nat.lt_of_lt_of_le hil hg.size) fun e => hip (by simpa using e)).trans (hg.block i hil fun e => odd_foot h.st.live.mem odd40 ho e.symm hi)
  · refine row_keep h7 fun i hi => hs.block i (h7.lt i hi).2 fun e => ?_
    have e' : i = T.p := by simpa using e
    subst e'
    rcases hv with e1 | e1
    · exact hvp (e1.symm.trans hi)
    · rw [e1] at hi
      simp at hi
      omega
  · exact (hx.snoc hr).imp fun _ _ hb => hb.mv hm

theorem TapW.lt {w : World} {B : Nat} {T : Tw} {d : Dk} (h : TapW w B T d) : ∀ i, T.foot i → i < w.heap.size := by
  obtain ⟨xs, ho, _⟩ := h.row
  rintro i (hf | rfl | hf)
  · exact (h.st.live.mem.lt hf).2
  · exact (Array.getElem?_eq_some_iff.1 h.hp).1
  · exact (ho.lt i hf).2

theorem Adds.size_le {w w' : World} (h : Adds w w') : w.heap.size ≤ w'.heap.size := h.below.size

theorem TapW.cell {w : World} {B : Nat} {T : Tw} {d : Dk} (h : TapW w B T d) : w.cell? ⟨T.p, 0, none⟩ = some (ptr T.R.p) ∧ w.cell? ⟨T.p, 1, none⟩ = some (.int .i64 T.file) ∧ w.cell? ⟨T.p, 3, none⟩ = some T.v :=
  ⟨cell_of_row w T.p 0 _ _ _ h.hp, cell_of_row w T.p 1 _ _ _ h.hp, cell_of_row w T.p 3 _ _ _ h.hp⟩

/-- What an appending leaves. -/
structure Added (w : World) (B : Nat) (T : Tw) (d : Dk) (m : List UInt8) (w' : World) (T' : Tw) : Prop where
  tap : TapW w' B T' ((d.app T.file (record m)).sync)
  p : T'.p = T.p
  file : T'.file = T.file
  base : T'.base = T.base
  ls : T'.ls = T.ls ++ [m]
  rp : T'.R.p = T.R.p
  room : T'.R.room = T.R.room
  bulk : T'.R.bulk ≤ T.R.bulk + 2 * (m.length + 9) + 1
  mv : Mv w T.foot w' T'.foot

set_option maxRecDepth 20000 in
set_option maxHeartbeats 3000000 in
theorem append_tape {w : World} {B : Nat} {T : Tw} {d : Dk} {K : Kf} (h : TapW w B T d) (hK : SrtK K) (hf : filesK K = d.now) (hb : T.R.bulk ≤ 68719476736) (x : Value) (m : List UInt8) (hx : BytA w T.foot x m) (hm : m.length ≤ 16384) (hfile : 0 ≤ T.file ∧ T.file ≤ 1048576) (hroom : sizeK K + (m.length + 9) ≤ T.R.room) (hls : T.ls.length ≤ 1000000) :
    Calls Tryz.prog 77 #[ptr T.p, x] w fun e w' => e = .returned (.int .i64 0) ∧ ∃ T', Added w B T d m w' T' := by
  have kO := opened_any h.tap
  have kR := record_any x m w hx.byt hm
  have hlow := h.st.live.low
  have kP : ∀ W r, Adds w W → Byt W r (record m) → Calls Tryz.prog 22 #[ptr T.R.p, .int .i64 T.file, r] W fun e w' => e = .returned (.int .i64 0) ∧ ∃ R', St w' B R' (d.app T.file (record m)) ∧ Goes w T.R w' R' (2 * (m.length + 9) + 1) := fun W r hW hr => by
    refine (st_append (h.st.adds hW) T.file hfile r _ hr (by rw [h.st.total hK hf, record_length]; omega) (by omega)).mono ?_
    rintro e w' ⟨rfl, R', s', g'⟩
    rw [record_length] at g'
    exact ⟨rfl, R', s', ((Goes.adds T.R hW).trans g').mono (by omega)⟩
  have kS : ∀ W R', St W B R' (d.app T.file (record m)) → Goes w T.R W R' (2 * (m.length + 9) + 1) → Calls Tryz.prog 23 #[ptr T.R.p] W fun e w' => e = .returned (.tuple #[]) ∧ ∃ R'', TapW w' B { T with R := R'' } ((d.app T.file (record m)).sync) ∧ Mv w T.foot w' ({ T with R := R'' } : Tw).foot ∧ Goes w T.R w' R'' (2 * (m.length + 9) + 1) := fun W R' s' g' => by
    have k := st_sync s'
    rw [g'.p] at k
    refine k.mono ?_
    rintro e w' ⟨rfl, R'', s'', g''⟩
    obtain ⟨t1, t2⟩ := h.moves s'' (g'.trans g'')
    exact ⟨rfl, R'', t1, t2, g'.trans g''⟩
  obtain ⟨c0, c1, c3⟩ := h.cell
  have c0' : ∀ W, Adds w W → W.cell? ⟨T.p, 0, none⟩ = some (ptr T.R.p) ∧ W.cell? ⟨T.p, 1, none⟩ = some (.int .i64 T.file) := fun W hW => ⟨(h.adds hW).cell.1, (h.adds hW).cell.2.1⟩
  go_enter Tryz.func77, Tryz.ntmps77
  go_wp2_with (first
    | (go_at_call 64; refine kO.mono ?_; rintro e w1 ⟨rfl, rfl⟩)
    | (go_at_call 93; refine kR.mono ?_; rintro e w2 ⟨r2, rfl, o2⟩))
  clear c0 c1 c3 kO kR
  obtain ⟨c0, c1⟩ := c0' w2 o2.added
  have d0 : w2.drew.cell? ⟨T.p, 0, none⟩ = some (ptr T.R.p) := c0
  have d1 : w2.drew.cell? ⟨T.p, 1, none⟩ = some (.int .i64 T.file) := c1
  refine wp_region_still_tail 10 (by kernel_rfl) (by kernel_rfl) ?_
  simp only [List.take_succ_cons, List.take_zero, List.drop_succ_cons, List.drop_zero]
  change wpStill _ _ (World.drew _) (fun a' => wpList _ _ _ _ a' (World.drew _)) _ _
  repeat still_step
  refine wpStill_nil ?_
  go_wp2_with (first
    | (go_at_call 22; refine (kP _ _ (o2.added.trans ((Adds.refl _).drew)) (o2.byt.adds ((Adds.refl _).drew))).mono ?_; rintro e w3 ⟨rfl, R3, s3, g3⟩; have kS3 := kS w3 R3 s3 g3; have e0 : w3.cell? ⟨T.p, 0, none⟩ = some (ptr T.R.p) := (by have t := (h.moves s3 g3).1.cell.1; rw [show ({ T with R := R3 } : Tw).R.p = T.R.p from g3.p] at t; exact t); clear s3 g3)
    | (go_at_call 23; refine kS3.mono ?_; rintro e w4 ⟨rfl, R4, t4, m4, g4⟩))
  obtain ⟨_, _, c3⟩ := t4.cell
  have c3' : w4.cell? ⟨T.p, 3, none⟩ = some T.v := c3
  have hx4 := hx.mv m4
  obtain ⟨xs, ho4, he4⟩ := t4.row
  have ho4' : w4.ownsRow B 40 1 T.v xs.length xs := ho4
  have hft := t4.lt
  have hxl : xs.length ≤ 1000000 := by
    have e1 : xs.length = T.ls.length := he4.1
    omega
  have hlow4 : B ≤ w4.heap.size := t4.st.live.low
  have hp4 : w4.heap[T.p]? = some (.cells #[ptr R4.p, .int .i64 T.file, .int .i64 (T.base : Int), T.v] 112 (0, 0)) := t4.hp
  have hpl : T.p < w4.heap.size := (Array.getElem?_eq_some_iff.1 hp4).1
  have hvp : T.v.ownBlock ≠ some T.p := fun e => by
    obtain ⟨C, hC⟩ := row_block ho4' e
    rw [hp4] at hC
    simp at hC
  have kC : ∀ W, Adds w4 W → Calls Tryz.prog 65 #[x] W fun e w' => ∃ u, e = .returned u ∧ (∃ ao l c, u = .slice ao l c ∧ BytA w' ({ T with R := R4 } : Tw).foot u m ∧ Adds W w') := fun W hW => by
    refine (clone_any x m W ((hx4.mv (Mv.adds _ hW)).byt) (by omega)).mono ?_
    rintro e w' ⟨u, rfl, h1, h2⟩
    obtain ⟨ao, l, c, e⟩ := row_slice h1
    refine ⟨u, rfl, ao, l, c, e, (fr_row h1).bytA fun b C hb hg hc => ?_, h2⟩
    have := hft b hc
    have := hW.below.size
    omega
  have pre : ∀ W w7, Adds w4 W → W.grownBy w7 T.v.ownBlock → w7.cell? ⟨T.p, 3, none⟩ = some T.v ∧ w7.frozen? ⟨T.p, 3, none⟩ = false := fun W w7 hW hg => by
    have h7 : w7.heap[T.p]? = some (.cells #[ptr R4.p, .int .i64 T.file, .int .i64 (T.base : Int), T.v] 112 (0, 0)) := (hg.block T.p (Nat.lt_of_lt_of_le hpl hW.below.size) (fun e => hvp e.symm)).trans (hW.at hp4)
    exact ⟨cell_of_row w7 T.p 3 _ _ _ h7, frozen_of h7⟩
  have HT4 : Hid _ := t4
  have HM4 : Hid _ := m4
  have HG4 : Hid _ := g4
  have HE4 : Hid _ := he4
  clear t4 m4 g4 he4 c3 hx4 kP kS kS3 c0' c0 c1 d0 d1 e0 hft hvp hx h ho4 hlow hp4
  go_region_law (first
    | (refine call_step (R := fun u w' => ∃ ao l c, u = .slice ao l c ∧ BytA w' ({ T with R := R4 } : Tw).foot u m ∧ Adds _ w') rfl 65 (.tmp 44) 40 rfl _ rfl (kC _ (by repeat (first | with_reducible exact Adds.refl _ | with_reducible refine Adds.alloc ?_ _ | with_reducible refine Adds.more ?_ _ _ | with_reducible refine Adds.drew ?_ | with_reducible refine Adds.drewN ?_ _))) (by go_simp) ?_; rintro u5 w5 ⟨ao5, l5, c5, rfl, b5, os5, n5, rfl⟩)
    | (refine slice_step rfl (.tmp 43) (.tmp 46) rfl (row_adds ho4' (by repeat (first | with_reducible exact Adds.refl _ | with_reducible refine Adds.alloc ?_ _ | with_reducible refine Adds.more ?_ _ _ | with_reducible refine Adds.drew ?_ | with_reducible refine Adds.drewN ?_ _))) (Nat.le_trans hlow4 (Adds.size_le (by repeat (first | with_reducible exact Adds.refl _ | with_reducible refine Adds.alloc ?_ _ | with_reducible refine Adds.more ?_ _ _ | with_reducible refine Adds.drew ?_ | with_reducible refine Adds.drewN ?_ _)))) rfl (.slice ao5 l5 c5) rfl _ _ rfl (by simp [go_sem]) (by omega) ?_; intro v7 w7 h7 g7 e7; obtain ⟨ao7, l7, c7, rfl⟩ := row_slice h7; obtain ⟨y1, y2⟩ := pre _ w7 (by repeat (first | with_reducible exact Adds.refl _ | with_reducible refine Adds.alloc ?_ _ | with_reducible refine Adds.more ?_ _ _ | with_reducible refine Adds.drew ?_ | with_reducible refine Adds.drewN ?_ _)) g7))
  all_goals
    go_wp2
    go_ret
    have hW : Adds w4 ((more w4 os5 n5).alloc (.cells #[.slice ao5 l5 c5] 40)) := by repeat (first | with_reducible exact Adds.refl _ | with_reducible refine Adds.alloc ?_ _ | with_reducible refine Adds.more ?_ _ _ | with_reducible refine Adds.drew ?_ | with_reducible refine Adds.drewN ?_ _)
    have b6 : BytA ((more w4 os5 n5).alloc (.cells #[.slice ao5 l5 c5] 40)) ({ T with R := R4 } : Tw).foot (.slice ao5 l5 c5) m := (show BytA (more w4 os5 n5) ({ T with R := R4 } : Tw).foot (.slice ao5 l5 c5) m from by first | exact b5 | simpa only [more_drew] using b5 | simpa only [drew_more] using b5).mv (Mv.adds _ ((Adds.refl _).alloc _))
    obtain ⟨t8, m8⟩ := (TapW.adds HT4.out hW).push (EachA.imp HE4.out fun _ _ hb => hb.mv (Mv.adds _ hW)) (row_adds ho4' hW) b6 h7 g7 e7
    have g4 := HG4.out
    exact ⟨rfl, _, ⟨t8, rfl, rfl, rfl, rfl, Goes.p g4, Goes.room g4, Goes.bulk g4, (Mv.trans HM4.out (Mv.adds _ hW)).trans m8⟩⟩

end Go.Proofs.YtelkkpomehgcjaaGreat
