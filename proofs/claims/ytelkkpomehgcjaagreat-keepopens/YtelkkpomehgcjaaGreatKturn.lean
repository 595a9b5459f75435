/-
  The functions known, cut and turn of the keep by contracts.
-/
import Derived.Test.YtelkkpomehgcjaaGreatKone
namespace Go.Proofs.YtelkkpomehgcjaaGreat
open Go.RowKit Go.Maps
attribute [local go_sem] cell?_more frozen?_more setCell_more size_more tape_more drew_more drewN_more more_drew more_drewN more_more one_out plus_out plus_end lt_one le_p2 le_p3 le_p4 le_p5 le_p6 le_p7 le_p8 le_p9 le_p10 le_p11 le_p12 le_p13 le_p14 le_p15 le_p16 le_p17 le_p18 le_p19 le_p20 le_p21 le_p22 le_p23 le_p24 le_q0 le_q1 lt_q1 le_q2 lt_q2 le_q3 lt_q3 le_q4 lt_q4 le_q5 lt_q5 le_q6 lt_q6 le_q7 lt_q7 le_q8 lt_q8 le_q9 lt_q9 le_q10 lt_q10 le_q11 lt_q11 le_q12 lt_q12 le_q13 lt_q13 le_q14 lt_q14 le_q15 lt_q15 le_q16 lt_q16 le_q17 lt_q17 le_q18 lt_q18 le_q19 lt_q19 le_q20 lt_q20 le_q21 lt_q21 le_q22 lt_q22 le_q23 lt_q23 le_q24 lt_q24

theorem toNat_ne (c k : UInt8) (h : c ≠ k) : ((c.toNat : Int) == (k.toNat : Int)) = false := by
  simp only [beq_eq_false_iff_ne, ne_eq]
  intro e
  exact h (UInt8.toNat.inj (by omega))

theorem knownK_cons (c : UInt8) (b : List UInt8) : knownK (c :: b) = if c = 0 then true else if c = 1 then true else if c = 2 then decide (b.length = 0) else if c = 3 then decide (b.length = 4) else false := rfl

theorem known_any (x : Value) (l : List UInt8) (w : World) (h : Byt w x l) (hlen : l.length ≤ 1000000) :
    Calls Tryz.prog 59 #[x] w fun e w' => e = .returned (.bool (knownK l)) ∧ w' = w := by
  obtain ⟨ao, cap, rfl, hcap, ho⟩ := h.open
  cases l with
  | nil =>
    go_enter Tryz.func59, Tryz.ntmps59
    go_wp2
    go_ret
    exact ⟨rfl, rfl⟩
  | cons c t =>
    rcases ho with ho | ⟨b, off, rfl, hb, hl⟩
    · cases ho
    have c0 := hl 0 (by simp)
    simp only [Nat.add_zero, List.getElem_cons_zero] at c0
    rw [knownK_cons]
    rw [show (c :: t).length = t.length + 1 from rfl] at hlen ⊢
    clear hl h hcap
    generalize t.length = n at *
    by_cases e0 : c = 0
    · subst e0
      go_enter Tryz.func59, Tryz.ntmps59
      go_wp2
      go_ret
      exact ⟨by simp, rfl⟩
    by_cases e1 : c = 1
    · subst e1
      go_enter Tryz.func59, Tryz.ntmps59
      go_wp2
      go_ret
      exact ⟨by simp, rfl⟩
    by_cases e2 : c = 2
    · subst e2
      go_enter Tryz.func59, Tryz.ntmps59
      go_wp2
      go_ret
      refine ⟨?_, rfl⟩
      have : ((n : Int) + 1 == 1) = decide (n = 0) := by
        rw [Bool.eq_iff_iff]
        simp
        omega
      simp [this]
    by_cases e3 : c = 3
    · subst e3
      go_enter Tryz.func59, Tryz.ntmps59
      go_wp2
      go_ret
      refine ⟨?_, rfl⟩
      have : ((n : Int) + 1 == 5) = decide (n = 4) := by
        rw [Bool.eq_iff_iff]
        simp
        omega
      simp [this]
    rw [if_neg e0, if_neg e1, if_neg e2, if_neg e3]
    have n0 : ((c.toNat : Int) == 0) = false := toNat_ne c 0 e0
    have n1 : ((c.toNat : Int) == 1) = false := toNat_ne c 1 e1
    have n2 : ((c.toNat : Int) == 2) = false := toNat_ne c 2 e2
    have n3 : ((c.toNat : Int) == 3) = false := toNat_ne c 3 e3
    clear e0 e1 e2 e3
    generalize (c.toNat : Int) = m at *
    go_enter Tryz.func59, Tryz.ntmps59
    go_wp2
    go_ret
    exact ⟨rfl, rfl⟩

theorem callN_step {ops : Array Oper} {o : Oper} {a : Act} {w : World} {K : Act → World → Prop} {Q : Exit → Act → World → Prop} {E : Prop} (hg : o.guard = none) (f : FuncId) (args : Array Value) {R : Value → World → Prop}
    (hc : Calls Tryz.prog f args w fun e w' => ∃ u, e = .returned u ∧ R u w') (hrun : (execOp a.eval o).run Tryz.prog w = .ok (.enter f args) w) (hk : ∀ u w', R u w' → K (a.put o.dst u) w') : if Region.wanted o (yielded ops a.tmps) = true then Oper.wp Tryz.prog o a w K Q else E := by
  have hw : Region.wanted o (yielded ops a.tmps) = true := by simp [Region.wanted, hg]
  rw [if_pos hw]
  unfold Oper.wp
  rw [hrun]
  simp only [Oper.upon]
  refine hc.mono ?_
  rintro e w' ⟨u, rfl, hR⟩
  exact hk u w' hR

/-- What a turning leaves. -/
structure Turned2 (w : World) (B : Nat) (F : Nat → Prop) (K : Kw) (s : List (List UInt8) × List UInt8) (w' : World) (K' : Kw) : Prop where
  ke : Ke w' B F K'
  p : K'.p = K.p
  tp : K'.tp = K.tp
  st : (K'.es, K'.nt) = s
  mv : Mv w K.own w' K'.own

theorem EachA.take {w : World} {F : Nat → Prop} {xs : List Value} {ls : List (List UInt8)} (h : EachA w F xs ls) (n : Nat) : EachA w F (xs.take n) (ls.take n) :=
  ⟨by simp [h.1], fun i h1 h2 => by
    rw [List.getElem_take, List.getElem_take]
    exact h.2 i (by simp at h1; omega) (by simp at h2; omega)⟩

set_option maxRecDepth 20000 in
theorem cutK_any {w : World} {B : Nat} {F : Nat → Prop} {K : Kw} (h : Ke w B F K) (hF : ∀ i, F i → i < w.heap.size) (n : Nat) (hn : n < 4294967296) (hlen : K.es.length ≤ 1000000) :
    Calls Tryz.prog 66 #[ptr K.p, .int .u32 (n : Int)] w fun e w' => e = .returned (.tuple #[]) ∧ ∃ K', Turned2 w B F K (K.es.take n, K.nt) w' K' := by
  obtain ⟨xs, ho, he⟩ := h.row
  obtain ⟨c0, c1, c2, f1, f2⟩ := Kr.cells h.hp
  have hxl := he.1
  by_cases hlt : n < K.es.length
  · have kT : ∀ W w1 v1, Adds w W → w1.ownsRow B 40 1 v1 (xs.take n).length (xs.take n) → v1.ownBlock = K.ev.ownBlock → W.grownBy w1 K.ev.ownBlock →
        w1.cell? ⟨K.p, 2, none⟩ = some K.ev ∧ w1.frozen? ⟨K.p, 2, none⟩ = false ∧ ∃ K', Turned2 w B F K (K.es.take n, K.nt) (w1.setCell ⟨K.p, 2, none⟩ v1) K' := fun W w1 v1 hW h1 h2 h3 => by
      have hvp : some K.p ≠ K.ev.ownBlock := fun e => by
        obtain ⟨C, hC⟩ := row_block ho e.symm
        rw [h.hp] at hC
        simp at hC
      have hb := hW.below
      have hp1 : w1.heap[K.p]? = some (.cells #[ptr K.tp, K.nv, K.ev] 78 (0, 0)) := (h3.block K.p (Nat.lt_of_lt_of_le (Array.getElem?_eq_some_iff.1 h.hp).1 hb.size) hvp).trans (hW.at h.hp)
      have h3' : w.grownBy w1 K.ev.ownBlock := ⟨h3.os.trans hb.os, h3.tape.trans hb.tape, h3.output.trans hb.output, Nat.le_trans hb.size h3.size, fun i hi hn => (h3.block i (Nat.lt_of_lt_of_le hi hb.size) hn).trans (hb.block i hi)⟩
      obtain ⟨t1, t2⟩ := h.turned hF (he.take n) h1 h3' (.inl h2)
      exact ⟨cell_of_row w1 K.p 2 _ _ _ hp1, frozen_of hp1, _, t1, rfl, rfl, rfl, t2⟩
    obtain ⟨ao, l, cp, hv⟩ := row_slice ho
    have hl : l = xs.length := by
      rcases ho.2 with ⟨e, h0⟩ | ⟨g, cap, cur, e, _⟩
      · rw [e] at hv
        simp only [Value.slice.injEq] at hv
        omega
      · rw [e] at hv
        simp only [Value.slice.injEq] at hv
        omega
    subst hl
    rw [hv] at c2
    have kD : ∀ W, Adds w W → Calls Tryz.prog 88 #[.slice ao xs.length cp, .int .i64 (n : Int), .int .i64 (xs.length : Int)] W fun e w' => ∃ u, e = .returned u ∧ (∃ ao1 l1 c1, u = .slice ao1 l1 c1 ∧ w'.cell? ⟨K.p, 2, none⟩ = some (.slice ao xs.length cp) ∧ w'.frozen? ⟨K.p, 2, none⟩ = false ∧ ∃ K', Turned2 w B F K (K.es.take n, K.nt) (w'.setCell ⟨K.p, 2, none⟩ u) K') := fun W hW => by
      have k := delete_any (row_adds ho hW) (n := n) (by omega)
      rw [hv] at k
      refine k.mono ?_
      rintro e w1 ⟨v1, rfl, h1, h2, h3⟩
      obtain ⟨d1, d2, K1, t1⟩ := kT W w1 v1 hW h1 (by rw [hv]; exact h2) (by rw [hv]; exact h3)
      obtain ⟨ao1, l1, c1, e1⟩ := row_slice h1
      rw [hv] at d1
      exact ⟨_, rfl, ao1, l1, c1, e1, d1, d2, K1, t1⟩
    have i1 : (n : Int) < (xs.length : Int) := by omega
    have i2 : (xs.length : Int) ≤ 1000000 := by omega
    clear ho he h hlen hxl hlt hv kT
    generalize xs.length = m at *
    have dd : w.drew.cell? ⟨K.p, 2, none⟩ = some (.slice ao m cp) := c2
    have hwn : IntKind.i64.wrap (n : Int) = (n : Int) := by rw [IntKind.wrap_i64]; omega
    go_enter Tryz.func66, Tryz.ntmps66
    go_wp2
    go_region_law (refine callN_step (R := fun u w' => ∃ ao1 l1 c1, u = .slice ao1 l1 c1 ∧ w'.cell? ⟨K.p, 2, none⟩ = some (.slice ao m cp) ∧ w'.frozen? ⟨K.p, 2, none⟩ = false ∧ ∃ K', Turned2 w B F K (K.es.take n, K.nt) (w'.setCell ⟨K.p, 2, none⟩ u) K') rfl 88 _ (kD _ (by repeat (first | with_reducible exact Adds.refl _ | with_reducible refine Adds.alloc ?_ _ | with_reducible refine Adds.more ?_ _ _ | with_reducible refine Adds.drew ?_ | with_reducible refine Adds.drewN ?_ _))) (by go_simp) ?_; rintro u1 w1 ⟨ao1, l1, c1, rfl, d1, d2, K1, t1⟩)
    all_goals
      go_wp2
      go_end0
      exact ⟨rfl, K1, t1⟩
  · have e1 : K.es.take n = K.es := List.take_of_length_le (by omega)
    rw [e1]
    obtain ⟨ao, l, cp, hv⟩ := row_slice ho
    have hl : l = xs.length := by
      rcases ho.2 with ⟨e, h0⟩ | ⟨g, cap, cur, e, _⟩
      · rw [e] at hv
        simp only [Value.slice.injEq] at hv
        omega
      · rw [e] at hv
        simp only [Value.slice.injEq] at hv
        omega
    subst hl
    rw [hv] at c2
    have HT : Hid (∃ K', Turned2 w B F K (K.es, K.nt) w K') := ⟨K, h, rfl, rfl, rfl, Mv.refl _ _⟩
    have i1 : ¬ (n : Int) < (xs.length : Int) := by omega
    have i2 : (xs.length : Int) ≤ 1000000 := by omega
    clear ho he h hlen hxl hlt
    generalize xs.length = m at *
    go_enter Tryz.func66, Tryz.ntmps66
    go_wp2
    go_end0
    exact ⟨rfl, HT.out⟩

theorem push_app {ops : Array Oper} {rest : List Oper} {o : Oper} {a : Act} {w : World} {Q : Exit → Act → World → Prop} (hgd : o.guard = none) (s x : Operand) (ho : o.op = .call { callee := .builtin .append, args := #[s, x], argTypes := #[37, 37] })
    {B : Nat} {v : Value} {xs : List Value} (h : w.ownsRow B 40 1 v xs.length xs) (hB : B ≤ w.heap.size) (hs : a.eval s = v) (y : Value) (hy : y.oneCell' = true) (g c : Nat) (hx : a.eval x = .slice (some ⟨g, 0, none⟩) 1 c) (hg : w.cell? ⟨g, 0, none⟩ = some y) (hlen : xs.length ≤ 1000000000)
    (hk : ∀ v' w', w'.ownsRow B 40 1 v' (xs ++ [y]).length (xs ++ [y]) → w.grownBy w' v.ownBlock → (v'.ownBlock = v.ownBlock ∨ v'.ownBlock = some w.heap.size) → wpList Tryz.prog ops Q rest (a.put o.dst v') w') : wpList Tryz.prog ops Q (o :: rest) a w := by
  obtain ⟨v', w', hr, h2, h3, h5⟩ := slice_append w B o.type v xs h hB y hy g c hg hlen
  exact Lib.wpList_append_run w hgd s x 37 37 ho v _ hs hx v' w' hr (hk v' w' h2 h3 h5)

set_option maxRecDepth 20000 in
theorem turnK_any {w : World} {B : Nat} {F : Nat → Prop} {K : Kw} (h : Ke w B F K) (hF : ∀ i, F i → i < w.heap.size) (x : Value) (r : List UInt8) (hx : BytA w F x r) (hk : knownK r = true) (hlen : K.es.length ≤ 1000000) :
    Calls Tryz.prog 32 #[ptr K.p, x] w fun e w' => e = .returned (.tuple #[]) ∧ ∃ K', Turned2 w B F K (turnK (K.es, K.nt) r) w' K' := by
  obtain ⟨xs, ho, he⟩ := h.row
  obtain ⟨c0, c1, c2, f1, f2⟩ := Kr.cells h.hp
  have hxl := he.1
  cases r with
  | nil => cases hk
  | cons c t =>
    obtain ⟨ao, cap, rfl, hcap, hb⟩ := id hx
    rcases hb with hb | ⟨b, off, C, z, rfl, hb, hf, hl⟩
    · cases hb
    have c00 := hl 0 (by simp)
    simp only [Nat.add_zero, List.getElem_cons_zero] at c00
    have hbl := (Array.getElem?_eq_some_iff.1 hb).1
    rw [knownK_cons] at hk
    rw [turnK_cons]
    rw [show (c :: t).length = t.length + 1 from rfl] at hx hcap ⊢
    by_cases e0 : c = 0
    · subst e0
      rw [if_pos rfl]
      have hvp : some K.p ≠ K.ev.ownBlock := fun e => by
        obtain ⟨C, hC⟩ := row_block ho e.symm
        rw [h.hp] at hC
        simp at hC
      have hB := h.size
      have pre : ∀ W w7 v7, Adds w W → w7.ownsRow B 40 1 v7 (xs ++ [Value.slice (some ⟨b, off, none⟩) (t.length + 1) cap]).length (xs ++ [Value.slice (some ⟨b, off, none⟩) (t.length + 1) cap]) → W.grownBy w7 K.ev.ownBlock → (v7.ownBlock = K.ev.ownBlock ∨ v7.ownBlock = some W.heap.size) →
          w7.cell? ⟨K.p, 2, none⟩ = some K.ev ∧ w7.frozen? ⟨K.p, 2, none⟩ = false ∧ ∃ K', Turned2 w B F K (K.es ++ [0 :: t], K.nt) (w7.setCell ⟨K.p, 2, none⟩ v7) K' := fun W w7 v7 hW h1 h2 h3 => by
        have hb := hW.below
        have hp1 : w7.heap[K.p]? = some (.cells #[ptr K.tp, K.nv, K.ev] 78 (0, 0)) := (h2.block K.p (Nat.lt_of_lt_of_le (Array.getElem?_eq_some_iff.1 h.hp).1 hb.size) hvp).trans (hW.at h.hp)
        obtain ⟨t1, t2⟩ := (h.adds hW).turned (fun i hi => Nat.lt_of_lt_of_le (hF i hi) hb.size) ((he.imp fun _ _ hx => hx.mv (Mv.adds _ hW)).snoc (hx.mv (Mv.adds _ hW))) h1 h2 (h3.imp id .inl)
        exact ⟨cell_of_row w7 K.p 2 _ _ _ hp1, frozen_of hp1, _, t1, rfl, rfl, rfl, (Mv.adds _ hW).trans t2⟩
      have hxs : xs.length ≤ 1000000000 := by omega
      obtain ⟨aoE, nE, cE, hev⟩ := row_slice ho
      rw [hev] at c2
      have ho' := ho
      rw [hev] at ho'
      have HP : Hid (∀ W w7 v7, Adds w W → w7.ownsRow B 40 1 v7 (xs ++ [Value.slice (some ⟨b, off, none⟩) (t.length + 1) cap]).length (xs ++ [Value.slice (some ⟨b, off, none⟩) (t.length + 1) cap]) → W.grownBy w7 (Value.slice aoE nE cE).ownBlock → (v7.ownBlock = (Value.slice aoE nE cE).ownBlock ∨ v7.ownBlock = some W.heap.size) →
          w7.cell? ⟨K.p, 2, none⟩ = some (.slice aoE nE cE) ∧ w7.frozen? ⟨K.p, 2, none⟩ = false ∧ ∃ K', Turned2 w B F K (K.es ++ [0 :: t], K.nt) (w7.setCell ⟨K.p, 2, none⟩ v7) K') := by
        rw [hev] at pre
        exact pre
      clear pre ho he h hx hl hcap hlen hxl hk hev hvp hF
      have hN0 : 0 < t.length + 1 := by omega
      generalize t.length + 1 = N at *
      go_enter Tryz.func32, Tryz.ntmps32
      go_wp2_with (at_builtin; refine push_app rfl (.tmp 13) (.tmp 15) rfl (row_adds ho' ((Adds.refl _).alloc _)) (by simp; omega) rfl (.slice (some ⟨b, off, none⟩) N cap) rfl _ _ rfl (by simp [go_sem]) hxs ?_; intro v7 w7 h7 g7 e7; obtain ⟨y1, y2, K1, t1⟩ := HP.out _ w7 v7 ((Adds.refl _).alloc _) h7 g7 e7; obtain ⟨ao7, l7, c7, rfl⟩ := row_slice h7)
      go_end0
      exact ⟨rfl, K1, t1⟩
    rw [if_neg e0] at hk ⊢
    have n0 : ((c.toNat : Int) == 0) = false := toNat_ne c 0 e0
    by_cases e1 : c = 1
    · subst e1
      rw [if_pos rfl]
      obtain ⟨t1, t2⟩ := h.noted hx
      have HT : Hid (∃ K', Turned2 w B F K (K.es, 1 :: t) (w.setCell ⟨K.p, 1, none⟩ (.slice (some ⟨b, off, none⟩) (t.length + 1) cap)) K') := ⟨_, t1, rfl, rfl, rfl, t2⟩
      clear ho he h hx hl hcap hlen hxl hk hF t1 t2
      have hN0 : 0 < t.length + 1 := by omega
      generalize t.length + 1 = N at *
      go_enter Tryz.func32, Tryz.ntmps32
      go_wp2
      go_end0
      exact ⟨rfl, HT.out⟩
    rw [if_neg e1] at hk ⊢
    by_cases e2 : c = 2
    · subst e2
      rw [if_pos rfl]
      obtain ⟨t1, t2⟩ := h.turned hF (eachA_nil w F) (World.ownsRow_nil _ _ _ _) ⟨rfl, rfl, rfl, Nat.le_refl _, fun _ _ _ => rfl⟩ (.inr (.inr rfl))
      have HT : Hid (∃ K', Turned2 w B F K ([], K.nt) (w.setCell ⟨K.p, 2, none⟩ (.slice none 0 0)) K') := ⟨_, t1, rfl, rfl, rfl, t2⟩
      clear ho he h hx hl hcap hlen hxl hk hF t1 t2
      have hN0 : 0 < t.length + 1 := by omega
      generalize t.length + 1 = N at *
      go_enter Tryz.func32, Tryz.ntmps32
      go_wp2
      go_end0
      exact ⟨rfl, HT.out⟩
    rw [if_neg e2] at hk ⊢
    by_cases e3 : c = 3
    · subst e3
      rw [if_pos rfl] at hk ⊢
      have h4 : t.length = 4 := by simpa using hk
      have hr := (show BytA w F (.slice (some ⟨b, off, none⟩) (3 :: t).length cap) (3 :: t) from hx).byt.rest (k := 1) (by simp)
      simp only [List.drop_succ_cons, List.drop_zero, Option.map_some, add_at] at hr
      rw [if_neg (by omega)] at hr
      have kN := number4K_any _ _ w hr (by omega)
      have kC : ∀ W, Adds w W → Calls Tryz.prog 66 #[ptr K.p, .int .u32 (num4 t : Int)] W fun e w' => e = .returned (.tuple #[]) ∧ ∃ K', Turned2 w B F K (K.es.take (num4 t), K.nt) w' K' := fun W hW => by
        refine (cutK_any (h.adds hW) (fun i hi => Nat.lt_of_lt_of_le (hF i hi) hW.below.size) (num4 t) (num4_lt t) hlen).mono ?_
        rintro e w' ⟨rfl, K', k⟩
        exact ⟨rfl, K', k.ke, k.p, k.tp, k.st, (Mv.adds _ hW).trans k.mv⟩
      have e5 : t.length + 1 = 5 := by omega
      rw [show (3 :: t).length - 1 = 4 from by simp; omega] at kN
      rw [e5] at hcap ⊢
      clear ho he h hx hl hlen hxl hk hF hr e5 h4
      go_enter Tryz.func32, Tryz.ntmps32
      go_wp2_with (first
        | (go_at_call 67; refine kN.mono ?_; rintro e w1 ⟨rfl, a1⟩)
        | (go_at_call 66; refine (kC _ a1).mono ?_; rintro e w2 ⟨rfl, K1, t1⟩))
      go_end0
      exact ⟨rfl, K1, t1⟩
    · rw [if_neg e3] at hk
      cases hk

end Go.Proofs.YtelkkpomehgcjaaGreat
