/-
  A keep over its tape; the method renew by contracts.
-/
import Derived.Test.YtelkkpomehgcjaaGreatKopen
import Derived.Test.YtelkkpomehgcjaaGreatTrest
namespace Go.Proofs.YtelkkpomehgcjaaGreat
open Go.RowKit Go.Maps
attribute [local go_sem] cell?_more frozen?_more setCell_more size_more tape_more drew_more drewN_more more_drew more_drewN more_more one_out plus_out plus_end lt_one le_p2 le_p3 le_p4 le_p5 le_p6 le_p7 le_p8 le_p9 le_p10 le_p11 le_p12 le_p13 le_p14 le_p15 le_p16 le_p17 le_p18 le_p19 le_p20 le_p21 le_p22 le_p23 le_p24 le_q0 le_q1 lt_q1 le_q2 lt_q2 le_q3 lt_q3 le_q4 lt_q4 le_q5 lt_q5 le_q6 lt_q6 le_q7 lt_q7 le_q8 lt_q8 le_q9 lt_q9 le_q10 lt_q10 le_q11 lt_q11 le_q12 lt_q12 le_q13 lt_q13 le_q14 lt_q14 le_q15 lt_q15 le_q16 lt_q16 le_q17 lt_q17 le_q18 lt_q18 le_q19 lt_q19 le_q20 lt_q20 le_q21 lt_q21 le_q22 lt_q22 le_q23 lt_q23 le_q24 lt_q24

/-- A keep in use: its tape, and its own blocks beside the tape's. -/
structure Kp (w : World) (B : Nat) (T : Tw) (K : Kw) (d : Dk) : Prop where
  tap : TapW w B T d
  ke : Ke w B T.foot K
  tp : K.tp = T.p

theorem Kp.adds {w w' : World} {B : Nat} {T : Tw} {K : Kw} {d : Dk} (h : Kp w B T K d) (ha : Adds w w') : Kp w' B T K d := ⟨h.tap.adds ha, h.ke.adds ha, h.tp⟩

theorem core_foot {T : Tw} {i : Nat} (h : T.core i) : T.foot i := h.elim .inl fun e => .inr (.inl e)

/-- Others than the tape turn their blocks. -/
theorem TapW.other {w w' : World} {B : Nat} {T : Tw} {d : Dk} (h : TapW w B T d) {G G' : Nat → Prop} (m : Mv w G w' G') (hG : ∀ i, G i → ¬ T.foot i) (htag : ∀ i, G i → ∃ C e z, w.heap[i]? = some (.cells C e z) ∧ e ≠ 5) : TapW w' B T d := by
  have hlt := h.lt
  have hk : ∀ i, T.foot i → w'.heap[i]? = w.heap[i]? := fun i hi => (m.block i (hlt i hi) fun hg => hG i hg hi).1
  obtain ⟨xs, ho, he⟩ := h.row
  refine ⟨h.st.keep m.size fun i hi => hk i (.inl hi), (hk T.p (.inr (.inl rfl))).trans h.hp, h.bp, xs, row_keep ho fun i hi => hk i (.inr (.inr hi)), he.imp fun _ _ hx => hx.keep fun b C z hb hf => ⟨?_, hf⟩⟩
  refine (m.block b (Array.getElem?_eq_some_iff.1 hb).1 fun hg => ?_).1
  obtain ⟨C', e, z', h1, h2⟩ := htag b hg
  rw [hb] at h1
  simp only [Option.some.injEq, Obj.cells.injEq] at h1
  exact h2 h1.2.1.symm

theorem Ke.not_foot {w : World} {B : Nat} {F : Nat → Prop} {K : Kw} (h : Ke w B F K) : ∀ i, K.own i → ¬ F i := by
  rintro i (rfl | hi)
  · exact h.out
  · exact h.apart i hi

/-- The blocks of a keep in use. -/
def footK (T : Tw) (K : Kw) (i : Nat) : Prop := T.foot i ∨ K.own i

/-- The keep turns its own. -/
theorem Kp.turned {w w' : World} {B : Nat} {T : Tw} {K K' : Kw} {d : Dk} {s : List (List UInt8) × List UInt8} (h : Kp w B T K d) (t : Turned2 w B T.foot K s w' K') : Kp w' B T K' d ∧ Mv w (footK T K) w' (footK T K') := by
  refine ⟨⟨h.tap.other t.mv h.ke.not_foot h.ke.tags, t.ke, t.tp.trans h.tp⟩, ⟨t.mv.os, t.mv.tape, t.mv.output, t.mv.size, fun i hi hn => ?_⟩⟩
  obtain ⟨h1, h2⟩ := t.mv.block i hi fun hc => hn (.inr hc)
  exact ⟨h1, fun hc => hc.elim (fun hf => hn (.inl hf)) h2⟩

/-- The tape turns its own. -/
theorem Kp.taped {w w' : World} {B : Nat} {T T' : Tw} {K : Kw} {d d' : Dk} (h : Kp w B T K d) (t : TapW w' B T' d') (hp : T'.p = T.p) (m : Mv w T.foot w' T'.foot) : Kp w' B T' K d' ∧ Mv w (footK T K) w' (footK T' K) := by
  refine ⟨⟨t, h.ke.mv m, h.tp.trans hp.symm⟩, ⟨m.os, m.tape, m.output, m.size, fun i hi hn => ?_⟩⟩
  obtain ⟨h1, h2⟩ := m.block i hi fun hc => hn (.inl hc)
  exact ⟨h1, fun hc => hc.elim h2 fun ho => hn (.inr ho)⟩

theorem Kp.taped_core {w w' : World} {B : Nat} {T T' : Tw} {K : Kw} {d d' : Dk} (h : Kp w B T K d) (t : TapW w' B T' d') (hp : T'.p = T.p) (m : Mv w T.core w' T'.foot) : Kp w' B T' K d' ∧ Mv w (footK T K) w' (footK T' K) := by
  refine ⟨⟨t, (h.ke.sub fun i hi => core_foot hi).mv m, h.tp.trans hp.symm⟩, ⟨m.os, m.tape, m.output, m.size, fun i hi hn => ?_⟩⟩
  obtain ⟨h1, h2⟩ := m.block i hi fun hc => hn (.inl (core_foot hc))
  exact ⟨h1, fun hc => hc.elim h2 fun ho => hn (.inr ho)⟩

/-- The records that a tape is begun anew with. -/
def anew (es : List (List UInt8)) (nt : List UInt8) : List (List UInt8) := (if 1 < nt.length then [nt] else []) ++ es

theorem own_step {ops : Array Oper} {o : Oper} {a : Act} {w : World} {K : Act → World → Prop} {Q : Exit → Act → World → Prop} {E : Prop} (hgd : o.guard = none) (s x : Operand) (ho : o.op = .call { callee := .builtin .append, args := #[s, x], argTypes := #[37, 37] })
    {B : Nat} {v : Value} {xs : List Value} {W0 : World} (h : OwnV B 40 v xs W0 w) (hs : a.eval s = v) {x' : Value} {ys : List Value} (hg : LstV w x' ys) (hx : a.eval x = x') (hys : ∀ u ∈ ys, u.oneCell' = true) (hlen : xs.length + ys.length ≤ 1000000)
    (hk : ∀ v' w', OwnV B 40 v' (xs ++ ys) W0 w' → K (a.put o.dst v') w') :
    if Region.wanted o (yielded ops a.tmps) = true then Oper.wp Tryz.prog o a w K Q else E := by
  have hw : Region.wanted o (yielded ops a.tmps) = true := by simp [Region.wanted, hgd]
  rw [if_pos hw]
  obtain ⟨v', w', hr, h2, h3⟩ := ownV_append Tryz.underlying37 Tryz.info40 rfl (by decide) w B o.type v xs W0 h x' ys hg hys hlen
  exact Lib.wp_append_run w s x 37 37 ho v x' hs hx v' w' hr (hk v' w' h2)

theorem eachA_append {w : World} {F : Nat → Prop} {xs ys : List Value} {ls ms : List (List UInt8)} (h : EachA w F xs ls) (g : EachA w F ys ms) : EachA w F (xs ++ ys) (ls ++ ms) := by
  refine ⟨by simp [h.1, g.1], fun i h1 h2 => ?_⟩
  have hl := h.1
  by_cases hi : i < xs.length
  · rw [List.getElem_append_left hi, List.getElem_append_left (by omega)]
    exact h.2 i hi (by omega)
  · rw [List.getElem_append_right (by omega), List.getElem_append_right (by omega)]
    simp only [List.length_append] at h1 h2
    have := g.2 (i - xs.length) (by omega) (by omega)
    simp only [hl] at this ⊢
    exact this

theorem eachA_one {w : World} {F : Nat → Prop} {x : Value} {l : List UInt8} (h : BytA w F x l) : EachA w F [x] [l] := (eachA_nil w F).snoc h

theorem renew_few {w : World} {B : Nat} {T : Tw} {K : Kw} {d : Dk} (h : Kp w B T K d) (hl : T.ls.length ≤ 1000000) (hb : T.base ≤ T.ls.length) (hg : T.ls.length - T.base < 64) :
    Calls Tryz.prog 78 #[ptr K.p] w fun e w' => e = .returned (.tuple #[]) ∧ Adds w w' := by
  obtain ⟨c0, _, _, _, _⟩ := Kr.cells h.ke.hp
  rw [h.tp] at c0
  have kG := grown_any h.tap.tap hl hb
  have i1 : (T.ls.length : Int) - (T.base : Int) < 64 := by omega
  generalize (T.ls.length : Int) - (T.base : Int) = s at *
  clear h hl hb hg
  go_enter Tryz.func78, Tryz.ntmps78
  go_wp2_with (go_at_call 94; refine kG.mono ?_; rintro e w1 ⟨rfl, a1⟩)
  refine bodyPost_ret (results_none rfl _ _ _) rfl ?_
  exact ⟨rfl, a1⟩

/-- What a renewing leaves. -/
structure Renewed (w : World) (B : Nat) (T : Tw) (K : Kw) (d : Dk) (L : Kf) (w' : World) (T' : Tw) : Prop where
  kp : Kp w' B T' K (d.begun L (anew K.es K.nt))
  p : T'.p = T.p
  file : T'.file = nextK L
  base : T'.base = (anew K.es K.nt).length
  ls : T'.ls = anew K.es K.nt
  rp : T'.R.p = T.R.p
  room : T'.R.room = T.R.room
  bulk : T'.R.bulk ≤ T.R.bulk + 2 * segLen (anew K.es K.nt) + 1 + 2 * (L.length + 1)
  mv : Mv w (footK T K) w' (footK T' K)

set_option maxRecDepth 20000 in
theorem renew_many {w : World} {B : Nat} {T : Tw} {K : Kw} {d : Dk} {L : Kf} (h : Kp w B T K d) (hl : T.ls.length ≤ 1000000) (hb : T.base ≤ T.ls.length) (hg : 64 ≤ T.ls.length - T.base)
    (hK : SrtK L) (hf : filesK L = d.now) (hbk : T.R.bulk ≤ 34359738368) (hfit : fits (anew K.es K.nt)) (hr1 : T.R.room ≤ 1000000) (hroom : segLen (anew K.es K.nt) + sizeK L ≤ T.R.room) (hnext : nextK L ≤ 1048576) :
    Calls Tryz.prog 78 #[ptr K.p] w fun e w' => e = .returned (.tuple #[]) ∧ ∃ T', Renewed w B T K d L w' T' := by
  obtain ⟨xs, ho, he⟩ := h.ke.row
  have kG := grown_any h.tap.tap hl hb
  have i1 : ¬ (T.ls.length : Int) - (T.base : Int) < 64 := by omega
  have hcl : ∀ W, Adds w W → W.cell? ⟨K.p, 0, none⟩ = some (ptr T.p) ∧ W.cell? ⟨K.p, 1, none⟩ = some K.nv ∧ W.cell? ⟨K.p, 2, none⟩ = some K.ev := fun W hW => by
    obtain ⟨c0, c1, c2, _, _⟩ := Kr.cells (h.ke.adds hW).hp
    rw [h.tp] at c0
    exact ⟨c0, c1, c2⟩
  have hml : (anew K.es K.nt).length ≤ 1000000 := by unfold segLen at hroom; omega
  have kR : ∀ w1 w' v' ys, Adds w w1 → OwnV w1.heap.size 40 v' ys w1 w' → EachA w T.foot ys (anew K.es K.nt) → Calls Tryz.prog 95 #[ptr T.p, v'] w' fun e w'' => ∃ u, e = .returned u ∧ ∃ T', Renewed w B T K d L w'' T' := fun w1 w' v' ys h1 ho' he' => by
    have ha := h1.trans ho'.added
    have hra : RwsA w' T.core v' (anew K.es K.nt) := by
      refine rwsA_own ho'.1 ((he'.imp fun _ _ hx => hx.sub fun b _ hf hc => hf (core_foot hc)).imp fun _ _ hx => hx.mv (Mv.adds _ ha)) fun i hi hc => ?_
      have h2 := (ho'.1.lt i hi).1
      have h3 := h.tap.lt i (core_foot hc)
      have h4 := h1.below.size
      omega
    refine (restart_tape (h.tap.adds ha).tap hK hf (by omega) v' _ hra hfit hr1 hroom hnext).mono ?_
    rintro e w'' ⟨rfl, T', b⟩
    obtain ⟨k1, k2⟩ := (h.adds ha).taped_core b.tap b.p b.mv
    exact ⟨_, rfl, T', ⟨k1, b.p, b.file, b.base, b.ls, b.rp, b.room, b.bulk, (Mv.adds _ ha).trans k2⟩⟩
  have hnt : ∃ ao c, K.nv = .slice ao K.nt.length c := by
    obtain ⟨ao, c, e, _⟩ := h.ke.note
    exact ⟨ao, c, e⟩
  obtain ⟨an, cn, hnv⟩ := hnt
  obtain ⟨ae, ce, hev, _⟩ := row_slice_len ho
  have hone : ∀ u ∈ xs, u.oneCell' = true := by
    intro u hu
    obtain ⟨i, hi, rfl⟩ := List.getElem_of_mem hu
    obtain ⟨ao, c, e, _⟩ := he.2 i hi (by rw [← he.1]; exact hi)
    rw [e]
    rfl
  have hlst : ∀ W, Adds w W → LstV W (.slice ae xs.length ce) xs := fun W hW => by
    rw [← hev]
    exact (show OwnV B 40 K.ev xs W W from ⟨row_adds ho hW, Below.refl _ _, Nat.le_trans h.ke.size hW.below.size⟩).lst
  have hnb := h.ke.note
  rw [hnv, hev] at hcl
  rw [hnv] at hnb
  have hxl : xs.length ≤ 999999 ∨ xs.length = K.es.length := .inr he.1
  have hel := he.1
  by_cases hn : 1 < K.nt.length
  · have ea : anew K.es K.nt = [K.nt] ++ K.es := by unfold anew; rw [if_pos hn]
    have hE : EachA w T.foot ([.slice an K.nt.length cn] ++ xs) (anew K.es K.nt) := by
      rw [ea]
      exact eachA_append (eachA_one hnb) he
    have hlen : 1 + xs.length ≤ 1000000 := by
      rw [ea] at hml
      simp at hml
      omega
    have i2 : (1 : Int) < (K.nt.length : Int) := by omega
    have HE : Hid _ := hE
    clear ea hE hnb he ho hev hnv hn hml hl hb hg hK hf hbk hfit hr1 hroom hnext h hxl hel
    generalize (T.ls.length : Int) - (T.base : Int) = s at *
    generalize K.nt.length = ln at *
    obtain ⟨c0, c1, c2⟩ := hcl w (Adds.refl _)
    go_enter Tryz.func78, Tryz.ntmps78
    go_wp2_with (first
      | (go_at_call 94; refine kG.mono ?_; rintro e w1 ⟨rfl, a1⟩; obtain ⟨d0, d1, d2⟩ := hcl w1 a1)
      | (at_builtin; refine rows_app rfl (.tmp 15) (.tmp 20) rfl ((OwnV.nil w1.heap.size 40 w1 (Nat.le_refl _)).alloc _) rfl (lst_new rfl) rfl (by intro u hu; simp at hu; subst hu; rfl) (by simp) ?_; intro v2 w2 o2 g2; obtain ⟨ao2, l2, c2', rfl⟩ := row_slice o2.1; obtain ⟨e0, e1, e2⟩ := hcl w2 (a1.trans o2.added)))
    clear c0 c1 c2 d0 d1 d2
    have kA : ∀ W, Adds w2 W → OwnV w1.heap.size 40 (.slice ao2 l2 c2') [.slice an ln cn] w1 W := fun W hW => o2.adds hW
    have kL : ∀ W, Adds w2 W → LstV W (.slice ae xs.length ce) xs := fun W hW => hlst W ((a1.trans o2.added).trans hW)
    go_region_law (first
      | (refine own_step rfl (.tmp 26) (.tmp 30) rfl (kA _ (by repeat (first | with_reducible exact Adds.refl _ | with_reducible refine Adds.alloc ?_ _ | with_reducible refine Adds.more ?_ _ _ | with_reducible refine Adds.drew ?_ | with_reducible refine Adds.drewN ?_ _))) rfl (kL _ (by repeat (first | with_reducible exact Adds.refl _ | with_reducible refine Adds.alloc ?_ _ | with_reducible refine Adds.more ?_ _ _ | with_reducible refine Adds.drew ?_ | with_reducible refine Adds.drewN ?_ _))) rfl hone (by simp; omega) ?_; intro v3 w3 o3; obtain ⟨ao3, l3, c3', rfl⟩ := row_slice o3.1; obtain ⟨f0, f1, f2⟩ := hcl w3 (a1.trans o3.added))
      | (refine callN_step (R := fun _ w'' => ∃ T', Renewed w B T K d L w'' T') rfl 95 _ (kR w1 _ _ _ a1 (o3.adds (by repeat (first | with_reducible exact Adds.refl _ | with_reducible refine Adds.alloc ?_ _ | with_reducible refine Adds.more ?_ _ _ | with_reducible refine Adds.drew ?_ | with_reducible refine Adds.drewN ?_ _))) HE.out) (by go_simp) ?_; rintro u4 w4 ⟨T4, r4⟩))
    all_goals
      go_wp2
      go_end0
      exact ⟨rfl, T4, r4⟩
  · have ea : anew K.es K.nt = K.es := by unfold anew; rw [if_neg hn]; rfl
    have hE : EachA w T.foot ([] ++ xs) (anew K.es K.nt) := by
      rw [ea]
      exact he
    have hlen : xs.length ≤ 1000000 := by
      rw [ea] at hml
      omega
    have i2 : ¬ (1 : Int) < (K.nt.length : Int) := by omega
    have HE : Hid _ := hE
    clear ea hE hnb he ho hev hnv hn hml hl hb hg hK hf hbk hfit hr1 hroom hnext h hxl hel
    generalize (T.ls.length : Int) - (T.base : Int) = s at *
    generalize K.nt.length = ln at *
    obtain ⟨c0, c1, c2⟩ := hcl w (Adds.refl _)
    go_enter Tryz.func78, Tryz.ntmps78
    go_wp2_with (go_at_call 94; refine kG.mono ?_; rintro e w1 ⟨rfl, a1⟩; obtain ⟨d0, d1, d2⟩ := hcl w1 a1)
    clear c0 c1 c2
    have kA : ∀ W, Adds w1 W → OwnV w1.heap.size 40 (.slice none 0 0) [] w1 W := fun W hW => (OwnV.nil w1.heap.size 40 w1 (Nat.le_refl _)).adds hW
    have kL : ∀ W, Adds w1 W → LstV W (.slice ae xs.length ce) xs := fun W hW => hlst W (a1.trans hW)
    go_region_law (first
      | (refine own_step rfl (.tmp 26) (.tmp 30) rfl (kA _ (by repeat (first | with_reducible exact Adds.refl _ | with_reducible refine Adds.alloc ?_ _ | with_reducible refine Adds.more ?_ _ _ | with_reducible refine Adds.drew ?_ | with_reducible refine Adds.drewN ?_ _))) rfl (kL _ (by repeat (first | with_reducible exact Adds.refl _ | with_reducible refine Adds.alloc ?_ _ | with_reducible refine Adds.more ?_ _ _ | with_reducible refine Adds.drew ?_ | with_reducible refine Adds.drewN ?_ _))) rfl hone (by simp; omega) ?_; intro v3 w3 o3; obtain ⟨ao3, l3, c3', rfl⟩ := row_slice o3.1; obtain ⟨f0, f1, f2⟩ := hcl w3 (a1.trans o3.added))
      | (refine callN_step (R := fun _ w'' => ∃ T', Renewed w B T K d L w'' T') rfl 95 _ (kR w1 _ _ _ a1 (o3.adds (by repeat (first | with_reducible exact Adds.refl _ | with_reducible refine Adds.alloc ?_ _ | with_reducible refine Adds.more ?_ _ _ | with_reducible refine Adds.drew ?_ | with_reducible refine Adds.drewN ?_ _))) HE.out) (by go_simp) ?_; rintro u4 w4 ⟨T4, r4⟩))
    all_goals
      go_wp2
      go_end0
      exact ⟨rfl, T4, r4⟩

end Go.Proofs.YtelkkpomehgcjaaGreat
