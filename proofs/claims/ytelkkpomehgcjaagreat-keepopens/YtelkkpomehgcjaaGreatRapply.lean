/-
  The reference's function Apply by contract.
-/
import Derived.Test.YtelkkpomehgcjaaGreatVrow
import Derived.Test.YtelkkpomehgcjaaGreatKturn
namespace Go.Proofs.YtelkkpomehgcjaaGreat
open Go.RowKit Go.Maps
attribute [local go_sem] cell?_more frozen?_more setCell_more size_more tape_more drew_more drewN_more more_drew more_drewN more_more one_out plus_out plus_end lt_one le_p2 le_p3 le_p4 le_p5 le_p6 le_p7 le_p8 le_p9 le_p10 le_p11 le_p12 le_p13 le_p14 le_p15 le_p16 le_p17 le_p18 le_p19 le_p20 le_p21 le_p22 le_p23 le_p24 le_q0 le_q1 lt_q1 le_q2 lt_q2 le_q3 lt_q3 le_q4 lt_q4 le_q5 lt_q5 le_q6 lt_q6 le_q7 lt_q7 le_q8 lt_q8 le_q9 lt_q9 le_q10 lt_q10 le_q11 lt_q11 le_q12 lt_q12 le_q13 lt_q13 le_q14 lt_q14 le_q15 lt_q15 le_q16 lt_q16 le_q17 lt_q17 le_q18 lt_q18 le_q19 lt_q19 le_q20 lt_q20 le_q21 lt_q21 le_q22 lt_q22 le_q23 lt_q23 le_q24 lt_q24

/-- What a keep shows of its records. -/
def viewK (s : List (List UInt8) × List UInt8) : List (List UInt8) × List UInt8 := (s.1.map (List.drop 1), s.2.drop 1)

theorem view_zero (s : List (List UInt8) × List UInt8) (t : List UInt8) : viewK (turnK s (0 :: t)) = ((viewK s).1 ++ [t], (viewK s).2) := by
  rw [turnK_cons, if_pos rfl]
  simp [viewK]

theorem view_one (s : List (List UInt8) × List UInt8) (t : List UInt8) : viewK (turnK s (1 :: t)) = ((viewK s).1, t) := by
  rw [turnK_cons, if_neg (by decide), if_pos rfl]
  simp [viewK]

theorem view_two (s : List (List UInt8) × List UInt8) (t : List UInt8) : viewK (turnK s (2 :: t)) = ([], (viewK s).2) := by
  rw [turnK_cons, if_neg (by decide), if_neg (by decide), if_pos rfl]
  simp [viewK]

theorem view_three (s : List (List UInt8) × List UInt8) (t : List UInt8) : viewK (turnK s (3 :: t)) = ((viewK s).1.take (num4 t), (viewK s).2) := by
  rw [turnK_cons, if_neg (by decide), if_neg (by decide), if_neg (by decide), if_pos rfl]
  simp [viewK]

theorem own_stepG {ops : Array Oper} {o : Oper} {a : Act} {w : World} {K : Act → World → Prop} {Q : Exit → Act → World → Prop} {E : Prop} (hgd : o.guard = none) (s x : Operand) (ho : o.op = .call { callee := .builtin .append, args := #[s, x], argTypes := #[37, 37] })
    {B : Nat} {v : Value} {xs : List Value} {W0 : World} (h : OwnV B 40 v xs W0 w) (hs : a.eval s = v) {x' : Value} {ys : List Value} (hg : LstV w x' ys) (hx : a.eval x = x') (hys : ∀ u ∈ ys, u.oneCell' = true) (hlen : xs.length + ys.length ≤ 1000000)
    (hk : ∀ v' w', OwnV B 40 v' (xs ++ ys) W0 w' → w.grownBy w' v.ownBlock → K (a.put o.dst v') w') :
    if Region.wanted o (yielded ops a.tmps) = true then Oper.wp Tryz.prog o a w K Q else E := by
  have hw : Region.wanted o (yielded ops a.tmps) = true := by simp [Region.wanted, hgd]
  rw [if_pos hw]
  obtain ⟨v', w', hr, h2, h3⟩ := ownV_append Tryz.underlying37 Tryz.info40 rfl (by decide) w B o.type v xs W0 h x' ys hg hys hlen
  exact Lib.wp_append_run w s x 37 37 ho v x' hs hx v' w' hr (hk v' w' h2 h3)

theorem own40_at {w5 W : World} {g : Nat} (ha : Adds w5 W) (hg : w5.heap.size ≤ g) (hW : W.heap[g]? = some (.cells #[] 40 (0, 0))) : OwnV w5.heap.size 40 (.slice (some ⟨g, 0, none⟩) 0 0) [] w5 W :=
  ⟨⟨rfl, .inr ⟨g, 0, #[], rfl, hg, hW, Nat.le_refl _, by decide, rfl, rfl⟩⟩, ha.below, ha.below.size⟩

theorem lst_at {w : World} {k : Nat} {x : Value} (h : w.heap[k]? = some (.cells #[x] 40 (0, 0))) : LstV w (.slice (some ⟨k, 0, none⟩) 1 1) [x] := by
  refine ⟨_, 1, rfl, Nat.le_refl _, .inr ⟨k, 0, rfl, (Array.getElem?_eq_some_iff.1 h).1, ?_⟩⟩
  intro j hj
  have : j = 0 := by simpa using hj
  subst this
  exact cell_of_row w _ 0 _ _ _ h

theorem blkR_old {w : World} {A B : Obj} : ((w.alloc A).alloc B).heap[w.heap.size]? = some A := by
  have h := ((Adds.refl (w.alloc A)).alloc B).below.block w.heap.size (by simp)
  rw [h]
  exact new_block w A

theorem blkR_new {w : World} {A : Obj} {C : Array Value} {T : TypeId} : ((w.alloc A).alloc (.cells C T)).heap[w.heap.size + 1]? = some (.cells C T (0, 0)) := by
  have := new_block (w.alloc A) (.cells C T)
  simpa using this

theorem RwsO.take {B : Nat} {w : World} {ao : Option Addr} {n cap : Nat} {ls : List (List UInt8)} (h : RwsO B w (.slice ao n cap) ls) (k : Nat) (hk : k ≤ n) : RwsO B w (.slice ao k cap) (ls.take k) := by
  obtain ⟨xs, ao', cap', e, hc, hl, he⟩ := h
  simp only [Value.slice.injEq] at e
  obtain ⟨rfl, rfl, rfl⟩ := e
  have hlen : (xs.take k).length = k := by simp; omega
  refine ⟨xs.take k, ao, cap, by rw [hlen], by omega, ?_, he.take k⟩
  rcases hl with rfl | ⟨b, off, rfl, hb, ho, hl⟩
  · exact .inl (by simp)
  · refine .inr ⟨b, off, rfl, hb, ho, fun j hj => ?_⟩
    rw [List.getElem_take]
    exact hl j (by rw [List.length_take] at hj; omega)

theorem rwsO_own {B D : Nat} {w : World} {v : Value} {xs : List Value} {ls : List (List UInt8)} (h : w.ownsRow D 40 1 v xs.length xs) (he : Each B w xs ls) : RwsO B w v ls := by
  have hc := fun g => h.cells (g := g)
  have hlt := h.lt
  rcases h.2 with ⟨rfl, hn⟩ | ⟨g, cap, cur, rfl, hb, hg, hnc, _⟩
  · have : xs = [] := List.length_eq_zero_iff.1 hn
    subst this
    exact ⟨[], none, 0, rfl, Nat.le_refl _, .inl rfl, he⟩
  · refine ⟨xs, _, cap, rfl, hnc, .inr ⟨g, 0, rfl, (hlt g rfl).2, .inr ⟨_, hg⟩, fun j hj => ?_⟩, he⟩
    have := hc g rfl j xs[j] (by simp [hj])
    rw [add_at] at this
    exact this

theorem BytO.rest {B : Nat} {w : World} {ao : Option Addr} {cap : Nat} {c : UInt8} {t : List UInt8} (h : BytO B w (.slice ao (c :: t).length cap) (c :: t)) : BytO B w (.slice (if cap = 1 then ao else ao.map (·.add 1)) ((c :: t).length - 1) (cap - 1)) t := by
  have := h.cut (lo := 1) (hi := (c :: t).length) (by simp) (Nat.le_refl _)
  rw [List.take_length] at this
  exact this

/-- What Apply tells of a record. -/
def ApTold (B : Nat) (w : World) (s : List (List UInt8) × List UInt8) (r : List UInt8) (e : Ending) (w' : World) : Prop :=
  ∃ lo ln lc no nn nc, e = .returned (.tuple #[.slice lo ln lc, .slice no nn nc, .bool (knownK r)]) ∧ (knownK r = true → RwsO B w' (.slice lo ln lc) (viewK (turnK s r)).1 ∧ BytO B w' (.slice no nn nc) (viewK (turnK s r)).2) ∧ Adds w w'

set_option maxRecDepth 20000 in
set_option maxHeartbeats 2000000 in
theorem apply_zero {B : Nat} {w : World} {lo no : Option Addr} {ln lc nn nc : Nat} {s : List (List UInt8) × List UInt8} (hl : RwsO B w (.slice lo ln lc) (viewK s).1) (hn : BytO B w (.slice no nn nc) (viewK s).2) {bo : Option Addr} {bc : Nat} {t : List UInt8} (hb : BytO B w (.slice bo (0 :: t).length bc) (0 :: t)) (hlen : (viewK s).1.length ≤ 900000) :
    Calls Tryz.prog 33 #[.slice lo ln lc, .slice no nn nc, .slice bo (0 :: t).length bc] w (ApTold B w s (0 :: t)) := by
  obtain ⟨xs, ao0, cap0, e0', hc0', hl0', heach⟩ := hl
  have hlst : LstV w (.slice lo ln lc) xs := ⟨ao0, cap0, e0', hc0', hl0'.imp id fun ⟨b, off, e, hb, _, hl⟩ => ⟨b, off, e, hb, hl⟩⟩
  clear e0' hc0' hl0'
  have hxl := heach.length
  have hone := slices_one heach
  have hr := hb.rest
  obtain ⟨ao', cap', e', hcap, ho⟩ := hb.byt.open
  simp only [Value.slice.injEq] at e'
  obtain ⟨rfl, _, rfl⟩ := e'
  rcases ho with ho | ⟨b, off, rfl, hbl, hbs⟩
  · cases ho
  have c0 : w.cell? ⟨b, off, none⟩ = some (.int .u8 0) := hbs 0 (by simp)
  simp only [Option.map_some, add_at] at hr
  have hls : ∀ W, Adds w W → LstV W (.slice lo ln lc) xs := fun W hW => hlst.adds hW
  have hN0 : 0 < (0 :: t).length := by simp
  have key : ∀ W y v7, OwnV w.heap.size 40 v7 (([] ++ xs) ++ [y]) w W → BytO B w y t → RwsO B W v7 (viewK (turnK s (0 :: t))).1 := fun W y v7 ho hy => by
    rw [view_zero]
    have ha := ho.added
    refine rwsO_own ho.1 ?_
    have h1 : Each B W xs (viewK s).1 := heach.imp fun x l hx => hx.adds ha
    exact h1.append ⟨hy.adds ha, trivial⟩
  have keyn : ∀ W, Adds w W → BytO B W (.slice no nn nc) (viewK (turnK s (0 :: t))).2 := fun W hW => by
    rw [view_zero]
    exact hn.adds hW
  have HK : Hid _ := key
  have HKn : Hid _ := keyn
  have hxs : xs.length + 1 ≤ 1000000 := by omega
  have HN : Hid ((0 :: t).length - 1 = t.length) := rfl
  clear key keyn hb hbs hn hlst heach hlen hxl
  by_cases hc1 : bc = 1
  · subst hc1
    have ht : t = [] := List.eq_nil_of_length_eq_zero (by have : t.length + 1 ≤ 1 := hcap; omega)
    subst ht
    rw [if_pos rfl] at hr
    simp only [List.length_cons, List.length_nil, Nat.zero_add, Nat.sub_self] at hr hcap ⊢
    go_enter Tryz.func33, Tryz.ntmps33
    go_wp2
    go_region_law (first
      | (refine own_stepG (v := .slice (some ⟨_, 0, none⟩) 0 0) (xs := []) (ys := xs) rfl (.tmp 21) (.tmp 22) rfl (by first | exact own40_at (by repeat (first | with_reducible exact Adds.refl _ | with_reducible refine Adds.alloc ?_ _ | with_reducible refine Adds.more ?_ _ _ | with_reducible refine Adds.drew ?_ | with_reducible refine Adds.drewN ?_ _)) (Nat.le_refl _) (new_block _ _) | exact own40_at (by repeat (first | with_reducible exact Adds.refl _ | with_reducible refine Adds.alloc ?_ _ | with_reducible refine Adds.more ?_ _ _ | with_reducible refine Adds.drew ?_ | with_reducible refine Adds.drewN ?_ _)) (Nat.le_refl _) blkR_old | exact own40_at (by repeat (first | with_reducible exact Adds.refl _ | with_reducible refine Adds.alloc ?_ _ | with_reducible refine Adds.more ?_ _ _ | with_reducible refine Adds.drew ?_ | with_reducible refine Adds.drewN ?_ _)) (Nat.le_succ _) blkR_new) rfl (hls _ (by repeat (first | with_reducible exact Adds.refl _ | with_reducible refine Adds.alloc ?_ _ | with_reducible refine Adds.more ?_ _ _ | with_reducible refine Adds.drew ?_ | with_reducible refine Adds.drewN ?_ _))) rfl hone (by simp; omega) ?_; intro v6 w6 h6 g6; obtain ⟨ao6, l6, c6, rfl⟩ := row_slice h6.1; have HQ6 : Hid _ := g6.block)
      | (refine own_stepG (xs := [] ++ xs) (ys := [.slice (some ⟨b, off, none⟩) 0 0]) rfl (.tmp 23) (.tmp 26) rfl (h6.adds (by repeat (first | with_reducible exact Adds.refl _ | with_reducible refine Adds.alloc ?_ _ | with_reducible refine Adds.more ?_ _ _ | with_reducible refine Adds.drew ?_ | with_reducible refine Adds.drewN ?_ _))) rfl (by first | exact lst_new rfl | exact lst_at ((HQ6.out _ (by first | (simp; done) | (simp; omega)) (by simp [Value.ownBlock])).trans blkR_new) | exact lst_at ((HQ6.out _ (by first | (simp; done) | (simp; omega)) (by simp [Value.ownBlock])).trans blkR_old)) rfl (by intro u hu; simp at hu; subst hu; rfl) (by simp; omega) ?_; intro v7 w7 h7 g7; obtain ⟨ao7, l7, c7, rfl⟩ := row_slice h7.1))
    all_goals
      go_wp2
      refine bodyPost_ret (v := .tuple #[.slice ao7 l7 c7, .slice no nn nc, .bool true]) (by simp [results, Tryz.results33, go_sem]) rfl ⟨_, _, _, _, _, _, rfl, fun _ => ⟨HK.out _ _ _ h7 hr, HKn.out _ h7.added⟩, h7.added⟩
  · rw [if_neg hc1] at hr
    generalize (0 :: t).length = N at *
    go_enter Tryz.func33, Tryz.ntmps33
    go_wp2
    go_region_law (first
      | (refine own_stepG (v := .slice (some ⟨_, 0, none⟩) 0 0) (xs := []) (ys := xs) rfl (.tmp 21) (.tmp 22) rfl (by first | exact own40_at (by repeat (first | with_reducible exact Adds.refl _ | with_reducible refine Adds.alloc ?_ _ | with_reducible refine Adds.more ?_ _ _ | with_reducible refine Adds.drew ?_ | with_reducible refine Adds.drewN ?_ _)) (Nat.le_refl _) (new_block _ _) | exact own40_at (by repeat (first | with_reducible exact Adds.refl _ | with_reducible refine Adds.alloc ?_ _ | with_reducible refine Adds.more ?_ _ _ | with_reducible refine Adds.drew ?_ | with_reducible refine Adds.drewN ?_ _)) (Nat.le_refl _) blkR_old | exact own40_at (by repeat (first | with_reducible exact Adds.refl _ | with_reducible refine Adds.alloc ?_ _ | with_reducible refine Adds.more ?_ _ _ | with_reducible refine Adds.drew ?_ | with_reducible refine Adds.drewN ?_ _)) (Nat.le_succ _) blkR_new) rfl (hls _ (by repeat (first | with_reducible exact Adds.refl _ | with_reducible refine Adds.alloc ?_ _ | with_reducible refine Adds.more ?_ _ _ | with_reducible refine Adds.drew ?_ | with_reducible refine Adds.drewN ?_ _))) rfl hone (by simp; omega) ?_; intro v6 w6 h6 g6; obtain ⟨ao6, l6, c6, rfl⟩ := row_slice h6.1; have HQ6 : Hid _ := g6.block)
      | (refine own_stepG (xs := [] ++ xs) (ys := [.slice (some ⟨b, off + 1, none⟩) (N - 1) (bc - 1)]) rfl (.tmp 23) (.tmp 26) rfl (h6.adds (by repeat (first | with_reducible exact Adds.refl _ | with_reducible refine Adds.alloc ?_ _ | with_reducible refine Adds.more ?_ _ _ | with_reducible refine Adds.drew ?_ | with_reducible refine Adds.drewN ?_ _))) rfl (by first | exact lst_new rfl | exact lst_at ((HQ6.out _ (by first | (simp; done) | (simp; omega)) (by simp [Value.ownBlock])).trans blkR_new) | exact lst_at ((HQ6.out _ (by first | (simp; done) | (simp; omega)) (by simp [Value.ownBlock])).trans blkR_old)) rfl (by intro u hu; simp at hu; subst hu; rfl) (by simp; omega) ?_; intro v7 w7 h7 g7; obtain ⟨ao7, l7, c7, rfl⟩ := row_slice h7.1))
    all_goals
      go_wp2
      refine bodyPost_ret (v := .tuple #[.slice ao7 l7 c7, .slice no nn nc, .bool true]) (by simp [results, Tryz.results33, go_sem]) rfl ⟨_, _, _, _, _, _, rfl, fun _ => ⟨HK.out _ _ _ h7 hr, HKn.out _ h7.added⟩, h7.added⟩

set_option maxRecDepth 20000 in
set_option maxHeartbeats 1000000 in
theorem apply_three {B : Nat} {w : World} {lo no : Option Addr} {ln lc nn nc : Nat} {s : List (List UInt8) × List UInt8} (hl : RwsO B w (.slice lo ln lc) (viewK s).1) (hn : BytO B w (.slice no nn nc) (viewK s).2) {bc b off : Nat} {t : List UInt8} (hbs : LiesB w b off (3 :: t)) (hlen : (viewK s).1.length ≤ 900000) (h4 : t.length = 4) :
    Calls Tryz.prog 33 #[.slice lo ln lc, .slice no nn nc, .slice (some ⟨b, off, none⟩) 5 bc] w (ApTold B w s (3 :: t)) := by
  have c0 : w.cell? ⟨b, off, none⟩ = some (.int .u8 3) := hbs 0 (by simp)
  have hkn : knownK (3 :: t) = true := by
    rw [knownK_cons, if_neg (by decide), if_neg (by decide), if_neg (by decide), if_pos rfl]
    exact decide_eq_true h4
  have hnum := num4_lt t
  obtain ⟨ao', cap', e', hln⟩ := hl.slice
  simp only [Value.slice.injEq] at e'
  obtain ⟨e1', hll, e2'⟩ := e'
  clear e1' e2'
  have HR : Hid _ := fun k (hk : k ≤ ln) => hl.take k hk
  have HRl : Hid (RwsO B w (.slice lo ln lc) (viewK s).1) := hl
  have HNn : Hid (BytO B w (.slice no nn nc) (viewK s).2) := hn
  have HKn : Hid (knownK (3 :: t) = true) := hkn
  have hln2 : ln ≤ 900000 := by omega
  have hlc : ln ≤ lc := by
    obtain ⟨ao', cap', e', hc⟩ := hl.slice
    simp only [Value.slice.injEq] at e'
    omega
  have HLL : Hid (ln = (viewK s).1.length) := hll
  clear hl hn hkn hln hlen hll
  go_enter Tryz.func33, Tryz.ntmps33
  go_wp2
  go_loopw [9, 10] (fun n i W => ∃ j : Nat, j ≤ 4 ∧ i = .int .i64 ((j + 1 : Nat) : Int) ∧ n = .int .i64 (numF (t.take j) : Int) ∧ W = w) (fun _ i _ => (5 - intOf i).toNat)
  case atStart => exact ⟨0, by omega, rfl, rfl, rfl⟩
  case round =>
    obtain ⟨j, hj, rfl, rfl, rfl⟩ := hrel
    by_cases hlt : j < 4
    · have hjh : j < t.length := by omega
      have e0 := hbs (j + 1) (by simp; omega)
      simp only [List.getElem_cons_succ] at e0
      have HNx : Hid _ := numF_next t j hjh
      have hbd := numF_bound t j (by omega) h4
      have hcb := t[j].toNat_lt
      generalize t[j].toNat = c at *
      generalize numF (t.take j) = S at *
      have i1 : ((j + 1 : Nat) : Int) < 5 := by omega
      have e1 : wr.cell? ⟨b, off + (j + 1), none⟩ = some (.int .u8 (c : Int)) := e0
      clear e0
      generalize hJ : j + 1 = J at *
      have HJ : Hid (j + 1 = J) := hJ
      have i2 : (J : Int) ≤ 4 := by omega
      clear hJ
      go_wp2
      go_roundw
      case rel => exact ⟨j + 1, by omega, by rw [HJ.out]; go_num, by rw [HJ.out, HNx.out]; go_num, trivial⟩
      case measure => simp [intOf]; omega
    · obtain rfl : j = 4 := by omega
      rw [List.take_of_length_le (by omega), numF_four t h4]
      by_cases hc : num4 t < ln
      · have HV : Hid (RwsO B wr (.slice lo (num4 t) lc) (viewK (turnK s (3 :: t))).1 ∧ BytO B wr (.slice no nn nc) (viewK (turnK s (3 :: t))).2) := by
          show _ ∧ _
          rw [view_three]
          exact ⟨HR.out (num4 t) (by omega), HNn.out⟩
        have i1 : (num4 t : Int) < (ln : Int) := by omega
        have i3 : num4 t ≤ lc := by omega
        clear HR HRl HNn hbs
        generalize num4 t = q at *
        go_wp2
        refine bodyPost_ret (v := .tuple #[.slice lo q lc, .slice no nn nc, .bool true]) (by simp [results, Tryz.results33, go_sem]) rfl ⟨_, _, _, _, _, _, by rw [HKn.out], fun _ => HV.out, Adds.refl _⟩
      · have HV : Hid (RwsO B wr (.slice lo ln lc) (viewK (turnK s (3 :: t))).1 ∧ BytO B wr (.slice no nn nc) (viewK (turnK s (3 :: t))).2) := by
          show _ ∧ _
          rw [view_three, List.take_of_length_le (by have := HLL.out; omega)]
          exact ⟨HRl.out, HNn.out⟩
        have i1 : ¬ (num4 t : Int) < (ln : Int) := by omega
        clear HR HRl HNn hbs
        generalize num4 t = q at *
        go_wp2
        refine bodyPost_ret (v := .tuple #[.slice lo ln lc, .slice no nn nc, .bool true]) (by simp [results, Tryz.results33, go_sem]) rfl ⟨_, _, _, _, _, _, by rw [HKn.out], fun _ => HV.out, Adds.refl _⟩

set_option maxRecDepth 20000 in
theorem apply_any {B : Nat} {w : World} {lo no bo : Option Addr} {ln lc nn nc bc : Nat} {s : List (List UInt8) × List UInt8} {r : List UInt8} (hl : RwsO B w (.slice lo ln lc) (viewK s).1) (hn : BytO B w (.slice no nn nc) (viewK s).2) (hb : BytO B w (.slice bo r.length bc) r) (hlen : (viewK s).1.length ≤ 900000) :
    Calls Tryz.prog 33 #[.slice lo ln lc, .slice no nn nc, .slice bo r.length bc] w (ApTold B w s r) := by
  cases r with
  | nil =>
    go_enter Tryz.func33, Tryz.ntmps33
    go_wp2
    refine bodyPost_ret (v := .tuple #[.slice lo ln lc, .slice no nn nc, .bool false]) (by simp [results, Tryz.results33, go_sem]) rfl ⟨_, _, _, _, _, _, rfl, fun h => (by cases h), Adds.refl _⟩
  | cons c t =>
    by_cases e0 : c = 0
    · subst e0
      exact apply_zero hl hn hb hlen
    have hr := hb.rest
    obtain ⟨ao', cap', e', hcap, ho⟩ := hb.byt.open
    simp only [Value.slice.injEq] at e'
    obtain ⟨rfl, _, rfl⟩ := e'
    rcases ho with ho | ⟨b, off, rfl, hbl, hbs⟩
    · cases ho
    have c0 : w.cell? ⟨b, off, none⟩ = some (.int .u8 (c.toNat : Int)) := hbs 0 (by simp)
    simp only [Option.map_some, add_at] at hr
    have n0 : ((c.toNat : Int) == 0) = false := toNat_ne c 0 e0
    by_cases e1 : c = 1
    · subst e1
      have HR : Hid (RwsO B w (.slice lo ln lc) (viewK (turnK s (1 :: t))).1) := by
        show RwsO _ _ _ _
        rw [view_one]
        exact hl
      have HB : Hid (∀ y, BytO B w y t → BytO B w y (viewK (turnK s (1 :: t))).2) := by
        intro y hy
        rw [view_one]
        exact hy
      have hN0 : 0 < (1 :: t).length := by simp
      clear hl hn hb hbs
      by_cases hc1 : bc = 1
      · subst hc1
        have ht : t = [] := List.eq_nil_of_length_eq_zero (by have : t.length + 1 ≤ 1 := hcap; omega)
        subst ht
        rw [if_pos rfl] at hr
        simp only [List.length_cons, List.length_nil, Nat.zero_add, Nat.sub_self] at hr hcap ⊢
        go_enter Tryz.func33, Tryz.ntmps33
        go_wp2
        go_quiet (fail)
        go_wp2
        refine bodyPost_ret (v := .tuple #[.slice lo ln lc, .slice (some ⟨b, off, none⟩) 0 0, .bool true]) (by simp [results, Tryz.results33, go_sem]) rfl ⟨_, _, _, _, _, _, rfl, fun _ => ⟨RwsO.adds HR.out (by repeat (first | with_reducible exact Adds.refl _ | with_reducible refine Adds.alloc ?_ _ | with_reducible refine Adds.more ?_ _ _ | with_reducible refine Adds.drew ?_ | with_reducible refine Adds.drewN ?_ _)), BytO.adds (HB.out _ hr) (by repeat (first | with_reducible exact Adds.refl _ | with_reducible refine Adds.alloc ?_ _ | with_reducible refine Adds.more ?_ _ _ | with_reducible refine Adds.drew ?_ | with_reducible refine Adds.drewN ?_ _))⟩, (by repeat (first | with_reducible exact Adds.refl _ | with_reducible refine Adds.alloc ?_ _ | with_reducible refine Adds.more ?_ _ _ | with_reducible refine Adds.drew ?_ | with_reducible refine Adds.drewN ?_ _))⟩
      · rw [if_neg hc1] at hr
        have HKn : Hid (knownK (1 :: t) = true) := rfl
        generalize (1 :: t).length = N at *
        go_enter Tryz.func33, Tryz.ntmps33
        go_wp2
        go_quiet (fail)
        go_wp2
        refine bodyPost_ret (v := .tuple #[.slice lo ln lc, .slice (some ⟨b, off + 1, none⟩) (N - 1) (bc - 1), .bool true]) (by simp [results, Tryz.results33, go_sem]) rfl ⟨_, _, _, _, _, _, by rw [HKn.out], fun _ => ⟨RwsO.adds HR.out (by repeat (first | with_reducible exact Adds.refl _ | with_reducible refine Adds.alloc ?_ _ | with_reducible refine Adds.more ?_ _ _ | with_reducible refine Adds.drew ?_ | with_reducible refine Adds.drewN ?_ _)), BytO.adds (HB.out _ hr) (by repeat (first | with_reducible exact Adds.refl _ | with_reducible refine Adds.alloc ?_ _ | with_reducible refine Adds.more ?_ _ _ | with_reducible refine Adds.drew ?_ | with_reducible refine Adds.drewN ?_ _))⟩, (by repeat (first | with_reducible exact Adds.refl _ | with_reducible refine Adds.alloc ?_ _ | with_reducible refine Adds.more ?_ _ _ | with_reducible refine Adds.drew ?_ | with_reducible refine Adds.drewN ?_ _))⟩
    by_cases e2 : c = 2
    · subst e2
      have HV : Hid (RwsO B w (.slice none 0 0) (viewK (turnK s (2 :: t))).1 ∧ BytO B w (.slice no nn nc) (viewK (turnK s (2 :: t))).2) := by
        show _ ∧ _
        rw [view_two]
        exact ⟨rwsO_nil B w, hn⟩
      have HKn : Hid ((((t.length + 1 : Nat) : Int) == 1) = knownK (2 :: t)) := by
        show _ = _
        rw [knownK_cons, if_neg (by decide), if_neg (by decide), if_pos rfl, Bool.eq_iff_iff]
        simp only [beq_iff_eq, decide_eq_true_eq]
        omega
      rw [show (2 :: t).length = t.length + 1 from rfl] at hcap ⊢
      have hN0 : 0 < t.length + 1 := by omega
      clear hl hn hb hbs hr
      generalize t.length + 1 = N at *
      go_enter Tryz.func33, Tryz.ntmps33
      go_wp2
      refine bodyPost_ret (v := .tuple #[.slice none 0 0, .slice no nn nc, .bool ((N : Int) == 1)]) (by simp [results, Tryz.results33, go_sem]) rfl ⟨_, _, _, _, _, _, by rw [HKn.out], fun _ => HV.out, Adds.refl _⟩
    by_cases e3 : c = 3
    · subst e3
      by_cases h4 : t.length = 4
      · rw [show (3 :: t).length = 5 from by simp; omega]
        exact apply_three hl hn hbs hlen h4
      · have HKn : Hid (knownK (3 :: t) = false) := by
          show _ = _
          rw [knownK_cons, if_neg (by decide), if_neg (by decide), if_neg (by decide), if_pos rfl]
          exact decide_eq_false h4
        rw [show (3 :: t).length = t.length + 1 from rfl] at hcap ⊢
        have hN0 : 0 < t.length + 1 := by omega
        have hN5 : ¬ ((t.length + 1 : Nat) : Int) = 5 := by omega
        clear hl hn hb hbs hr h4
        generalize t.length + 1 = N at *
        go_enter Tryz.func33, Tryz.ntmps33
        go_wp2
        refine bodyPost_ret (v := .tuple #[.slice lo ln lc, .slice no nn nc, .bool false]) (by simp [results, Tryz.results33, go_sem]) rfl ⟨_, _, _, _, _, _, by rw [HKn.out], fun h => (by rw [HKn.out] at h; cases h), Adds.refl _⟩
    have HKn : Hid (knownK (c :: t) = false) := by
      show _ = _
      rw [knownK_cons, if_neg e0, if_neg e1, if_neg e2, if_neg e3]
    have n1 : ((c.toNat : Int) == 1) = false := toNat_ne c 1 e1
    have n2 : ((c.toNat : Int) == 2) = false := toNat_ne c 2 e2
    have n3 : ((c.toNat : Int) == 3) = false := toNat_ne c 3 e3
    rw [show (c :: t).length = t.length + 1 from rfl] at hcap ⊢
    have hN0 : 0 < t.length + 1 := by omega
    clear hl hn hb hbs hr e0 e1 e2 e3
    generalize t.length + 1 = N at *
    generalize (c.toNat : Int) = m at *
    go_enter Tryz.func33, Tryz.ntmps33
    go_wp2
    refine bodyPost_ret (v := .tuple #[.slice lo ln lc, .slice no nn nc, .bool false]) (by simp [results, Tryz.results33, go_sem]) rfl ⟨_, _, _, _, _, _, by rw [HKn.out], fun h => (by rw [HKn.out] at h; cases h), Adds.refl _⟩

end Go.Proofs.YtelkkpomehgcjaaGreat
