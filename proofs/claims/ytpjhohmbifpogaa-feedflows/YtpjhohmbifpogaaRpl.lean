/-
  Rows of changes that the reference gathers; its Pull, by contract.
-/
import Derived.Test.YtpjhohmbifpogaaBhd
import Derived.Test.YtpjhohmbifpogaaMcpn
import Derived.Test.YtpjhohmbifpogaaMcpn
namespace Go.Proofs.Ytpjhohmbifpogaa
open Go.RowKit
attribute [local go_sem] cell?_more frozen?_more setCell_more size_more tape_more drew_more drewN_more more_drew more_drewN one_out plus_out plus_end lt_one le_p2 le_p3 le_p4 le_p5 le_p6 le_p7 le_p8 le_p9 le_p10 le_p11 le_p12 le_p13 le_p14 le_p15 le_p16 le_p17 le_p18 le_p19 le_p20 le_p21 le_p22 le_p23 le_p24 le_q0 le_q1 lt_q1 le_q2 lt_q2 le_q3 lt_q3 le_q4 lt_q4 le_q5 lt_q5 le_q6 lt_q6 le_q7 lt_q7 le_q8 lt_q8 le_q9 lt_q9 le_q10 lt_q10 le_q11 lt_q11 le_q12 lt_q12 le_q13 lt_q13 le_q14 lt_q14 le_q15 lt_q15 le_q16 lt_q16 le_q17 lt_q17 le_q18 lt_q18 le_q19 lt_q19 le_q20 lt_q20 le_q21 lt_q21 le_q22 lt_q22 le_q23 lt_q23 le_q24 lt_q24

/-- The slice v has the changes rs in a block from B on that the call owns; below B nothing has turned since W0, and there their documents lie. -/
def OwnG (B : Nat) (v : Value) (rs : List Rh) (W0 w : World) : Prop := w.ownsRow B 57 4 v rs.length (cellsH rs) ∧ Below B W0 w ∧ B ≤ w.heap.size ∧ ∀ r ∈ rs, Lst W0 r.2 r.1.doc

theorem OwnG.adds {B : Nat} {v : Value} {rs : List Rh} {W0 w w' : World} (h : OwnG B v rs W0 w) (ha : Adds w w') : OwnG B v rs W0 w' := by
  have hb := ha.below
  have hg : w.grownBy w' none := ⟨hb.os, hb.tape, hb.output, hb.size, fun k hk _ => hb.block k hk⟩
  exact ⟨h.1.kept hg (by cases v.ownBlock <;> simp), h.2.1.trans (hb.mono h.2.2.1), Nat.le_trans h.2.2.1 hb.size, h.2.2.2⟩

theorem OwnG.empty (w : World) : OwnG w.heap.size (.slice (some ⟨w.heap.size, 0, none⟩) 0 0) [] w (w.alloc (.cells #[] 57)) := by
  refine ⟨⟨by simp [cellsH], .inr ⟨w.heap.size, 0, #[], rfl, Nat.le_refl _, new_block2 w _, Nat.zero_le _, by unfold maxLen; omega, by simp, by simp [cellsH]⟩⟩, ((Adds.refl _).alloc _).below, by simp, fun r h => by cases h⟩

theorem OwnG.lstH {v : Value} {fs : List Rh} {W0 w : World} (h : OwnG W0.heap.size v fs W0 w) : LstH w v (fs.map (·.1)) := by
  have hc := fun g => h.1.cells (g := g)
  have hlt := h.1.lt
  rcases h.1.2 with ⟨rfl, hn⟩ | ⟨g, cap, cur, rfl, hb, hg, hnc, hcm, hcs, htk⟩
  · have : fs = [] := List.eq_nil_of_length_eq_zero hn
    subst this
    exact ⟨none, 0, rfl, Nat.le_refl _, .inl rfl⟩
  · refine ⟨_, cap, by simp, by simpa using hnc, .inr ⟨g, 0, rfl, (hlt g rfl).2, ?_⟩⟩
    intro j hj
    have hj' : j < fs.length := by simpa using hj
    have q := fun r hr u hu => hc g rfl (j * 4 + r) u (by rw [cellsH_get fs j hj' r hr]; exact hu)
    simp only [Addr.add_lit] at q
    refine ⟨fs[j].2, ?_, ?_, ?_, ?_, ?_⟩
    · simpa using q 0 (by omega) _ rfl
    · simpa [Nat.add_assoc] using q 1 (by omega) _ rfl
    · simpa [Nat.add_assoc] using q 2 (by omega) _ rfl
    · simpa [Nat.add_assoc] using q 3 (by omega) _ rfl
    · simpa using (h.2.2.2 _ (List.getElem_mem hj')).below h.2.1

theorem ownG_app {ops : Array Oper} {rest : List Oper} {o : Oper} {a : Act} {w : World} {Q : Exit → Act → World → Prop} (hgd : o.guard = none) (s x : Operand) (ho : o.op = .call { callee := .builtin .append, args := #[s, x], argTypes := #[22, 22] })
    {B : Nat} {v : Value} {fs : List Rh} {W0 : World} (h : OwnG B v fs W0 w) (hs : a.eval s = v) {k : Nat} (r : Rh) (hx : a.eval x = .slice (some ⟨k, 0, none⟩) 1 1) (hk : w.heap[k]? = some (.cells #[.int .i64 r.1.pos, .string r.1.key, .bool r.1.has, r.2] 57 (0, 0))) (hr : Lst W0 r.2 r.1.doc) (hlen : fs.length ≤ 10000)
    (hQ : ∀ vo vc w', Hid (OwnG B (.slice vo (fs.length + 1) vc) (fs ++ [r]) W0 w') → wpList Try.prog ops Q rest (a.put o.dst (.slice vo (fs.length + 1) vc)) w') : wpList Try.prog ops Q (o :: rest) a w := by
  obtain ⟨i0, hi, hz0, hz1, hz2⟩ := info_parts Try.info57
  have hcl : ∀ j u, (cellsH [r])[j]? = some u → w.cell? ((⟨k, 0, none⟩ : Addr).add j) = some u := by
    intro j u hu
    rw [Addr.add_lit, cell_of_row w k _ _ _ _ hk]
    simpa [cellsH, Ch.cells] using hu
  have hone : ∀ u ∈ cellsH [r], u.oneCell' = true := by
    intro u hu
    simp only [cellsH, List.flatMap_cons, List.flatMap_nil, List.append_nil, Ch.cells, List.mem_cons, List.mem_nil_iff, or_false] at hu
    rcases hu with rfl | rfl | rfl | rfl
    · rfl
    · rfl
    · rfl
    · obtain ⟨ao, cap, e, _⟩ := hr
      rw [e]
      rfl
  obtain ⟨v', w', h1, h2, h3, _⟩ := run_append_own (P := Try.prog) w B 22 o.type 57 i0 _ 4 56 Try.underlying22 hi hz0 hz1 hz2 rfl (by decide) v fs.length (cellsH fs) h.1 ⟨k, 0, none⟩ 1 1 (cellsH [r]) (cellsH_length [r]) hcl hone (by unfold maxLen; omega) (by omega) h.2.2.1
  have hO : OwnG B v' (fs ++ [r]) W0 w' := by
    refine ⟨by rw [List.length_append, cellsH_append]; exact h2, ?_, Nat.le_trans h.2.2.1 h3.size, fun x hx => ?_⟩
    · refine ⟨h3.os.trans h.2.1.os, h3.tape.trans h.2.1.tape, h3.output.trans h.2.1.output, Nat.le_trans h.2.1.size h3.size, fun q hq => ?_⟩
      rw [h3.block q (Nat.lt_of_lt_of_le hq h.2.2.1) ?_]
      · exact h.2.1.block q hq
      · intro e
        have := h.1.lt q e.symm
        omega
    · rcases List.mem_append.1 hx with hx | hx
      · exact h.2.2.2 x hx
      · have := List.mem_singleton.1 hx
        subst this
        exact hr
  obtain ⟨vo, vc, rfl⟩ : ∃ vo vc, v' = .slice vo (fs.length + 1) vc := by
    rcases hO.1.2 with ⟨_, hn⟩ | ⟨g, cap, cur, e, _⟩
    · simp at hn
    · exact ⟨some ⟨g, 0, none⟩, cap, by rw [e]; simp⟩
  exact Lib.wpList_append_run w hgd s x 22 22 ho v _ hs hx _ w' h1 (hQ vo vc w' hO)

theorem take_drop_next {ch : List Ch} {j k : Nat} (hj : j < ch.length) (hk : k ≤ j) : (ch.take (j + 1)).drop k = (ch.take j).drop k ++ [ch[j]] := by
  rw [List.take_succ_eq_append_getElem hj, List.drop_append_of_le_length (by simp; omega)]

theorem take_drop_cut {ch : List Ch} {j k m : Nat} (hj : j ≤ ch.length) (hm : j - k ≤ m) (he : j = ch.length ∨ j - k = m) : (ch.take j).drop k = cutC ch k m := by
  unfold cutC
  rw [List.drop_take]
  rcases he with rfl | rfl
  · rw [List.take_of_length_le (by simp), List.take_of_length_le (by simp; omega)]
  · rfl

set_option maxHeartbeats 4000000 in
set_option maxRecDepth 20000 in
theorem refPull_ok (base total frm : Int) (s t : Value) (ch : List Ch) (k m : Nat) (w : World) (hs : LstH w s ch) (hc : ch.length ≤ 1000) (hF : Follow ch base) (hm1 : 1 ≤ m) (hm2 : m ≤ 16) (h0 : 0 ≤ base) (h1 : frm ≤ total) (_h2 : total ≤ 2147483647) (hk : frm = base + (k : Int)) :
    Calls Try.prog 29 #[.agg #[.int .i64 base, .int .i64 total, s, t], .int .i64 frm, .int .i64 (m : Int)] w fun e w' => (∃ vo vc, e = .returned (.tuple #[.slice vo (cutC ch k m).length vc, .int .i64 0]) ∧ Hid (LstH w' (.slice vo (cutC ch k m).length vc) (cutC ch k m))) ∧ Adds w w' := by
  obtain ⟨ao, cap, rfl, hcap, hlo⟩ := hs
  have hm1' : ¬ (m : Int) < 1 := by omega
  have hm2' : ¬ 16 < (m : Int) := by omega
  have h0' : ¬ frm < 0 := by omega
  have h1' : ¬ total < frm := by omega
  have h3' : ¬ frm < base := by omega
  have HF : Hid (Follow ch base) := hF
  have HK : Hid (frm = base + (k : Int)) := hk
  clear hF hk
  go_enter Try.func29, Try.ntmps29
  go_wp2
  go_loopw [8, 9] (fun nv i wr => ∃ (j : Nat) (vo : Option Addr) (vc : Nat) (rs : List Rh), j ≤ ch.length ∧ j - k ≤ m ∧ i = .int .i64 j ∧ nv = .slice vo (j - k) vc ∧ Hid (OwnG (w.alloc (Obj.cells #[.int .i64 base, .int .i64 total, .slice ao ch.length cap, t] 25)).heap.size (.slice vo (j - k) vc) rs (w.alloc (Obj.cells #[.int .i64 base, .int .i64 total, .slice ao ch.length cap, t] 25)) wr) ∧ Hid (rs.map (·.1) = (ch.take j).drop k)) (fun _ i _ => ch.length - (intOf i).toNat)
  case atStart =>
    refine ⟨0, some ⟨w.heap.size + 1, 0, none⟩, 0, [], Nat.zero_le _, by omega, rfl, by simp, ?_, by show _ = _; simp⟩
    have hE := OwnG.empty (w.alloc (Obj.cells #[.int .i64 base, .int .i64 total, .slice ao ch.length cap, t] 25))
    show OwnG _ _ _ _ _
    rw [Nat.zero_sub]
    rw [alloc_size] at hE ⊢
    exact hE
  case round =>
    obtain ⟨j, vo, vc, rs, hj, hjm, rfl, rfl, HO, HM⟩ := hrel
    have HA1 : Hid (Adds (w.alloc (Obj.cells #[.int .i64 base, .int .i64 total, .slice ao ch.length cap, t] 25)) wr) := Adds.of HO.out.2.1
    have HA : Hid (Adds w wr) := ((Adds.refl w).alloc _).trans HA1.out
    have HR : Hid (rs.length = j - k) := by
      have := congrArg List.length HM.out
      show _ = _
      simp at this
      omega
    have hbx : w.heap.size < wr.heap.size := by
      have := HA1.out.below.size
      simp at this
      omega
    have x0 : wr.cell? ⟨w.heap.size, 0, none⟩ = some (.int .i64 base) := (HA1.out.below.cell (by simp)).trans (by simp)
    have x2 : wr.cell? ⟨w.heap.size, 2, none⟩ = some (.slice ao ch.length cap) := (HA1.out.below.cell (by simp)).trans (by simp)
    by_cases hlt : j < ch.length
    · rcases hlo with rfl | ⟨b, off, rfl, hb, hl⟩
      · simp at hlt
      obtain ⟨v, c0, c1, c2, c3, hdoc⟩ := hl.adds HA.out hb j hlt
      have hbl : b < wr.heap.size := Nat.lt_of_lt_of_le hb HA.out.below.size
      have hlt' : (j : Int) < (ch.length : Int) := by omega
      have hps : ch[j].pos = base + 1 + j := (HF.out j hlt).1
      by_cases hfull : j - k < m
      · have hfull' : ((j - k : Nat) : Int) < (m : Int) := by omega
        by_cases hge : k ≤ j
        · have hgt : frm < base + 1 + (j : Int) := by rw [HK.out]; omega
          rw [hps] at c0
          have hdW : Hid (Lst (w.alloc (Obj.cells #[.int .i64 base, .int .i64 total, .slice (some ⟨b, off, none⟩) ch.length cap, t] 25)) v ch[j].doc) := by
            obtain ⟨v2, _, _, _, e3, hd2⟩ := hl.adds ((Adds.refl w).alloc (Obj.cells #[.int .i64 base, .int .i64 total, .slice (some ⟨b, off, none⟩) ch.length cap, t] 25)) hb j hlt
            have e4 := (HA1.out.below.cell (p := ⟨b, off + j * 4 + 3, none⟩) (by show b < _; rw [alloc_size]; omega)).trans e3
            rw [c3] at e4
            obtain rfl := Option.some.inj e4
            exact hd2
          obtain ⟨uo, uc, rfl, _, _⟩ := hdoc
          have HN : Hid (∀ u : Value, (rs ++ [((⟨base + 1 + (j : Int), ch[j].key, ch[j].has, ch[j].doc⟩, u) : Rh)]).map (·.1) = (ch.take (j + 1)).drop k) := fun u => by
            rw [take_drop_next hlt hge, List.map_append, HM.out, ← hps]
            rfl
          have hrl : rs.length ≤ 10000 := by rw [HR.out]; omega
          clear hl hps
          generalize ch[j].key = ky at *
          generalize ch[j].has = hs at *
          generalize ch[j].doc = dc at *
          go_wp2_with (at_builtin; refine ownG_app rfl (.tmp 52) (.tmp 58) rfl (OwnG.adds HO.out (by repeat (first | with_reducible exact Adds.refl _ | with_reducible refine Adds.alloc ?_ _ | with_reducible refine Adds.more ?_ _ _ | with_reducible refine Adds.drew ?_ | with_reducible refine Adds.drewN ?_ _))) rfl ((⟨base + 1 + (j : Int), ky, hs, dc⟩, .slice uo dc.length uc) : Rh) rfl (at_newH _ _ _ (by simp [go_sem])) hdW.out hrl ?_; intro v6 c6 w6 H6)
          go_roundw
          case rel =>
            have e1 : rs.length + 1 = j + 1 - k := by rw [HR.out]; omega
            exact ⟨j + 1, v6, c6, _, by omega, by omega, by go_num, by rw [e1], by rw [← e1]; exact H6, HN.out _⟩
          case measure => simp [intOf]; omega
        · have hng : ¬ frm < base + 1 + (j : Int) := by rw [HK.out]; omega
          have HN : Hid (rs.map (·.1) = (ch.take (j + 1)).drop k) := by
            show _ = _
            rw [HM.out, List.drop_of_length_le (by simp; omega), List.drop_of_length_le (by simp; omega)]
          have e1 : j + 1 - k = j - k := by omega
          rw [hps] at c0
          obtain ⟨uo, uc, rfl, _, _⟩ := hdoc
          clear hl hps
          generalize ch[j].key = ky at *
          generalize ch[j].has = hs at *
          generalize ch[j].doc = dc at *
          have HE : Hid _ := e1
          clear e1
          go_wp2
          go_roundw
          case rel => exact ⟨j + 1, vo, vc, rs, by omega, by rw [HE.out]; omega, by go_num, by rw [HE.out], by rw [HE.out]; exact HO, HN⟩
          case measure => simp [intOf]; omega
      · have hfull' : ¬ ((j - k : Nat) : Int) < (m : Int) := by omega
        have HE : Hid ((ch.take j).drop k = cutC ch k m) := take_drop_cut hj hjm (.inr (by omega))
        have HL : Hid ((cutC ch k m).length = j - k) := by
          show _ = _
          rw [← HE.out]
          simp
          omega
        clear hl
        go_wp2
        refine bodyPost_ret (v := .tuple #[.slice vo (j - k) vc, .int .i64 0]) (by simp [results, Try.results29, go_sem]) rfl ⟨⟨vo, vc, by rw [HL.out], ?_⟩, HA.out.trans (by repeat (first | with_reducible exact Adds.refl _ | with_reducible refine Adds.alloc ?_ _ | with_reducible refine Adds.more ?_ _ _ | with_reducible refine Adds.drew ?_ | with_reducible refine Adds.drewN ?_ _))⟩
        show LstH _ _ _
        rw [HL.out, ← HE.out, ← HM.out]
        exact (HO.out.adds (by repeat (first | with_reducible exact Adds.refl _ | with_reducible refine Adds.alloc ?_ _ | with_reducible refine Adds.more ?_ _ _ | with_reducible refine Adds.drew ?_ | with_reducible refine Adds.drewN ?_ _))).lstH
    · obtain rfl : j = ch.length := by omega
      have HE : Hid ((ch.take ch.length).drop k = cutC ch k m) := take_drop_cut hj hjm (.inl rfl)
      have HL : Hid ((cutC ch k m).length = ch.length - k) := by
        show _ = _
        rw [← HE.out]
        simp
      clear hlo
      go_wp2
      refine bodyPost_ret (v := .tuple #[.slice vo (ch.length - k) vc, .int .i64 0]) (by simp [results, Try.results29, go_sem]) rfl ⟨⟨vo, vc, by rw [HL.out], ?_⟩, HA.out.trans (by repeat (first | with_reducible exact Adds.refl _ | with_reducible refine Adds.alloc ?_ _ | with_reducible refine Adds.more ?_ _ _ | with_reducible refine Adds.drew ?_ | with_reducible refine Adds.drewN ?_ _))⟩
      show LstH _ _ _
      rw [HL.out, ← HE.out, ← HM.out]
      exact (HO.out.adds (by repeat (first | with_reducible exact Adds.refl _ | with_reducible refine Adds.alloc ?_ _ | with_reducible refine Adds.more ?_ _ _ | with_reducible refine Adds.drew ?_ | with_reducible refine Adds.drewN ?_ _))).lstH

end Go.Proofs.Ytpjhohmbifpogaa
