/-
  The matcher's match of package expr, by contract, of two lists that read alike.
-/
import Derived.Test.YtdlkpkldlljhcaaDoorPsa
namespace Go.Proofs.YtdlkpkldlljhcaaDoor
open Go.RowKit
attribute [local go_sem] cell?_more frozen?_more setCell_more size_more tape_more drew_more drewN_more more_drew more_drewN one_out plus_out plus_end lt_one le_p2 le_p3 le_p4 le_p5 le_p6 le_p7 le_p8 le_p9 le_p10 le_p11 le_p12 le_p13 le_p14 le_p15 le_p16 le_p17 le_p18 le_p19 le_p20 le_p21 le_p22 le_p23 le_p24 le_q0 le_q1 lt_q1 le_q2 lt_q2 le_q3 lt_q3 le_q4 lt_q4 le_q5 lt_q5 le_q6 lt_q6 le_q7 lt_q7 le_q8 lt_q8 le_q9 lt_q9 le_q10 lt_q10 le_q11 lt_q11 le_q12 lt_q12 le_q13 lt_q13 le_q14 lt_q14 le_q15 lt_q15 le_q16 lt_q16 le_q17 lt_q17 le_q18 lt_q18 le_q19 lt_q19 le_q20 lt_q20 le_q21 lt_q21 le_q22 lt_q22 le_q23 lt_q23 le_q24 lt_q24

def sumI (its : List It) : Nat := (its.map (fun x => cntN x.d x.ts)).sum

theorem sumI_append (l t : List It) : sumI (l ++ t) = sumI l + sumI t := by simp [sumI]

theorem Tn.elem' {ok : Nat → Prop} {d : Nat} {w : World} {ao : Option Addr} {n cap : Nat} {ts : List N} (h : Tn ok d w (.slice ao n cap) ts) {k : Nat} (hk : k < ts.length) :
    ∃ d' b off x, d = d' + 1 ∧ ao = some ⟨b, off, none⟩ ∧ ok b ∧ (w.cell? ⟨b, off + k * 4, none⟩ = some (.int .i64 ts[k].kind) ∧ w.cell? ⟨b, off + k * 4 + 1, none⟩ = some (.string ts[k].text) ∧ w.cell? ⟨b, off + k * 4 + 2, none⟩ = some (.int .i64 ts[k].num) ∧ w.cell? ⟨b, off + k * 4 + 3, none⟩ = some x) ∧ Tn ok d' w x ts[k].args := by
  cases d with
  | zero =>
    obtain ⟨rfl, _⟩ := h
    simp at hk
  | succ d =>
    obtain ⟨ao', cap', he, _, rfl | ⟨b, off, rfl, hlt, hok, _, hx⟩⟩ := h
    · simp at hk
    · simp only [Value.slice.injEq] at he
      obtain ⟨x, hc, _, ht⟩ := hx k hk
      exact ⟨d, b, off, x, rfl, he.1, hok, hc, ht⟩

/-- What a round of match leaves: the stack, and how many nodes it has. -/
def Rnd (M B Bp : Nat) (W0 : World) (it : It) (n : Int) (its : List It) (k : Nat) (W : World) : Prop :=
  ∃ v pu, St M B W0 W v (n + (k : Int)) (its ++ pu) ∧ v.ownBlock ≠ some Bp ∧ Bp < W.heap.size ∧ W.cell? ⟨Bp, 0, none⟩ = some it.sa ∧ W.cell? ⟨Bp, 1, none⟩ = some it.sb ∧ pu.length ≤ k ∧
    sumI pu = ((it.ts.take k).map (fun t => cntN (it.d - 1) t.args)).sum

theorem rnd_push {M B Bp : Nat} {W0 wr Wp w4 : World} {it new : It} {n : Int} {its pu : List It} {k : Nat} {v1 v' : Value} (hS : St M B W0 wr v1 (n + ((k + 1 : Nat) : Int)) (its ++ pu)) (hA : Adds wr Wp) (ho : w4.ownsRow B 52 2 v' ((its ++ pu) ++ [new]).length (cellsI ((its ++ pu) ++ [new]))) (hg : Wp.grownBy w4 v1.ownBlock)
    (hbk : v'.ownBlock = v1.ownBlock ∨ v'.ownBlock = some Wp.heap.size) (hnew : new.Ok B W0) (hfar : v1.ownBlock ≠ some Bp) (hBp : Bp < wr.heap.size) (hBM : Bp ≠ M) (p0 : wr.cell? ⟨Bp, 0, none⟩ = some it.sa) (p1 : wr.cell? ⟨Bp, 1, none⟩ = some it.sb) (hpl : pu.length ≤ k)
    (hsum : sumI (pu ++ [new]) = ((it.ts.take (k + 1)).map (fun t => cntN (it.d - 1) t.args)).sum) :
    Rnd M B Bp W0 it n its (k + 1) (w4.setCell ⟨M, 0, none⟩ v') := by
  have hc : ∀ i, (w4.setCell ⟨M, 0, none⟩ v').cell? ⟨Bp, i, none⟩ = wr.cell? ⟨Bp, i, none⟩ := by
    intro i
    rw [World.cell?_of_block (w := w4) (w' := w4.setCell ⟨M, 0, none⟩ v') (a := ⟨Bp, i, none⟩) (Below.heap_setCell w4 ⟨M, 0, none⟩ v' Bp hBM)]
    rw [World.cell?_of_block (w := Wp) (w' := w4) (a := ⟨Bp, i, none⟩) (hg.block Bp (Nat.lt_of_lt_of_le hBp hA.below.size) (fun e => hfar e.symm))]
    exact hA.below.cell (by exact hBp)
  refine ⟨v', pu ++ [new], by rw [← List.append_assoc]; exact (hS.adds hA).push ho hg hnew, ?_, ?_, by rw [hc]; exact p0, by rw [hc]; exact p1, by simp; omega, hsum⟩
  · rcases hbk with e | e
    · rw [e]; exact hfar
    · rw [e]
      have := hA.below.size
      simp only [ne_eq, Option.some.injEq]
      omega
  · have h1 := hA.below.size
    have h2 := hg.size
    simp
    omega

set_option maxHeartbeats 4000000 in
set_option maxRecDepth 20000 in
theorem match_any (M B : Nat) (W0 W : World) (v : Value) (n : Int) (its : List It) (hst : St M B W0 W v n its) (it : It) (hit : it.Ok B W0) (hn0 : 0 ≤ n) (hn : n + (it.ts.length : Int) ≤ 256) (hits : its.length ≤ 300) :
    Calls Tryd.prog 22 #[.pointer (some ⟨M, 0, none⟩), .agg #[it.sa, it.sb]] W fun e W' => e = .returned (.bool true) ∧ ∃ v' pu, St M B W0 W' v' (n + (it.ts.length : Int)) (its ++ pu) ∧ sumI pu + it.ts.length = cntN it.d it.ts := by
  obtain ⟨hta, htb, hne⟩ := hit
  obtain ⟨ao, ca, hsa⟩ := hta.shape
  obtain ⟨bo, cb, hsb⟩ := htb.shape
  obtain ⟨m0, m1, m2, mf, hM⟩ := hst.cells
  have hR0 : Rnd M B W.heap.size W0 it n its 0 (W.alloc (.cells #[it.sa, it.sb] 52)) := by
    refine ⟨v, [], by rw [List.append_nil]; simpa using hst.adds ((Adds.refl _).alloc _), ?_, by simp, (box2_at (by simp)).1, (box2_at (by simp)).2, Nat.le_refl _, by simp [sumI]⟩
    intro e
    have := hst.2.1.lt _ e
    omega
  have hMW : W.heap.size ≠ M := by omega
  rw [hsa, hsb]
  rw [hsa, hsb] at hR0
  have HN : Hid (n + (it.ts.length : Int) ≤ 256) := hn
  have hlen2 : it.ts.length ≤ 256 := by omega
  have HI : Hid (its.length ≤ 300) := hits
  clear hits hn
  go_enter Tryd.func22, Tryd.ntmps22
  go_wp2
  go_loopw [11] (fun iv wr => ∃ k : Nat, k ≤ it.ts.length ∧ iv = .int .i64 k ∧ Rnd M B W.heap.size W0 it n its k wr) (fun iv _ => it.ts.length - (intOf iv).toNat)
  case atStart => exact ⟨0, Nat.zero_le _, rfl, hR0⟩
  case round =>
    clear hR0 m0 m1 m2 mf
    obtain ⟨k, hk, rfl, v1, pu, hS, hfar, hBp, p0, p1, hpl, hsum⟩ := hrel
    by_cases hlt : k < it.ts.length
    · have hbel := hS.2.2.1
      obtain ⟨m0, m1, m2, mf, hM1⟩ := hS.cells
      have mf0 := mf 0
      have mf1 := mf 1
      have hta' := hta
      have htb' := htb
      rw [hsa] at hta'
      rw [hsb] at htb'
      obtain ⟨e1, b1, o1, x, he1, hao, hb1, ⟨c0, c1, c2, c3⟩, htx⟩ := hta'.elem' hlt
      obtain ⟨e2, b2, o2, y, he2, hbo, hb2, ⟨d0, d1, d2, d3⟩, hty⟩ := htb'.elem' hlt
      obtain rfl : e1 = e2 := by omega
      rw [← hbel.cell (by exact hb1)] at c0 c1 c2 c3
      rw [← hbel.cell (by exact hb2)] at d0 d1 d2 d3
      have hb1' : b1 < wr.heap.size := Nat.lt_of_lt_of_le hb1 hS.2.2.2.2.1
      have hb2' : b2 < wr.heap.size := Nat.lt_of_lt_of_le hb2 hS.2.2.2.2.1
      have hBM := hS.2.2.2.1
      have hb1M : b1 ≠ M := by omega
      have hb2M : b2 ≠ M := by omega
      obtain ⟨xo, xc, hxs⟩ := htx.shape
      obtain ⟨yo, yc, hys⟩ := hty.shape
      have hcnt : ((it.ts.take (k + 1)).map (fun t => cntN (it.d - 1) t.args)).sum = sumI pu + cntN e1 it.ts[k].args := by
        rw [List.take_succ_eq_append_getElem hlt, List.map_append, List.sum_append, ← hsum, he1]
        simp
      have hw1 : wrap64 (n + (k : Int) + 1) = n + (k : Int) + 1 := by
        have := HN.out
        unfold wrap64
        omega
      have hle6 : n + (k : Int) + 1 ≤ 256 := by
        have := HN.out
        omega
      have hSt : St M B W0 (wr.setCell ⟨M, 1, none⟩ (.int .i64 (n + (k : Int) + 1))) v1 (n + (k : Int) + 1) (its ++ pu) := hS.tick
      have hlt' : (k : Int) < (it.ts.length : Int) := by omega
      have HCN : Hid _ := hcnt
      have HSS : Hid (St M B W0 (wr.setCell ⟨M, 1, none⟩ (.int .i64 (n + (k : Int) + 1))) v1 (n + (k : Int) + 1) (its ++ pu)) := hSt
      have hq0 : (wr.setCell ⟨M, 1, none⟩ (.int .i64 (n + (k : Int) + 1))).cell? ⟨W.heap.size, 0, none⟩ = some it.sa := by
        rw [World.cell?_of_block (w := wr) (a := ⟨W.heap.size, 0, none⟩) (Below.heap_setCell wr ⟨M, 1, none⟩ _ W.heap.size hMW)]
        exact p0
      have hq1 : (wr.setCell ⟨M, 1, none⟩ (.int .i64 (n + (k : Int) + 1))).cell? ⟨W.heap.size, 1, none⟩ = some it.sb := by
        rw [World.cell?_of_block (w := wr) (a := ⟨W.heap.size, 1, none⟩) (Below.heap_setCell wr ⟨M, 1, none⟩ _ W.heap.size hMW)]
        exact p1
      have HQ0 : Hid _ := hq0
      have HQ1 : Hid _ := hq1
      rw [hsa] at p0
      rw [hsb] at p1
      clear hcnt hsum hta' htb' hSt hS hq0 hq1
      subst hxs hys hao hbo
      by_cases hemp : it.ts[k].args.length = 0
      · have HPN : Hid (it.ts[k].args = []) := List.eq_nil_of_length_eq_zero hemp
        rw [hemp] at c3 d3
        clear hemp htx hty
        generalize it.ts[k].kind = pk at *
        generalize it.ts[k].text = pt at *
        generalize it.ts[k].num = pn at *
        go_wp2
        go_roundw
        case rel =>
          refine ⟨k + 1, by omega, by go_num, v1, pu, ?_, hfar, ?_, ?_, ?_, by omega, ?_⟩
          · rw [show n + ((k + 1 : Nat) : Int) = n + (k : Int) + 1 by omega]
            exact St.adds HSS.out (adds2 _ _ _)
          · exact Nat.lt_of_lt_of_le (by simpa using hBp) (adds2 _ _ _).below.size
          · exact ((adds2 _ _ _).below.cell (by simpa using hBp)).trans HQ0.out
          · exact ((adds2 _ _ _).below.cell (by simpa using hBp)).trans HQ1.out
          · rw [HCN.out, HPN.out, cnt_nil]
            rfl
        case measure => simp [intOf]; omega
      · have hpos : (0 : Int) < (it.ts[k].args.length : Int) := by omega
        have hlp : (its ++ pu).length ≤ 10000 := by
          have := HI.out
          rw [List.length_append]
          omega
        have HNK : Hid (It.Ok B W0 ⟨.slice xo it.ts[k].args.length xc, .slice yo it.ts[k].args.length yc, it.ts[k].args, e1⟩) := ⟨htx, hty, fun h => hemp (by have h' : it.ts[k].args = [] := h; rw [h']; rfl)⟩
        have HS2 : Hid (sumI (pu ++ [(⟨.slice xo it.ts[k].args.length xc, .slice yo it.ts[k].args.length yc, it.ts[k].args, e1⟩ : It)]) = ((it.ts.take (k + 1)).map (fun t => cntN (it.d - 1) t.args)).sum) := by
          show _ = _
          rw [HCN.out, sumI_append]
          simp [sumI]
        have kA := fun o o' x y => again_no M (n + (k : Int) + 1) x y (((wr.setCell ⟨M, 1, none⟩ (.int .i64 (n + (k : Int) + 1))).alloc o).alloc o') ((St.adds HSS.out (adds2 _ o o')).cells.2.1) hle6
        have HSS2 : Hid (St M B W0 (wr.setCell ⟨M, 1, none⟩ (.int .i64 (n + (k : Int) + 1))) v1 (n + ((k + 1 : Nat) : Int)) (its ++ pu)) := by
          rw [show n + ((k + 1 : Nat) : Int) = n + (k : Int) + 1 by omega]
          exact HSS.out
        clear hemp htx hty HCN
        generalize it.ts[k].kind = pk at *
        generalize it.ts[k].text = pt at *
        generalize it.ts[k].num = pn at *
        generalize it.ts[k].args = pa at *
        go_wp2_with (go_at_call 40; refine (kA _ _ _ _).mono ?_; rintro e w3 ⟨rfl, hw⟩; subst w3)
        go_region_law (first
          | (refine push_step rfl (.tmp 73) (.tmp 79) rfl (St.adds HSS.out (by repeat (first | with_reducible exact Adds.refl _ | with_reducible refine Adds.alloc ?_ _ | with_reducible refine Adds.more ?_ _ _ | with_reducible refine Adds.drew ?_ | with_reducible refine Adds.drewN ?_ _))).2.1 (St.adds HSS.out (by repeat (first | with_reducible exact Adds.refl _ | with_reducible refine Adds.alloc ?_ _ | with_reducible refine Adds.more ?_ _ _ | with_reducible refine Adds.drew ?_ | with_reducible refine Adds.drewN ?_ _))).2.2.2.2.1 rfl ⟨.slice xo pa.length xc, .slice yo pa.length yc, pa, e1⟩ rfl rfl rfl (by simp [go_sem]) (by simp [go_sem]) hlp ?_; intro va vn vc w4 ho4 hg4 hbk4; obtain ⟨n0, nf⟩ := (St.adds HSS.out (by repeat (first | with_reducible exact Adds.refl _ | with_reducible refine Adds.alloc ?_ _ | with_reducible refine Adds.more ?_ _ _ | with_reducible refine Adds.drew ?_ | with_reducible refine Adds.drewN ?_ _))).after hg4))
        all_goals
          go_wp2
          go_roundw
          case rel => exact ⟨k + 1, by omega, by go_num, rnd_push HSS2.out (by repeat (first | with_reducible exact Adds.refl _ | with_reducible refine Adds.alloc ?_ _ | with_reducible refine Adds.more ?_ _ _ | with_reducible refine Adds.drew ?_ | with_reducible refine Adds.drewN ?_ _)) ho4 hg4 hbk4 HNK.out hfar (by simpa using hBp) hMW HQ0.out HQ1.out hpl HS2.out⟩
          case measure => simp [intOf]; omega
    · have hk' : k = it.ts.length := by omega
      have hlt' : ¬ (k : Int) < (it.ts.length : Int) := by omega
      subst hk'
      have HC : Hid (sumI pu + it.ts.length = cntN it.d it.ts) := by
        show _ = _
        rw [hsum, List.take_length]
        cases hd : it.d with
        | zero =>
          rw [hd] at hta
          exact absurd hta.1 hne
        | succ d =>
          simp [cntN]
          omega
      have HS : Hid _ := hS
      clear hS hsum
      go_wp2
      go_ret
      exact ⟨rfl, v1, pu, HS.out, HC.out⟩

end Go.Proofs.YtdlkpkldlljhcaaDoor
