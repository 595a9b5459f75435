/-
  The law ShelfTrue, by contract: the walk.
-/
import Derived.Test.YtiacnmcdfpmcfaaGreatDoorT53
import Derived.Deep.CutBlock
import Derived.Deep.RegionHeld3
namespace Go.Proofs.YtiacnmcdfpmcfaaGreatDoor
open Go.RowKit
attribute [local go_sem] cell?_more frozen?_more setCell_more size_more tape_more drew_more drewN_more more_drew more_drewN one_out plus_out plus_end lt_one le_p2 le_p3 le_p4 le_p5 le_p6 le_p7 le_p8 le_p9 le_p10 le_p11 le_p12 le_p13 le_p14 le_p15 le_p16 le_p17 le_p18 le_p19 le_p20 le_p21 le_p22 le_p23 le_p24 le_q0 le_q1 lt_q1 le_q2 lt_q2 le_q3 lt_q3 le_q4 lt_q4 le_q5 lt_q5 le_q6 lt_q6 le_q7 lt_q7 le_q8 lt_q8 le_q9 lt_q9 le_q10 lt_q10 le_q11 lt_q11 le_q12 lt_q12 le_q13 lt_q13 le_q14 lt_q14 le_q15 lt_q15 le_q16 lt_q16 le_q17 lt_q17 le_q18 lt_q18 le_q19 lt_q19 le_q20 lt_q20 le_q21 lt_q21 le_q22 lt_q22 le_q23 lt_q23 le_q24 lt_q24

attribute [local go_sem] cell?_addTo

theorem LstH.cut {w : World} {la : Option Addr} {n cap : Nat} {ls : List Ch} (h : LstH w (.slice la n cap) ls) {a b : Nat} (hab : a ≤ b) (hb : b ≤ ls.length) : LstH w (.slice (la.map (fun x => x.add (a * 4))) (b - a) (cap - a)) ((ls.take b).drop a) := by
  obtain ⟨ao, c, e, hc, hx⟩ := h
  simp only [Value.slice.injEq] at e
  obtain ⟨rfl, hn, rfl⟩ := e
  have hl : ((ls.take b).drop a).length = b - a := by simp; omega
  refine ⟨la.map (fun x => x.add (a * 4)), cap - a, by rw [hl], by rw [hl]; omega, ?_⟩
  rcases hx with rfl | ⟨p, off, rfl, hp, hL⟩
  · left
    simp
  · right
    refine ⟨p, off + a * 4, by simp [Addr.add_lit], hp, fun j hj => ?_⟩
    have hj' : a + j < ls.length := by omega
    obtain ⟨v, c0, c1, c2, c3, hd⟩ := hL (a + j) hj'
    have e : ((ls.take b).drop a)[j] = ls[a + j] := by rw [List.getElem_drop, List.getElem_take]
    rw [e]
    have e2 : off + a * 4 + j * 4 = off + (a + j) * 4 := by omega
    rw [e2]
    exact ⟨v, c0, c1, c2, c3, hd⟩

theorem LstH.cutN {w : World} {la : Option Addr} {n cap : Nat} {ls : List Ch} (h : LstH w (.slice la n cap) ls) {a k : Nat} (hb : a + k ≤ ls.length) : LstH w (.slice (la.map (fun x => x.add (a * 4))) k (cap - a)) ((ls.take (a + k)).drop a) := by
  have h1 := LstH.cut h (a := a) (b := a + k) (by omega) hb
  rwa [Nat.add_sub_cancel_left] at h1

theorem LstH.none_at {w : World} {la : Option Addr} {cap : Nat} {ls : List Ch} {a b : Nat} (hab : b ≤ a) : LstH w (.slice la 0 cap) ((ls.take b).drop a) := by
  have hl : ((ls.take b).drop a) = [] := by
    apply List.eq_nil_of_length_eq_zero
    simp
    omega
  rw [hl]
  exact ⟨la, cap, rfl, Nat.zero_le _, .inl rfl⟩

theorem wp_named2 {P : Program} {c : Code} {Q : Exit → Act → World → Prop} {a : Act} {w : World} (h : ∀ X, Hid (X = w) → c.wp P Q a X) : c.wp P Q a w := h w rfl

set_option maxRecDepth 20000 in
set_option maxHeartbeats 40000000 in
theorem true_any (hAp : ApplyOk) (s : ByteArray) (lv av : Value) (cs : List Ch) (w : World) (qs : List Ac) (hAl : ApplyLoad) (hAf : ApplyFeed) (hl : LstH w lv cs) (ha : LstA w av qs) :
    Calls Tryz.prog 5 #[.string s, lv, av] w fun e w' => e = .returned (.bool true) ∧ Adds w w' := by
  have kA := fun W => awakeS_any hAp W
  have HL : Hid (LstH w lv cs) := hl
  obtain ⟨lo, lc, rfl, _, _⟩ := hl
  have HQ : Hid (LstA w av qs) := ha
  obtain ⟨aa, ac, rfl, _, _, _⟩ := ha
  by_cases hs : s.size ≤ 1100
  rotate_left
  · have hs' : (1100 : Int) < (s.size : Int) := by omega
    clear hs HL
    generalize cs.length = n at *
    go_enter Tryz.func5, Tryz.ntmps5
    go_wp2_with (go_at_call 9; refine (kA _).mono ?_; rintro e w1 ⟨rfl, os1, n1, rfl⟩)
    go_ret
    exact ⟨rfl, (by repeat (first | with_reducible exact Adds.refl _ | with_reducible refine Adds.alloc ?_ _ | with_reducible refine Adds.more ?_ _ _ | with_reducible refine Adds.drew ?_ | with_reducible refine Adds.drewN ?_ _))⟩
  by_cases hn : cs.length ≤ 40
  rotate_left
  · have hs' : ¬ (1100 : Int) < (s.size : Int) := by omega
    have hn' : (40 : Int) < (cs.length : Int) := by omega
    clear hs HL hn
    generalize cs.length = n at *
    go_enter Tryz.func5, Tryz.ntmps5
    go_wp2_with (go_at_call 9; refine (kA _).mono ?_; rintro e w1 ⟨rfl, os1, n1, rfl⟩)
    go_ret
    exact ⟨rfl, (by repeat (first | with_reducible exact Adds.refl _ | with_reducible refine Adds.alloc ?_ _ | with_reducible refine Adds.more ?_ _ _ | with_reducible refine Adds.drew ?_ | with_reducible refine Adds.drewN ?_ _))⟩
  have hs' : ¬ (1100 : Int) < (s.size : Int) := by omega
  have hn' : ¬ (40 : Int) < (cs.length : Int) := by omega
  have HN : Hid (cs.length ≤ 40) := hn
  have HS : Hid (s.size ≤ 1100) := hs
  clear hs hn
  go_enter Tryz.func5, Tryz.ntmps5
  go_wp2
  go_loopw [1, 7] (fun lv iv wr => ∃ (i : Nat) (ls : List Ch), i ≤ cs.length ∧ iv = .int .i64 i ∧ (∃ a c, lv = .slice a cs.length c) ∧ Hid (ls.length = cs.length) ∧ Hid (LstH wr lv ls) ∧ Hid (GoodC i ls) ∧ Adds w wr) (fun _ iv _ => cs.length - (intOf iv).toNat)
  case atStart => exact ⟨0, cs, Nat.zero_le _, rfl, ⟨_, _, rfl⟩, rfl, HL.out, fun j h hj => by omega, Adds.refl _⟩
  case round =>
    obtain ⟨i, ls, hi, rfl, ⟨la, lc', rfl⟩, hlen, hLS, hG, hA⟩ := hrel
    have HA : Hid (Adds w wr) := hA
    clear hA
    by_cases hlt : i < cs.length
    · have hlt' : i < ls.length := by rw [hlen.out]; exact hlt
      obtain ⟨hcl1, hcap, rs, hrs, hrd, hx⟩ := LstH.rows hLS.out
      clear hcl1
      rcases hx with hx | ⟨b, off, rfl, hb, hcl⟩
      · rw [hx] at hlt'; simp at hlt'
      have hLS2 := hLS.out
      obtain ⟨ao2, cap2, e2, _, hx2⟩ := hLS2
      simp only [Value.slice.injEq] at e2
      obtain ⟨rfl, hcl0, rfl⟩ := e2
      clear hcl0
      rcases hx2 with hx2 | ⟨b2, off2, e2, _, hll⟩
      · rw [hx2] at hlt'; simp at hlt'
      simp only [Option.some.injEq, Addr.mk.injEq] at e2
      obtain ⟨rfl, rfl, _⟩ := e2
      obtain ⟨v, c0, c1, c2, c3, hdoc⟩ := hll i hlt'
      have hltI : (i : Int) < (cs.length : Int) := by omega
      have hi40 : i < 40 := by have := HN.out; omega
      have kK := fun W => rkey_any ls[i].key W
      have hdl : (20 : Int) < (ls[i].doc.length : Int) ∨ ¬ (20 : Int) < (ls[i].doc.length : Int) := by omega
      rcases hdl with hd | hd
      · clear kK hll
        obtain ⟨vo, vc, rfl, _, _⟩ := hdoc
        generalize ls[i].doc.length = nd at *
        go_wp2_with (go_at_call 9; refine (kA _).mono ?_; rintro e w1 ⟨rfl, os1, n1, rfl⟩)
        go_ret
        exact ⟨rfl, HA.out.trans (by repeat (first | with_reducible exact Adds.refl _ | with_reducible refine Adds.alloc ?_ _ | with_reducible refine Adds.more ?_ _ _ | with_reducible refine Adds.drew ?_ | with_reducible refine Adds.drewN ?_ _))⟩
      have kM := fun W (hA : Adds wr W) => refMay_any v ls[i].doc W (hdoc.adds hA) (by omega)
      by_cases hky : isKey ls[i].key = true
      rotate_left
      · rw [show isKey ls[i].key = false by simpa using hky] at kK
        clear hll kM hky
        obtain ⟨vo, vc, rfl, _, _⟩ := hdoc
        generalize ls[i].doc.length = nd at *
        generalize ls[i].key = ky at *
        go_wp2_with (first
          | (go_at_call 19; refine (kK _).mono ?_; rintro e w2 ⟨rfl, os2, n2, rfl⟩)
          | (go_at_call 9; refine (kA _).mono ?_; rintro e w1 ⟨rfl, os1, n1, rfl⟩))
        go_ret
        exact ⟨rfl, HA.out.trans (by repeat (first | with_reducible exact Adds.refl _ | with_reducible refine Adds.alloc ?_ _ | with_reducible refine Adds.more ?_ _ _ | with_reducible refine Adds.drew ?_ | with_reducible refine Adds.drewN ?_ _))⟩
      rw [hky] at kK
      by_cases hmy : May ls[i].doc
      rotate_left
      · rw [decide_eq_false hmy] at kM
        clear hll hmy hky
        obtain ⟨vo, vc, rfl, _, _⟩ := hdoc
        generalize ls[i].doc.length = nd at *
        generalize ls[i].key = ky at *
        go_wp2_with (first
          | (go_at_call 19; refine (kK _).mono ?_; rintro e w2 ⟨rfl, os2, n2, rfl⟩)
          | (go_at_call 20; refine (kM _ (by repeat (first | with_reducible exact Adds.refl _ | with_reducible refine Adds.alloc ?_ _ | with_reducible refine Adds.more ?_ _ _ | with_reducible refine Adds.drew ?_ | with_reducible refine Adds.drewN ?_ _))).mono ?_; rintro e w3 ⟨rfl, os3, n3, rfl⟩)
          | (go_at_call 9; refine (kA _).mono ?_; rintro e w1 ⟨rfl, os1, n1, rfl⟩))
        go_ret
        exact ⟨rfl, HA.out.trans (by repeat (first | with_reducible exact Adds.refl _ | with_reducible refine Adds.alloc ?_ _ | with_reducible refine Adds.more ?_ _ _ | with_reducible refine Adds.drew ?_ | with_reducible refine Adds.drewN ?_ _))⟩
      rw [decide_eq_true hmy] at kM
      have HG2 : Hid (GoodC (i + 1) (putAt i ls ls[i])) := putAt_good hlt' hG.out hky hmy
      have HP2 : Hid ((putAt i ls ls[i]).length = cs.length) := (putAt_length hlt').trans hlen.out
      have hrl : rs.length = ls.length := by rw [← hrs, List.length_map]
      have HW : Hid (∀ W, Adds wr W → ∀ j u, (cellsH rs)[j]? = some u → W.cell? ⟨b, off + j, none⟩ = some u) := fun W hA j u hu => (hA.below.cell (by exact hb)).trans (hcl j u hu)
      have HC1 : Hid (∀ W, Adds wr W → ∀ j u, (cellsH (rs.take i))[j]? = some u → W.cell? ((⟨b, off, none⟩ : Addr).add j) = some u) := fun W hA j u hu => by
        rw [Addr.add_lit]
        exact HW.out W hA j u (cells_take hu)
      have HC3 : Hid (∀ W, Adds wr W → ∀ j u, (cellsH (rs.drop (i + 1)))[j]? = some u → W.cell? ((⟨b, off + (i + 1) * 4, none⟩ : Addr).add j) = some u) := fun W hA j u hu => by
        rw [Addr.add_lit, Nat.add_assoc]
        exact HW.out W hA _ u (cells_drop (by omega) hu)
      have HR1 : Hid (∀ r ∈ rs.take i, Lst wr r.2 r.1.doc) := fun r hr => hrd r (List.mem_of_mem_take hr)
      have HR3 : Hid (∀ r ∈ rs.drop (i + 1), Lst wr r.2 r.1.doc) := fun r hr => hrd r (List.mem_of_mem_drop hr)
      have HL1 : Hid ((rs.take i).length = i) := by
        show _ = _
        simp
        omega
      have HL3 : Hid ((rs.drop (i + 1)).length = cs.length - (i + 1)) := by
        have := hlen.out
        show _ = _
        simp
        omega
      have HLN : Hid (∀ x : Rh, (([] ++ rs.take i) ++ [x]).length + (rs.drop (i + 1)).length ≤ 100000) := fun x => by
        have := HN.out
        have := hlen.out
        simp
        omega
      have HM : Hid (∀ x : Value, (rs.take i ++ [((ls[i].at ((i : Int) + 1), x) : Rh)] ++ rs.drop (i + 1)).map (·.1) = putAt i ls ls[i]) := fun x => by
        simp only [List.map_append, List.map_take, List.map_drop, hrs, putAt, List.map_cons, List.map_nil]
      have HD2 : Hid (Lst wr v ls[i].doc) := hdoc
      have kT := fun (W : World) (vo : Option Addr) (vn vc : Nat) => at_any ls[i].pos ((i : Int) + 1) ls[i].key ls[i].has vo vn vc W
      clear hll hmy hky hrs hrd hcl hrl HW hLS hG
      obtain ⟨vo, vc, rfl, _, _⟩ := hdoc
      generalize hci : ls[i] = c at *
      clear hci
      generalize c.doc.length = nd at *
      by_cases hcc : lc' = i + 1
      · have HC4 : Hid (∀ W : World, ∀ j u, (cellsH (rs.drop (i + 1)))[j]? = some u → W.cell? ((⟨b, off, none⟩ : Addr).add j) = some u) := fun W j u hu => by
          have h0 : rs.drop (i + 1) = [] := List.eq_nil_of_length_eq_zero (by have := HL3.out; omega)
          rw [h0] at hu
          simp [cellsH] at hu
        have HL4 : Hid ((rs.drop (i + 1)).length = 0) := by
          have := HL3.out
          show _ = _
          omega
        subst hcc
        clear HC3
        have hile : i ≤ i + 1 := by omega
        have hile2 : (i : Int) ≤ (i : Int) + 1 := by omega
        have hil : i + 1 ≤ cs.length := by omega
        go_wp2_with (first
          | (go_at_call 19; refine (kK _).mono ?_; rintro e w2 ⟨rfl, os2, n2, rfl⟩)
          | (go_at_call 20; refine (kM _ (by repeat (first | with_reducible exact Adds.refl _ | with_reducible refine Adds.alloc ?_ _ | with_reducible refine Adds.more ?_ _ _ | with_reducible refine Adds.drew ?_ | with_reducible refine Adds.drewN ?_ _))).mono ?_; rintro e w3 ⟨rfl, os3, n3, rfl⟩))
        have hi40I : (i : Int) ≤ 40 := by omega
        have hI0 : (0 : Int) ≤ (i : Int) + 1 := by omega
        have hI1 : (i : Int) + 1 ≤ (cs.length : Int) := by omega
        have hwr : IntKind.i64.wrap ((i : Int) + 1) = (i : Int) + 1 := by rw [IntKind.wrap_i64]; omega
        clear kA kK kM
        go_region_law (first
          | (refine call_step2 rfl 21 (.tmp 68) (.tmp 70) 36 3 rfl (.agg #[.int .i64 c.pos, .string c.key, .bool c.has, .slice vo nd vc]) (.int .i64 ((i : Int) + 1)) rfl rfl (kT _ _ _ _) (by rintro e w' ⟨h, _⟩; exact ⟨_, h⟩) (by go_simp) ?_; rintro u5 w5 ⟨he5, os5, n5, rfl⟩; cases he5)
          | (refine appQ_step rfl (.tmp 60) (.tmp 63) rfl (B := wr.heap.size) (W0 := wr) (fs := []) (OwnQ.lit (by repeat (first | with_reducible exact Adds.refl _ | with_reducible refine Adds.alloc ?_ _ | with_reducible refine Adds.more ?_ _ _ | with_reducible refine Adds.drew ?_ | with_reducible refine Adds.drewN ?_ _)) (by simp [go_sem]) (at_later (o := .cells #[] 36 (0, 0)) (by repeat (first | with_reducible exact Adds.refl _ | with_reducible refine Adds.alloc ?_ _ | with_reducible refine Adds.more ?_ _ _ | with_reducible refine Adds.drew ?_ | with_reducible refine Adds.drewN ?_ _)) (by simp [go_sem]))) rfl (rs.take i) rfl HL1.out (HC1.out _ (by repeat (first | with_reducible exact Adds.refl _ | with_reducible refine Adds.alloc ?_ _ | with_reducible refine Adds.more ?_ _ _ | with_reducible refine Adds.drew ?_ | with_reducible refine Adds.drewN ?_ _))) HR1.out (by simp; omega) ?_; intro v6 w6 h6 g6; have q6 := (Adds.of h6.2.1).below; have e0 := (q6.cell (by exact hb)).trans c0; have e1 := (q6.cell (by exact hb)).trans c1; have e2 := (q6.cell (by exact hb)).trans c2; have e3 := (q6.cell (by exact hb)).trans c3; have hb6 := Nat.lt_of_lt_of_le hb q6.size; have H6 : Hid _ := h6; have G6 : Hid _ := g6; clear h6 g6 q6)
          | (refine appQ_step rfl (.tmp 64) (.tmp 72) rfl (OwnQ.adds H6.out (by repeat (first | with_reducible exact Adds.refl _ | with_reducible refine Adds.alloc ?_ _ | with_reducible refine Adds.more ?_ _ _ | with_reducible refine Adds.drew ?_ | with_reducible refine Adds.drewN ?_ _))) rfl [(c.at ((i : Int) + 1), .slice vo nd vc)] rfl rfl (one_cells (by first | exact at_later (by repeat (first | with_reducible exact Adds.refl _ | with_reducible refine Adds.alloc ?_ _ | with_reducible refine Adds.more ?_ _ _ | with_reducible refine Adds.drew ?_ | with_reducible refine Adds.drewN ?_ _)) (by simp [go_sem]) | exact grown_at G6.out (by simp [go_sem]) (at_later (by repeat (first | with_reducible exact Adds.refl _ | with_reducible refine Adds.alloc ?_ _ | with_reducible refine Adds.more ?_ _ _ | with_reducible refine Adds.drew ?_ | with_reducible refine Adds.drewN ?_ _)) (by simp [go_sem])))) (by intro r hr; obtain rfl := List.mem_singleton.1 hr; exact HD2.out) (by simp; omega) ?_; intro v7 w7 h7 g7; have H7 : Hid _ := h7; clear h7 g7)
          | (refine appQ_step rfl (.tmp 73) (.tmp 77) rfl (OwnQ.adds H7.out (by repeat (first | with_reducible exact Adds.refl _ | with_reducible refine Adds.alloc ?_ _ | with_reducible refine Adds.more ?_ _ _ | with_reducible refine Adds.drew ?_ | with_reducible refine Adds.drewN ?_ _))) rfl (rs.drop (i + 1)) rfl HL4.out (HC4.out _) HR3.out (HLN.out _) ?_; intro v8 w8 h8 g8; have L8 := OwnQ.lstH h8; rw [List.nil_append, HM.out] at L8; obtain ⟨xa, xc, rfl, hxc, hxx⟩ := id L8; rw [HP2.out] at L8 hxc h8; rw [HP2.out]; have A8 : Hid (Adds wr w8) := Adds.of h8.2.1; have H8 : Hid _ := L8; clear h8 g8 L8 hxc hxx))
        all_goals
          go_wp2
          go_roundw
          case rel => exact ⟨i + 1, putAt i ls c, by omega, by go_num, ⟨_, _, rfl⟩, HP2, H8, HG2, HA.out.trans A8.out⟩
          case measure => simp [intOf]; omega
      · have hcc' : ¬ (lc' : Int) = (i : Int) + 1 := by omega
        have hile : i ≤ lc' := by omega
        have hil : i + 1 ≤ cs.length := by omega
        go_wp2_with (first
          | (go_at_call 19; refine (kK _).mono ?_; rintro e w2 ⟨rfl, os2, n2, rfl⟩)
          | (go_at_call 20; refine (kM _ (by repeat (first | with_reducible exact Adds.refl _ | with_reducible refine Adds.alloc ?_ _ | with_reducible refine Adds.more ?_ _ _ | with_reducible refine Adds.drew ?_ | with_reducible refine Adds.drewN ?_ _))).mono ?_; rintro e w3 ⟨rfl, os3, n3, rfl⟩))
        have hi40I : (i : Int) ≤ 40 := by omega
        have hI0 : (0 : Int) ≤ (i : Int) + 1 := by omega
        have hI1 : (i : Int) + 1 ≤ (cs.length : Int) := by omega
        have hwr : IntKind.i64.wrap ((i : Int) + 1) = (i : Int) + 1 := by rw [IntKind.wrap_i64]; omega
        clear kA kK kM
        go_region_law (first
          | (refine call_step2 rfl 21 (.tmp 68) (.tmp 70) 36 3 rfl (.agg #[.int .i64 c.pos, .string c.key, .bool c.has, .slice vo nd vc]) (.int .i64 ((i : Int) + 1)) rfl rfl (kT _ _ _ _) (by rintro e w' ⟨h, _⟩; exact ⟨_, h⟩) (by go_simp) ?_; rintro u5 w5 ⟨he5, os5, n5, rfl⟩; cases he5)
          | (refine appQ_step rfl (.tmp 60) (.tmp 63) rfl (B := wr.heap.size) (W0 := wr) (fs := []) (OwnQ.lit (by repeat (first | with_reducible exact Adds.refl _ | with_reducible refine Adds.alloc ?_ _ | with_reducible refine Adds.more ?_ _ _ | with_reducible refine Adds.drew ?_ | with_reducible refine Adds.drewN ?_ _)) (by simp [go_sem]) (at_later (o := .cells #[] 36 (0, 0)) (by repeat (first | with_reducible exact Adds.refl _ | with_reducible refine Adds.alloc ?_ _ | with_reducible refine Adds.more ?_ _ _ | with_reducible refine Adds.drew ?_ | with_reducible refine Adds.drewN ?_ _)) (by simp [go_sem]))) rfl (rs.take i) rfl HL1.out (HC1.out _ (by repeat (first | with_reducible exact Adds.refl _ | with_reducible refine Adds.alloc ?_ _ | with_reducible refine Adds.more ?_ _ _ | with_reducible refine Adds.drew ?_ | with_reducible refine Adds.drewN ?_ _))) HR1.out (by simp; omega) ?_; intro v6 w6 h6 g6; have q6 := (Adds.of h6.2.1).below; have e0 := (q6.cell (by exact hb)).trans c0; have e1 := (q6.cell (by exact hb)).trans c1; have e2 := (q6.cell (by exact hb)).trans c2; have e3 := (q6.cell (by exact hb)).trans c3; have hb6 := Nat.lt_of_lt_of_le hb q6.size; have H6 : Hid _ := h6; have G6 : Hid _ := g6; clear h6 g6 q6)
          | (refine appQ_step rfl (.tmp 64) (.tmp 72) rfl (OwnQ.adds H6.out (by repeat (first | with_reducible exact Adds.refl _ | with_reducible refine Adds.alloc ?_ _ | with_reducible refine Adds.more ?_ _ _ | with_reducible refine Adds.drew ?_ | with_reducible refine Adds.drewN ?_ _))) rfl [(c.at ((i : Int) + 1), .slice vo nd vc)] rfl rfl (one_cells (by first | exact at_later (by repeat (first | with_reducible exact Adds.refl _ | with_reducible refine Adds.alloc ?_ _ | with_reducible refine Adds.more ?_ _ _ | with_reducible refine Adds.drew ?_ | with_reducible refine Adds.drewN ?_ _)) (by simp [go_sem]) | exact grown_at G6.out (by simp [go_sem]) (at_later (by repeat (first | with_reducible exact Adds.refl _ | with_reducible refine Adds.alloc ?_ _ | with_reducible refine Adds.more ?_ _ _ | with_reducible refine Adds.drew ?_ | with_reducible refine Adds.drewN ?_ _)) (by simp [go_sem])))) (by intro r hr; obtain rfl := List.mem_singleton.1 hr; exact HD2.out) (by simp; omega) ?_; intro v7 w7 h7 g7; have H7 : Hid _ := h7; clear h7 g7)
          | (refine appQ_step rfl (.tmp 73) (.tmp 77) rfl (OwnQ.adds H7.out (by repeat (first | with_reducible exact Adds.refl _ | with_reducible refine Adds.alloc ?_ _ | with_reducible refine Adds.more ?_ _ _ | with_reducible refine Adds.drew ?_ | with_reducible refine Adds.drewN ?_ _))) rfl (rs.drop (i + 1)) rfl HL3.out (HC3.out _ (Adds.trans (Adds.of H7.out.2.1) (by repeat (first | with_reducible exact Adds.refl _ | with_reducible refine Adds.alloc ?_ _ | with_reducible refine Adds.more ?_ _ _ | with_reducible refine Adds.drew ?_ | with_reducible refine Adds.drewN ?_ _)))) HR3.out (HLN.out _) ?_; intro v8 w8 h8 g8; have L8 := OwnQ.lstH h8; rw [List.nil_append, HM.out] at L8; obtain ⟨xa, xc, rfl, hxc, hxx⟩ := id L8; rw [HP2.out] at L8 hxc h8; rw [HP2.out]; have A8 : Hid (Adds wr w8) := Adds.of h8.2.1; have H8 : Hid _ := L8; clear h8 g8 L8 hxc hxx))
        all_goals
          go_wp2
          go_roundw
          case rel => exact ⟨i + 1, putAt i ls c, by omega, by go_num, ⟨_, _, rfl⟩, HP2, H8, HG2, HA.out.trans A8.out⟩
          case measure => simp [intOf]; omega
    · have hi' : i = cs.length := by omega
      subst hi'
      have hltI : ¬ (cs.length : Int) < (cs.length : Int) := by omega
      have HGD : Hid (GoodC ls.length ls) := by
        have h1 := hG.out
        rw [← hlen.out] at h1
        exact h1
      have kN := fun W => new_any s W (by have := HS.out; omega)
      unfold GaveN at kN
      clear hG
      cases hp : parseA s.toList with
      | error c =>
        have hc := parseA_err hp
        have hcb : (c != 0) = true := by simpa using hc
        have hcb' : (c == 0) = false := by simpa using hc
        rw [hp] at kN
        simp only at kN
        clear hp hc
        go_wp2_with (first
          | (go_at_call 17; refine (kN _).mono ?_; rintro e w2 ⟨rfl, os2, n2, rfl⟩)
          | (go_at_call 9; refine (kA _).mono ?_; rintro e w1 ⟨rfl, os1, n1, rfl⟩))
        go_ret
        exact ⟨rfl, HA.out.trans (by repeat (first | with_reducible exact Adds.refl _ | with_reducible refine Adds.alloc ?_ _ | with_reducible refine Adds.more ?_ _ _ | with_reducible refine Adds.drew ?_ | with_reducible refine Adds.drewN ?_ _))⟩
      | ok xs =>
        rw [hp] at kN
        simp only at kN
        have HP : Hid (parseA s.toList = .ok xs) := hp
        clear hp
        go_wp2_with (go_at_call 17; refine (kN _).mono ?_; rintro e w2 ⟨rfl, os2, n2, rfl⟩)
        have HB0 : Hid (ShlBox ((more wr os2 n2).alloc (.cells #[.string s, .bool false, .int .i64 0, .slice none 0 0] 24)) (wr.heap.size + os2.size) ⟨s, false, 0, []⟩ (.slice none 0 0)) := by
          have h1 := Sh.new_block2 (more wr os2 n2) (.cells #[.string s, .bool false, .int .i64 0, .slice none 0 0] 24)
          rw [show (more wr os2 n2).heap.size = wr.heap.size + os2.size by simp [go_sem]] at h1
          exact h1
        have HA1 : Hid (Adds w ((more wr os2 n2).alloc (.cells #[.string s, .bool false, .int .i64 0, .slice none 0 0] 24))) := HA.out.trans (by repeat (first | with_reducible exact Adds.refl _ | with_reducible refine Adds.alloc ?_ _ | with_reducible refine Adds.more ?_ _ _ | with_reducible refine Adds.drew ?_ | with_reducible refine Adds.drewN ?_ _))
        have HL1 : Hid (LstH ((more wr os2 n2).alloc (.cells #[.string s, .bool false, .int .i64 0, .slice none 0 0] 24)) (.slice la cs.length lc') ls) := hLS.out.adds (by repeat (first | with_reducible exact Adds.refl _ | with_reducible refine Adds.alloc ?_ _ | with_reducible refine Adds.more ?_ _ _ | with_reducible refine Adds.drew ?_ | with_reducible refine Adds.drewN ?_ _))
        have HSZ : Hid (w.heap.size ≤ wr.heap.size + os2.size) := by
          have := HA.out.below.size
          show _ ≤ _
          omega
        have HT0 : Hid (TrueS s xs ls ⟨s, false, 0, []⟩) := ⟨rfl, 0, rfl, Nat.zero_le _, by simp [foldN, ents, Sh.sortE]⟩
        have H40 : Hid (ls.length ≤ 40) := by
          have h1 := HN.out
          rw [← hlen.out] at h1
          exact h1
        clear HA hLS kN
        generalize (more wr os2 n2).alloc (.cells #[.string s, .bool false, .int .i64 0, .slice none 0 0] 24) = W1 at *
        generalize wr.heap.size + os2.size = S at *
        go_loopw [10] (fun iv wr2 => ∃ (k : Nat) (sh : Shl), k ≤ 40 ∧ iv = .int .i64 k ∧ Hid (Adds w wr2) ∧ Hid (LstH wr2 (.slice la cs.length lc') ls) ∧ Hid (TrueS s xs ls sh) ∧ Hid (∃ vs, ShlBox wr2 S sh vs ∧ Sh.Lst wr2 vs sh.es)) (fun iv _ => (41 - intOf iv).toNat)
        case atStart => exact ⟨0, ⟨s, false, 0, []⟩, by omega, rfl, HA1.out, HL1.out, HT0.out, _, HB0.out, none, 0, rfl, Nat.le_refl _, .inl rfl⟩
        case round =>
          clear HB0 HA1 HL1 HT0
          obtain ⟨k, sh, hk, rfl, hA2, hL2, hT2, hS2⟩ := hrel
          by_cases hkq : k < qs.length
          rotate_left
          · have hkI : ¬ (k : Int) < (qs.length : Int) := by omega
            clear hS2
            go_wp2_with (go_at_call 9; refine (kA _).mono ?_; rintro e w1 ⟨rfl, os1, n1, rfl⟩)
            go_ret
            exact ⟨rfl, hA2.out.trans (by repeat (first | with_reducible exact Adds.refl _ | with_reducible refine Adds.alloc ?_ _ | with_reducible refine Adds.more ?_ _ _ | with_reducible refine Adds.drew ?_ | with_reducible refine Adds.drewN ?_ _))⟩
          have hkI : (k : Int) < (qs.length : Int) := by omega
          by_cases hk40 : k < 40
          rotate_left
          · have hk40I : ¬ (k : Int) < 40 := by omega
            clear hS2
            go_wp2_with (go_at_call 9; refine (kA _).mono ?_; rintro e w1 ⟨rfl, os1, n1, rfl⟩)
            go_ret
            exact ⟨rfl, hA2.out.trans (by repeat (first | with_reducible exact Adds.refl _ | with_reducible refine Adds.alloc ?_ _ | with_reducible refine Adds.more ?_ _ _ | with_reducible refine Adds.drew ?_ | with_reducible refine Adds.drewN ?_ _))⟩
          have hk40I : (k : Int) < 40 := by omega
          obtain ⟨vs, hbx, hvs⟩ := hS2.out
          obtain ⟨hSl, s0, s1, s2, s3, fzs⟩ := hbx.cells
          obtain ⟨sa, sc, rfl, _, _⟩ := id hvs
          obtain ⟨qa, qc, eq, _, _, hq⟩ := HQ.out
          simp only [Value.slice.injEq] at eq
          obtain ⟨rfl, _, rfl⟩ := eq
          rcases hq with rfl | ⟨b, off, rfl, hqb, hql⟩
          · simp at hkq
          obtain ⟨⟨a0, a1, a2, a3, a4, a5, a6, a7, a8, a9, a10, a11, a12, a13⟩, hn256, hm256, hosl, hlight⟩ := hql.adds hA2.out hqb k hkq
          have hqb2 : b < wr.heap.size := Nat.lt_of_lt_of_le hqb hA2.out.below.size
          generalize qs[k] = q at *
          obtain ⟨qd, qn, qm, ⟨kind, key, tox, dv, wv, has, on, most, lv2, sv, nv⟩⟩ := q
          simp only at a0 a1 a2 a3 a4 a5 a6 a7 a8 a9 a10 a11 a12 a13 hn256 hm256
          obtain ⟨⟨xo1, xn1, xc1, rfl⟩, ⟨xo2, xn2, xc2, rfl⟩, ⟨xo3, xn3, xc3, rfl⟩, ⟨xo4, xn4, xc4, rfl⟩, ⟨xo5, xn5, xc5, rfl⟩⟩ := hosl
          have hN1 : ¬ ((cs.length : Int) + 1 = 0) := by omega
          have hN2 : (((cs.length : Int) + 1) == 0) = false := by simpa using hN1
          obtain ⟨nn, hnn0⟩ : ∃ nn : Nat, nn = qn % (cs.length + 1) := ⟨_, rfl⟩
          have hnn : (qn : Int) % ((cs.length : Int) + 1) = (nn : Int) := by rw [hnn0]; norm_cast
          have hnl : nn ≤ cs.length := by
            have := Nat.mod_lt qn (show 0 < cs.length + 1 by omega)
            omega
          have HNN : Hid (nn ≤ ls.length) := by
            show _ ≤ _
            rw [hlen.out]
            exact hnl
          clear hnn0 hql
          have kFo := fun (m : Nat) (W : World) (hm : m ≤ ls.length) (h : LstH W (.slice la cs.length lc') ls) => rFoldN_any (.slice la cs.length lc') ls m W h (by have := H40.out; omega) hm
          have HBX : Hid (ShlBox wr S sh (.slice sa sh.es.length sc)) := hbx
          have HVS : Hid (Sh.Lst wr (.slice sa sh.es.length sc) sh.es) := hvs
          clear hbx hvs hS2
          go_upto_block 4 with fail
          go_cut [11, 13] from 87 to 242 (fun _ _ wc => ∃ o : Ov, Hid (Adds wr wc) ∧ Hid (wc.heap[wr.heap.size]? = some (.cells #[.int .i64 o.kind, .string o.key, .string o.to, o.dv, o.wv, .bool o.has, .int .i64 o.n, .int .i64 o.most, o.lv, o.sv, o.nv] 31 (0, 0))) ∧ Hid o.Sl ∧ Hid (∀ W, Adds wc W → AppliesTo s xs ls sh (.slice sa sh.es.length sc) o W))
          case first =>
            as_aux_lemma =>
            by_cases hd0 : qd = 0
            · subst hd0
              go_wp2_with fail
              refine (kFo nn _ HNN.out (hL2.out.adds (by repeat (first | with_reducible exact Adds.refl _ | with_reducible refine Adds.alloc ?_ _ | with_reducible refine Adds.more ?_ _ _ | with_reducible refine Adds.drew ?_ | with_reducible refine Adds.drewN ?_ _)))).mono ?_
              rintro e w3 ⟨⟨fo, fn, fc, rfl, HF, HFr⟩, os3, n3, rfl⟩
              go_wp2_with fail
              go_meet
              refine ⟨⟨101, ⟨#[]⟩, ⟨#[]⟩, .slice none 0 0, .slice none 0 0, false, nn, 0, .slice none 0 0, .slice fo fn fc, .slice none 0 0⟩, Adds.trans (Adds.refl _) ?_, at_later ?_ rfl, ⟨⟨_, _, _, rfl⟩, ⟨_, _, _, rfl⟩, ⟨_, _, _, rfl⟩, ⟨_, _, _, rfl⟩, ⟨_, _, _, rfl⟩⟩, fun W hW => applies_load (m := nn) hAl hT2.out HP.out HS.out HGD.out H40.out (HVS.out.adds (Adds.trans ?_ hW)) ⟨⟨_, _, _, rfl⟩, ⟨_, _, _, rfl⟩, ⟨_, _, _, rfl⟩, ⟨_, _, _, rfl⟩, ⟨_, _, _, rfl⟩⟩ rfl rfl HNN.out ((docs_oth HF.out HFr.out (k := wr.heap.size) (by simp) ((Oth.box _ _ _ rfl).mores _ _ _) (opbox_no (at_later (by repeat (first | with_reducible exact Adds.refl _ | with_reducible refine Adds.alloc ?_ _ | with_reducible refine Adds.more ?_ _ _ | with_reducible refine Adds.drew ?_ | with_reducible refine Adds.drewN ?_ _)) rfl))).adds hW)⟩
              all_goals repeat (first | with_reducible exact Adds.refl _ | with_reducible refine Adds.alloc ?_ _ | with_reducible refine Adds.more ?_ _ _ | with_reducible refine Adds.drew ?_ | with_reducible refine Adds.drewN ?_ _)
            by_cases hd1 : qd = 1
            · subst hd1
              obtain ⟨mm, hmm0⟩ : ∃ mm : Nat, mm = qm % 17 := ⟨_, rfl⟩
              have hmm : (qm : Int) % 17 = (mm : Int) := by rw [hmm0]; norm_cast
              have hm16 : mm ≤ 16 := by
                have := Nat.mod_lt qm (show 0 < 17 by omega)
                omega
              clear hmm0
              have HM16 : Hid (mm ≤ 16) := hm16
              have hcap : cs.length ≤ lc' := by
                obtain ⟨_, _, e, hc, _⟩ := hL2.out
                simp only [Value.slice.injEq] at e
                obtain ⟨_, e1, e2⟩ := e
                omega
              have hcl40 : cs.length ≤ 40 := HN.out
              have hwr : IntKind.i64.wrap ((nn : Int) + (mm : Int)) = (nn : Int) + (mm : Int) := by rw [IntKind.wrap_i64]; omega
              have hnlI : (nn : Int) ≤ (cs.length : Int) := by omega
              have hcapI : (cs.length : Int) ≤ (lc' : Int) := by omega
              have hn0 : (0 : Int) ≤ (nn : Int) := by omega
              have hncI : (nn : Int) ≤ (lc' : Int) := by omega
              clear hm16 hcl40
              by_cases hto : cs.length < nn + mm
              · have htoI : (cs.length : Int) < (nn : Int) + (mm : Int) := by omega
                by_cases hcc : lc' = nn
                · obtain rfl : nn = cs.length := by omega
                  subst hcc
                  go_wp2_with fail
                  go_meet
                  refine ⟨⟨102, ⟨#[]⟩, ⟨#[]⟩, .slice none 0 0, .slice none 0 0, false, cs.length, 0, .slice none 0 0, .slice none 0 0, .slice la 0 0⟩, Adds.trans (Adds.refl _) ?_, at_later ?_ rfl, ⟨⟨_, _, _, rfl⟩, ⟨_, _, _, rfl⟩, ⟨_, _, _, rfl⟩, ⟨_, _, _, rfl⟩, ⟨_, _, _, rfl⟩⟩, fun W hW => applies_feed (m := cs.length) (k := cs.length) hAf hT2.out HP.out HS.out HGD.out H40.out (HVS.out.adds (Adds.trans ?_ hW)) ⟨⟨_, _, _, rfl⟩, ⟨_, _, _, rfl⟩, ⟨_, _, _, rfl⟩, ⟨_, _, _, rfl⟩, ⟨_, _, _, rfl⟩⟩ rfl rfl (by omega) (by have := hlen.out; omega) (by have := HM16.out; omega) (LstH.none_at (by omega))⟩
                  all_goals repeat (first | with_reducible exact Adds.refl _ | with_reducible refine Adds.alloc ?_ _ | with_reducible refine Adds.more ?_ _ _ | with_reducible refine Adds.drew ?_ | with_reducible refine Adds.drewN ?_ _)

                have hcc' : ¬ (lc' : Int) = (nn : Int) := by omega
                go_wp2_with fail
                go_meet
                refine ⟨⟨102, ⟨#[]⟩, ⟨#[]⟩, .slice none 0 0, .slice none 0 0, false, nn, 0, .slice none 0 0, .slice none 0 0, .slice _ _ _⟩, Adds.trans (Adds.refl _) ?_, at_later ?_ rfl, ⟨⟨_, _, _, rfl⟩, ⟨_, _, _, rfl⟩, ⟨_, _, _, rfl⟩, ⟨_, _, _, rfl⟩, ⟨_, _, _, rfl⟩⟩, fun W hW => applies_feed (m := nn) (k := cs.length) hAf hT2.out HP.out HS.out HGD.out H40.out (HVS.out.adds (Adds.trans ?_ hW)) ⟨⟨_, _, _, rfl⟩, ⟨_, _, _, rfl⟩, ⟨_, _, _, rfl⟩, ⟨_, _, _, rfl⟩, ⟨_, _, _, rfl⟩⟩ rfl rfl (by omega) (by have := hlen.out; omega) (by have := HM16.out; omega) (by first | exact (LstH.cut hL2.out (by omega) (by have := hlen.out; omega)).adds (Adds.trans (by repeat (first | with_reducible exact Adds.refl _ | with_reducible refine Adds.alloc ?_ _ | with_reducible refine Adds.more ?_ _ _ | with_reducible refine Adds.drew ?_ | with_reducible refine Adds.drewN ?_ _)) hW) | exact LstH.none_at (by omega))⟩
                all_goals repeat (first | with_reducible exact Adds.refl _ | with_reducible refine Adds.alloc ?_ _ | with_reducible refine Adds.more ?_ _ _ | with_reducible refine Adds.drew ?_ | with_reducible refine Adds.drewN ?_ _)

              · have htoI : ¬ (cs.length : Int) < (nn : Int) + (mm : Int) := by omega
                by_cases hcc : lc' = nn
                · obtain rfl : nn = cs.length := by omega
                  subst hcc
                  obtain rfl : mm = 0 := by omega
                  go_wp2_with fail
                  go_meet
                  refine ⟨⟨102, ⟨#[]⟩, ⟨#[]⟩, .slice none 0 0, .slice none 0 0, false, cs.length, 0, .slice none 0 0, .slice none 0 0, .slice la 0 0⟩, Adds.trans (Adds.refl _) ?_, at_later ?_ rfl, ⟨⟨_, _, _, rfl⟩, ⟨_, _, _, rfl⟩, ⟨_, _, _, rfl⟩, ⟨_, _, _, rfl⟩, ⟨_, _, _, rfl⟩⟩, fun W hW => applies_feed (m := cs.length) (k := cs.length + 0) hAf hT2.out HP.out HS.out HGD.out H40.out (HVS.out.adds (Adds.trans ?_ hW)) ⟨⟨_, _, _, rfl⟩, ⟨_, _, _, rfl⟩, ⟨_, _, _, rfl⟩, ⟨_, _, _, rfl⟩, ⟨_, _, _, rfl⟩⟩ rfl rfl (by omega) (by have := hlen.out; omega) (by have := HM16.out; omega) (LstH.none_at (by omega))⟩
                  all_goals repeat (first | with_reducible exact Adds.refl _ | with_reducible refine Adds.alloc ?_ _ | with_reducible refine Adds.more ?_ _ _ | with_reducible refine Adds.drew ?_ | with_reducible refine Adds.drewN ?_ _)

                have hcc' : ¬ (lc' : Int) = (nn : Int) := by omega
                have hto1 : (nn : Int) ≤ (nn : Int) + (mm : Int) := by omega
                have hto2 : (nn : Int) + (mm : Int) ≤ (lc' : Int) := by omega
                go_wp2_with fail
                go_meet
                refine ⟨⟨102, ⟨#[]⟩, ⟨#[]⟩, .slice none 0 0, .slice none 0 0, false, nn, 0, .slice none 0 0, .slice none 0 0, .slice _ _ _⟩, Adds.trans (Adds.refl _) ?_, at_later ?_ rfl, ⟨⟨_, _, _, rfl⟩, ⟨_, _, _, rfl⟩, ⟨_, _, _, rfl⟩, ⟨_, _, _, rfl⟩, ⟨_, _, _, rfl⟩⟩, fun W hW => applies_feed (m := nn) (k := nn + mm) hAf hT2.out HP.out HS.out HGD.out H40.out (HVS.out.adds (Adds.trans ?_ hW)) ⟨⟨_, _, _, rfl⟩, ⟨_, _, _, rfl⟩, ⟨_, _, _, rfl⟩, ⟨_, _, _, rfl⟩, ⟨_, _, _, rfl⟩⟩ rfl rfl (by omega) (by have := hlen.out; omega) (by have := HM16.out; omega) (by first | exact (LstH.cutN hL2.out (by have := hlen.out; omega)).adds (Adds.trans (by repeat (first | with_reducible exact Adds.refl _ | with_reducible refine Adds.alloc ?_ _ | with_reducible refine Adds.more ?_ _ _ | with_reducible refine Adds.drew ?_ | with_reducible refine Adds.drewN ?_ _)) hW) | exact (LstH.cut hL2.out (by omega) (by have := hlen.out; omega)).adds (Adds.trans (by repeat (first | with_reducible exact Adds.refl _ | with_reducible refine Adds.alloc ?_ _ | with_reducible refine Adds.more ?_ _ _ | with_reducible refine Adds.drew ?_ | with_reducible refine Adds.drewN ?_ _)) hW))⟩
                all_goals repeat (first | with_reducible exact Adds.refl _ | with_reducible refine Adds.alloc ?_ _ | with_reducible refine Adds.more ?_ _ _ | with_reducible refine Adds.drew ?_ | with_reducible refine Adds.drewN ?_ _)

            by_cases hkd : kind = 101 ∨ kind = 102
            · rcases hkd with rfl | rfl
              all_goals
                go_wp2_with fail
                go_roundw
                case rel =>
                  refine ⟨k + 1, sh, by omega, by go_num, hA2.out.trans ?_, hL2.out.adds ?_, hT2, _, HBX.out.adds ?_, HVS.out.adds ?_⟩
                  all_goals repeat (first | with_reducible exact Adds.refl _ | with_reducible refine Adds.alloc ?_ _ | with_reducible refine Adds.more ?_ _ _ | with_reducible refine Adds.drew ?_ | with_reducible refine Adds.drewN ?_ _)
                case measure => simp [intOf]; omega
            · have hkd1 : kind ≠ 101 := fun h => hkd (.inl h)
              have hkd2 : kind ≠ 102 := fun h => hkd (.inr h)
              have hkb1 : (kind == 101) = false := by simpa using hkd1
              have hkb2 : (kind == 102) = false := by simpa using hkd2
              have hli := hlight
              simp only [LightOk, Ov.val] at hli
              clear hkd hlight
              go_wp2_with fail
              refine (hli _ (by repeat (first | with_reducible exact Adds.refl _ | with_reducible refine Adds.alloc ?_ _ | with_reducible refine Adds.more ?_ _ _ | with_reducible refine Adds.drew ?_ | with_reducible refine Adds.drewN ?_ _))).mono ?_
              rintro e w3 ⟨⟨bl, rfl⟩, os3, n3, rfl⟩
              cases bl
              · go_wp2_with fail
                go_roundw
                case rel =>
                  refine ⟨k + 1, sh, by omega, by go_num, hA2.out.trans ?_, hL2.out.adds ?_, hT2, _, HBX.out.adds ?_, HVS.out.adds ?_⟩
                  all_goals repeat (first | with_reducible exact Adds.refl _ | with_reducible refine Adds.alloc ?_ _ | with_reducible refine Adds.more ?_ _ _ | with_reducible refine Adds.drew ?_ | with_reducible refine Adds.drewN ?_ _)
                case measure => simp [intOf]; omega
              · go_wp2_with fail
                go_meet
                refine ⟨⟨kind, key, tox, .slice xo1 xn1 xc1, .slice xo2 xn2 xc2, has, on, most, .slice xo3 xn3 xc3, .slice xo4 xn4 xc4, .slice xo5 xn5 xc5⟩, Adds.trans (Adds.refl _) ?_, at_later ?_ rfl, ⟨⟨_, _, _, rfl⟩, ⟨_, _, _, rfl⟩, ⟨_, _, _, rfl⟩, ⟨_, _, _, rfl⟩, ⟨_, _, _, rfl⟩⟩, fun W hW => applies_small hAp hT2.out HP.out HS.out HGD.out H40.out (HVS.out.adds (Adds.trans ?_ hW)) ⟨⟨_, _, _, rfl⟩, ⟨_, _, _, rfl⟩, ⟨_, _, _, rfl⟩, ⟨_, _, _, rfl⟩, ⟨_, _, _, rfl⟩⟩ hkd1 hkd2⟩
                all_goals repeat (first | with_reducible exact Adds.refl _ | with_reducible refine Adds.alloc ?_ _ | with_reducible refine Adds.more ?_ _ _ | with_reducible refine Adds.drew ?_ | with_reducible refine Adds.drewN ?_ _)
          case rest =>
            as_aux_lemma =>
            obtain ⟨o, HA0, HBO, HSl, HAP⟩ := hcut
            have HBw : Hid (ShlBox wc S sh (.slice sa sh.es.length sc)) := HBX.out.adds HA0.out
            have HVw : Hid (Sh.Lst wc (.slice sa sh.es.length sc) sh.es) := HVS.out.adds HA0.out
            have HLw : Hid (LstH wc (.slice la cs.length lc') ls) := hL2.out.adds HA0.out
            have HAw : Hid (Adds w wc) := hA2.out.trans HA0.out
            have hSl' := (HBw.out.cells).1
            have hSp : S < wr.heap.size := hSl
            have hne : ¬ S = wr.heap.size := by omega
            have hne' : ¬ wr.heap.size = S := by omega
            clear HA0 HBX HVS hL2 hA2 a0 a1 a2 a3 a4 a5 a6 a7 a8 a9 a10 a11 a12 a13 hn256 hm256 hlight hqb hqb2 s0 s1 s2 s3 fzs hSl
            generalize wr.heap.size = p at *
            obtain ⟨hSl, s0, s1, s2, s3, fzs⟩ := HBw.out.cells
            obtain ⟨kd, ky, tx, dv', wv', hs, on, mo, lv', sv', nv'⟩ := o
            obtain ⟨⟨o1, l1, c1, rfl⟩, ⟨o2, l2, c2, rfl⟩, ⟨o3, l3, c3, rfl⟩, ⟨o4, l4, c4, rfl⟩, ⟨o5, l5, c5, rfl⟩⟩ := HSl.out
            have hBO := HBO.out
            have hp : p < wc.heap.size := (Array.getElem?_eq_some_iff.1 hBO).1
            have p0 : wc.cell? ⟨p, 0, none⟩ = some (.int .i64 kd) := by simp [World.cell?, hBO]
            have p1 : wc.cell? ⟨p, 1, none⟩ = some (.string ky) := by simp [World.cell?, hBO]
            have p2 : wc.cell? ⟨p, 2, none⟩ = some (.string tx) := by simp [World.cell?, hBO]
            have p3 : wc.cell? ⟨p, 3, none⟩ = some (.slice o1 l1 c1) := by simp [World.cell?, hBO]
            have p4 : wc.cell? ⟨p, 4, none⟩ = some (.slice o2 l2 c2) := by simp [World.cell?, hBO]
            have p5 : wc.cell? ⟨p, 5, none⟩ = some (.bool hs) := by simp [World.cell?, hBO]
            have p6 : wc.cell? ⟨p, 6, none⟩ = some (.int .i64 on) := by simp [World.cell?, hBO]
            have p7 : wc.cell? ⟨p, 7, none⟩ = some (.int .i64 mo) := by simp [World.cell?, hBO]
            have p8 : wc.cell? ⟨p, 8, none⟩ = some (.slice o3 l3 c3) := by simp [World.cell?, hBO]
            have p9 : wc.cell? ⟨p, 9, none⟩ = some (.slice o4 l4 c4) := by simp [World.cell?, hBO]
            have p10 : wc.cell? ⟨p, 10, none⟩ = some (.slice o5 l5 c5) := by simp [World.cell?, hBO]
            clear hBO HBO
            go_wp2_with fail
            have kAp := HAP.out
            simp only [AppliesTo, Shl.val, Ov.val] at kAp
            refine (kAp _ (by repeat (first | with_reducible exact Adds.refl _ | with_reducible refine Adds.alloc ?_ _ | with_reducible refine Adds.more ?_ _ _ | with_reducible refine Adds.drew ?_ | with_reducible refine Adds.drewN ?_ _))).mono ?_
            rintro e w4 ⟨⟨⟨df', rdy', mk', es'⟩, c, n', ao4, cap4, ko, kn, kc, rfl, HL4, HST⟩, os4, n4, rfl⟩
            clear kAp
            have hT4 := HST.out.1
            have hmk4 := HST.out.2.1
            obtain ⟨hdf4, m4, hm4, hml4, hes4⟩ := id hT4
            simp only at hdf4 hm4 hes4 hmk4
            subst hdf4 hm4
            have HT4 : Hid (TrueS df' xs ls ⟨df', rdy', m4, es'⟩) := hT4
            have f1 : ¬ ((m4 : Int) < sh.mark) := by omega
            have f2 : ¬ ((cs.length : Int) < (m4 : Int)) := by have := hlen.out; omega
            have HM4 : Hid (m4 ≤ ls.length) := hml4
            have HE4 : Hid (es' = Sh.sortE (ents xs (foldN [] (ls.take m4)))) := hes4
            have HB4 : Hid (ShlBox (setShl wc S df' rdy' m4 (.slice ao4 es'.length cap4)) S ⟨df', rdy', m4, es'⟩ (.slice ao4 es'.length cap4)) := setShl_box HBw.out _ _ _ _ _
            have HLS : Hid (LstH (setShl wc S df' rdy' m4 (.slice ao4 es'.length cap4)) (.slice la cs.length lc') ls) := news_grown ⟨_, _, _, rfl⟩ HBw.out HLw.out (setShl_grown _ _ _ _ _ _)
            have HLA : Hid (∀ W, Adds (more (setShl wc S df' rdy' m4 (.slice ao4 es'.length cap4)) os4 n4) W → Sh.Lst W (.slice ao4 es'.length cap4) es') := fun W h => Sh.Lst.adds (box_apart (w' := more (setShl wc S df' rdy' m4 (.slice ao4 es'.length cap4)) os4 n4) ⟨_, _, _, rfl⟩ (HBw.out.adds (by repeat (first | with_reducible exact Adds.refl _ | with_reducible refine Adds.alloc ?_ _ | with_reducible refine Adds.more ?_ _ _ | with_reducible refine Adds.drew ?_ | with_reducible refine Adds.drewN ?_ _))) HL4.out (by repeat (first | exact Oth.refl _ _ | refine Oth.mores ?_ _ _ _ | refine Oth.alloc ?_ _ | refine Oth.set ?_ | refine Oth.drew ?_))) h
            have HAD : Hid (∀ W, Adds (setShl wc S df' rdy' m4 (.slice ao4 es'.length cap4)) W → Adds w W) := fun W h => setShl_below HAw.out HSZ.out _ _ _ _ h
            clear hT4 hmk4 hml4 hes4
            go_wp2_with fail
            refine (kFo m4 _ HM4.out (HLS.out.adds (by repeat (first | with_reducible exact Adds.refl _ | with_reducible refine Adds.alloc ?_ _ | with_reducible refine Adds.more ?_ _ _ | with_reducible refine Adds.drew ?_ | with_reducible refine Adds.drewN ?_ _)))).mono ?_
            rintro e w5 ⟨⟨fo2, fn2, fc2, rfl, HF2, _⟩, os5, n5, rfl⟩
            go_wp2_with fail
            refine (rbuild_told df' xs ls (.slice fo2 fn2 fc2) m4 _ HS.out HP.out HGD.out H40.out HF2.out (fold_short HGD.out m4)).mono ?_
            rintro e w6 ⟨⟨bo, bn, bc, rfl, HBU⟩, os6, n6, rfl⟩
            go_wp2_with fail
            rw [← HE4.out] at HBU
            have HES : Hid (es'.length ≤ 40) := by
              have h1 := ents_len xs (foldN [] (ls.take m4))
              rw [← HE4.out] at h1
              have h2 := take_len ls m4
              have h3 := H40.out
              show _ ≤ _
              omega
            have kSm := fun (W : World) (h1 : Sh.Lst W (.slice ao4 es'.length cap4) es') (h2 : Sh.Lst W (.slice bo bn bc) es') => Sh.refSame_any (.slice ao4 es'.length cap4) (.slice bo bn bc) es' es' W h1 h2 (by have := HES.out; omega) (by have := HES.out; omega)
            rw [decide_eq_true rfl] at kSm
            refine (kSm _ (HLA.out _ (by repeat (first | with_reducible exact Adds.refl _ | with_reducible refine Adds.alloc ?_ _ | with_reducible refine Adds.more ?_ _ _ | with_reducible refine Adds.drew ?_ | with_reducible refine Adds.drewN ?_ _))) (HBU.out.adds (by repeat (first | with_reducible exact Adds.refl _ | with_reducible refine Adds.alloc ?_ _ | with_reducible refine Adds.more ?_ _ _ | with_reducible refine Adds.drew ?_ | with_reducible refine Adds.drewN ?_ _)))).mono ?_
            rintro e w7 ⟨rfl, os7, n7, rfl⟩
            clear kSm
            by_cases hk4 : kd = 104
            rotate_left
            · have hk4b : (kd == 104) = false := by simpa using hk4
              go_wp2_with fail
              refine wp_region_adds (by kernel_rfl) (by kernel_rfl) ?_
              repeat (go_big_quiet_step (fail))
              refine wpQuiet_nil ?_
              rintro _ ⟨pl, rfl⟩
              unfold addTo
              go_wp2
              go_roundw
              case rel =>
                refine ⟨k + 1, ⟨df', rdy', m4, es'⟩, by omega, by go_num, HAD.out _ ?_, HLS.out.adds ?_, HT4, _, HB4.out.adds ?_, HLA.out _ ?_⟩
                all_goals repeat (first | with_reducible exact Adds.refl _ | with_reducible refine Adds.alloc ?_ _ | with_reducible refine Adds.more ?_ _ _ | with_reducible refine Adds.drew ?_ | with_reducible refine Adds.drewN ?_ _)
              case measure => simp [intOf]; omega
            · subst hk4
              go_wp2_with fail
              by_cases hc0 : c = 0
              rotate_left
              · have hcb : (c == 0) = false := by simpa using hc0
                refine wp_region_adds (by kernel_rfl) (by kernel_rfl) ?_
                repeat (go_big_quiet_step (fail))
                refine wpQuiet_nil ?_
                rintro _ ⟨pl, rfl⟩
                unfold addTo
                go_wp2
                go_roundw
                case rel =>
                  refine ⟨k + 1, ⟨df', rdy', m4, es'⟩, by omega, by go_num, HAD.out _ ?_, HLS.out.adds ?_, HT4, _, HB4.out.adds ?_, HLA.out _ ?_⟩
                  all_goals repeat (first | with_reducible exact Adds.refl _ | with_reducible refine Adds.alloc ?_ _ | with_reducible refine Adds.more ?_ _ _ | with_reducible refine Adds.drew ?_ | with_reducible refine Adds.drewN ?_ _)
                case measure => simp [intOf]; omega
              · subst hc0
                obtain ⟨hr1, hn1, hle1, h1m, h24, hks⟩ := HST.out.2.2 rfl rfl
                simp only at hr1 hn1 hle1 h1m h24 hks
                subst hr1 hn1
                have HKS : Hid (Sh.Lst (more wc os4 n4) (.slice ko kn kc) ((es'.filter (Sh.isIn ky tx)).take mo.toNat)) := hks
                have HKA : Hid (∀ W, Adds (more (setShl wc S df' true m4 (.slice ao4 es'.length cap4)) os4 n4) W → Sh.Lst W (.slice ko kn kc) ((es'.filter (Sh.isIn ky tx)).take mo.toNat)) := fun W h => Sh.Lst.adds (box_apart (w' := more (setShl wc S df' true m4 (.slice ao4 es'.length cap4)) os4 n4) ⟨_, _, _, rfl⟩ (HBw.out.adds (by repeat (first | with_reducible exact Adds.refl _ | with_reducible refine Adds.alloc ?_ _ | with_reducible refine Adds.more ?_ _ _ | with_reducible refine Adds.drew ?_ | with_reducible refine Adds.drewN ?_ _))) HKS.out (by repeat (first | exact Oth.refl _ _ | refine Oth.mores ?_ _ _ _ | refine Oth.alloc ?_ _ | refine Oth.set ?_ | refine Oth.drew ?_))) h
                have HKL : Hid (((es'.filter (Sh.isIn ky tx)).take mo.toNat).length ≤ 1000) := filt_len es' _ _ HES.out
                clear hks
                refine wp_named2 ?_
                intro X HX
                have hXS : Hid (Adds (setShl wc S df' true m4 (.slice ao4 es'.length cap4)) X) := by
                  rw [HX.out]
                  show Adds _ _
                  repeat (first | with_reducible exact Adds.refl _ | with_reducible refine Adds.alloc ?_ _ | with_reducible refine Adds.more ?_ _ _ | with_reducible refine Adds.drew ?_ | with_reducible refine Adds.drewN ?_ _)
                have hXL : Hid (Adds (more (setShl wc S df' true m4 (.slice ao4 es'.length cap4)) os4 n4) X) := by
                  rw [HX.out]
                  show Adds _ _
                  repeat (first | with_reducible exact Adds.refl _ | with_reducible refine Adds.alloc ?_ _ | with_reducible refine Adds.more ?_ _ _ | with_reducible refine Adds.drew ?_ | with_reducible refine Adds.drewN ?_ _)
                have hg := setShl_grown wc S df' true m4 (.slice ao4 es'.length cap4)
                have hpX : X.heap[p]? = wc.heap[p]? := (hXS.out.below.block p (Nat.lt_of_lt_of_le hp hg.size)).trans (hg.block p hp (by simp; omega))
                have hpl : p < X.heap.size := Nat.lt_of_lt_of_le (Nat.lt_of_lt_of_le hp hg.size) hXS.out.below.size
                have x0 : X.cell? ⟨p, 0, none⟩ = some (.int .i64 104) := by rw [← p0]; simp only [World.cell?, hpX]
                have x1 : X.cell? ⟨p, 1, none⟩ = some (.string ky) := by rw [← p1]; simp only [World.cell?, hpX]
                have x2 : X.cell? ⟨p, 2, none⟩ = some (.string tx) := by rw [← p2]; simp only [World.cell?, hpX]
                have x6 : X.cell? ⟨p, 6, none⟩ = some (.int .i64 on) := by rw [← p6]; simp only [World.cell?, hpX]
                have x7 : X.cell? ⟨p, 7, none⟩ = some (.int .i64 mo) := by rw [← p7]; simp only [World.cell?, hpX]
                obtain ⟨ySl, y0, y1, y2, y3, _⟩ := (HB4.out.adds hXS.out).cells
                have hA : X.heap[wc.heap.size + os4.size + 1]? = some (.cells #[.int .i64 0, .bool false, .slice none 0 0, .slice none 0 0, .slice none 0 0, .int .i64 (m4 : Int), .int .i64 0, .slice ko kn kc] 39 (0, 0)) := by
                  rw [HX.out]
                  exact at_later (by repeat (first | with_reducible exact Adds.refl _ | with_reducible refine Adds.alloc ?_ _ | with_reducible refine Adds.more ?_ _ _ | with_reducible refine Adds.drew ?_ | with_reducible refine Adds.drewN ?_ _)) (by simp [go_sem])
                have hAl' := (Array.getElem?_eq_some_iff.1 hA).1
                have z0 : X.cell? ⟨wc.heap.size + os4.size + 1, 0, none⟩ = some (.int .i64 0) := by simp [World.cell?, hA]
                have z5 : X.cell? ⟨wc.heap.size + os4.size + 1, 5, none⟩ = some (.int .i64 (m4 : Int)) := by simp [World.cell?, hA]
                have z7 : X.cell? ⟨wc.heap.size + os4.size + 1, 7, none⟩ = some (.slice ko kn kc) := by simp [World.cell?, hA]
                have HBX2 : Hid (Sh.Lst X (.slice bo bn bc) es') := HBU.out.adds (by rw [HX.out]; repeat (first | with_reducible exact Adds.refl _ | with_reducible refine Adds.alloc ?_ _ | with_reducible refine Adds.more ?_ _ _ | with_reducible refine Adds.drew ?_ | with_reducible refine Adds.drewN ?_ _))
                have HKX : Hid (Sh.Lst X (.slice ko kn kc) ((es'.filter (Sh.isIn ky tx)).take mo.toNat)) := HKA.out _ hXL.out
                have kFi := fun (W : World) (hA : Adds X W) => rfind_told (.slice bo bn bc) es' ky tx mo W (HBX2.out.adds hA) (by have := HES.out; omega) h1m
                have kS2 := fun (u v : Value) (W : World) (h1 : Sh.Lst W u ((es'.filter (Sh.isIn ky tx)).take mo.toNat)) (h2 : Sh.Lst W v ((es'.filter (Sh.isIn ky tx)).take mo.toNat)) => Sh.refSame_any u v _ _ W h1 h2 HKL.out HKL.out
                simp only [decide_true] at kS2
                have hf3 : ¬ ((m4 : Int) < on) := by omega
                clear hA hpX hg hp p0 p1 p2 p3 p4 p5 p6 p7 p8 p9 p10 s0 s1 s2 s3 fzs
                generalize wc.heap.size + os4.size + 1 = pa at *
                go_region_held3 (fun w' => w'.cell? ⟨p, 0, none⟩ = some (.int .i64 104) ∧ w'.cell? ⟨p, 1, none⟩ = some (.string ky) ∧ w'.cell? ⟨p, 2, none⟩ = some (.string tx) ∧ w'.cell? ⟨p, 6, none⟩ = some (.int .i64 on) ∧ w'.cell? ⟨p, 7, none⟩ = some (.int .i64 mo) ∧ w'.cell? ⟨S, 1, none⟩ = some (.bool true) ∧ w'.cell? ⟨S, 2, none⟩ = some (.int .i64 (m4 : Int)) ∧ w'.cell? ⟨pa, 0, none⟩ = some (.int .i64 0) ∧ w'.cell? ⟨pa, 5, none⟩ = some (.int .i64 (m4 : Int)) ∧ w'.cell? ⟨pa, 7, none⟩ = some (.slice ko kn kc)) (simp [go_sem, x0, x1, x2, x6, x7, y1, y2, z0, z5, z7, hpl, ySl, hAl']) (first
                  | (go_at_call 25; refine (kFi _ (by repeat (first | with_reducible exact Adds.refl _ | with_reducible refine Adds.alloc ?_ _ | with_reducible refine Adds.more ?_ _ _ | with_reducible refine Adds.drew ?_ | with_reducible refine Adds.drewN ?_ _))).mono ?_; rintro e w8 ⟨⟨ko8, kn8, kc8, rfl, H8⟩, os8, n8, rfl⟩)
                  | (go_at_call 24; refine (kS2 _ _ (more X.drew os8 n8) (HKX.out.adds (by repeat (first | with_reducible exact Adds.refl _ | with_reducible refine Adds.alloc ?_ _ | with_reducible refine Adds.more ?_ _ _ | with_reducible refine Adds.drew ?_ | with_reducible refine Adds.drewN ?_ _))) (H8.out.adds (by repeat (first | with_reducible exact Adds.refl _ | with_reducible refine Adds.alloc ?_ _ | with_reducible refine Adds.more ?_ _ _ | with_reducible refine Adds.drew ?_ | with_reducible refine Adds.drewN ?_ _)))).mono ?_; rintro e w9 ⟨rfl, os9, n9, rfl⟩))
                all_goals
                  go_wp2
                  go_roundw
                  case rel =>
                    refine ⟨k + 1, ⟨df', true, m4, es'⟩, by omega, by go_num, HAD.out _ (hXS.out.trans ?_), HLS.out.adds (hXS.out.trans ?_), HT4, _, HB4.out.adds (hXS.out.trans ?_), HLA.out _ (hXL.out.trans ?_)⟩
                    all_goals repeat (first | with_reducible exact Adds.refl _ | with_reducible refine Adds.alloc ?_ _ | with_reducible refine Adds.more ?_ _ _ | with_reducible refine Adds.drew ?_ | with_reducible refine Adds.drewN ?_ _)
                  case measure => simp [intOf]; omega

end Go.Proofs.YtiacnmcdfpmcfaaGreatDoor
