/-
  The law TapeWhole by contract.
-/
import Derived.Test.YtdcbepdghiafhaaRounds
import Derived.Deep.CutBlock
namespace Go.Proofs.Ytdcbepdghiafhaa
open Go.RowKit Go.Maps
attribute [local go_sem] cell?_more frozen?_more setCell_more size_more tape_more drew_more drewN_more more_drew more_drewN more_more one_out plus_out plus_end lt_one le_p2 le_p3 le_p4 le_p5 le_p6 le_p7 le_p8 le_p9 le_p10 le_p11 le_p12 le_p13 le_p14 le_p15 le_p16 le_p17 le_p18 le_p19 le_p20 le_p21 le_p22 le_p23 le_p24 le_q0 le_q1 lt_q1 le_q2 lt_q2 le_q3 lt_q3 le_q4 lt_q4 le_q5 lt_q5 le_q6 lt_q6 le_q7 lt_q7 le_q8 lt_q8 le_q9 lt_q9 le_q10 lt_q10 le_q11 lt_q11 le_q12 lt_q12 le_q13 lt_q13 le_q14 lt_q14 le_q15 lt_q15 le_q16 lt_q16 le_q17 lt_q17 le_q18 lt_q18 le_q19 lt_q19 le_q20 lt_q20 le_q21 lt_q21 le_q22 lt_q22 le_q23 lt_q23 le_q24 lt_q24

/-- A row of pairs of bytes. -/
def LstC (w : World) (v : Value) (l : List (UInt8 × UInt8)) : Prop :=
  ∃ ao cap, v = .slice ao l.length cap ∧ l.length ≤ cap ∧ l.length ≤ 9223372036854775807 ∧ (l = [] ∨ ∃ b off, ao = some ⟨b, off, none⟩ ∧ b < w.heap.size ∧ ∀ j (h : j < l.length), w.cell? ⟨b, off + j * 2, none⟩ = some (.int .u8 (l[j].1.toNat : Int)) ∧ w.cell? ⟨b, off + j * 2 + 1, none⟩ = some (.int .u8 (l[j].2.toNat : Int)))

theorem LstC.adds {w w' : World} {v : Value} {l : List (UInt8 × UInt8)} (h : LstC w v l) (ha : Adds w w') : LstC w' v l := by
  obtain ⟨ao, cap, rfl, hc, hm, h⟩ := h
  refine ⟨ao, cap, rfl, hc, hm, h.imp id ?_⟩
  rintro ⟨b, off, rfl, hb, hl⟩
  refine ⟨b, off, rfl, Nat.lt_of_lt_of_le hb ha.below.size, fun j hj => ?_⟩
  have e : ∀ i, w'.cell? ⟨b, i, none⟩ = w.cell? ⟨b, i, none⟩ := fun i => World.cell?_of_block (ha.below.block b hb)
  rw [e, e]
  exact hl j hj

theorem LstC.at {w : World} {ao : Option Addr} {n cap : Nat} {l : List (UInt8 × UInt8)} (h : LstC w (.slice ao n cap) l) {j : Nat} (hj : j < l.length) :
    ∃ b off, (ao = some ⟨b, off, none⟩ ∧ b < w.heap.size) ∧ w.cell? ⟨b, off + j * 2, none⟩ = some (.int .u8 (l[j].1.toNat : Int)) ∧ w.cell? ⟨b, off + j * 2 + 1, none⟩ = some (.int .u8 (l[j].2.toNat : Int)) := by
  obtain ⟨ao', cap', e, _, _, h⟩ := h
  simp only [Value.slice.injEq] at e
  obtain ⟨rfl, _, _⟩ := e
  rcases h with rfl | ⟨b, off, rfl, hb, hl⟩
  · simp at hj
  · exact ⟨b, off, ⟨rfl, hb⟩, hl j hj⟩

/-- Behind the acts. -/
def S1 (w0 : World) (l : List A) (p : Nat) (W : World) : Prop := ∃ T n base rs k, k ≤ 40 ∧ asum (l.take k) ≤ 1500 ∧ T.p = p ∧ Lp w0 W T l k n base rs

/-- A row of one act. -/
theorem one_act {w : World} {act n : Int} {bv lv : Value} {b : List UInt8} {l : List (List UInt8)} (h1 : BytA w (fun i => w.heap.size ≤ i) bv b) (h2 : RwsA w (fun i => w.heap.size ≤ i) lv l) :
    LstA (w.alloc (.cells #[.int .i64 act, bv, lv, .int .i64 n] 46)) (.slice (some ⟨w.heap.size, 0, none⟩) 1 1) [⟨act, bv, b, lv, l, n⟩] := by
  have hb := new_block w (.cells #[.int .i64 act, bv, lv, .int .i64 n] 46)
  have ha : Adds w (w.alloc (.cells #[.int .i64 act, bv, lv, .int .i64 n] 46)) := (Adds.refl _).alloc _
  refine ⟨⟨_, 1, rfl, Nat.le_refl _, by simp, .inr ⟨w.heap.size, 0, rfl, (Array.getElem?_eq_some_iff.1 hb).1, fun j hj => ?_⟩⟩, fun x hx => ?_⟩
  · have e : j = 0 := by simpa using hj
    subst e
    exact ⟨cell_of_row _ _ 0 _ _ _ hb, cell_of_row _ _ 1 _ _ _ hb, cell_of_row _ _ 2 _ _ _ hb, cell_of_row _ _ 3 _ _ _ hb⟩
  · simp only [List.mem_singleton] at hx
    subst hx
    exact ⟨h1.mv (high_adds ha), h2.mv (high_adds ha)⟩

set_option maxRecDepth 20000 in
set_option maxHeartbeats 2000000 in
theorem tapeWhole_any (v : Value) (l : List A) (a : A) (cv : Value) (cs : List (UInt8 × UInt8)) (w : World) (h : LstA w v l) (ha : BytA w (fun i => w.heap.size ≤ i) a.bv a.b) (ha2 : RwsA w (fun i => w.heap.size ≤ i) a.lv a.l) (hc : LstC w cv cs) :
    Calls Try.prog 4 #[v, .agg #[.int .i64 a.act, a.bv, a.lv, .int .i64 a.n], cv] w fun e w' => e = .returned (.bool true) ∧ Adds w w' := by
  obtain ⟨⟨ao, cap, rfl, hcap, hmx, hl⟩, hll⟩ := id h
  obtain ⟨co, cc, rfl, hcc, hcm, hcl⟩ := id hc
  obtain ⟨bo, bc, hbv, _⟩ := ha.byt.open
  obtain ⟨lo, lc, hlv, _⟩ := ha2.rws.slice
  rw [hbv, hlv]
  have kN := st_new 20000 (by decide)
  rw [show ((20000 : Nat) : Int) = 20000 from rfl] at kN
  obtain ⟨w0, hw0⟩ : ∃ w0, w0 = w.alloc (.cells #[.int .i64 a.act, .slice bo a.b.length bc, .slice lo a.l.length lc, .int .i64 a.n] 46) := ⟨_, rfl⟩
  have ha0 : Adds w w0 := by rw [hw0]; exact (Adds.refl _).alloc _
  have hbx : w0.heap[w.heap.size]? = some (.cells #[.int .i64 a.act, .slice bo a.b.length bc, .slice lo a.l.length lc, .int .i64 a.n] 46 (0, 0)) := by rw [hw0]; exact new_block _ _
  have h0 : LstA w0 (.slice ao l.length cap) l := h.adds ha0
  have hab := ha.mv (high_adds ha0)
  have hal := ha2.mv (high_adds ha0)
  rw [hbv] at hab
  rw [hlv] at hal
  have H1 : Hid (LstA w0 (.slice ao l.length cap) l) := h0
  have H2 : Hid (BytA w0 (fun i => w0.heap.size ≤ i) (.slice bo a.b.length bc) a.b) := hab
  have H3 : Hid (RwsA w0 (fun i => w0.heap.size ≤ i) (.slice lo a.l.length lc) a.l) := hal
  have HA0 : Hid (Adds w w0) := ha0
  have HBX : Hid (w0.heap[w.heap.size]? = some (.cells #[.int .i64 a.act, .slice bo a.b.length bc, .slice lo a.l.length lc, .int .i64 a.n] 46 (0, 0))) := hbx
  have HC : Hid (LstC w0 (.slice co cs.length cc) cs) := by
    refine ⟨co, cc, rfl, hcc, hcm, hcl.imp id ?_⟩
    rintro ⟨b, off, rfl, hb, hl⟩
    refine ⟨b, off, rfl, Nat.lt_of_lt_of_le hb ha0.below.size, fun j hj => ?_⟩
    have e : ∀ i, w0.cell? ⟨b, i, none⟩ = w.cell? ⟨b, i, none⟩ := fun i => World.cell?_of_block (ha0.below.block b hb)
    rw [e, e]
    exact hl j hj
  have hwl : w.heap.size < w0.heap.size := (Array.getElem?_eq_some_iff.1 hbx).1
  have HW0 : Hid (w0 = w.alloc (.cells #[.int .i64 a.act, .slice bo a.b.length bc, .slice lo a.l.length lc, .int .i64 a.n] 46)) := hw0
  clear h0 hab hal hbx ha0 hbv hlv ha ha2 h hc hl hll hcl hw0
  by_cases hc0 : cs.length = 0
  · have i0 : ((cs.length : Int) == 0) = true := by simp [hc0]
    go_enter Try.func4, Try.ntmps4
    go_wp2_with (first
      | (go_at_call 8; rw [← HW0.out]; refine (kN _).mono ?_; rintro e w1 ⟨rfl, R1, p1, s1, r1, b1, a1⟩; have HA1 : Hid (Adds w0 w1) := a1; clear p1 s1 r1 b1 a1)
      | (go_at_call 10; refine (awake_any _).mono ?_; rintro e w2 ⟨rfl, a2⟩))
    go_ret
    exact ⟨rfl, (HA0.out.trans HA1.out).trans a2⟩
  · have i0 : ((cs.length : Int) == 0) = false := by simpa using hc0
    go_enter Try.func4, Try.ntmps4
    go_wp2_with (first
      | (go_at_call 8; rw [← HW0.out]; refine (kN _).mono ?_; rintro e w1 ⟨rfl, R1, p1, s1, r1, b1, a1⟩))
    have HS1 : Hid (St w1 w0.heap.size R1 (calm [] 0) ∧ R1.p = w0.heap.size + 1 ∧ R1.room = 20000 ∧ R1.bulk = 0) := ⟨s1, p1, r1, b1⟩
    have HA1 : Hid (Adds w0 w1) := a1
    clear kN s1 p1 r1 b1 a1
    refine (light_any _ l w1 (LstA.adds H1.out HA1.out)).mono ?_
    rintro e w2 ⟨t2, rfl, a2, hl2⟩
    cases t2
    · go_wp2_with (go_at_call 10; refine (awake_any _).mono ?_; rintro e w3 ⟨rfl, a3⟩)
      go_ret
      exact ⟨rfl, ((HA0.out.trans HA1.out).trans a2).trans a3⟩
    · have HL2 : Hid (Lit40 l (min 40 l.length)) := hl2 rfl
      clear hl2
      have hbx2 := Adds.at (HA1.out.trans a2) HBX.out
      have x0 : w2.cell? ⟨w.heap.size, 0, none⟩ = some (.int .i64 a.act) := cell_of_row w2 _ 0 _ _ _ hbx2
      have x1 : w2.cell? ⟨w.heap.size, 1, none⟩ = some (.slice bo a.b.length bc) := cell_of_row w2 _ 1 _ _ _ hbx2
      have x2 : w2.cell? ⟨w.heap.size, 2, none⟩ = some (.slice lo a.l.length lc) := cell_of_row w2 _ 2 _ _ _ hbx2
      have x3 : w2.cell? ⟨w.heap.size, 3, none⟩ = some (.int .i64 a.n) := cell_of_row w2 _ 3 _ _ _ hbx2
      go_wp2_with (fail)
      clear x0 x1 x2 x3 hbx2
      have A2 : Adds w0 w2 := HA1.out.trans a2
      refine (light_any _ _ _ (one_act (BytA.mv H2.out (high_adds A2)) (RwsA.mv H3.out (high_adds A2)))).mono ?_
      rintro e w3 ⟨t3, rfl, a3, hl3⟩
      have HA3 : Hid (Adds w0 w3) := (A2.alloc _).trans a3
      have HS3 : Hid (St w3 w0.heap.size R1 (calm [] 0)) := HS1.out.1.adds ((a2.alloc _).trans a3)
      clear A2 a2 a3
      cases t3
      · go_wp2_with (go_at_call 10; refine (awake_any _).mono ?_; rintro e w4 ⟨rfl, a4⟩)
        go_ret
        exact ⟨rfl, (HA0.out.trans HA3.out).trans a4⟩
      · have HL3 : Hid (a.b.length + tot a.l ≤ 1500 ∧ a.l.length ≤ 40) := by
          obtain ⟨q1, q2⟩ := hl3 rfl
          refine ⟨by simpa [asum, A.size] using q1, q2 0 (by simp) (by simp)⟩
        clear hl3
        have kA := cal_open HS3.out HS1.out.2.1 HS1.out.2.2.1 HS1.out.2.2.2 HA3.out (by decide) (by decide)
        go_upto_block 0 with (first
          | (go_at_call 11; refine kA.mono ?_; clear kA; rintro e w4 ⟨T4, rfl, c4⟩))
        have HC4 : Hid (Lp w0 w4 T4 l 0 0 0 []) := ⟨c4, by decide, by simp, by simp, by simp [tot]⟩
        clear c4 HS1 HS3 HA1 HA3
        go_cut [10] from 15 (fun _ wc => S1 w0 l T4.p wc)
        case first => as_aux_lemma =>
          go_wp2
          go_loopw [10] (fun i W => ∃ (k : Nat) (T : Tw) (n : Int) (base : Nat) (rs : List (List UInt8)), k ≤ l.length ∧ k ≤ 40 ∧ i = .int .i64 (k : Int) ∧ T.p = T4.p ∧ Lp w0 W T l k n base rs) (fun i _ => (40 - intOf i).toNat)
          case atStart => exact ⟨0, T4, 0, 0, [], by omega, by omega, rfl, rfl, HC4.out⟩
          case round => as_aux_lemma =>
            obtain ⟨k, T, n, base, rs, hk, hk4, rfl, hTp, hLp⟩ := hrel
            have HP : Hid (Lp w0 wr T l k n base rs) := hLp
            have HTp : Hid (T.p = T4.p) := hTp
            clear hLp hTp HC4
            by_cases hlt : k < l.length ∧ k < 40
            · obtain ⟨hlt, h40⟩ := hlt
              obtain ⟨b, off, cap', hv, _, hb, e0, e1, e2, _, _⟩ := LstA.at (LstA.adds H1.out (Lp.cal HP.out).adds) hlt
              simp only [Value.slice.injEq, true_and] at hv
              obtain ⟨rfl, x2⟩ := hv
              clear x2
              have i1 : (k : Int) < (l.length : Int) := by omega
              have hs1 : asum (l.take (k + 1)) ≤ 1500 := Nat.le_trans (asum_mono (by omega)) (HL2.out : Lit40 l _).1
              have hs2 : l[k].l.length ≤ 40 := (HL2.out : Lit40 l _).2 k hlt (by omega)
              obtain ⟨_, _, _, _, _, _, _, _, _, y1, y2⟩ := LstA.at H1.out hlt
              have kA := lp_append HP.out hlt h40 hs1 y1
              have kR := lp_restart HP.out hlt h40 hs1 hs2 y2
              rw [HTp.out] at kA kR
              clear y1 y2 hs1 hs2
              generalize l[k].bv = bv at *
              generalize l[k].lv = lv at *
              generalize l[k].act = act at *
              by_cases hact : act = 1
              · subst hact
                clear kA
                go_wp2_with (go_at_call 17; refine kR.mono ?_; rintro e w5 ⟨rfl, T5, n5, base5, rs5, p5, c5⟩)
                have HP5 : Hid (T5.p = T4.p) := p5
                have HC5 : Hid (Lp w0 w5 T5 l (k + 1) n5 base5 rs5) := c5
                clear p5 c5 kR
                go_roundw
                case rel => exact ⟨k + 1, T5, n5, base5, rs5, by omega, by omega, by go_num, HP5.out, HC5.out⟩
                case measure => simp [intOf]; omega
              · have i2 : (act == 1) = false := by simpa using hact
                clear kR
                go_wp2_with (go_at_call 15; refine kA.mono ?_; rintro e w5 ⟨rfl, T5, n5, base5, rs5, p5, c5⟩)
                have HP5 : Hid (T5.p = T4.p) := p5
                have HC5 : Hid (Lp w0 w5 T5 l (k + 1) n5 base5 rs5) := c5
                clear p5 c5 kA
                go_roundw
                case rel => exact ⟨k + 1, T5, n5, base5, rs5, by omega, by omega, by go_num, HP5.out, HC5.out⟩
                case measure => simp [intOf]; omega
            · have HS : Hid (S1 w0 l T4.p wr) := ⟨T, n, base, rs, k, hk4, Nat.le_trans (asum_mono (by omega)) (HL2.out : Lit40 l _).1, HTp.out, HP.out⟩
              have hcase : (k < l.length ∧ k = 40) ∨ k = l.length := by omega
              clear HP HTp
              rcases hcase with ⟨h1, rfl⟩ | rfl
              · have i1 : ((40 : Nat) : Int) < (l.length : Int) := by omega
                go_wp2
                go_meet
                case rel => exact HS.out
              · go_wp2
                go_meet
                case rel => exact HS.out
        case rest => as_aux_lemma =>
          obtain ⟨T, n, base, rs, k, hk40, hsum, hTp, hLp⟩ := hcut
          obtain ⟨W1, hW1⟩ : ∃ x, x = wc := ⟨wc, rfl⟩
          subst hW1
          have hfit : fits rs := tot_fits (by have := hLp.tot; omega)
          have hlen := hLp.len
          have kAll := cal_all hLp.cal (by omega) hfit
          rw [hTp] at kAll
          have HP : Hid (Lp w0 W1 T l k n base rs) := hLp
          have HTp : Hid (T.p = T4.p) := hTp
          have HF : Hid (fits rs ∧ tot rs ≤ 1500) := ⟨hfit, Nat.le_trans hLp.tot hsum⟩
          clear hLp hTp hfit hsum HC4 HL2
          have hbx1 := Adds.at (Lp.cal HP.out).adds HBX.out
          have i00 : (0 : Int) < (cs.length : Int) := by omega
          go_upto_block 2 with (first
            | (go_at_call 23; refine kAll.mono ?_; rintro e w5 ⟨r5, xs5, rfl, o5, e5⟩))
          have hbx5 := o5.added.at hbx1
          have x1 : w5.cell? ⟨w.heap.size, 1, none⟩ = some (.slice bo a.b.length bc) := cell_of_row w5 _ 1 _ _ _ hbx5
          have hws5 : w.heap.size < w5.heap.size := (Array.getElem?_eq_some_iff.1 hbx5).1
          have hl5 := o5.lst
          have hone : ∀ u ∈ xs5, u.oneCell' = true := slices_one (e5.each (B' := 0))
          have hx5 : xs5.length ≤ 80 := by
            have := e5.length
            omega
          have HO5 : Hid (OwnV W1.heap.size 44 r5 xs5 W1 w5 ∧ EachF W1.heap.size w5 xs5 rs) := ⟨o5, e5⟩
          clear kAll o5 e5 hbx5 hbx1
          go_cut [12] from 15 (fun v wc => ∃ vo vn vc, v = .slice vo vn vc ∧ OwnV w5.heap.size 44 v (xs5 ++ [.slice bo a.b.length bc]) w5 wc)
          case first => as_aux_lemma =>
            go_region_law (first
              | (refine rows_step (v := .slice (some ⟨_, 0, none⟩) 0 0) rfl (.tmp 92) (.tmp 93) rfl (by first | exact own_at (by repeat (first | with_reducible exact Adds.refl _ | with_reducible refine Adds.alloc ?_ _ | with_reducible refine Adds.more ?_ _ _ | with_reducible refine Adds.drew ?_ | with_reducible refine Adds.drewN ?_ _)) (Nat.le_refl _) (new_block _ _) | exact own_at (by repeat (first | with_reducible exact Adds.refl _ | with_reducible refine Adds.alloc ?_ _ | with_reducible refine Adds.more ?_ _ _ | with_reducible refine Adds.drew ?_ | with_reducible refine Adds.drewN ?_ _)) (Nat.le_refl _) blk_old | exact own_at (by repeat (first | with_reducible exact Adds.refl _ | with_reducible refine Adds.alloc ?_ _ | with_reducible refine Adds.more ?_ _ _ | with_reducible refine Adds.drew ?_ | with_reducible refine Adds.drewN ?_ _)) (Nat.le_succ _) blk_new) rfl (hl5.adds (by repeat (first | with_reducible exact Adds.refl _ | with_reducible refine Adds.alloc ?_ _ | with_reducible refine Adds.more ?_ _ _ | with_reducible refine Adds.drew ?_ | with_reducible refine Adds.drewN ?_ _))) rfl hone (by simp; omega) ?_; intro v6 w6 h6 g6; have x6 : w6.cell? ⟨w.heap.size, 1, none⟩ = some (.slice bo a.b.length bc) := (World.cell?_of_block ((OwnV.added h6).below.block _ hws5)).trans x1; have HQ6 : Hid _ := g6.block; clear g6)
              | (refine rows_step rfl (.tmp 94) (.tmp 97) rfl (h6.adds (by repeat (first | with_reducible exact Adds.refl _ | with_reducible refine Adds.alloc ?_ _ | with_reducible refine Adds.more ?_ _ _ | with_reducible refine Adds.drew ?_ | with_reducible refine Adds.drewN ?_ _))) rfl (by first | exact lst_new rfl | exact lst_at ((HQ6.out _ (by first | (simp; done) | (simp; omega)) (by simp [Value.ownBlock])).trans blk_new) rfl | exact lst_at ((HQ6.out _ (by first | (simp; done) | (simp; omega)) (by simp [Value.ownBlock])).trans blk_old) rfl) rfl (by intro u hu; simp at hu; subst hu; rfl) (by simp; omega) ?_; intro v7 w7 h7 g7))
            all_goals
              go_wp2
              go_meet
              case rel =>
                obtain ⟨ao7, l7, c7, e7⟩ := row_slice h7.1
                exact ⟨ao7, l7, c7, e7, h7⟩
          case rest => as_aux_lemma =>
            obtain ⟨vo, vn, vc, hv7, o7⟩ := hcut
            obtain ⟨W7, hW7⟩ : ∃ x, x = wc := ⟨wc, rfl⟩
            subst hW7
            subst hv7
            have hlt1 := (Lp.cal HP.out).tap.lt
            have A17 : Adds W1 W7 := HO5.out.1.added.trans o7.added
            have C7 := Cal.more (Lp.cal HP.out) A17
            have hwas : RwsA W7 T.foot r5 rs := (rwsA_of (F := T.foot) HO5.out.1 HO5.out.2 hlt1).mv (Mv.adds _ o7.added)
            have hnxt : RwsA W7 T.foot (.slice vo vn vc) (rs ++ [a.b]) := by
              have hE : EachA W7 T.foot xs5 rs := (HO5.out.2.eachA (F := T.foot) fun b C hb _ hf => by have := hlt1 b hf; omega).imp fun _ _ hb => hb.mv (Mv.adds _ o7.added)
              refine rwsA_own o7.1 (hE.snoc (byt_high C7.adds C7.tap.low H2.out)) fun i hi hf => ?_
              have q1 := (o7.1.lt i hi).1
              have q2 := hlt1 i hf
              have q3 := HO5.out.1.added.below.size
              omega
            obtain ⟨cb, coff, hcb, hcs⟩ := LstC.at (LstC.adds HC.out C7.adds) (j := 0) (by omega)
            obtain ⟨rfl, hcbl⟩ := hcb
            obtain ⟨z0, z1⟩ := hcs
            rw [Nat.zero_mul, Nat.add_zero] at z0
            have hm := cs[0].1.toNat_lt
            have kArm := arm_tape C7 (by omega) r5 hwas (.slice vo vn vc) (rs ++ [a.b]) hnxt cs[0].1.toNat (by omega)
            generalize cs[0].1.toNat = m at *
            have HC7 : Hid (Adds w0 W7) := C7.adds
            clear z1 C7 hwas hnxt hlt1 A17 o7 HO5 x1 hl5 hone
            by_cases hact : a.act = 1
            · go_upto_block 2 with (first
                | (go_at_call 19; refine kArm.mono ?_; rintro e w8 ⟨rfl, T8, p8, c8, n8⟩; have hbx8 := Adds.at c8.adds HBX.out; have y0 : w8.cell? ⟨w.heap.size, 0, none⟩ = some (.int .i64 a.act) := cell_of_row w8 _ 0 _ _ _ hbx8; have y2 : w8.cell? ⟨w.heap.size, 2, none⟩ = some (.slice lo a.l.length lc) := cell_of_row w8 _ 2 _ _ _ hbx8; have kR := last_restart c8 ⟨(Lp.n HP.out).1, (by have := (Lp.n HP.out).2; omega)⟩ (Lp.base HP.out) (by have := (Lp.len HP.out); omega) HF.out.2 _ a.l H3.out HL3.out.2 (by have := HL3.out.1; omega); rw [p8, HTp.out] at kR; clear hbx8 c8 n8 p8)
                | (go_at_call 17; refine kR.mono ?_; rintro e w9 ⟨rfl, R9, d9, run9, sure9⟩; have z2 : w9.cell? ⟨w.heap.size, 2, none⟩ = some (.slice lo a.l.length lc) := cell_of_row w9 _ 2 _ _ _ (Adds.at run9.adds HBX.out); have HRun : Hid (Run w0 w9 R9 d9 r5 (.slice lo a.l.length lc) rs a.l 3100000) := run9; have HSure : Hid (Sure d9 rs a.l 0) := sure9; clear run9 sure9 kR))
              have HPu : Hid (Pu rs (a.l)) := by
                have q1 := HF.out
                have q2 := HL3.out
                have q3 := (HP.out : Lp w0 W1 T l k n base rs).len
                refine ⟨q1.1, by unfold segLen; omega, tot_fits ?_, ?_⟩
                · omega
                · unfold segLen
                  omega
              have HFin : Hid (Fin7 w0 r5 (.slice lo a.l.length lc) rs (a.l) 0 w9) := ⟨R9, d9, HRun.out, HSure.out⟩
              clear HF HL3 HP HTp kArm HC7 hx5 HRun HSure
              go_cut [8, 9, 13] from 15 (fun _ _ _ wc => ∃ k, k ≤ 6 ∧ Fin7 w0 r5 (.slice lo a.l.length lc) rs (a.l) k wc)
              case first => as_aux_lemma =>
                go_wp2
                go_loopw [13] (fun i W => ∃ k : Nat, k ≤ cs.length ∧ k ≤ 6 ∧ i = .int .i64 (k : Int) ∧ Fin7 w0 r5 (.slice lo a.l.length lc) rs (a.l) k W) (fun i _ => (6 - intOf i).toNat)
                case atStart => exact ⟨0, by omega, by omega, rfl, HFin.out⟩
                case round => as_aux_lemma =>
                  obtain ⟨k, hk, hk6, rfl, hfin⟩ := hrel
                  have HFk : Hid (Fin7 w0 r5 (.slice lo a.l.length lc) rs (a.l) k wr) := hfin
                  by_cases hlt : k < cs.length ∧ k < 6
                  · obtain ⟨hlt, h6⟩ := hlt
                    have hadds : Adds w0 wr := by
                      obtain ⟨R, d, run, _⟩ := hfin
                      exact run.adds
                    obtain ⟨b', off', hb', q0, q1⟩ := LstC.at HC.out hlt
                    obtain ⟨eb, hbl⟩ := hb'
                    simp only [Option.some.injEq, Addr.mk.injEq, and_true] at eb
                    obtain ⟨rfl, rfl⟩ := eb
                    have z1 : wr.cell? ⟨cb, coff + k * 2 + 1, none⟩ = some (.int .u8 (cs[k].2.toNat : Int)) := (World.cell?_of_block (hadds.below.block cb hbl)).trans q1
                    have HZ0 : Hid (∀ W, Adds w0 W → W.cell? ⟨cb, coff + k * 2, none⟩ = some (.int .u8 (cs[k].1.toNat : Int))) := fun W hW => (World.cell?_of_block (hW.below.block cb hbl)).trans q0
                    have hu1 := cs[k].1.toNat_lt
                    have hu2 := cs[k].2.toNat_lt
                    have i1 : (k : Int) < (cs.length : Int) := by omega
                    generalize cs[k].1.toNat = m at *
                    generalize cs[k].2.toNat = keep at *
                    clear hfin hadds q0 q1 HFin
                    by_cases hk0 : k = 0
                    · subst hk0
                      have kB := round_bare HFk.out HPu.out (by omega) keep (by omega)
                      simp only [Nat.zero_mul, Nat.add_zero] at z1
                      go_wp2_with (first
                        | (go_at_call 21; refine kB.mono ?_; clear kB; rintro e w1 ⟨rfl, _, hO⟩; unfold Opens at hO)
                        | (go_at_call 11; refine hO.mono ?_; clear hO; rintro e w2 ⟨p2, rfl, kA⟩)
                        | (go_at_call 23; refine kA.mono ?_; clear kA; rintro e w3 ⟨r3, rfl, kS⟩))
                      refine kS.mono ?_
                      rintro e w4 ⟨t, rfl, ht, hf⟩
                      cases t
                      · have kA2 := hf rfl
                        clear ht hf kS
                        go_wp2_with (first
                          | (go_at_call 23; refine kA2.mono ?_; clear kA2; rintro e w5 ⟨r6, rfl, kS2⟩)
                          | (go_at_call 24; refine kS2.mono ?_; clear kS2; rintro e w6 ⟨rfl, hF6⟩))
                        have HF6 : Hid (Fin7 w0 r5 (.slice lo a.l.length lc) rs (a.l) (0 + 1) w6) := hF6
                        clear hF6
                        go_roundw
                        case rel => exact ⟨0 + 1, by omega, by omega, by go_num, HF6.out⟩
                        case measure => simp [intOf]
                      · have HF6 : Hid (Fin7 w0 r5 (.slice lo a.l.length lc) rs (a.l) (0 + 1) w4) := ht rfl
                        clear ht hf kS
                        go_wp2
                        go_roundw
                        case rel => exact ⟨0 + 1, by omega, by omega, by go_num, HF6.out⟩
                        case measure => simp [intOf]
                    · have kB := round_arm HFk.out HPu.out (by omega) keep m (by omega) (by omega)
                      have i2 : (0 : Int) < (k : Int) := by omega
                      go_wp2_with (first
                        | (go_at_call 21; refine kB.mono ?_; clear kB; rintro e w1 ⟨rfl, a1, kM⟩; have z0 := HZ0.out w1 a1; clear a1)
                        | (go_at_call 19; refine kM.mono ?_; clear kM; rintro e w1' ⟨rfl, hO⟩; unfold Opens at hO)
                        | (go_at_call 11; refine hO.mono ?_; clear hO; rintro e w2 ⟨p2, rfl, kA⟩)
                        | (go_at_call 23; refine kA.mono ?_; clear kA; rintro e w3 ⟨r3, rfl, kS⟩))
                      refine kS.mono ?_
                      rintro e w4 ⟨t, rfl, ht, hf⟩
                      cases t
                      · have kA2 := hf rfl
                        clear ht hf kS
                        go_wp2_with (first
                          | (go_at_call 23; refine kA2.mono ?_; clear kA2; rintro e w5 ⟨r6, rfl, kS2⟩)
                          | (go_at_call 24; refine kS2.mono ?_; clear kS2; rintro e w6 ⟨rfl, hF6⟩))
                        have HF6 : Hid (Fin7 w0 r5 (.slice lo a.l.length lc) rs (a.l) (k + 1) w6) := hF6
                        clear hF6
                        go_roundw
                        case rel => exact ⟨k + 1, by omega, by omega, by go_num, HF6.out⟩
                        case measure => simp [intOf]; omega
                      · have HF6 : Hid (Fin7 w0 r5 (.slice lo a.l.length lc) rs (a.l) (k + 1) w4) := ht rfl
                        clear ht hf kS
                        go_wp2
                        go_roundw
                        case rel => exact ⟨k + 1, by omega, by omega, by go_num, HF6.out⟩
                        case measure => simp [intOf]; omega
                  · have HFk2 : Hid (∃ k, k ≤ 6 ∧ Fin7 w0 r5 (.slice lo a.l.length lc) rs (a.l) k wr) := ⟨k, hk6, hfin⟩
                    have hcase : (k < cs.length ∧ k = 6) ∨ k = cs.length := by omega
                    clear hfin HFk HFin
                    rcases hcase with ⟨h1, rfl⟩ | rfl
                    · have i1 : ((6 : Nat) : Int) < (cs.length : Int) := by omega
                      go_wp2
                      go_meet
                      case rel => exact HFk2.out
                    · go_wp2
                      go_meet
                      case rel => exact HFk2.out
              case rest => as_aux_lemma =>
                obtain ⟨k, hk6, hfin⟩ := hcut
                have kB := round_bare hfin HPu.out (by omega) 0 (by omega)
                rw [show ((0 : Nat) : Int) = 0 from rfl] at kB
                clear hfin HFin
                go_wp2_with (first
                  | (go_at_call 21; refine kB.mono ?_; clear kB; rintro e w1 ⟨rfl, _, hO⟩; unfold Opens at hO)
                  | (go_at_call 11; refine hO.mono ?_; clear hO; rintro e w2 ⟨p2, rfl, kA⟩)
                  | (go_at_call 23; refine kA.mono ?_; clear kA; rintro e w3 ⟨r3, rfl, kS⟩))
                refine kS.mono ?_
                rintro e w4 ⟨t, rfl, ht, hf⟩
                cases t
                · have kA2 := hf rfl
                  clear ht hf kS
                  go_wp2_with (first
                    | (go_at_call 23; refine kA2.mono ?_; clear kA2; rintro e w5 ⟨r6, rfl, kS2⟩)
                    | (go_at_call 24; refine kS2.mono ?_; clear kS2; rintro e w6 ⟨rfl, hF6⟩; have HF6 : Hid (Fin7 w0 r5 (.slice lo a.l.length lc) rs (a.l) (k + 1) w6) := hF6; clear hF6)
                    | (go_at_call 10; refine (awake_any _).mono ?_; rintro e w7 ⟨rfl, a7⟩))
                  go_ret
                  obtain ⟨R, d, run, _⟩ := HF6.out
                  exact ⟨rfl, (HA0.out.trans run.adds).trans a7⟩
                · have HF6 : Hid (Fin7 w0 r5 (.slice lo a.l.length lc) rs (a.l) (k + 1) w4) := ht rfl
                  clear ht hf kS
                  go_wp2_with (go_at_call 10; refine (awake_any _).mono ?_; rintro e w7 ⟨rfl, a7⟩)
                  go_ret
                  obtain ⟨R, d, run, _⟩ := HF6.out
                  exact ⟨rfl, (HA0.out.trans run.adds).trans a7⟩
            · have hact' : (a.act == 1) = false := by simpa using hact
              go_upto_block 2 with (first
                | (go_at_call 19; refine kArm.mono ?_; rintro e w8 ⟨rfl, T8, p8, c8, n8⟩; have hbx8 := Adds.at c8.adds HBX.out; have y0 : w8.cell? ⟨w.heap.size, 0, none⟩ = some (.int .i64 a.act) := cell_of_row w8 _ 0 _ _ _ hbx8; have y1 : w8.cell? ⟨w.heap.size, 1, none⟩ = some (.slice bo a.b.length bc) := cell_of_row w8 _ 1 _ _ _ hbx8; have kR := last_append c8 ⟨(Lp.n HP.out).1, (by have := (Lp.n HP.out).2; omega)⟩ (Lp.base HP.out) (by have := (Lp.len HP.out); omega) HF.out.2 _ a.b H2.out (by have := HL3.out.1; omega) _ n8; rw [p8, HTp.out] at kR; clear hbx8 c8 n8 p8)
                | (go_at_call 15; refine kR.mono ?_; rintro e w9 ⟨rfl, R9, d9, run9, sure9⟩; have HRun : Hid (Run w0 w9 R9 d9 r5 (.slice vo vn vc) rs (rs ++ [a.b]) 3100000) := run9; have HSure : Hid (Sure d9 rs (rs ++ [a.b]) 0) := sure9; clear run9 sure9 kR))
              have HPu : Hid (Pu rs (rs ++ [a.b])) := by
                have q1 := HF.out
                have q2 := HL3.out
                have q3 := (HP.out : Lp w0 W1 T l k n base rs).len
                refine ⟨q1.1, by unfold segLen; omega, tot_fits ?_, ?_⟩
                · rw [tot_append, tot_one]
                  omega
                · unfold segLen
                  rw [tot_append, tot_one]
                  simp
                  omega
              have HFin : Hid (Fin7 w0 r5 (.slice vo vn vc) rs (rs ++ [a.b]) 0 w9) := ⟨R9, d9, HRun.out, HSure.out⟩
              clear HF HL3 HP HTp kArm HC7 hx5 HRun HSure
              go_cut [8, 9, 13] from 15 (fun _ _ _ wc => ∃ k, k ≤ 6 ∧ Fin7 w0 r5 (.slice vo vn vc) rs (rs ++ [a.b]) k wc)
              case first => as_aux_lemma =>
                go_wp2
                go_loopw [13] (fun i W => ∃ k : Nat, k ≤ cs.length ∧ k ≤ 6 ∧ i = .int .i64 (k : Int) ∧ Fin7 w0 r5 (.slice vo vn vc) rs (rs ++ [a.b]) k W) (fun i _ => (6 - intOf i).toNat)
                case atStart => exact ⟨0, by omega, by omega, rfl, HFin.out⟩
                case round => as_aux_lemma =>
                  obtain ⟨k, hk, hk6, rfl, hfin⟩ := hrel
                  have HFk : Hid (Fin7 w0 r5 (.slice vo vn vc) rs (rs ++ [a.b]) k wr) := hfin
                  by_cases hlt : k < cs.length ∧ k < 6
                  · obtain ⟨hlt, h6⟩ := hlt
                    have hadds : Adds w0 wr := by
                      obtain ⟨R, d, run, _⟩ := hfin
                      exact run.adds
                    obtain ⟨b', off', hb', q0, q1⟩ := LstC.at HC.out hlt
                    obtain ⟨eb, hbl⟩ := hb'
                    simp only [Option.some.injEq, Addr.mk.injEq, and_true] at eb
                    obtain ⟨rfl, rfl⟩ := eb
                    have z1 : wr.cell? ⟨cb, coff + k * 2 + 1, none⟩ = some (.int .u8 (cs[k].2.toNat : Int)) := (World.cell?_of_block (hadds.below.block cb hbl)).trans q1
                    have HZ0 : Hid (∀ W, Adds w0 W → W.cell? ⟨cb, coff + k * 2, none⟩ = some (.int .u8 (cs[k].1.toNat : Int))) := fun W hW => (World.cell?_of_block (hW.below.block cb hbl)).trans q0
                    have hu1 := cs[k].1.toNat_lt
                    have hu2 := cs[k].2.toNat_lt
                    have i1 : (k : Int) < (cs.length : Int) := by omega
                    generalize cs[k].1.toNat = m at *
                    generalize cs[k].2.toNat = keep at *
                    clear hfin hadds q0 q1 HFin
                    by_cases hk0 : k = 0
                    · subst hk0
                      have kB := round_bare HFk.out HPu.out (by omega) keep (by omega)
                      simp only [Nat.zero_mul, Nat.add_zero] at z1
                      go_wp2_with (first
                        | (go_at_call 21; refine kB.mono ?_; clear kB; rintro e w1 ⟨rfl, _, hO⟩; unfold Opens at hO)
                        | (go_at_call 11; refine hO.mono ?_; clear hO; rintro e w2 ⟨p2, rfl, kA⟩)
                        | (go_at_call 23; refine kA.mono ?_; clear kA; rintro e w3 ⟨r3, rfl, kS⟩))
                      refine kS.mono ?_
                      rintro e w4 ⟨t, rfl, ht, hf⟩
                      cases t
                      · have kA2 := hf rfl
                        clear ht hf kS
                        go_wp2_with (first
                          | (go_at_call 23; refine kA2.mono ?_; clear kA2; rintro e w5 ⟨r6, rfl, kS2⟩)
                          | (go_at_call 24; refine kS2.mono ?_; clear kS2; rintro e w6 ⟨rfl, hF6⟩))
                        have HF6 : Hid (Fin7 w0 r5 (.slice vo vn vc) rs (rs ++ [a.b]) (0 + 1) w6) := hF6
                        clear hF6
                        go_roundw
                        case rel => exact ⟨0 + 1, by omega, by omega, by go_num, HF6.out⟩
                        case measure => simp [intOf]
                      · have HF6 : Hid (Fin7 w0 r5 (.slice vo vn vc) rs (rs ++ [a.b]) (0 + 1) w4) := ht rfl
                        clear ht hf kS
                        go_wp2
                        go_roundw
                        case rel => exact ⟨0 + 1, by omega, by omega, by go_num, HF6.out⟩
                        case measure => simp [intOf]
                    · have kB := round_arm HFk.out HPu.out (by omega) keep m (by omega) (by omega)
                      have i2 : (0 : Int) < (k : Int) := by omega
                      go_wp2_with (first
                        | (go_at_call 21; refine kB.mono ?_; clear kB; rintro e w1 ⟨rfl, a1, kM⟩; have z0 := HZ0.out w1 a1; clear a1)
                        | (go_at_call 19; refine kM.mono ?_; clear kM; rintro e w1' ⟨rfl, hO⟩; unfold Opens at hO)
                        | (go_at_call 11; refine hO.mono ?_; clear hO; rintro e w2 ⟨p2, rfl, kA⟩)
                        | (go_at_call 23; refine kA.mono ?_; clear kA; rintro e w3 ⟨r3, rfl, kS⟩))
                      refine kS.mono ?_
                      rintro e w4 ⟨t, rfl, ht, hf⟩
                      cases t
                      · have kA2 := hf rfl
                        clear ht hf kS
                        go_wp2_with (first
                          | (go_at_call 23; refine kA2.mono ?_; clear kA2; rintro e w5 ⟨r6, rfl, kS2⟩)
                          | (go_at_call 24; refine kS2.mono ?_; clear kS2; rintro e w6 ⟨rfl, hF6⟩))
                        have HF6 : Hid (Fin7 w0 r5 (.slice vo vn vc) rs (rs ++ [a.b]) (k + 1) w6) := hF6
                        clear hF6
                        go_roundw
                        case rel => exact ⟨k + 1, by omega, by omega, by go_num, HF6.out⟩
                        case measure => simp [intOf]; omega
                      · have HF6 : Hid (Fin7 w0 r5 (.slice vo vn vc) rs (rs ++ [a.b]) (k + 1) w4) := ht rfl
                        clear ht hf kS
                        go_wp2
                        go_roundw
                        case rel => exact ⟨k + 1, by omega, by omega, by go_num, HF6.out⟩
                        case measure => simp [intOf]; omega
                  · have HFk2 : Hid (∃ k, k ≤ 6 ∧ Fin7 w0 r5 (.slice vo vn vc) rs (rs ++ [a.b]) k wr) := ⟨k, hk6, hfin⟩
                    have hcase : (k < cs.length ∧ k = 6) ∨ k = cs.length := by omega
                    clear hfin HFk HFin
                    rcases hcase with ⟨h1, rfl⟩ | rfl
                    · have i1 : ((6 : Nat) : Int) < (cs.length : Int) := by omega
                      go_wp2
                      go_meet
                      case rel => exact HFk2.out
                    · go_wp2
                      go_meet
                      case rel => exact HFk2.out
              case rest => as_aux_lemma =>
                obtain ⟨k, hk6, hfin⟩ := hcut
                have kB := round_bare hfin HPu.out (by omega) 0 (by omega)
                rw [show ((0 : Nat) : Int) = 0 from rfl] at kB
                clear hfin HFin
                go_wp2_with (first
                  | (go_at_call 21; refine kB.mono ?_; clear kB; rintro e w1 ⟨rfl, _, hO⟩; unfold Opens at hO)
                  | (go_at_call 11; refine hO.mono ?_; clear hO; rintro e w2 ⟨p2, rfl, kA⟩)
                  | (go_at_call 23; refine kA.mono ?_; clear kA; rintro e w3 ⟨r3, rfl, kS⟩))
                refine kS.mono ?_
                rintro e w4 ⟨t, rfl, ht, hf⟩
                cases t
                · have kA2 := hf rfl
                  clear ht hf kS
                  go_wp2_with (first
                    | (go_at_call 23; refine kA2.mono ?_; clear kA2; rintro e w5 ⟨r6, rfl, kS2⟩)
                    | (go_at_call 24; refine kS2.mono ?_; clear kS2; rintro e w6 ⟨rfl, hF6⟩; have HF6 : Hid (Fin7 w0 r5 (.slice vo vn vc) rs (rs ++ [a.b]) (k + 1) w6) := hF6; clear hF6)
                    | (go_at_call 10; refine (awake_any _).mono ?_; rintro e w7 ⟨rfl, a7⟩))
                  go_ret
                  obtain ⟨R, d, run, _⟩ := HF6.out
                  exact ⟨rfl, (HA0.out.trans run.adds).trans a7⟩
                · have HF6 : Hid (Fin7 w0 r5 (.slice vo vn vc) rs (rs ++ [a.b]) (k + 1) w4) := ht rfl
                  clear ht hf kS
                  go_wp2_with (go_at_call 10; refine (awake_any _).mono ?_; rintro e w7 ⟨rfl, a7⟩)
                  go_ret
                  obtain ⟨R, d, run, _⟩ := HF6.out
                  exact ⟨rfl, (HA0.out.trans run.adds).trans a7⟩

end Go.Proofs.Ytdcbepdghiafhaa
