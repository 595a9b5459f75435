/-
  The reference's function Append by contract: the good case.
-/
import Derived.Test.YtelkkpomehgcjaaGreatUapp
namespace Go.Proofs.YtelkkpomehgcjaaGreat
open Go.RowKit Go.Maps
attribute [local go_sem] cell?_more frozen?_more setCell_more size_more tape_more drew_more drewN_more more_drew more_drewN more_more one_out plus_out plus_end lt_one le_p2 le_p3 le_p4 le_p5 le_p6 le_p7 le_p8 le_p9 le_p10 le_p11 le_p12 le_p13 le_p14 le_p15 le_p16 le_p17 le_p18 le_p19 le_p20 le_p21 le_p22 le_p23 le_p24 le_q0 le_q1 lt_q1 le_q2 lt_q2 le_q3 lt_q3 le_q4 lt_q4 le_q5 lt_q5 le_q6 lt_q6 le_q7 lt_q7 le_q8 lt_q8 le_q9 lt_q9 le_q10 lt_q10 le_q11 lt_q11 le_q12 lt_q12 le_q13 lt_q13 le_q14 lt_q14 le_q15 lt_q15 le_q16 lt_q16 le_q17 lt_q17 le_q18 lt_q18 le_q19 lt_q19 le_q20 lt_q20 le_q21 lt_q21 le_q22 lt_q22 le_q23 lt_q23 le_q24 lt_q24

/-- What lies while units are done. -/
structure AppM (w : World) (R : Rw) (kv dv : Value) (kept : List Fl) (q : Rf) (W : World) : Prop where
  own : W.heap[w.heap.size]? = some (.cells #[.int .i64 q.room, kv, dv, .int .i64 (q.live : Int), .bool q.gone, .int .i64 q.armed] 36 (0, 0))
  res : W.heap[w.heap.size + 1]? = some (.cells #[.int .i64 0, .slice none 0 0, .slice none 0 0, .int .i64 0, .bool false, .int .i64 0] 36 (0, 0))
  ref : RefV W R kv dv kept q.done
  adds : Adds w W

theorem AppM.more {w W W' : World} {R : Rw} {kv dv : Value} {kept : List Fl} {q : Rf} (h : AppM w R kv dv kept q W) (ha : Adds W W') : AppM w R kv dv kept q W' :=
  ⟨ha.at h.own, ha.at h.res, h.ref.adds ha, h.adds.trans ha⟩

theorem AppM.next {w W w7 : World} {R : Rw} {kv dv dv' : Value} {kept : List Fl} {q p : Rf} (h : AppM w R kv dv kept q W) (ha : Adds W w7) (hr : RefV w7 R kv dv' kept p.done) (hp : p.room = q.room) :
    AppM w R kv dv' kept p ((((((w7.setCell ⟨w.heap.size, 0, none⟩ (.int .i64 q.room)).setCell ⟨w.heap.size, 1, none⟩ kv).setCell ⟨w.heap.size, 2, none⟩ dv').setCell ⟨w.heap.size, 3, none⟩ (.int .i64 (p.live : Int))).setCell ⟨w.heap.size, 4, none⟩ (.bool p.gone)).setCell ⟨w.heap.size, 5, none⟩ (.int .i64 p.armed)) := by
  have h7 := h.more ha
  have ht : Turn2 w.heap.size w.heap.size w7 ((((((w7.setCell ⟨w.heap.size, 0, none⟩ (.int .i64 q.room)).setCell ⟨w.heap.size, 1, none⟩ kv).setCell ⟨w.heap.size, 2, none⟩ dv').setCell ⟨w.heap.size, 3, none⟩ (.int .i64 (p.live : Int))).setCell ⟨w.heap.size, 4, none⟩ (.bool p.gone)).setCell ⟨w.heap.size, 5, none⟩ (.int .i64 p.armed)) := (((((((Turn2.refl _ _ _).set1 _ _).set1 _ _).set1 _ _).set1 _ _).set1 _ _).set1 _ _)
  obtain ⟨h1, h2⟩ := ref_turn (Nat.le_refl _) hr (h.adds.trans ha) ⟨_, h7.own⟩ ht
  refine ⟨?_, ?_, h1, h2⟩
  · have e1 := heap_setCell_at (.int .i64 q.room) h7.own (i := 0) (by simp)
    have e2 := heap_setCell_at kv e1 (i := 1) (by simp)
    have e3 := heap_setCell_at dv' e2 (i := 2) (by simp)
    have e4 := heap_setCell_at (.int .i64 (p.live : Int)) e3 (i := 3) (by simp)
    have e5 := heap_setCell_at (.bool p.gone) e4 (i := 4) (by simp)
    have e6 := heap_setCell_at (.int .i64 p.armed) e5 (i := 5) (by simp)
    rw [e6, hp]
    rfl
  · rw [ht.block _ (Array.getElem?_eq_some_iff.1 h7.res).1 (by omega) (by omega)]
    exact h7.res

theorem putAll_take (r : Rf) (us : List Un) (j : Nat) (hj : j < us.length) : r.putAll (us.take (j + 1)) = (r.putAll (us.take j)).put us[j] := by
  unfold Rf.putAll
  rw [List.take_succ_eq_append_getElem hj, List.foldl_append]
  rfl

theorem putAll_bounds : ∀ (us : List Un) (r : Rf), -1 ≤ r.armed → r.armed ≤ 9223372036854775807 → -1 ≤ (r.putAll us).armed ∧ (r.putAll us).armed ≤ 9223372036854775807
  | [], _, h1, h2 => ⟨h1, h2⟩
  | u :: t, r, h1, h2 => by
    obtain ⟨h3, h4⟩ := put_armed r u h1 h2
    exact putAll_bounds t (r.put u) h3 h4

theorem putAll_room : ∀ (us : List Un) (r : Rf), (r.putAll us).room = r.room
  | [], _ => rfl
  | u :: t, r => (putAll_room t (r.put u)).trans (put_room r u)

theorem putAll_done : ∀ (us : List Un) (r : Rf), (r.putAll us).done = r.done ++ us
  | [], r => by simp [Rf.putAll]
  | u :: t, r => by
    have := putAll_done t (r.put u)
    rw [put_done] at this
    show ((r.put u).putAll t).done = _
    rw [this]
    simp

theorem refAppend_any {w : World} {R : Rw} {kv dv bv : Value} {kept : List Fl} {r : Rf} {b : List UInt8} (h : RefV w R kv dv kept r.done) (hF : ∀ i, R.foot i → i < w.heap.size) (hk : kept.length + r.done.length ≤ 1000000) (hb : ∀ p ∈ kept, p.2.2.length ≤ 100000) (hd : r.done.length + b.length ≤ 700000) (hr : 0 ≤ r.room ∧ r.room ≤ 1000000000000) (ha : -1 ≤ r.armed) (ha' : r.armed ≤ 9223372036854775807) (file : Int) (hf : 0 ≤ file ∧ file ≤ 1048576) (hbv : Byt w bv b) (hfull : (b.length : Int) ≤ r.room - sizeKf (r.done.foldl unitK (kf kept))) :
    Calls Tryz.prog 50 #[.agg #[.int .i64 r.room, kv, dv, .int .i64 (r.live : Int), .bool r.gone, .int .i64 r.armed], .int .i64 file, bv] w fun e w' => ∃ dv', e = .returned (.tuple #[.agg #[.int .i64 r.room, kv, dv', .int .i64 ((r.putAll (unitsApp file b)).live : Int), .bool (r.putAll (unitsApp file b)).gone, .int .i64 (r.putAll (unitsApp file b)).armed], .int .i64 0]) ∧ RefV w' R kv dv' kept (r.putAll (unitsApp file b)).done ∧ Adds w w' := by
  have HR : Hid (RefV w R kv dv kept r.done) := h
  have HFt : Hid (∀ i, R.foot i → i < w.heap.size) := hF
  have HBv : Hid (Byt w bv b) := hbv
  obtain ⟨ko, kc, rfl, _⟩ := h.kept.slice
  obtain ⟨dO, dc, rfl, _, _, _⟩ := h.done
  obtain ⟨bo, bc, rfl, _, _⟩ := hbv.open
  have k1 := fun (w1 : World) (h1 : Adds w w1) => refLeft_any (w := w1) (R := R) (HR.out.adds h1) (fun i hi => Nat.lt_of_lt_of_le (HFt.out i hi) h1.below.size) hk hb (by omega) r.room r.live r.armed r.gone hr
  clear h hF hb hbv
  obtain ⟨room, rkept, done, live, gone, armed⟩ := r
  simp only at *
  have HB1 : Hid (((w.alloc (.cells #[.int .i64 room, Value.slice ko kept.length kc, Value.slice dO done.length dc, .int .i64 (live : Int), .bool gone, .int .i64 armed] 36)).alloc (.cells #[.int .i64 0, .slice none 0 0, .slice none 0 0, .int .i64 0, .bool false, .int .i64 0] 36)).heap[w.heap.size]? = some (.cells #[.int .i64 room, Value.slice ko kept.length kc, Value.slice dO done.length dc, .int .i64 (live : Int), .bool gone, .int .i64 armed] 36 (0, 0))) := blk_old
  have HB2 : Hid (((w.alloc (.cells #[.int .i64 room, Value.slice ko kept.length kc, Value.slice dO done.length dc, .int .i64 (live : Int), .bool gone, .int .i64 armed] 36)).alloc (.cells #[.int .i64 0, .slice none 0 0, .slice none 0 0, .int .i64 0, .bool false, .int .i64 0] 36)).heap[w.heap.size + 1]? = some (.cells #[.int .i64 0, .slice none 0 0, .slice none 0 0, .int .i64 0, .bool false, .int .i64 0] 36 (0, 0))) := blk_new
  have i1 : ¬ file < 0 := by omega
  have i2 : ¬ file > 1048576 := by omega
  generalize (sizeKf (done.foldl unitK (kf kept)) : Int) = S at *
  have i3 : ¬ ((b.length : Int) > room - S) := by omega
  by_cases hb0 : b = []
  · subst hb0
    have HU : Hid (unitsApp file [] = [⟨file, 0, false, true⟩]) := by
      show _ = _
      simp [unitsApp]
    have kD := fun (w1 : World) (h1 : Adds w w1) => refDo_any (w := w1) (R := R) (r := ⟨room, rkept, done, live, gone, armed⟩) (HR.out.adds h1) (by simp only; omega) ha ha' ⟨file, 0, false, true⟩
    have HNx : Hid (∀ w5 w7 v7, AppM w R (.slice ko kept.length kc) (.slice dO done.length dc) kept ⟨room, rkept, done, live, gone, armed⟩ w5 → Adds w5 w7 → RefV w7 R (.slice ko kept.length kc) v7 kept (Rf.put ⟨room, rkept, done, live, gone, armed⟩ ⟨file, 0, false, true⟩).done → AppM w R (.slice ko kept.length kc) v7 kept (Rf.put ⟨room, rkept, done, live, gone, armed⟩ ⟨file, 0, false, true⟩) _) := fun w5 w7 v7 h0 h1 h2 => AppM.next h0 h1 h2 (put_room _ _)
    have HP : Hid (Rf.putAll ⟨room, rkept, done, live, gone, armed⟩ (unitsApp file []) = Rf.put ⟨room, rkept, done, live, gone, armed⟩ ⟨file, 0, false, true⟩) := by
      show _ = _
      rw [HU.out]
      rfl
    have HPr : Hid ((Rf.put ⟨room, rkept, done, live, gone, armed⟩ ⟨file, 0, false, true⟩).room = room) := put_room _ _
    simp only [List.length_nil] at *
    go_enter Tryz.func50, Tryz.ntmps50
    generalize hP : Rf.put ⟨room, rkept, done, live, gone, armed⟩ ⟨file, 0, false, true⟩ = P at *
    go_wp2_with (first
      | (go_at_call 75; refine (k1 _ (by repeat (first | with_reducible exact Adds.refl _ | with_reducible refine Adds.alloc ?_ _ | with_reducible refine Adds.more ?_ _ _ | with_reducible refine Adds.drew ?_ | with_reducible refine Adds.drewN ?_ _))).mono ?_; rintro e w5 ⟨rfl, a5⟩; have HB5 := a5.at HB1.out; have HE5 := a5.at HB2.out; have HN : Hid (Adds w w5) := Adds.trans (by repeat (first | with_reducible exact Adds.refl _ | with_reducible refine Adds.alloc ?_ _ | with_reducible refine Adds.more ?_ _ _ | with_reducible refine Adds.drew ?_ | with_reducible refine Adds.drewN ?_ _)) a5; have HM5 : Hid (AppM w R (.slice ko kept.length kc) (.slice dO done.length dc) kept ⟨room, rkept, done, live, gone, armed⟩ w5) := ⟨HB5, HE5, HR.out.adds HN.out, HN.out⟩; have c0 : w5.cell? ⟨w.heap.size, 0, none⟩ = some (.int .i64 room) := cell_of_row w5 _ 0 _ _ _ HB5; have c1 : w5.cell? ⟨w.heap.size, 1, none⟩ = some (.slice ko kept.length kc) := cell_of_row w5 _ 1 _ _ _ HB5; have c2 : w5.cell? ⟨w.heap.size, 2, none⟩ = some (.slice dO done.length dc) := cell_of_row w5 _ 2 _ _ _ HB5; have c3 : w5.cell? ⟨w.heap.size, 3, none⟩ = some (.int .i64 (live : Int)) := cell_of_row w5 _ 3 _ _ _ HB5; have c4 : w5.cell? ⟨w.heap.size, 4, none⟩ = some (.bool gone) := cell_of_row w5 _ 4 _ _ _ HB5; have c5 : w5.cell? ⟨w.heap.size, 5, none⟩ = some (.int .i64 armed) := cell_of_row w5 _ 5 _ _ _ HB5; clear a5 k1 HB5 HE5)
      | (go_at_call 76; refine (kD _ HN.out).mono ?_; rintro e w7 ⟨v7, rfl, r7, a7⟩; obtain ⟨o7, cc7, rfl, _, _, _⟩ := r7.done; have HA7 : Hid (Adds w5 w7) := a7; have b7 := HA7.out.at (AppM.own HM5.out); have g0 : w7.cell? ⟨w.heap.size, 0, none⟩ = some (.int .i64 room) := cell_of_row w7 _ 0 _ _ _ b7; have g1 : w7.cell? ⟨w.heap.size, 1, none⟩ = some (.slice ko kept.length kc) := cell_of_row w7 _ 1 _ _ _ b7; have g2 : w7.cell? ⟨w.heap.size, 2, none⟩ = some (.slice dO done.length dc) := cell_of_row w7 _ 2 _ _ _ b7; have g3 : w7.cell? ⟨w.heap.size, 3, none⟩ = some (.int .i64 (live : Int)) := cell_of_row w7 _ 3 _ _ _ b7; have g4 : w7.cell? ⟨w.heap.size, 4, none⟩ = some (.bool gone) := cell_of_row w7 _ 4 _ _ _ b7; have g5 : w7.cell? ⟨w.heap.size, 5, none⟩ = some (.int .i64 armed) := cell_of_row w7 _ 5 _ _ _ b7; have f7 : ∀ i, w7.frozen? ⟨w.heap.size, i, none⟩ = false := fun i => frozen_of b7; have HM7 : Hid _ := HNx.out w5 w7 _ HM5.out HA7.out r7; clear r7 a7 b7))
    go_loopw [8] (fun i W => i = .int .i64 0 ∧ AppM w R (.slice ko kept.length kc) (.slice o7 P.done.length cc7) kept P W) (fun _ _ => 0)
    case atStart => exact ⟨rfl, HM7.out⟩
    case round =>
      obtain ⟨rfl, hm⟩ := hrel
      have HM : Hid (AppM w R (.slice ko kept.length kc) (.slice o7 P.done.length cc7) kept P wr) := hm
      clear hm
      have c0 : wr.cell? ⟨w.heap.size, 0, none⟩ = some (.int .i64 P.room) := cell_of_row wr _ 0 _ _ _ (AppM.own HM.out)
      have c1 : wr.cell? ⟨w.heap.size, 1, none⟩ = some (.slice ko kept.length kc) := cell_of_row wr _ 1 _ _ _ (AppM.own HM.out)
      have c2 : wr.cell? ⟨w.heap.size, 2, none⟩ = some (.slice o7 P.done.length cc7) := cell_of_row wr _ 2 _ _ _ (AppM.own HM.out)
      have c3 : wr.cell? ⟨w.heap.size, 3, none⟩ = some (.int .i64 (P.live : Int)) := cell_of_row wr _ 3 _ _ _ (AppM.own HM.out)
      have c4 : wr.cell? ⟨w.heap.size, 4, none⟩ = some (.bool P.gone) := cell_of_row wr _ 4 _ _ _ (AppM.own HM.out)
      have c5 : wr.cell? ⟨w.heap.size, 5, none⟩ = some (.int .i64 P.armed) := cell_of_row wr _ 5 _ _ _ (AppM.own HM.out)
      have d0 : wr.cell? ⟨w.heap.size + 1, 0, none⟩ = some (.int .i64 0) := cell_of_row wr _ 0 _ _ _ (AppM.res HM.out)
      have d1 : wr.cell? ⟨w.heap.size + 1, 1, none⟩ = some (.slice none 0 0) := cell_of_row wr _ 1 _ _ _ (AppM.res HM.out)
      have d2 : wr.cell? ⟨w.heap.size + 1, 2, none⟩ = some (.slice none 0 0) := cell_of_row wr _ 2 _ _ _ (AppM.res HM.out)
      have d3 : wr.cell? ⟨w.heap.size + 1, 3, none⟩ = some (.int .i64 0) := cell_of_row wr _ 3 _ _ _ (AppM.res HM.out)
      have d4 : wr.cell? ⟨w.heap.size + 1, 4, none⟩ = some (.bool false) := cell_of_row wr _ 4 _ _ _ (AppM.res HM.out)
      have d5 : wr.cell? ⟨w.heap.size + 1, 5, none⟩ = some (.int .i64 0) := cell_of_row wr _ 5 _ _ _ (AppM.res HM.out)
      have f3 : ∀ i, wr.frozen? ⟨w.heap.size + 1, i, none⟩ = false := fun i => frozen_of (AppM.res HM.out)
      go_wp2
      rw [HP.out]
      refine bodyPost_ret (v := .tuple #[.agg #[.int .i64 P.room, .slice ko kept.length kc, .slice o7 P.done.length cc7, .int .i64 (P.live : Int), .bool P.gone, .int .i64 P.armed], .int .i64 0]) (by simp [results, Tryz.results50, go_sem, d0, d1, d2, d3, d4, d5]) rfl ⟨_, by rw [HPr.out], ?_⟩
      exact ref_turn (Nat.le_succ _) (AppM.ref HM.out) (AppM.adds HM.out) ⟨_, AppM.res HM.out⟩ (by repeat (first | with_reducible exact Turn2.refl _ _ _ | with_reducible refine Turn2.set1 ?_ _ _ | with_reducible refine Turn2.set2 ?_ _ _))
  · have hbl : 0 < b.length := List.length_pos_iff.2 hb0
    have i4 : ¬ ((b.length : Int) = 0) := by omega
    go_enter Tryz.func50, Tryz.ntmps50
    go_wp2_with (go_at_call 75; refine (k1 _ (by repeat (first | with_reducible exact Adds.refl _ | with_reducible refine Adds.alloc ?_ _ | with_reducible refine Adds.more ?_ _ _ | with_reducible refine Adds.drew ?_ | with_reducible refine Adds.drewN ?_ _))).mono ?_; rintro e w5 ⟨rfl, a5⟩; have HB5 := a5.at HB1.out; have HE5 := a5.at HB2.out; have HN : Hid (Adds w w5) := Adds.trans (by repeat (first | with_reducible exact Adds.refl _ | with_reducible refine Adds.alloc ?_ _ | with_reducible refine Adds.more ?_ _ _ | with_reducible refine Adds.drew ?_ | with_reducible refine Adds.drewN ?_ _)) a5; clear a5 k1)
    have HM5 : Hid (AppM w R (.slice ko kept.length kc) (.slice dO done.length dc) kept ⟨room, rkept, done, live, gone, armed⟩ w5) := ⟨HB5, HE5, HR.out.adds HN.out, HN.out⟩
    have HU : Hid (unitsApp file b = b.map fun c => (⟨file, c, false, false⟩ : Un)) := by
      show _ = _
      unfold unitsApp
      rw [if_neg hb0]
    clear HB5 HE5 HB1 HB2
    generalize hr0 : (⟨room, rkept, done, live, gone, armed⟩ : Rf) = r0 at *
    have i6 : ((b.length : Int) == 0) = false := by simpa using i4
    rw [i6]
    clear i6
    go_loopw [8] (fun i W => ∃ (j : Nat) (xo : Option Addr) (xc : Nat), j ≤ b.length ∧ i = .int .i64 (j : Int) ∧ AppM w R (.slice ko kept.length kc) (.slice xo (r0.putAll ((unitsApp file b).take j)).done.length xc) kept (r0.putAll ((unitsApp file b).take j)) W) (fun i _ => (b.length - intOf i).toNat)
    case atStart =>
      subst hr0
      exact ⟨0, dO, dc, by omega, rfl, by simpa [Rf.putAll] using HM5.out⟩
    case round =>
      obtain ⟨j, xo, xc, hj, rfl, hm⟩ := hrel
      have HQ : Hid (∃ q, r0.putAll ((unitsApp file b).take j) = q) := ⟨_, rfl⟩
      obtain ⟨q, hq⟩ := HQ.out
      rw [hq] at hm
      have HM : Hid (AppM w R (.slice ko kept.length kc) (.slice xo q.done.length xc) kept q wr) := hm
      have HE : Hid (r0.putAll ((unitsApp file b).take j) = q) := hq
      clear hm hq HQ
      have c0 : wr.cell? ⟨w.heap.size, 0, none⟩ = some (.int .i64 q.room) := cell_of_row wr _ 0 _ _ _ (AppM.own HM.out)
      have c1 : wr.cell? ⟨w.heap.size, 1, none⟩ = some (.slice ko kept.length kc) := cell_of_row wr _ 1 _ _ _ (AppM.own HM.out)
      have c2 : wr.cell? ⟨w.heap.size, 2, none⟩ = some (.slice xo q.done.length xc) := cell_of_row wr _ 2 _ _ _ (AppM.own HM.out)
      have c3 : wr.cell? ⟨w.heap.size, 3, none⟩ = some (.int .i64 (q.live : Int)) := cell_of_row wr _ 3 _ _ _ (AppM.own HM.out)
      have c4 : wr.cell? ⟨w.heap.size, 4, none⟩ = some (.bool q.gone) := cell_of_row wr _ 4 _ _ _ (AppM.own HM.out)
      have c5 : wr.cell? ⟨w.heap.size, 5, none⟩ = some (.int .i64 q.armed) := cell_of_row wr _ 5 _ _ _ (AppM.own HM.out)
      by_cases hlt : j < b.length
      · have i5 : (j : Int) < (b.length : Int) := by omega
        have hul : j < (unitsApp file b).length := by rw [HU.out, List.length_map]; exact hlt
        have huj : (unitsApp file b)[j] = ⟨file, b[j], false, false⟩ := by simp [HU.out]
        have HP : Hid (r0.putAll ((unitsApp file b).take (j + 1)) = q.put ⟨file, b[j], false, false⟩) := by
          show _ = _
          rw [putAll_take r0 _ j hul, HE.out, huj]
        obtain ⟨a1, a2⟩ := putAll_bounds ((unitsApp file b).take j) r0 (by rw [← hr0]; exact ha) (by rw [← hr0]; exact ha')
        rw [HE.out] at a1 a2
        have a3 : q.done.length ≤ 800000 := by
          rw [← HE.out, putAll_done, ← hr0]
          simp
          omega
        have kD := fun (w1 : World) (h1 : Adds wr w1) => refDo_any (w := w1) (R := R) (kept := kept) (r := q) ((AppM.ref HM.out).adds h1) a3 a1 a2 ⟨file, b[j], false, false⟩
        obtain ⟨yo, yc, hye, _, hyr⟩ := (HBv.out.adds (AppM.adds HM.out)).open
        simp only [Value.slice.injEq, true_and] at hye
        obtain ⟨rfl, rfl⟩ := hye
        rcases hyr with hyr | ⟨yb, yoff, rfl, hyb, hyl⟩
        · exact absurd hyr hb0
        have hcell := hyl j hlt
        clear hyl
        generalize b[j] = cb at *
        have HNx : Hid (∀ w7 v7, Adds wr w7 → RefV w7 R (.slice ko kept.length kc) v7 kept (q.put ⟨file, cb, false, false⟩).done → AppM w R (.slice ko kept.length kc) v7 kept (q.put ⟨file, cb, false, false⟩) _) := fun w7 v7 h1 h2 => AppM.next HM.out h1 h2 (put_room _ _)
        generalize hP : Rf.put q ⟨file, cb, false, false⟩ = P at *
        go_wp2
        go_region_with (go_at_call 76; refine (kD _ (by repeat (first | with_reducible exact Adds.refl _ | with_reducible refine Adds.alloc ?_ _ | with_reducible refine Adds.more ?_ _ _ | with_reducible refine Adds.drew ?_ | with_reducible refine Adds.drewN ?_ _))).mono ?_; rintro e w7 ⟨v7, rfl, r7, a7⟩; obtain ⟨o7, cc7, rfl, _, _, _⟩ := r7.done; have HA7 : Hid (Adds wr w7) := Adds.trans (by repeat (first | with_reducible exact Adds.refl _ | with_reducible refine Adds.alloc ?_ _ | with_reducible refine Adds.more ?_ _ _ | with_reducible refine Adds.drew ?_ | with_reducible refine Adds.drewN ?_ _)) a7; have b7 := HA7.out.at (AppM.own HM.out); have g0 : w7.cell? ⟨w.heap.size, 0, none⟩ = some (.int .i64 q.room) := cell_of_row w7 _ 0 _ _ _ b7; have g1 : w7.cell? ⟨w.heap.size, 1, none⟩ = some (.slice ko kept.length kc) := cell_of_row w7 _ 1 _ _ _ b7; have g2 : w7.cell? ⟨w.heap.size, 2, none⟩ = some (.slice xo q.done.length xc) := cell_of_row w7 _ 2 _ _ _ b7; have g3 : w7.cell? ⟨w.heap.size, 3, none⟩ = some (.int .i64 (q.live : Int)) := cell_of_row w7 _ 3 _ _ _ b7; have g4 : w7.cell? ⟨w.heap.size, 4, none⟩ = some (.bool q.gone) := cell_of_row w7 _ 4 _ _ _ b7; have g5 : w7.cell? ⟨w.heap.size, 5, none⟩ = some (.int .i64 q.armed) := cell_of_row w7 _ 5 _ _ _ b7; have f7 : ∀ i, w7.frozen? ⟨w.heap.size, i, none⟩ = false := fun i => frozen_of b7; have HM7 : Hid _ := HNx.out w7 _ HA7.out r7; clear r7 a7 b7)
        all_goals
          go_wp2
          go_roundw
          case rel =>
            refine ⟨j + 1, o7, cc7, by omega, by go_num, ?_⟩
            rw [HP.out]
            exact HM7.out
          case measure => simp [intOf]; omega
      · obtain rfl : j = b.length := by omega
        have i5 : ¬ ((b.length : Int) < (b.length : Int)) := by omega
        have d0 : wr.cell? ⟨w.heap.size + 1, 0, none⟩ = some (.int .i64 0) := cell_of_row wr _ 0 _ _ _ (AppM.res HM.out)
        have d1 : wr.cell? ⟨w.heap.size + 1, 1, none⟩ = some (.slice none 0 0) := cell_of_row wr _ 1 _ _ _ (AppM.res HM.out)
        have d2 : wr.cell? ⟨w.heap.size + 1, 2, none⟩ = some (.slice none 0 0) := cell_of_row wr _ 2 _ _ _ (AppM.res HM.out)
        have d3 : wr.cell? ⟨w.heap.size + 1, 3, none⟩ = some (.int .i64 0) := cell_of_row wr _ 3 _ _ _ (AppM.res HM.out)
        have d4 : wr.cell? ⟨w.heap.size + 1, 4, none⟩ = some (.bool false) := cell_of_row wr _ 4 _ _ _ (AppM.res HM.out)
        have d5 : wr.cell? ⟨w.heap.size + 1, 5, none⟩ = some (.int .i64 0) := cell_of_row wr _ 5 _ _ _ (AppM.res HM.out)
        have f3 : ∀ i, wr.frozen? ⟨w.heap.size + 1, i, none⟩ = false := fun i => frozen_of (AppM.res HM.out)
        have HT : Hid (r0.putAll (unitsApp file b) = q) := by
          show _ = _
          rw [← HE.out, HU.out]
          congr 1
          rw [List.take_of_length_le (by simp)]
        go_wp2
        rw [HT.out]
        have hroom : q.room = room := by
          rw [← HT.out, putAll_room, ← hr0]
        refine bodyPost_ret (v := .tuple #[.agg #[.int .i64 q.room, .slice ko kept.length kc, .slice xo q.done.length xc, .int .i64 (q.live : Int), .bool q.gone, .int .i64 q.armed], .int .i64 0]) (by simp [results, Tryz.results50, go_sem, d0, d1, d2, d3, d4, d5]) rfl ⟨_, by rw [hroom], ?_⟩
        exact ref_turn (Nat.le_succ _) (AppM.ref HM.out) (AppM.adds HM.out) ⟨_, AppM.res HM.out⟩ (by repeat (first | with_reducible exact Turn2.refl _ _ _ | with_reducible refine Turn2.set1 ?_ _ _ | with_reducible refine Turn2.set2 ?_ _ _))

end Go.Proofs.YtelkkpomehgcjaaGreat
