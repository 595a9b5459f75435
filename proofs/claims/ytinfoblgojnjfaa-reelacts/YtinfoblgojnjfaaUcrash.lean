/-
  The reference's functions Pending and Crash by contracts.
-/
import Derived.Test.YtinfoblgojnjfaaUapp2
namespace Go.Proofs.Ytinfoblgojnjfaa
open Go.RowKit Go.Maps
attribute [local go_sem] cell?_more frozen?_more setCell_more size_more tape_more drew_more drewN_more more_drew more_drewN more_more one_out plus_out plus_end lt_one le_p2 le_p3 le_p4 le_p5 le_p6 le_p7 le_p8 le_p9 le_p10 le_p11 le_p12 le_p13 le_p14 le_p15 le_p16 le_p17 le_p18 le_p19 le_p20 le_p21 le_p22 le_p23 le_p24 le_q0 le_q1 lt_q1 le_q2 lt_q2 le_q3 lt_q3 le_q4 lt_q4 le_q5 lt_q5 le_q6 lt_q6 le_q7 lt_q7 le_q8 lt_q8 le_q9 lt_q9 le_q10 lt_q10 le_q11 lt_q11 le_q12 lt_q12 le_q13 lt_q13 le_q14 lt_q14 le_q15 lt_q15 le_q16 lt_q16 le_q17 lt_q17 le_q18 lt_q18 le_q19 lt_q19 le_q20 lt_q20 le_q21 lt_q21 le_q22 lt_q22 le_q23 lt_q23 le_q24 lt_q24

theorem full_next {l : List Un} {j : Nat} (hj : j < l.length) : full (l.take (j + 1)) = full (l.take j) + (if l[j].empty then 0 else 1) := by
  rw [List.take_succ_eq_append_getElem hj, full_append]
  congr 1
  cases h : l[j].empty <;> simp [full, h]

theorem refPending_any {w : World} {R : Rw} {kv dv : Value} {kept : List Fl} {done : List Un} (h : RefV w R kv dv kept done) (hd : done.length ≤ 800000) (room armed : Int) (live : Nat) (hlive : live ≤ done.length) (gone : Bool) :
    Calls Try.prog 28 #[.agg #[.int .i64 room, kv, dv, .int .i64 (live : Int), .bool gone, .int .i64 armed]] w fun e w' => e = .returned (.int .i64 (full (done.take live) : Int)) ∧ Adds w w' := by
  have HR : Hid (RefV w R kv dv kept done) := h
  obtain ⟨ko, kc, rfl, _⟩ := h.kept.slice
  obtain ⟨dO, dc, rfl, _, _, _⟩ := h.done
  clear h
  go_enter Try.func28, Try.ntmps28
  go_wp2
  go_loopw [3, 4] (fun v i W => ∃ j : Nat, j ≤ live ∧ i = .int .i64 (j : Int) ∧ v = .int .i64 (full (done.take j) : Int) ∧ W = w.alloc (.cells #[.int .i64 room, .slice ko kept.length kc, .slice dO done.length dc, .int .i64 (live : Int), .bool gone, .int .i64 armed] 32)) (fun _ i _ => (live - intOf i).toNat)
  case atStart => exact ⟨0, by omega, rfl, by simp [full], rfl⟩
  case round =>
    obtain ⟨j, hj, rfl, rfl, rfl⟩ := hrel
    by_cases hlt : j < live
    · have hjd : j < done.length := by omega
      obtain ⟨b, off, cap', he, _, hbl, e0, e1, e2, e3⟩ := lie_unit ((RefV.done HR.out)) (i := j) hjd
      simp only [Value.slice.injEq, true_and] at he
      obtain ⟨rfl, x2⟩ := he
      clear x2
      have HN : Hid _ := full_next hjd
      have hfl : full (done.take j) ≤ j := by
        unfold full
        exact Nat.le_trans (List.length_filter_le _ _) (by rw [List.length_take]; omega)
      generalize done[j].empty = q at *
      generalize full (done.take j) = S at *
      have i1 : (j : Int) < (live : Int) := by omega
      cases q
      · go_wp2
        go_roundw
        case rel => exact ⟨j + 1, by omega, by go_num, by rw [HN.out]; go_num, trivial⟩
        case measure => simp [intOf]; omega
      · go_wp2
        go_roundw
        case rel => exact ⟨j + 1, by omega, by go_num, by rw [HN.out]; simp, trivial⟩
        case measure => simp [intOf]; omega
    · obtain rfl : j = live := by omega
      have i1 : ¬ ((j : Int) < (j : Int)) := by omega
      go_wp2
      go_ret
      exact ⟨rfl, by repeat (first | with_reducible exact Adds.refl _ | with_reducible refine Adds.alloc ?_ _ | with_reducible refine Adds.more ?_ _ _ | with_reducible refine Adds.drew ?_ | with_reducible refine Adds.drewN ?_ _)⟩

/-- How far a crash has come: j units are kept, so many more may be. -/
def Came (L : List Un) (n : Nat) (j : Nat) (m : Nat) : Prop := takeU L n = L.take j ++ takeU (L.drop j) m

theorem came_start (L : List Un) (n : Nat) : Came L n 0 n := by simp [Came]

theorem came_empty {L : List Un} {n j m : Nat} (h : Came L n j m) (hj : j < L.length) (he : L[j].empty = true) : Came L n (j + 1) m := by
  unfold Came at *
  rw [h, List.drop_eq_getElem_cons hj, takeU_cons, if_pos he, List.take_succ_eq_append_getElem hj, List.append_assoc]
  rfl

theorem came_full {L : List Un} {n j m : Nat} (h : Came L n j (m + 1)) (hj : j < L.length) (he : L[j].empty = false) : Came L n (j + 1) m := by
  unfold Came at *
  rw [h, List.drop_eq_getElem_cons hj, takeU_cons, if_neg (by simp [he]), List.take_succ_eq_append_getElem hj, List.append_assoc]
  rfl

theorem came_stop {L : List Un} {n j : Nat} (h : Came L n j 0) (hj : j < L.length) (he : L[j].empty = false) : (takeU L n).length = j := by
  unfold Came at h
  rw [h, List.drop_eq_getElem_cons hj, takeU_cons, if_neg (by simp [he])]
  simp
  omega

theorem came_end {L : List Un} {n m : Nat} (h : Came L n L.length m) : (takeU L n).length = L.length := by
  unfold Came at h
  rw [h]
  simp [takeU]

theorem take_at {l : List Un} {n j : Nat} (h : j < (l.take n).length) (h' : j < l.length) : (l.take n)[j] = l[j] := by simp

set_option maxHeartbeats 1000000 in
theorem refCrash_any {w : World} {R : Rw} {kv dv : Value} {kept : List Fl} {done : List Un} (h : RefV w R kv dv kept done) (hF : ∀ i, R.foot i → i < w.heap.size) (hk : kept.length + done.length ≤ 1000000) (hb : ∀ p ∈ kept, p.2.2.length ≤ 100000) (hd : done.length ≤ 800000) (room armed : Int) (live : Nat) (hlive : live ≤ done.length) (gone : Bool) (keep : Int) (hwf : (Lit.int .i64 keep).wf = true) :
    Calls Try.prog 26 #[.agg #[.int .i64 room, kv, dv, .int .i64 (live : Int), .bool gone, .int .i64 armed], .int .i64 keep] w fun e w' => ∃ r l', e = .returned (.agg #[.int .i64 room, r, .slice none 0 0, .int .i64 0, .bool false, .int .i64 (-1)]) ∧ FilesV w' R r l' ∧ kf l' = (done.take (takeU (done.take live) keep.toNat).length).foldl unitK (kf kept) ∧ Adds w w' := by
  have HR : Hid (RefV w R kv dv kept done) := h
  have HFt : Hid (∀ i, R.foot i → i < w.heap.size) := hF
  obtain ⟨ko, kc, rfl, _⟩ := h.kept.slice
  obtain ⟨dO, dc, rfl, _, _, _⟩ := h.done
  have kk := fun (w1 : World) (h1 : Adds w w1) (n : Nat) (hn : n ≤ done.length) => refFiles_any (w := w1) (R := R) (HR.out.adds h1) (fun i hi => Nat.lt_of_lt_of_le (HFt.out i hi) h1.below.size) hk hb hd room (live : Int) armed gone n hn
  clear h hF hb
  have hkb : -9223372036854775808 ≤ keep ∧ keep ≤ 9223372036854775807 := by
    simp [Lit.wf, IntKind.min, IntKind.max, IntKind.signed, IntKind.bits] at hwf
    exact hwf
  have hLl : (done.take live).length = live := by rw [List.length_take]; omega
  have hb1 : ((w.alloc (.cells #[.int .i64 room, Value.slice ko kept.length kc, Value.slice dO done.length dc, .int .i64 (live : Int), .bool gone, .int .i64 armed] 32)).alloc (.cells #[.int .i64 0, .slice none 0 0, .slice none 0 0, .int .i64 0, .bool false, .int .i64 0] 32)).heap[w.heap.size]? = some (.cells #[.int .i64 room, Value.slice ko kept.length kc, Value.slice dO done.length dc, .int .i64 (live : Int), .bool gone, .int .i64 armed] 32 (0, 0)) := blk_old
  have hb2 : ((w.alloc (.cells #[.int .i64 room, Value.slice ko kept.length kc, Value.slice dO done.length dc, .int .i64 (live : Int), .bool gone, .int .i64 armed] 32)).alloc (.cells #[.int .i64 0, .slice none 0 0, .slice none 0 0, .int .i64 0, .bool false, .int .i64 0] 32)).heap[w.heap.size + 1]? = some (.cells #[.int .i64 0, .slice none 0 0, .slice none 0 0, .int .i64 0, .bool false, .int .i64 0] 32 (0, 0)) := blk_new
  have HB1 : Hid _ := hb1
  have HB2 : Hid _ := hb2
  clear hb1 hb2
  go_enter Try.func26, Try.ntmps26
  go_wp2
  go_loopw [1, 5] (fun kpv i W => ∃ (j : Nat) (kp : Int), j ≤ live ∧ i = .int .i64 (j : Int) ∧ kpv = .int .i64 kp ∧ -9223372036854775808 ≤ kp ∧ kp ≤ 9223372036854775807 ∧ Came (done.take live) keep.toNat j kp.toNat ∧ W = (w.alloc (.cells #[.int .i64 room, .slice ko kept.length kc, .slice dO done.length dc, .int .i64 (live : Int), .bool gone, .int .i64 armed] 32)).alloc (.cells #[.int .i64 0, .slice none 0 0, .slice none 0 0, .int .i64 0, .bool false, .int .i64 0] 32)) (fun _ i _ => (live - intOf i).toNat)
  case atStart => exact ⟨0, keep, by omega, rfl, rfl, hkb.1, hkb.2, came_start _ _, rfl⟩
  case round =>
    obtain ⟨j, kp, hj, rfl, rfl, hk1, hk2, hc, rfl⟩ := hrel
    by_cases hgo : j < live ∧ ((∃ h : j < done.length, done[j].empty = true) ∨ 0 < kp)
    · obtain ⟨hlt, hor⟩ := hgo
      have hjd : j < done.length := by omega
      obtain ⟨b, off, cap', he, _, hbl, e0, e1, e2, e3⟩ := lie_unit ((RefV.done HR.out)) (i := j) hjd
      simp only [Value.slice.injEq, true_and] at he
      obtain ⟨rfl, x2⟩ := he
      clear x2
      have i1 : (j : Int) < (live : Int) := by omega
      have hcE := fun he => came_empty hc (by rw [hLl]; exact hlt) (by rw [take_at _ hjd]; exact he)
      have hcF := fun (m : Nat) (hm : kp.toNat = m + 1) he => came_full (m := m) (hm ▸ hc) (by rw [hLl]; exact hlt) (by rw [take_at _ hjd]; exact he)
      have hor' : done[j].empty = true ∨ 0 < kp := hor.imp (fun ⟨_, h⟩ => h) id
      clear hc hor
      generalize done[j].empty = q at *
      cases q
      · have hpos : 0 < kp := by simpa using hor'
        have HC : Hid (Came (done.take live) keep.toNat (j + 1) (kp - 1).toNat) := hcF (kp - 1).toNat (by omega) rfl
        clear hcE hcF hor'
        go_wp2
        go_roundw
        case rel => exact ⟨j + 1, kp - 1, by omega, by go_num, by go_num, by omega, by omega, HC.out, trivial⟩
        case measure => simp [intOf]; omega
      · have HC : Hid _ := hcE rfl
        clear hcE hcF hor'
        go_wp2
        go_roundw
        case rel => exact ⟨j + 1, kp, by omega, by go_num, rfl, hk1, hk2, HC.out, trivial⟩
        case measure => simp [intOf]; omega
    · have HT : Hid ((takeU (done.take live) keep.toNat).length = j) := by
        show (takeU (done.take live) keep.toNat).length = j
        by_cases hlt : j < live
        · have hjd : j < done.length := by omega
          have hne : done[j].empty = false := by
            by_cases h : done[j].empty = true
            · exact absurd ⟨hlt, .inl ⟨hjd, h⟩⟩ hgo
            · simpa using h
          have hk0 : ¬ 0 < kp := fun h => hgo ⟨hlt, .inr h⟩
          have : kp.toNat = 0 := by omega
          rw [this] at hc
          exact came_stop hc (by rw [hLl]; exact hlt) (by rw [take_at _ hjd]; exact hne)
        · have : j = (done.take live).length := by rw [hLl]; omega
          rw [this] at hc
          rw [came_end hc, ← this]
      clear hc
      have kj := fun w1 h1 => kk w1 h1 j (by omega)
      clear kk
      by_cases hlt : j < live
      · have hjd : j < done.length := by omega
        obtain ⟨b, off, cap', he, _, hbl, e0, e1, e2, e3⟩ := lie_unit ((RefV.done HR.out)) (i := j) hjd
        simp only [Value.slice.injEq, true_and] at he
        obtain ⟨rfl, x2⟩ := he
        clear x2
        have i1 : (j : Int) < (live : Int) := by omega
        have hne : done[j].empty = false := by
          by_cases h : done[j].empty = true
          · exact absurd ⟨hlt, .inl ⟨hjd, h⟩⟩ hgo
          · simpa using h
        rw [hne] at e3
        have hk0 : ¬ 0 < kp := fun h => hgo ⟨hlt, .inr h⟩
        clear hgo hne
        go_wp2
        go_region_with (go_at_call 38; refine (kj _ (by repeat (first | with_reducible exact Adds.refl _ | with_reducible refine Adds.alloc ?_ _ | with_reducible refine Adds.more ?_ _ _ | with_reducible refine Adds.drew ?_ | with_reducible refine Adds.drewN ?_ _))).mono ?_; rintro e w5 ⟨r5, l5, rfl, f5, k5, a5⟩; obtain ⟨so, sc, rfl, _⟩ := f5.slice; have b5 := a5.at (Adds.at (by repeat (first | with_reducible exact Adds.refl _ | with_reducible refine Adds.alloc ?_ _ | with_reducible refine Adds.more ?_ _ _ | with_reducible refine Adds.drew ?_ | with_reducible refine Adds.drewN ?_ _)) HB1.out); have e5 := a5.at (Adds.at (by repeat (first | with_reducible exact Adds.refl _ | with_reducible refine Adds.alloc ?_ _ | with_reducible refine Adds.more ?_ _ _ | with_reducible refine Adds.drew ?_ | with_reducible refine Adds.drewN ?_ _)) HB2.out); have c0 : w5.cell? ⟨w.heap.size, 0, none⟩ = some (.int .i64 room) := cell_of_row w5 _ 0 _ _ _ b5; have d0 : w5.cell? ⟨w.heap.size + 1, 0, none⟩ = some (.int .i64 0) := cell_of_row w5 _ 0 _ _ _ e5; have d1 : w5.cell? ⟨w.heap.size + 1, 1, none⟩ = some (.slice none 0 0) := cell_of_row w5 _ 1 _ _ _ e5; have d2 : w5.cell? ⟨w.heap.size + 1, 2, none⟩ = some (.slice none 0 0) := cell_of_row w5 _ 2 _ _ _ e5; have d3 : w5.cell? ⟨w.heap.size + 1, 3, none⟩ = some (.int .i64 0) := cell_of_row w5 _ 3 _ _ _ e5; have d4 : w5.cell? ⟨w.heap.size + 1, 4, none⟩ = some (.bool false) := cell_of_row w5 _ 4 _ _ _ e5; have d5 : w5.cell? ⟨w.heap.size + 1, 5, none⟩ = some (.int .i64 0) := cell_of_row w5 _ 5 _ _ _ e5; have f1 : ∀ i, w5.frozen? ⟨w.heap.size, i, none⟩ = false := fun i => frozen_of b5; have f3 : ∀ i, w5.frozen? ⟨w.heap.size + 1, i, none⟩ = false := fun i => frozen_of e5; have hs5 : w.heap.size + 1 < w5.heap.size := (Array.getElem?_eq_some_iff.1 e5).1; have HN : Hid (FilesV w5 R (.slice so l5.length sc) l5 ∧ kf l5 = (done.take j).foldl unitK (kf kept) ∧ Adds w w5) := ⟨f5, k5, Adds.trans (by repeat (first | with_reducible exact Adds.refl _ | with_reducible refine Adds.alloc ?_ _ | with_reducible refine Adds.more ?_ _ _ | with_reducible refine Adds.drew ?_ | with_reducible refine Adds.drewN ?_ _)) a5⟩; have HK : Hid ((∃ C, w5.heap[w.heap.size]? = some (.cells C 32 (0, 0))) ∧ ∃ C, w5.heap[w.heap.size + 1]? = some (.cells C 32 (0, 0))) := ⟨⟨_, b5⟩, ⟨_, e5⟩⟩; clear f5 k5 a5 b5 e5 kj)
        all_goals
          go_wp2
          refine bodyPost_ret (v := .agg #[.int .i64 room, .slice so l5.length sc, .slice none 0 0, .int .i64 0, .bool false, .int .i64 (-1)]) (by simp [results, Try.results26, go_sem, d0, d1, d2, d3, d4, d5]) rfl ⟨_, l5, rfl, ?_⟩
          rw [HT.out]
          exact sync_end HN.out.1 HN.out.2.1 HN.out.2.2 HK.out.1 HK.out.2 (by repeat (first | with_reducible exact Turn2.refl _ _ _ | with_reducible refine Turn2.set1 ?_ _ _ | with_reducible refine Turn2.set2 ?_ _ _))
      · have i1 : ¬ ((j : Int) < (live : Int)) := by omega
        clear hgo
        go_wp2
        go_region_with (go_at_call 38; refine (kj _ (by repeat (first | with_reducible exact Adds.refl _ | with_reducible refine Adds.alloc ?_ _ | with_reducible refine Adds.more ?_ _ _ | with_reducible refine Adds.drew ?_ | with_reducible refine Adds.drewN ?_ _))).mono ?_; rintro e w5 ⟨r5, l5, rfl, f5, k5, a5⟩; obtain ⟨so, sc, rfl, _⟩ := f5.slice; have b5 := a5.at (Adds.at (by repeat (first | with_reducible exact Adds.refl _ | with_reducible refine Adds.alloc ?_ _ | with_reducible refine Adds.more ?_ _ _ | with_reducible refine Adds.drew ?_ | with_reducible refine Adds.drewN ?_ _)) HB1.out); have e5 := a5.at (Adds.at (by repeat (first | with_reducible exact Adds.refl _ | with_reducible refine Adds.alloc ?_ _ | with_reducible refine Adds.more ?_ _ _ | with_reducible refine Adds.drew ?_ | with_reducible refine Adds.drewN ?_ _)) HB2.out); have c0 : w5.cell? ⟨w.heap.size, 0, none⟩ = some (.int .i64 room) := cell_of_row w5 _ 0 _ _ _ b5; have d0 : w5.cell? ⟨w.heap.size + 1, 0, none⟩ = some (.int .i64 0) := cell_of_row w5 _ 0 _ _ _ e5; have d1 : w5.cell? ⟨w.heap.size + 1, 1, none⟩ = some (.slice none 0 0) := cell_of_row w5 _ 1 _ _ _ e5; have d2 : w5.cell? ⟨w.heap.size + 1, 2, none⟩ = some (.slice none 0 0) := cell_of_row w5 _ 2 _ _ _ e5; have d3 : w5.cell? ⟨w.heap.size + 1, 3, none⟩ = some (.int .i64 0) := cell_of_row w5 _ 3 _ _ _ e5; have d4 : w5.cell? ⟨w.heap.size + 1, 4, none⟩ = some (.bool false) := cell_of_row w5 _ 4 _ _ _ e5; have d5 : w5.cell? ⟨w.heap.size + 1, 5, none⟩ = some (.int .i64 0) := cell_of_row w5 _ 5 _ _ _ e5; have f1 : ∀ i, w5.frozen? ⟨w.heap.size, i, none⟩ = false := fun i => frozen_of b5; have f3 : ∀ i, w5.frozen? ⟨w.heap.size + 1, i, none⟩ = false := fun i => frozen_of e5; have hs5 : w.heap.size + 1 < w5.heap.size := (Array.getElem?_eq_some_iff.1 e5).1; have HN : Hid (FilesV w5 R (.slice so l5.length sc) l5 ∧ kf l5 = (done.take j).foldl unitK (kf kept) ∧ Adds w w5) := ⟨f5, k5, Adds.trans (by repeat (first | with_reducible exact Adds.refl _ | with_reducible refine Adds.alloc ?_ _ | with_reducible refine Adds.more ?_ _ _ | with_reducible refine Adds.drew ?_ | with_reducible refine Adds.drewN ?_ _)) a5⟩; have HK : Hid ((∃ C, w5.heap[w.heap.size]? = some (.cells C 32 (0, 0))) ∧ ∃ C, w5.heap[w.heap.size + 1]? = some (.cells C 32 (0, 0))) := ⟨⟨_, b5⟩, ⟨_, e5⟩⟩; clear f5 k5 a5 b5 e5 kj)
        all_goals
          go_wp2
          refine bodyPost_ret (v := .agg #[.int .i64 room, .slice so l5.length sc, .slice none 0 0, .int .i64 0, .bool false, .int .i64 (-1)]) (by simp [results, Try.results26, go_sem, d0, d1, d2, d3, d4, d5]) rfl ⟨_, l5, rfl, ?_⟩
          rw [HT.out]
          exact sync_end HN.out.1 HN.out.2.1 HN.out.2.2 HK.out.1 HK.out.2 (by repeat (first | with_reducible exact Turn2.refl _ _ _ | with_reducible refine Turn2.set1 ?_ _ _ | with_reducible refine Turn2.set2 ?_ _ _))

end Go.Proofs.Ytinfoblgojnjfaa
