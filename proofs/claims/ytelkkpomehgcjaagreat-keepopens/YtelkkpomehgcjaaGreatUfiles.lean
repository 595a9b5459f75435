/-
  The reference's functions Files and Seen by contracts.
-/
import Derived.Test.YtelkkpomehgcjaaGreatUnit2
namespace Go.Proofs.YtelkkpomehgcjaaGreat
open Go.RowKit Go.Maps
attribute [local go_sem] cell?_more frozen?_more setCell_more size_more tape_more drew_more drewN_more more_drew more_drewN more_more one_out plus_out plus_end lt_one le_p2 le_p3 le_p4 le_p5 le_p6 le_p7 le_p8 le_p9 le_p10 le_p11 le_p12 le_p13 le_p14 le_p15 le_p16 le_p17 le_p18 le_p19 le_p20 le_p21 le_p22 le_p23 le_p24 le_q0 le_q1 lt_q1 le_q2 lt_q2 le_q3 lt_q3 le_q4 lt_q4 le_q5 lt_q5 le_q6 lt_q6 le_q7 lt_q7 le_q8 lt_q8 le_q9 lt_q9 le_q10 lt_q10 le_q11 lt_q11 le_q12 lt_q12 le_q13 lt_q13 le_q14 lt_q14 le_q15 lt_q15 le_q16 lt_q16 le_q17 lt_q17 le_q18 lt_q18 le_q19 lt_q19 le_q20 lt_q20 le_q21 lt_q21 le_q22 lt_q22 le_q23 lt_q23 le_q24 lt_q24

theorem goU_length (u : Un) : ∀ (l : Kf) (p : Bool), (goU u l p).length ≤ l.length + (if p then 0 else 1)
  | [], p => by cases p <;> simp [goU]
  | f :: r, p => by
    have h1 := goU_length u r true
    have h2 := goU_length u r p
    have h3 := goU_length u r (p || decide (u.n < f.1))
    unfold goU
    cases p
    · by_cases hlt : u.n < f.1
      · have hne : f.1 ≠ u.n := by omega
        simp [hlt, hne] at *
        omega
      · by_cases he : f.1 = u.n
        · by_cases hd : u.drop = true
          · simp [he, hd] at *
            omega
          · simp [he, hd] at *
            omega
        · simp [hlt, he] at *
          omega
    · by_cases he : f.1 = u.n
      · by_cases hd : u.drop = true
        · simp [he, hd] at *
          omega
        · simp [he, hd] at *
          omega
      · simp [he] at *
        omega

theorem goU_bytes (u : Un) {M : Nat} (hM : 1 ≤ M) : ∀ (l : Kf) (p : Bool), (∀ q ∈ l, q.2.length ≤ M) → ∀ q ∈ goU u l p, q.2.length ≤ M + 1
  | [], p, _, q, hq => by
    cases p
    · simp [goU, Un.new] at hq
      subst hq
      simp only
      split <;> simp
    · simp [goU] at hq
  | f :: r, p, h, q, hq => by
    have hr := fun p => goU_bytes u hM r p fun x hx => h x (by simp [hx])
    have hf := h f (by simp)
    have hnew : u.new.2.length ≤ M + 1 := by
      unfold Un.new
      simp only
      split <;> simp
    unfold goU at hq
    rcases List.mem_append.1 hq with hq | hq
    · split at hq
      · simp only [List.mem_singleton] at hq
        rw [hq]
        exact hnew
      · simp at hq
    · split at hq
      · split at hq
        · exact hr _ q hq
        · rcases List.mem_cons.1 hq with rfl | hq
          · simp only
            split
            · omega
            · simp
              omega
          · exact hr _ q hq
      · rcases List.mem_cons.1 hq with rfl | hq
        · omega
        · exact hr _ q hq

theorem unitK_length (l : Kf) (u : Un) : (unitK l u).length ≤ l.length + 1 := by
  have := goU_length u l u.drop
  unfold unitK
  split at this <;> omega

theorem foldl_length (us : List Un) (l : Kf) : (us.foldl unitK l).length ≤ l.length + us.length := by
  induction us generalizing l with
  | nil => simp
  | cons u r ih =>
    have h1 := ih (unitK l u)
    have h2 := unitK_length l u
    simp only [List.foldl_cons, List.length_cons]
    omega

theorem foldl_bytes (us : List Un) : ∀ (l : Kf) (M : Nat), 1 ≤ M → (∀ q ∈ l, q.2.length ≤ M) → ∀ q ∈ us.foldl unitK l, q.2.length ≤ M + us.length := by
  induction us with
  | nil => intro l M _ h q hq; exact h q hq
  | cons u r ih =>
    intro l M hM h q hq
    have := ih (unitK l u) (M + 1) (by omega) (goU_bytes u hM l u.drop h) q hq
    simp only [List.length_cons]
    omega

theorem kf_length (l : List Fl) : (kf l).length = l.length := by simp [kf]

theorem cellsU_get : ∀ (l : List Un) (i : Nat) (hi : i < l.length) (r : Nat) (_hr : r < 4), (cellsU l)[i * 4 + r]? = l[i].cells[r]?
  | f :: t, 0, _, r, hr => by
    simp only [cellsU, List.flatMap_cons, Nat.zero_mul, Nat.zero_add, List.getElem_cons_zero]
    rw [List.getElem?_append_left (by simp [Un.cells]; omega)]
  | f :: t, i + 1, hi, r, hr => by
    have hi' : i < t.length := by simpa using hi
    have := cellsU_get t i hi' r hr
    simp only [cellsU, List.flatMap_cons, List.getElem_cons_succ] at this ⊢
    rw [List.getElem?_append_right (by simp [Un.cells]; omega), ← this]
    congr 1
    simp [Un.cells]
    omega

/-- Unit i of a row. -/
theorem lie_unit {w : World} {v : Value} {l : List Un} (h : Lie w 83 4 v l.length (cellsU l)) {i : Nat} (hi : i < l.length) :
    ∃ b off cap, v = .slice (some ⟨b, off, none⟩) l.length cap ∧ l.length ≤ cap ∧ b < w.heap.size ∧ w.cell? ⟨b, off + i * 4, none⟩ = some (.int .i64 l[i].n) ∧ w.cell? ⟨b, off + i * 4 + 1, none⟩ = some (.int .u8 (l[i].c.toNat : Int)) ∧ w.cell? ⟨b, off + i * 4 + 2, none⟩ = some (.bool l[i].drop) ∧ w.cell? ⟨b, off + i * 4 + 3, none⟩ = some (.bool l[i].empty) := by
  obtain ⟨ao, cap, rfl, hc, _, hx⟩ := h
  rcases hx with hx | ⟨b, off, C, rfl, hb, hx⟩
  · omega
  · have g := fun r hr => cellsU_get l i hi r hr
    refine ⟨b, off, cap, rfl, hc, (Array.getElem?_eq_some_iff.1 hb).1, ?_, ?_, ?_, ?_⟩
    · exact hx (i * 4) _ (g 0 (by omega))
    · exact hx (i * 4 + 1) _ (g 1 (by omega))
    · exact hx (i * 4 + 2) _ (g 2 (by omega))
    · exact hx (i * 4 + 3) _ (g 3 (by omega))

/-- The reference's reel in memory. -/
structure RefV (w : World) (R : Rw) (kv dv : Value) (kept : List Fl) (done : List Un) : Prop where
  kept : FilesV w R kv kept
  done : Lie w 83 4 dv done.length (cellsU done)

theorem RefV.adds {w w' : World} {R : Rw} {kv dv : Value} {kept : List Fl} {done : List Un} (h : RefV w R kv dv kept done) (ha : Adds w w') : RefV w' R kv dv kept done := ⟨h.kept.adds ha, h.done.adds ha⟩

theorem FilesV.slice {w : World} {R : Rw} {v : Value} {l : List Fl} (h : FilesV w R v l) : ∃ ao cap, v = .slice ao l.length cap ∧ l.length ≤ cap := by
  obtain ⟨ao, cap, rfl, hc, _⟩ := h.row
  exact ⟨ao, cap, rfl, hc⟩

theorem refFiles_any {w : World} {R : Rw} {kv dv : Value} {kept : List Fl} {done : List Un} (h : RefV w R kv dv kept done) (hF : ∀ i, R.foot i → i < w.heap.size) (hk : kept.length + done.length ≤ 1000000) (hb : ∀ p ∈ kept, p.2.2.length ≤ 100000) (hd : done.length ≤ 800000) (room live armed : Int) (gone : Bool) (n : Nat) (hn : n ≤ done.length) :
    Calls Tryz.prog 37 #[.agg #[.int .i64 room, kv, dv, .int .i64 live, .bool gone, .int .i64 armed], .int .i64 (n : Int)] w fun e w' => ∃ r l', e = .returned r ∧ FilesV w' R r l' ∧ kf l' = (done.take n).foldl unitK (kf kept) ∧ Adds w w' := by
  have HR : Hid (RefV w R kv dv kept done) := h
  have HFt : Hid (∀ i, R.foot i → i < w.heap.size) := hF
  have HB : Hid (∀ p ∈ kept, p.2.2.length ≤ 100000) := hb
  obtain ⟨ko, kc, rfl, _⟩ := h.kept.slice
  obtain ⟨dO, dc, rfl, _, _, _⟩ := h.done
  have hbx := new_block w (.cells #[.int .i64 room, Value.slice ko kept.length kc, Value.slice dO done.length dc, .int .i64 live, .bool gone, .int .i64 armed] 36)
  have HBX : Hid ((w.alloc (.cells #[.int .i64 room, Value.slice ko kept.length kc, Value.slice dO done.length dc, .int .i64 live, .bool gone, .int .i64 armed] 36)).heap[w.heap.size]? = some (.cells #[.int .i64 room, Value.slice ko kept.length kc, Value.slice dO done.length dc, .int .i64 live, .bool gone, .int .i64 armed] 36 (0, 0))) := hbx
  clear h hF hb hbx
  go_enter Tryz.func37, Tryz.ntmps37
  go_wp2
  go_loopw [5, 6] (fun v i W => ∃ (j : Nat) (lj : List Fl), j ≤ n ∧ i = .int .i64 (j : Int) ∧ FilesV W R v lj ∧ kf lj = (done.take j).foldl unitK (kf kept) ∧ Adds (w.alloc (.cells #[.int .i64 room, Value.slice ko kept.length kc, Value.slice dO done.length dc, .int .i64 live, .bool gone, .int .i64 armed] 36)) W) (fun _ i _ => (n - intOf i).toNat)
  case atStart => exact ⟨0, kept, by omega, rfl, FilesV.adds (RefV.kept HR.out) ((Adds.refl _).alloc _), by simp, Adds.refl _⟩
  case round =>
    obtain ⟨j, lj, hj, rfl, hv, hkf, hA⟩ := hrel
    have HV : Hid (FilesV wr R u5 lj) := hv
    have HK : Hid (kf lj = (done.take j).foldl unitK (kf kept)) := hkf
    have HA : Hid (Adds w wr) := ((Adds.refl _).alloc _).trans hA
    have HA' : Hid (Adds (w.alloc (.cells #[.int .i64 room, Value.slice ko kept.length kc, Value.slice dO done.length dc, .int .i64 live, .bool gone, .int .i64 armed] 36)) wr) := hA
    have hbr := hA.at HBX.out
    have c2 : wr.cell? ⟨w.heap.size, 2, none⟩ = some (.slice dO done.length dc) := cell_of_row wr _ 2 _ _ _ hbr
    clear hv hkf hA hbr
    by_cases hlt : j < n
    · obtain ⟨b, off, cap', he, _, hbl, e0, e1, e2, e3⟩ := lie_unit ((RefV.done HR.out).adds HA.out) (i := j) (by omega)
      simp only [Value.slice.injEq, true_and] at he
      obtain ⟨rfl, x2⟩ := he
      clear x2
      have hlen : lj.length ≤ 1000000 := by
        have h1 := foldl_length (done.take j) (kf kept)
        rw [← HK.out, kf_length, kf_length] at h1
        simp at h1
        omega
      have hbys : ∀ p ∈ lj, p.2.2.length ≤ 1000000 := by
        intro p hp
        have h1 := foldl_bytes (done.take j) (kf kept) 100000 (by omega) (fun q hq => by
          obtain ⟨x, hx, rfl⟩ := List.mem_map.1 hq
          exact HB.out x hx) (p.1, p.2.2) (by rw [← HK.out]; exact List.mem_map.2 ⟨p, hp, rfl⟩)
        simp at h1
        omega
      have kU := unit_any u5 lj done[j] R wr HV.out (fun i hi => Nat.lt_of_lt_of_le (HFt.out i hi) HA.out.below.size) (by omega) hbys
      have HK2 : Hid (unitK (kf lj) done[j] = (done.take (j + 1)).foldl unitK (kf kept)) := by
        show _ = _
        rw [List.take_succ_eq_append_getElem (by omega), List.foldl_append, ← HK.out]
        rfl
      have i1 : (j : Int) < (n : Int) := by omega
      have i2 : (j : Int) < (done.length : Int) := by omega
      clear hlen hbys
      generalize done[j] = u at *
      go_wp2_with (go_at_call 69; refine kU.mono ?_; rintro e w5 ⟨r5, l5, rfl, f5, k5, a5⟩)
      have HN : Hid (FilesV w5 R r5 l5 ∧ kf l5 = unitK (kf lj) u ∧ Adds wr w5) := ⟨f5, k5, a5⟩
      clear f5 k5 a5 kU
      go_roundw
      case rel => exact ⟨j + 1, l5, by omega, by go_num, HN.out.1, HN.out.2.1.trans HK2.out, Adds.trans HA'.out HN.out.2.2⟩
      case measure => simp [intOf]; omega
    · obtain rfl : j = n := by omega
      have i1 : ¬ ((j : Int) < (j : Int)) := by omega
      go_wp2
      go_ret
      exact ⟨_, rfl, _, HV.out, HK.out, HA.out⟩

end Go.Proofs.YtelkkpomehgcjaaGreat
