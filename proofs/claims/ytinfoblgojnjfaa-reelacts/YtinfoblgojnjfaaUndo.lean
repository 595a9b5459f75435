/-
  The method undo by contract.
-/
import Derived.Test.YtinfoblgojnjfaaHist
import Derived.Deep.CutBlock
namespace Go.Proofs.Ytinfoblgojnjfaa
open Go.RowKit Go.Maps

/-- How many deeds stay whole, and how many units more. -/
def scan : List Dd → Nat → Nat × Nat
  | [], n => (0, n)
  | d :: r, n => if d.units ≤ n then ((scan r (n - d.units)).1 + 1, (scan r (n - d.units)).2) else (0, n)

theorem scan_le : ∀ (ds : List Dd) (n : Nat), (scan ds n).1 ≤ ds.length
  | [], _ => Nat.le_refl _
  | d :: r, n => by
    unfold scan
    split
    · simpa using scan_le r (n - d.units)
    · simp

/-- Files behind so many units. -/
def keepF (f : Fs) (ds : List Dd) (n : Nat) : Fs :=
  match ds.drop (scan ds n).1 with
  | [] => replay f (ds.take (scan ds n).1)
  | d :: _ => part (replay f (ds.take (scan ds n).1)) d (scan ds n).2

theorem scan_at : ∀ (ds : List Dd) (n : Nat) (h : (scan ds n).1 < ds.length), (scan ds n).2 < (ds[(scan ds n).1]).units
  | [], _, h => by simp [scan] at h
  | d :: r, n, h => by
    unfold scan at h ⊢
    split
    · rename_i hd
      rw [if_pos hd] at h
      simp only [List.length_cons, Nat.add_lt_add_iff_right] at h
      exact scan_at r _ h
    · rename_i hd
      simp
      omega

theorem scan_snd : ∀ (ds : List Dd) (n : Nat), (scan ds n).2 ≤ n
  | [], _ => Nat.le_refl _
  | d :: r, n => by
    unfold scan
    split
    · exact Nat.le_trans (scan_snd r (n - d.units)) (Nat.sub_le _ _)
    · exact Nat.le_refl _

theorem scan_cons (d : Dd) (r : List Dd) (n : Nat) : scan (d :: r) n = if d.units ≤ n then ((scan r (n - d.units)).1 + 1, (scan r (n - d.units)).2) else (0, n) := rfl

/-- A deed in the row. -/
theorem deed_cells {w : World} {B : Nat} {dn : Value} {ds : List (Dd × Value)} (h : w.ownsRow B 68 5 dn ds.length (cellsD ds)) (i : Nat) (hi : i < ds.length) :
    ∃ g cap, dn = .slice (some ⟨g, 0, none⟩) ds.length cap ∧ ds.length ≤ cap ∧ g < w.heap.size ∧ ∀ r, r < 5 → w.cell? ⟨g, i * 5 + r, none⟩ = (ds[i].1.cells ds[i].2)[r]? := by
  have hc := fun g => h.cells (g := g)
  have hlt := h.lt
  rcases h.2 with ⟨rfl, hn⟩ | ⟨g, cap, cur, rfl, hb, hg, hnc, _⟩
  · omega
  · refine ⟨g, cap, rfl, hnc, (hlt g rfl).2, fun r hr => ?_⟩
    have := hc g rfl (i * 5 + r)
    rw [cellsD_get ds i hi r hr] at this
    rw [add_at, Nat.zero_add] at this
    have hx : (ds[i].1.cells ds[i].2)[r]? = some ((ds[i].1.cells ds[i].2)[r]'(by simpa [Dd.cells] using hr)) := by simp
    rw [hx]
    exact this _ hx

/-- The reel R with all deeds behind the first j undone. -/
structure Undone (w : World) (B : Nat) (R : Rw) (f : Fs) (D : List Dd) (j : Nat) (W : World) (R' : Rw) : Prop where
  mem : Mem W B R'
  moves : Moves w R W R'
  ds : R'.ds = R.ds.take j
  dead : R'.dead = R.ds.drop j
  dn : R'.dn = R.dn
  p : R'.p = R.p
  m : R'.m = R.m
  room : R'.room = R.room
  files : filesF R'.fs = replay f (D.take j)
  size : size R'.rows ≤ size R.rows
  count : R'.count = R.count

theorem Undone.bulk {w W : World} {B : Nat} {R R' : Rw} {f : Fs} {D : List Dd} {j : Nat} (h : Undone w B R f D j W R') (hd : R.dead = []) : R'.bulk ≤ R.bulk := by
  have h1 := h.size
  unfold Rw.bulk
  rw [h.ds, h.dead, h.count, hd]
  simp only [List.length_take, List.length_drop, List.length_nil]
  omega

theorem Undone.cells {w W : World} {B : Nat} {R R' : Rw} {f : Fs} {D : List Dd} {j : Nat} (h : Undone w B R f D j W R') : W.ownsRow B 68 5 R.dn R.ds.length (cellsD R.ds) := by
  have := h.mem.hd
  rwa [h.ds, h.dead, List.take_append_drop, h.dn] at this

theorem Undone.last {w W : World} {B : Nat} {R R' : Rw} {f : Fs} {D : List Dd} {j : Nat} (h : Undone w B R f D (j + 1) W R') (hj : j < R.ds.length) : ∃ ao l c, R.ds[j].2 = .slice ao l c := by
  have : (R.ds[j].2, R.ds[j].1.lost) ∈ R'.rows := by
    refine List.mem_append.2 (.inr (List.mem_map.2 ⟨R.ds[j], ?_, rfl⟩))
    rw [h.ds, List.take_succ_eq_append_getElem hj]
    exact List.mem_append_right _ (List.mem_singleton.2 rfl)
  exact row_slice (h.mem.hr _ this)

/-- One deed more undone. -/
theorem Undone.back {w W : World} {B : Nat} {R R' : Rw} {f : Fs} {D : List Dd} {j : Nat} (h : Undone w B R f D (j + 1) W R') (hd : R.dead = []) (hD : D = R.ds.map (·.1)) (hok : okAll f D) (hj : j < R.ds.length) (hb : R.bulk ≤ 1099511627776) (n : Nat) (hn : n = 0 ∨ n < R.ds[j].1.units) :
    Calls Try.prog 41 #[ptr R.p, .agg #[.int .i64 R.ds[j].1.file, .int .i64 (R.ds[j].1.units : Int), .bool R.ds[j].1.fresh, .bool R.ds[j].1.drop, R.ds[j].2], .int .i64 (n : Int)] W fun e w' => e = .returned (.tuple #[]) ∧
      ∃ R'', Mem w' B R'' ∧ Moves w R w' R'' ∧ filesF R''.fs = part (replay f (D.take j)) R.ds[j].1 n ∧ R''.ds = R.ds.take j ∧ R''.dead = R.ds.drop j ∧ R''.dn = R.dn ∧ R''.p = R.p ∧ R''.m = R.m ∧ R''.room = R.room ∧ Ytinfoblgojnjfaa.size R''.rows ≤ Ytinfoblgojnjfaa.size R.rows ∧ R''.count = R.count := by
  have hDl : D.length = R.ds.length := by rw [hD]; simp
  have hDj : D[j]'(by omega) = R.ds[j].1 := by simp [hD]
  have he : R'.ds = R.ds.take j ++ [(R.ds[j].1, R.ds[j].2)] := by
    rw [h.ds, List.take_succ_eq_append_getElem hj]
  have hDt : D.take (j + 1) = D.take j ++ [R.ds[j].1] := by
    rw [List.take_succ_eq_append_getElem (by omega), hDj]
  have hf : filesF R'.fs = step (replay f (D.take j)) R.ds[j].1 := by
    rw [h.files, hDt, replay_append, replay_one]
  have hokj : okD (replay f (D.take j)) R.ds[j].1 := by
    have h1 : okAll f (D.take (j + 1) ++ D.drop (j + 1)) := by rw [List.take_append_drop]; exact hok
    have h2 := ((okAll_append _ _ _).1 h1).1
    rw [hDt] at h2
    exact ((okAll_append _ _ _).1 h2).2.1
  have key := back_any h.mem he hf hokj n hn (Nat.le_trans (h.bulk hd) hb)
  rw [h.p] at key
  refine key.mono ?_
  rintro e w1 ⟨rfl, fs, hm, hmv, hfs, hsz⟩
  refine ⟨rfl, _, hm, h.moves.trans hmv, hfs, rfl, ?_, h.dn, h.p, h.m, h.room, Nat.le_trans hsz h.size, h.count⟩
  show (R.ds[j].1, R.ds[j].2) :: R'.dead = _
  rw [h.dead, List.drop_eq_getElem_cons hj]

theorem undo_any {w : World} {B : Nat} {R : Rw} (h : Mem w B R) (hdead : R.dead = []) {f : Fs} (hok : okAll f (R.ds.map (·.1))) (hf : filesF R.fs = replay f (R.ds.map (·.1))) (n : Nat) (hn : n ≤ R.count) (hb : R.bulk ≤ 1099511627776) (hB : B ≤ w.heap.size) :
    Calls Try.prog 35 #[ptr R.p, .int .i64 (n : Int)] w fun e w' => e = .returned (.tuple #[]) ∧
      ∃ R', Mem w' B R' ∧ Moves w R w' R' ∧ filesF R'.fs = keepF f (R.ds.map (·.1)) n ∧ R'.bulk ≤ R.bulk ∧ R'.p = R.p ∧ R'.m = R.m ∧ R'.room = R.room := by
  obtain ⟨D, hD⟩ : ∃ D, D = R.ds.map (·.1) := ⟨_, rfl⟩
  rw [← hD] at hok hf ⊢
  have hDl : D.length = R.ds.length := by rw [hD]; simp
  have hdl : R.ds.length ≤ 1099511627776 := by unfold Rw.bulk at hb; omega
  have hcl : R.count ≤ 1099511627776 := by unfold Rw.bulk at hb; omega
  have hd0 : w.ownsRow B 68 5 R.dn R.ds.length (cellsD R.ds) := by
    have := h.hd
    rwa [hdead, List.append_nil] at this
  have c3 : w.cell? ⟨R.p, 3, none⟩ = some R.dn := h.cell 3
  obtain ⟨ao, l0, cp, hdn⟩ := row_slice hd0
  have hl0 : l0 = R.ds.length := by
    rcases hd0.2 with ⟨e, e'⟩ | ⟨g, cap, cur, e, _⟩
    · rw [hdn] at e
      simp only [Value.slice.injEq] at e
      omega
    · rw [hdn] at e
      simp only [Value.slice.injEq] at e
      omega
  subst hl0
  rw [hdn] at c3
  have hsl := scan_le D n
  obtain ⟨k0, w0, hk0, hw0⟩ : ∃ k0 w0 : Nat, (scan D n).2 = k0 ∧ (scan D n).1 = w0 := ⟨_, _, rfl, rfl⟩
  have hsa : ∀ (hlt : w0 < D.length), k0 < D[w0].units := by
    subst hk0 hw0
    exact scan_at D n
  have HK : Hid (keepF f D n = match D.drop w0 with | [] => replay f (D.take w0) | d :: _ => part (replay f (D.take w0)) d k0) := by
    show keepF f D n = _
    subst hk0 hw0
    rfl
  have hkle : k0 ≤ n := by
    subst hk0
    exact scan_snd D n
  have HS0 : Hid (scan D n = (w0, k0)) := by
    show scan D n = _
    rw [← hk0, ← hw0]
  rw [hw0] at hsl
  clear hk0 hw0
  go_enter Try.func35, Try.ntmps35
  go_upto_block 0 with fail
  go_cut [1, 4] from 6 (fun k i wc => k = .int .i64 (k0 : Int) ∧ i = .int .i64 (w0 : Int) ∧ wc = w)
  case first =>
    go_wp2
    go_loopw [1, 4] (fun k i W => ∃ (kn im : Nat), k = .int .i64 (kn : Int) ∧ i = .int .i64 (im : Int) ∧ im ≤ D.length ∧ kn ≤ n ∧ (w0, k0) = (im + (scan (D.drop im) kn).1, (scan (D.drop im) kn).2) ∧ W = w) (fun _ i _ => (D.length - intOf i).toNat)
    case atStart => exact ⟨n, 0, rfl, rfl, Nat.zero_le _, Nat.le_refl _, by simp [HS0.out], rfl⟩
    case round =>
      obtain ⟨kn, im, rfl, rfl, him, hkn, hsc, rfl⟩ := hrel
      have HS : Hid _ := hsc
      clear hsc
      by_cases hlt : im < D.length
      · obtain ⟨g, cap, hdn', hcap, hgl, hcell⟩ := deed_cells hd0 im (by omega)
        rw [hdn] at hdn'
        simp only [Value.slice.injEq, true_and] at hdn'
        obtain ⟨rfl, rfl⟩ := hdn'
        have hDi : R.ds[im].1 = D[im] := by simp [hD]
        have hu : wr.cell? ⟨g, im * 5 + 1, none⟩ = some (.int .i64 (D[im].units : Int)) := by
          rw [← hDi]
          exact hcell 1 (by omega)
        have hdrop : D.drop im = D[im] :: D.drop (im + 1) := List.drop_eq_getElem_cons hlt
        have HN : Hid _ := hdrop
        have hlt' : im < R.ds.length := by omega
        clear hcell hDi hdrop
        by_cases hfit : D[im].units ≤ kn
        · have HS2 : Hid ((w0, k0) = ((im + 1) + (scan (D.drop (im + 1)) (kn - D[im].units)).1, (scan (D.drop (im + 1)) (kn - D[im].units)).2)) := by
            show _ = _
            rw [HS.out, HN.out, scan_cons, if_pos hfit]
            simp only [Prod.mk.injEq, and_true]
            omega
          clear HS HN
          generalize D[im].units = U at *
          go_wp2
          go_roundw
          case rel => exact ⟨kn - U, im + 1, by rw [Int.natCast_sub hfit], by go_num, by omega, by omega, HS2.out, trivial⟩
          case measure => simp [intOf]; omega
        · have HS2 : Hid (w0 = im ∧ k0 = kn) := by
            show _ ∧ _
            have e := HS.out
            rw [HN.out, scan_cons, if_neg hfit] at e
            simp only [Prod.mk.injEq, Nat.add_zero] at e
            exact e
          have hfit' : (kn : Int) < (D[im].units : Int) := by omega
          clear HS HN hfit
          generalize D[im].units = U at *
          go_wp2
          go_meet
          case rel =>
            obtain ⟨rfl, rfl⟩ := HS2.out
            exact ⟨rfl, rfl, rfl⟩
      · have HS2 : Hid (w0 = im ∧ k0 = kn) := by
          show _ ∧ _
          have e := HS.out
          rw [List.drop_of_length_le (by omega)] at e
          simp only [scan, Prod.mk.injEq, Nat.add_zero] at e
          exact e
        have hlt' : ¬ im < R.ds.length := by omega
        have him' : im = R.ds.length := by omega
        subst him'
        clear HS
        go_wp2
        go_meet
        case rel =>
          obtain ⟨rfl, rfl⟩ := HS2.out
          exact ⟨rfl, rfl, rfl⟩
  case rest =>
    obtain ⟨rfl, rfl, hwc⟩ := hcut
    have hwc' := hwc.symm
    subst hwc'
    have hU : Undone w B R f D R.ds.length w R := by
      refine ⟨h, Moves.refl _ _, by simp, by simp [hdead], rfl, rfl, rfl, rfl, ?_, Nat.le_refl _, rfl⟩
      rw [← hDl, List.take_length]
      exact hf
    have HU : Hid _ := hU
    clear hU
    go_upto_block 2 with fail
    go_cut [5] from 6 (fun _ W => ∃ (j : Nat) (R' : Rw), j ≤ R.ds.length ∧ (w0 < R.ds.length → j = w0 + 1) ∧ (¬ w0 < R.ds.length → j = R.ds.length) ∧ Undone w B R f D j W R')
    case first =>
      go_wp2
      go_loopw [5] (fun i W => ∃ (x : Int) (j : Nat) (R' : Rw), i = .int .i64 x ∧ x = (j : Int) - 1 ∧ j ≤ R.ds.length ∧ (w0 < R.ds.length → w0 + 1 ≤ j) ∧ (¬ w0 < R.ds.length → j = R.ds.length) ∧ Undone w B R f D j W R') (fun i _ => (intOf i + 1).toNat)
      case atStart => exact ⟨_, R.ds.length, R, rfl, rfl, Nat.le_refl _, fun h => h, fun _ => rfl, HU.out⟩
      case round =>
        obtain ⟨x, j, R', rfl, hx, hj, hw1, hw2, hU⟩ := hrel
        have HU2 : Hid _ := hU
        by_cases hgt : w0 + 1 < j
        · obtain ⟨jj, rfl⟩ : ∃ jj, j = jj + 1 := ⟨j - 1, by omega⟩
          obtain rfl : x = (jj : Int) := by omega
          clear hx
          obtain ⟨g, cap, hdn', hcap, hgl, hcell⟩ := deed_cells hU.cells jj (by omega)
          rw [hdn] at hdn'
          simp only [Value.slice.injEq, true_and] at hdn'
          obtain ⟨rfl, rfl⟩ := hdn'
          have e0 := hcell 0 (by omega)
          have e1 := hcell 1 (by omega)
          have e2 := hcell 2 (by omega)
          have e3 := hcell 3 (by omega)
          have e4 := hcell 4 (by omega)
          simp only [Dd.cells, Nat.add_zero, List.getElem?_cons_zero, List.getElem?_cons_succ] at e0 e1 e2 e3 e4
          have c3' : wr.cell? ⟨R.p, 3, none⟩ = some (.slice (some ⟨g, 0, none⟩) R.ds.length cp) := by
            have := hU.mem.cell 3
            rw [hU.p] at this
            rw [this, ← hdn, ← hU.dn]
            rfl
          have key := hU.back hdead hD hok (by omega) hb 0 (.inl rfl)
          rw [show ((0 : Nat) : Int) = 0 from rfl] at key
          have hjl : jj < R.ds.length := by omega
          have hjw : (w0 : Int) < (jj : Int) := by omega
          obtain ⟨av, lv, cv, hvs⟩ := hU.last (by omega)
          clear hcell hU c3
          generalize R.ds[jj] = dv at *
          obtain ⟨d, v⟩ := dv
          simp only at e0 e1 e2 e3 e4 key hvs
          subst hvs
          clear hD hDl hdn HK HS0 hd0
          go_wp2_with (go_at_call 41; refine key.mono ?_; rintro e w2 ⟨rfl, R2, hm2, mv2, hf2, hds2, hdead2, hdn2, hp2, hm2', hr2, hsz2, hc2⟩)
          go_roundw
          case rel => exact ⟨_, jj, R2, rfl, rfl, by omega, fun _ => by omega, fun _ => by omega, ⟨hm2, mv2, hds2, hdead2, hdn2, hp2, hm2', hr2, by rw [hf2]; rfl, hsz2, hc2⟩⟩
          case measure => simp [intOf]
        · have hxw : x ≤ (w0 : Int) := by omega
          clear hU
          go_wp2
          go_meet
          case rel => exact ⟨j, R', hj, fun h => by have := hw1 h; omega, hw2, HU2.out⟩
    case rest =>
      obtain ⟨j, R', hj, hw1, hw2, hU⟩ := hcut
      have c3' : wc.cell? ⟨R.p, 3, none⟩ = some (.slice ao R.ds.length cp) := by
        have := hU.mem.cell 3
        rw [hU.p] at this
        rw [this, ← hdn, ← hU.dn]
        rfl
      have hbk := hU.bulk hdead
      by_cases hlt : w0 < R.ds.length
      · have hj' := hw1 hlt
        subst hj'
        obtain ⟨g, cap, hdn', hcap, hgl, hcell⟩ := deed_cells hU.cells w0 hlt
        rw [hdn] at hdn'
        simp only [Value.slice.injEq, true_and] at hdn'
        obtain ⟨rfl, rfl⟩ := hdn'
        have e0 := hcell 0 (by omega)
        have e1 := hcell 1 (by omega)
        have e2 := hcell 2 (by omega)
        have e3 := hcell 3 (by omega)
        have e4 := hcell 4 (by omega)
        simp only [Dd.cells, Nat.add_zero, List.getElem?_cons_zero, List.getElem?_cons_succ] at e0 e1 e2 e3 e4
        have hDw : D[w0]'(by omega) = R.ds[w0].1 := by simp [hD]
        have hk1 := hsa (by omega)
        rw [hDw] at hk1
        have key := hU.back hdead hD hok hlt hb k0 (.inr hk1)
        have HK2 : Hid (keepF f D n = part (replay f (D.take w0)) R.ds[w0].1 k0) := by
          show keepF f D n = _
          rw [HK.out, List.drop_eq_getElem_cons (by omega), hDw]
        obtain ⟨av, lv, cv, hvs⟩ := hU.last hlt
        clear hcell hU c3 hDw hk1
        generalize R.ds[w0] = dv at *
        obtain ⟨d, v⟩ := dv
        simp only at e0 e1 e2 e3 e4 key hvs HK2
        subst hvs
        have hRb : ∀ R2 : Rw, Ytinfoblgojnjfaa.size R2.rows ≤ Ytinfoblgojnjfaa.size R.rows → R2.ds = R.ds.take w0 → R2.dead = R.ds.drop w0 → R2.count = R.count → R2.bulk ≤ R.bulk := by
          intro R2 q1 q2 q3 q4
          unfold Rw.bulk
          rw [q2, q3, q4, hdead]
          simp only [List.length_take, List.length_drop, List.length_nil]
          omega
        have HRb : Hid _ := hRb
        clear hRb hD hDl hdn HK HS0 hd0 hsa
        go_wp2_with (go_at_call 41; refine key.mono ?_; rintro e w2 ⟨rfl, R2, hm2, mv2, hf2, hds2, hdead2, hdn2, hp2, hm2', hr2, hsz2, hc2⟩)
        go_end0
        exact ⟨rfl, R2, hm2, mv2, by rw [hf2, HK2.out], HRb.out R2 hsz2 hds2 hdead2 hc2, hp2, hm2', hr2⟩
      · have hj' := hw2 hlt
        subst hj'
        have hw0 : w0 = D.length := by omega
        have HK2 : Hid (keepF f D n = replay f (D.take R.ds.length)) := by
          show keepF f D n = _
          rw [HK.out, List.drop_of_length_le (by omega), hw0, hDl]
        have hw0' : ¬ (w0 : Int) < (R.ds.length : Int) := by omega
        have HU3 : Hid _ := hU
        clear hU HK hsa hw0 hDl hD
        go_wp2
        go_end0
        have hU := HU3.out
        exact ⟨rfl, R', hU.mem, hU.moves, by rw [hU.files, HK2.out], hbk, hU.p, hU.m, hU.room⟩

end Go.Proofs.Ytinfoblgojnjfaa
