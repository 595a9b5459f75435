/-
  The method takeBack by contract: the walk where a file was dropped.
-/
import Derived.Test.YtinfoblgojnjfaaBack
import Derived.BigRegion
namespace Go.Proofs.Ytinfoblgojnjfaa
open Go.RowKit Go.Maps

/-- A struct of a deed in its box. -/
def box (d : Dd) (v : Value) : Obj := .cells #[.int .i64 d.file, .int .i64 (d.units : Int), .bool d.fresh, .bool d.drop, v] 68

theorem drew_both {w w' : World} {B : Nat} {R R' : Rw} (h : Mem w' B R' ∧ Moves w R w' R') : Mem w'.drew B R' ∧ Moves w R w'.drew R' :=
  ⟨h.1.adds ((Adds.refl _).drew), h.2.trans (Moves.adds _ ((Adds.refl _).drew))⟩

theorem back_drop {w : World} {B : Nat} {R : Rw} (h : Mem w B R) {ds : List (Dd × Value)} {d : Dd} {v : Value} (he : R.ds = ds ++ [(d, v)]) (hdrop : d.drop = true) (hg : get d.file R.fs = none) (hb : R.bulk ≤ 1099511627776) (keep : Int) :
    Calls Try.prog 41 #[ptr R.p, .agg #[.int .i64 d.file, .int .i64 (d.units : Int), .bool d.fresh, .bool d.drop, v], .int .i64 keep] w fun e w' => e = .returned (.tuple #[]) ∧
      Mem w' B (R.back (put d.file v d.data R.fs) ds d v) ∧ Moves w R w' (R.back (put d.file v d.data R.fs) ds d v) := by
  have hlost : d.lost = d.data := by simp [Dd.lost, hdrop]
  have hin : (v, d.lost) ∈ R.rows := (rows_last he).mem_iff.2 (by simp)
  have hrow : w.ownsRow B 5 1 v d.data.length (cellsB d.data) := by
    have := h.hr _ hin
    rw [hlost] at this
    exact this
  have hfk := h.files (d, v) (by rw [he]; simp)
  simp only at hfk
  obtain ⟨ao, n, cp, rfl⟩ := row_slice hrow
  have hln : n = d.data.length := by
    rcases hrow.2 with ⟨e, e'⟩ | ⟨g, cap, cur, e, _⟩
    · cases e; exact e'.symm
    · cases e; rfl
  subst hln
  have hfew := h.few
  have htl := R.total_le
  have hsz : d.data.length ≤ R.bulk := by
    have := size_perm (rows_last he)
    rw [size_cons, hlost] at this
    unfold Rw.bulk
    simp only at this
    omega
  have hB2 : total R.fs + d.data.length ≤ 2199023255552 := by omega
  have haW : Adds w (w.alloc (box d (.slice ao d.data.length cp))).drew := ((Adds.refl _).alloc _).drew
  obtain ⟨w2, r2, m2, t2⟩ := (h.adds haW).hm.store (val := .slice ao d.data.length cp) law3 Try.underlying52 (by unfold maxLen; omega) (key3 hfk) (d := .held (.slice ao d.data.length cp)) (ps := []) rfl
  obtain ⟨p2, x2, y2⟩ := put_post h (h.adds haW).hp t2
  have HM : Hid _ := mem_back h haW he hdrop hg m2 t2
  have hq2 : w2.heap[w.heap.size]? = some (box d (.slice ao d.data.length cp)) := by
    rw [turned_block t2 (by have := h.hm.lt; omega) (by show w.heap.size < (w.heap.push _).size; simp)]
    exact new_block w _
  have q4 : w2.cell? ⟨w.heap.size, 4, none⟩ = some (.slice ao d.data.length cp) := cell_of_row w2 w.heap.size 4 _ _ _ hq2
  obtain ⟨c0, c1, c2, c3, c4, c5, c6, c7⟩ := h.cells8
  have hplt := (h.lt (.inl rfl)).2
  unfold box at r2
  rw [hdrop] at r2 ⊢
  clear c0 c3 c4 c5 c6 c7 hq2 m2 t2 p2 haW hrow hin he
  go_enter Try.func41, Try.ntmps41
  go_wp2
  go_cut [4] from 8 (fun q wc => q = ptr w.heap.size ∧ wc = w2)
  case first =>
    go_region
    all_goals
      go_wp2
      go_meet
      case rel => exact ⟨rfl, rfl⟩
  case rest =>
    obtain ⟨rfl, rfl⟩ := hcut
    go_wp2
    go_region
    all_goals
      go_wp2
      exact bodyPost_ret (results_none rfl _ _ _) rfl ⟨rfl, drew_both HM.out⟩

end Go.Proofs.Ytinfoblgojnjfaa
