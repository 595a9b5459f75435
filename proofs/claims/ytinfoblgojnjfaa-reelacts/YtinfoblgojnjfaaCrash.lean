/-
  The method Crash by contract.
-/
import Derived.Test.YtinfoblgojnjfaaUndo
namespace Go.Proofs.Ytinfoblgojnjfaa
open Go.RowKit Go.Maps

/-- A reel with nothing to undo, not armed. -/
structure Calm (R : Rw) : Prop where
  ds : R.ds = []
  dead : R.dead = []
  count : R.count = 0
  armed : R.armed = false
  gone : R.gone = false

theorem Rw.bulk_settled (R : Rw) : R.settled.bulk ≤ R.bulk := by
  unfold Rw.bulk Rw.settled Rw.rows Ytinfoblgojnjfaa.size
  simp
  omega

def Rw.calmed (R : Rw) : Rw := { R.settled with armed := false, left := 0, gone := false }

theorem calm_both {w : World} {B : Nat} {R : Rw} (h : Mem w B R.settled) {b : Nat} (hb : R.settled.bulk ≤ b) :
    Mem (((w.setCell ⟨R.settled.p, 5, none⟩ (.bool false)).setCell ⟨R.settled.p, 6, none⟩ (.int .i64 0)).setCell ⟨R.settled.p, 7, none⟩ (.bool false)) B R.calmed ∧ Moves w R.settled (((w.setCell ⟨R.settled.p, 5, none⟩ (.bool false)).setCell ⟨R.settled.p, 6, none⟩ (.int .i64 0)).setCell ⟨R.settled.p, 7, none⟩ (.bool false)) R.calmed ∧ Calm R.calmed ∧ R.calmed.bulk ≤ b := by
  have h5 := heap_setCell_at (i := 5) (.bool false) h.hp (by simp [Rw.cells])
  have h6 := heap_setCell_at (i := 6) (.int .i64 0) h5 (by simp [Rw.cells])
  have h7 := heap_setCell_at (i := 7) (.bool false) h6 (by simp [Rw.cells])
  have hg := ((grown_set w R.settled.p 5 (.bool false)).trans (grown_set _ R.settled.p 6 (.int .i64 0))).trans (grown_set _ R.settled.p 7 (.bool false))
  obtain ⟨m1, m2⟩ := h.turn R.settled.count false 0 false (fun e => by cases e) ((wf64 (x := 0)).2 (by decide)) hg (by rw [h7]; rfl)
  exact ⟨m1, m2, ⟨rfl, rfl, rfl, rfl, rfl⟩, hb⟩

theorem crash_at {w : World} {B : Nat} {R : Rw} (h : Mem w B R) (hdead : R.dead = []) {f : Fs} (hok : okAll f (R.ds.map (·.1))) (hf : filesF R.fs = replay f (R.ds.map (·.1))) (keep : Int) (n : Nat) (hn : (n : Int) = min (max keep 0) (R.count : Int)) (hb : R.bulk ≤ 1099511627776) (hB : B ≤ w.heap.size) :
    Calls Try.prog 18 #[ptr R.p, .int .i64 keep] w fun e w' => e = .returned (.tuple #[]) ∧
      ∃ R', Mem w' B R' ∧ Moves w R w' R' ∧ filesF R'.fs = keepF f (R.ds.map (·.1)) n ∧ Calm R' ∧ R'.bulk ≤ R.bulk ∧ R'.p = R.p ∧ R'.m = R.m ∧ R'.room = R.room := by
  have kU : ∀ x : Int, x = (n : Int) → Calls Try.prog 35 #[ptr R.p, .int .i64 x] w fun e w' => e = .returned (.tuple #[]) ∧ ∃ R', Mem w' B R' ∧ Moves w R w' R' ∧ filesF R'.fs = keepF f (R.ds.map (·.1)) n ∧ R'.bulk ≤ R.bulk ∧ R'.p = R.p ∧ R'.m = R.m ∧ R'.room = R.room := by
    intro x hx
    subst hx
    exact undo_any h hdead hok hf n (by omega) hb hB
  have c4 : w.cell? ⟨R.p, 4, none⟩ = some (.int .i64 (R.count : Int)) := h.cell 4
  have H : Hid (Mem w B R) := h
  clear hok hf hb
  generalize R.ds.map (·.1) = D at *
  go_enter Try.func18, Try.ntmps18
  go_wp2_with (first
    | (go_at_call 30; refine (given_any H.out).mono ?_; rintro e w1 ⟨rfl, rfl⟩)
    | (go_at_call 35; refine (kU _ (by omega)).mono ?_; rintro e w2 ⟨rfl, R2, m2, v2, f2, b2, p2, mm2, r2⟩; have kS := settle_any m2; rw [p2] at kS)
    | (go_at_call 32; refine kS.mono ?_; rintro e w3 ⟨rfl, m3, v3⟩; have g5 : w3.cell? ⟨R.p, 5, none⟩ = some (.bool R2.armed) := (by have := m3.cell 5; rw [show R2.settled.p = R.p from p2] at this; exact this); have g6 : w3.cell? ⟨R.p, 6, none⟩ = some (.int .i64 R2.left) := (by have := m3.cell 6; rw [show R2.settled.p = R.p from p2] at this; exact this); have g7 : w3.cell? ⟨R.p, 7, none⟩ = some (.bool R2.gone) := (by have := m3.cell 7; rw [show R2.settled.p = R.p from p2] at this; exact this); have hfz : ∀ i, w3.frozen? ⟨R.p, i, none⟩ = false := (by have := m3.thaw; rw [show R2.settled.p = R.p from p2] at this; exact this); have HC : Hid _ := calm_both m3 (R2.bulk_settled); have HV : Hid _ := v2.trans v3; have HF : Hid _ := f2; have HP : Hid _ := And.intro p2 (And.intro mm2 (And.intro r2 b2)); clear m2 v2 f2 b2 mm2 r2 m3 v3 kS))
  all_goals
    go_end0
    obtain ⟨p2, mm2, r2, b2⟩ := HP.out
    obtain ⟨a1, a2, a3, a4⟩ := HC.out
    have e1 : R2.settled.p = R.p := p2
    rw [e1] at a1 a2
    exact ⟨rfl, _, a1, HV.out.trans a2, HF.out, a3, Nat.le_trans a4 b2, p2, mm2, r2⟩

end Go.Proofs.Ytinfoblgojnjfaa
