/-
  What stands between the loops of the law ReelKeeps.
-/
import Derived.Test.YtinfoblgojnjfaaSafe
namespace Go.Proofs.Ytinfoblgojnjfaa
open Go.RowKit Go.Maps

def bytes (f : Fs) (k : Int) : List UInt8 := (f k).getD []

theorem read_all {w : World} {B : Nat} {f : Fs} {R : Rw} (h : Live w B f R) (k : Int) (hk : (Lit.int .i64 k).wf = true) (hb : R.bulk ≤ 1099511627776) :
    Calls Try.prog 16 #[ptr R.p, .int .i64 k] w fun e w' => ∃ r, e = .returned (.tuple #[r, .bool (filesF R.fs k).isSome]) ∧ Safe w' R r (bytes (filesF R.fs) k) ∧ Adds w w' := by
  cases hg : filesF R.fs k with
  | some b =>
    refine (live_read h k b hg hb).mono ?_
    rintro e w1 ⟨r, rfl, ho, ha⟩
    refine ⟨r, rfl, ?_, ha⟩
    simp only [bytes, hg, Option.getD_some]
    exact safe_read h ho
  | none =>
    refine (live_read_none h k hk hg).mono ?_
    rintro e w1 ⟨rfl, rfl⟩
    refine ⟨_, rfl, ?_, Adds.refl _⟩
    simp only [bytes, hg, Option.getD_none]
    exact safe_nil _ _

/-- Behind the first loop. -/
structure S1 (w wc : World) : Prop where
  of : ∃ R f, Live wc w.heap.size f R ∧ R.p = w.heap.size + 1 ∧ R.gone = false ∧ R.armed = false ∧ R.bulk ≤ 72120 ∧ Adds w wc

/-- The reel, the numbers of its files, and what they had: n of them. -/
structure S2 (w : World) (f : Fs) (ks : List Int) (R : Rw) (n : Nat) (v10 v11 : Value) (xs : List Value) (wc : World) : Prop where
  live : Live wc w.heap.size f R
  p : R.p = w.heap.size + 1
  files : wc.ownsRow w.heap.size 3 1 v10 ks.length (cellsZ ks)
  has : ∀ k ∈ ks, f k = some (bytes f k)
  keys : ∀ k ∈ ks, 0 ≤ k ∧ k ≤ 1048576
  few : ks.length ≤ 1048577
  was : wc.ownsRow w.heap.size 36 1 v11 xs.length xs
  each : Eachs wc R xs ((ks.take n).map (bytes f))
  adds : Adds w wc

def cellsT (l : List Bool) : List Value := l.map Value.bool

theorem cellsT_length (l : List Bool) : (cellsT l).length = l.length := by simp [cellsT]

theorem cellsZ_length (l : List Int) : (cellsZ l).length = l.length := by simp [cellsZ]

theorem S2.low {w : World} {f : Fs} {ks : List Int} {R : Rw} {n : Nat} {v10 v11 : Value} {xs : List Value} {wc : World} (h : S2 w f ks R n v10 v11 xs wc) : w.heap.size ≤ wc.heap.size := h.adds.below.size

/-- The reel is turned. -/
theorem S2.moves {w : World} {f : Fs} {ks : List Int} {R R' : Rw} {n : Nat} {v10 v11 : Value} {xs : List Value} {wc w' : World} (h : S2 w f ks R n v10 v11 xs wc) (L : Live w' w.heap.size f R') (mv : Moves wc R w' R') (hp : R'.p = R.p) : S2 w f ks R' n v10 v11 xs w' :=
  ⟨L, hp.trans h.p, row_moves h.live.mem mv ⟨by decide, by decide, by decide⟩ h.files, h.has, h.keys, h.few, row_moves h.live.mem mv ⟨by decide, by decide, by decide⟩ h.was, h.each.imp fun _ _ hs => hs.moves mv, adds_low mv h.live.mem h.adds rfl⟩

theorem S2.more {w : World} {f : Fs} {ks : List Int} {R : Rw} {n : Nat} {v10 v11 : Value} {xs : List Value} {wc w' : World} (h : S2 w f ks R n v10 v11 xs wc) (ha : Adds wc w') : S2 w f ks R n v10 v11 xs w' :=
  ⟨h.live.adds ha, h.p, row_adds h.files ha, h.has, h.keys, h.few, row_adds h.was ha, h.each.imp fun _ _ hs => hs.adds ha, h.adds.trans ha⟩

/-- A row of the law's own grows, or is written: one of other elements. -/
theorem S2.grown {w : World} {f : Fs} {ks : List Int} {R : Rw} {n : Nat} {v10 v11 : Value} {xs : List Value} {wc w' : World} (h : S2 w f ks R n v10 v11 xs wc) {e : TypeId} (he : Odd e) (he3 : e ≠ 3) (he36 : e ≠ 36) {k m : Nat} {v : Value} {ys : List Value}
    (ho : wc.ownsRow w.heap.size e k v m ys) (hg : wc.grownBy w' v.ownBlock) : S2 w f ks R n v10 v11 xs w' :=
  ⟨live_grown h.live he ho hg, h.p, row_other h.files ho (fun e => he3 e.symm) hg, h.has, h.keys, h.few, row_other h.was ho (fun e => he36 e.symm) hg, h.each.imp fun _ _ hs => hs.grown he ho hg, adds_of_grown h.adds hg (fun i hi => (ho.lt i hi).1)⟩

/-- File j's number. -/
theorem S2.at {w : World} {f : Fs} {ks : List Int} {R : Rw} {n : Nat} {v10 v11 : Value} {xs : List Value} {wc : World} (h : S2 w f ks R n v10 v11 xs wc) {j : Nat} (hj : j < ks.length) : ∃ g cap, v10 = .slice (some ⟨g, 0, none⟩) ks.length cap ∧ ks.length ≤ cap ∧ g < wc.heap.size ∧ wc.cell? ⟨g, j, none⟩ = some (.int .i64 ks[j]) := by
  have := h.files
  rw [← cellsZ_length ks] at this
  obtain ⟨g, cap, e, hc, _, hg, hcell, _⟩ := row_at this (j := j) (by rw [cellsZ_length]; exact hj)
  rw [cellsZ_length] at e hc
  exact ⟨g, cap, e, hc, hg, by rw [hcell]; simp [cellsZ]⟩

theorem S2.len {w : World} {f : Fs} {ks : List Int} {R : Rw} {n : Nat} {v10 v11 : Value} {xs : List Value} {wc : World} (h : S2 w f ks R n v10 v11 xs wc) : ∃ ao cap, v10 = .slice ao ks.length cap := by
  have := h.files
  rw [← cellsZ_length ks] at this
  obtain ⟨ao, cap, e⟩ := row_len this
  exact ⟨ao, cap, by rw [e, cellsZ_length]⟩

theorem wf_key {k : Int} (h : 0 ≤ k ∧ k ≤ 1048576) : (Lit.int .i64 k).wf = true := wf64.2 (by omega)

end Go.Proofs.Ytinfoblgojnjfaa
