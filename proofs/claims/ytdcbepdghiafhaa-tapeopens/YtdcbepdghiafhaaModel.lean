/-
  The reference's state, and how it goes with a reel's: the pure part.
-/
import Derived.Test.YtdcbepdghiafhaaTaken
namespace Go.Proofs.Ytdcbepdghiafhaa
open Go.RowKit Go.Maps

structure Rf where
  room : Int
  kept : Kf
  done : List Un
  live : Nat
  gone : Bool
  armed : Int

def Rf.files (r : Rf) (n : Nat) : Kf := (r.done.take n).foldl unitK r.kept
def Rf.seen (r : Rf) : Kf := r.files r.done.length

/-- A unit is done. -/
def Rf.put (r : Rf) (u : Un) : Rf :=
  if r.gone then { r with done := r.done ++ [u] }
  else if u.empty then { r with done := r.done ++ [u], live := r.done.length + 1 }
  else if r.armed = 0 then { r with done := r.done ++ [u], gone := true }
  else { r with done := r.done ++ [u], armed := if 0 < r.armed then r.armed - 1 else r.armed, live := r.done.length + 1 }

def Rf.putAll (r : Rf) (us : List Un) : Rf := us.foldl Rf.put r

def Rf.pend (r : Rf) : Nat := full (r.done.take r.live)

/-- A reel, and what it must be. -/
structure Likes (R : Rw) (f : Fs) (r : Rf) : Prop where
  room : r.room = (R.room : Int)
  srt : SrtK r.kept
  kept : filesK r.kept = f
  done : r.done = R.deeds.flatMap unitsOf
  gone : r.gone = R.gone
  armed : R.gone = false → r.armed = if R.armed then R.left else -1
  low : R.armed = true → 0 ≤ R.left
  live : r.live ≤ r.done.length
  all : R.gone = false → r.live = r.done.length
  stop : R.gone = true → ∃ u rest, r.done.drop r.live = u :: rest ∧ u.empty = false
  count : R.count = full (r.done.take r.live)

theorem foldl_unit : ∀ (us : List Un) {l : Kf}, SrtK l → SrtK (us.foldl unitK l) ∧ filesK (us.foldl unitK l) = ureplay (filesK l) us
  | [], _, h => ⟨h, rfl⟩
  | u :: r, l, h => by
    obtain ⟨h1, h2⟩ := unit_ok h u
    obtain ⟨i1, i2⟩ := foldl_unit r h1
    refine ⟨i1, ?_⟩
    rw [List.foldl_cons, i2, h2]
    rfl

/-- The files that are seen. -/
theorem Likes.seen {R : Rw} {f : Fs} {r : Rf} (h : Likes R f r) : SrtK r.seen ∧ filesK r.seen = replay f R.deeds := by
  obtain ⟨h1, h2⟩ := foldl_unit (r.done.take r.done.length) h.srt
  refine ⟨h1, ?_⟩
  show filesK ((r.done.take r.done.length).foldl unitK r.kept) = _
  rw [h2, List.take_length, h.kept, h.done, units_replay]

theorem putAll_gone : ∀ (us : List Un) (r : Rf), r.gone = true → r.putAll us = { r with done := r.done ++ us }
  | [], r, _ => by simp [Rf.putAll]
  | u :: t, r, h => by
    have e : r.put u = { r with done := r.done ++ [u] } := by simp [Rf.put, h]
    show (r.put u).putAll t = _
    rw [putAll_gone t (r.put u) (by rw [e]; exact h), e]
    simp

/-- Units that count, the power there, not armed. -/
theorem putAll_free : ∀ (us : List Un) (r : Rf), r.gone = false → r.armed < 0 → r.live = r.done.length → r.putAll us = { r with done := r.done ++ us, live := r.done.length + us.length }
  | [], r, _, _, hl => by simp [Rf.putAll, hl.symm]
  | u :: t, r, h, ha, hl => by
    have e : r.put u = { r with done := r.done ++ [u], live := r.done.length + 1 } := by
      have h0 : ¬ r.armed = 0 := by omega
      have h1 : ¬ 0 < r.armed := by omega
      cases hu : u.empty <;> simp [Rf.put, h, hu, h0, h1]
    show (r.put u).putAll t = _
    rw [putAll_free t (r.put u) (by rw [e]; exact h) (by rw [e]; exact ha) (by rw [e]; simp), e]
    simp
    omega

/-- Units that count, armed with enough. -/
theorem putAll_armed : ∀ (us : List Un) (r : Rf), (∀ u ∈ us, u.empty = false) → r.gone = false → (us.length : Int) ≤ r.armed → r.live = r.done.length → r.putAll us = { r with done := r.done ++ us, live := r.done.length + us.length, armed := r.armed - us.length }
  | [], r, _, _, _, hl => by simp [Rf.putAll, hl.symm]
  | u :: t, r, hu, h, ha, hl => by
    have hu0 := hu u (by simp)
    simp only [List.length_cons] at ha
    have e : r.put u = { r with done := r.done ++ [u], live := r.done.length + 1, armed := r.armed - 1 } := by
      have h0 : ¬ r.armed = 0 := by omega
      have h1 : 0 < r.armed := by omega
      simp [Rf.put, h, hu0, h0, h1]
    show (r.put u).putAll t = _
    rw [putAll_armed t (r.put u) (fun x hx => hu x (by simp [hx])) (by rw [e]; exact h) (by rw [e]; show (t.length : Int) ≤ r.armed - 1; omega) (by rw [e]; simp), e]
    simp
    omega

/-- .. with too few. -/
theorem putAll_short : ∀ (us : List Un) (r : Rf), (∀ u ∈ us, u.empty = false) → r.gone = false → 0 ≤ r.armed → r.armed < (us.length : Int) → r.live = r.done.length → r.putAll us = { r with done := r.done ++ us, live := r.done.length + r.armed.toNat, armed := 0, gone := true }
  | [], r, _, _, h0, ha, _ => by simp at ha; omega
  | u :: t, r, hu, h, h0, ha, hl => by
    have hu0 := hu u (by simp)
    simp only [List.length_cons] at ha
    by_cases hz : r.armed = 0
    · have e : r.put u = { r with done := r.done ++ [u], gone := true } := by simp [Rf.put, h, hu0, hz]
      show (r.put u).putAll t = _
      rw [putAll_gone t (r.put u) (by rw [e]), e]
      simp [hz, hl]
    · have e : r.put u = { r with done := r.done ++ [u], live := r.done.length + 1, armed := r.armed - 1 } := by
        have h1 : 0 < r.armed := by omega
        simp [Rf.put, h, hu0, hz, h1]
      show (r.put u).putAll t = _
      rw [putAll_short t (r.put u) (fun x hx => hu x (by simp [hx])) (by rw [e]; exact h) (by rw [e]; show 0 ≤ r.armed - 1; omega) (by rw [e]; show r.armed - 1 < (t.length : Int); omega) (by rw [e]; simp), e]
      simp
      omega

end Go.Proofs.Ytdcbepdghiafhaa
