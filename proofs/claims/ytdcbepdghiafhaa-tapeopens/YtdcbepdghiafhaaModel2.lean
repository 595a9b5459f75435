/-
  How the reference's state goes with a reel's, deed by deed, and over a sync, an arming and a crash: the pure part.
-/
import Derived.Test.YtdcbepdghiafhaaModel
namespace Go.Proofs.Ytdcbepdghiafhaa
open Go.RowKit Go.Maps

theorem units_length (d : Dd) (h : d.units ≠ 0) : (unitsOf d).length = d.units ∧ ∀ u ∈ unitsOf d, u.empty = false := by
  unfold unitsOf Dd.units at *
  cases hd : d.drop
  · rw [hd] at h
    simp only [Bool.false_eq_true, if_false] at h ⊢
    have he : d.data ≠ [] := fun e => h (by rw [e]; rfl)
    rw [if_neg he]
    exact ⟨by simp, by simp⟩
  · simp

theorem units_empty (d : Dd) (h : d.units = 0) : unitsOf d = [⟨d.file, 0, false, true⟩] := by
  unfold unitsOf Dd.units at *
  cases hd : d.drop
  · rw [hd] at h
    simp only [Bool.false_eq_true, if_false] at h ⊢
    rw [if_pos (List.eq_nil_of_length_eq_zero h)]
  · rw [hd] at h
    simp at h

theorem full_all {us : List Un} (h : ∀ u ∈ us, u.empty = false) : full us = us.length := by
  unfold full
  rw [List.filter_eq_self.2]
  intro u hu
  simp [h u hu]

theorem likes_deed {R R' : Rw} {f : Fs} {r : Rf} (h : Likes R f r) (d : Dd) (hd : R'.deeds = R.deeds ++ [d]) (hr : R'.room = R.room) (hp : R'.pw = R.pw.note d.units) (hlow : R'.armed = true → 0 ≤ R'.left) : Likes R' f (r.putAll (unitsOf d)) := by
  have hdn : ∀ x : List Un, x = r.done ++ unitsOf d → x = R'.deeds.flatMap unitsOf := fun x hx => by
    rw [hx, hd, h.done]
    simp
  have hc := congrArg Pw.count hp
  have ha := congrArg Pw.armed hp
  have hl := congrArg Pw.left hp
  have hg := congrArg Pw.gone hp
  unfold Pw.note Rw.pw at hc ha hl hg
  simp only at hc ha hl hg
  cases hgn : R.gone
  · have hlive := h.all hgn
    have hcnt := h.count
    rw [hlive, List.take_length] at hcnt
    have hrg : r.gone = false := h.gone.trans hgn
    have harm := h.armed hgn
    rw [hgn] at hc ha hl hg
    simp only [Bool.false_eq_true, if_false] at hc ha hl hg
    by_cases hu : d.units = 0
    · -- no unit
      have hus := units_empty d hu
      have e : r.putAll (unitsOf d) = { r with done := r.done ++ unitsOf d, live := r.done.length + 1 } := by
        rw [hus]
        simp [Rf.putAll, Rf.put, hrg]
      rw [e]
      have hR : R'.count = R.count ∧ R'.armed = R.armed ∧ R'.left = R.left ∧ R'.gone = false := by
        cases har : R.armed
        · rw [har] at hc ha hl hg
          simp only [Bool.false_eq_true, if_false] at hc ha hl hg
          exact ⟨by omega, ha, hl, hg⟩
        · rw [har] at hc ha hl hg
          have := h.low har
          rw [hu] at hc hl hg
          simp only [if_true] at hc ha hl hg
          refine ⟨by omega, ha, by omega, ?_⟩
          rw [hg]
          simp
          omega
      obtain ⟨q1, q2, q3, q4⟩ := hR
      have hul : (unitsOf d).length = 1 := by rw [hus]; rfl
      refine ⟨h.room.trans (by rw [hr]), h.srt, h.kept, hdn _ rfl, by rw [q4]; exact hrg, fun _ => by rw [q2, q3]; exact harm, hlow, by simp [hul], fun _ => by simp [hul], fun e => (by rw [q4] at e; cases e), ?_⟩
      rw [q1, hcnt]
      show _ = full (List.take (r.done.length + 1) (r.done ++ unitsOf d))
      rw [List.take_of_length_le (by simp [hul]), full_append, full_units, hu]
      rfl
    · obtain ⟨hul, hue⟩ := units_length d hu
      cases har : R.armed
      · rw [har] at hc ha hl hg harm
        simp only [Bool.false_eq_true, if_false] at hc ha hl hg harm
        rw [putAll_free _ _ hrg (by rw [harm]; decide) hlive]
        refine ⟨h.room.trans (by rw [hr]), h.srt, h.kept, hdn _ rfl, by rw [hg]; exact hrg, fun _ => by rw [ha]; exact harm, hlow, by simp, fun _ => by simp, fun e => (by rw [hg] at e; cases e), ?_⟩
        rw [hc, hcnt]
        show _ = full (List.take (r.done.length + (unitsOf d).length) (r.done ++ unitsOf d))
        rw [List.take_of_length_le (by simp), full_append, full_units]
      · rw [har] at hc ha hl hg harm
        have h0 := h.low har
        simp only [if_true] at hc ha hl hg harm
        by_cases hle : (d.units : Int) ≤ R.left
        · rw [putAll_armed _ _ hue hrg (by rw [hul, harm]; exact hle) hlive]
          have hg' : R'.gone = false := by
            rw [hg]
            simp
            omega
          refine ⟨h.room.trans (by rw [hr]), h.srt, h.kept, hdn _ rfl, by rw [hg']; exact hrg, fun _ => ?_, hlow, by simp, fun _ => by simp, fun e => (by rw [hg'] at e; cases e), ?_⟩
          · rw [ha, hl]
            show r.armed - ((unitsOf d).length : Int) = R.left - min (d.units : Int) R.left
            rw [hul, harm]
            omega
          · rw [hc, hcnt]
            show _ = full (List.take (r.done.length + (unitsOf d).length) (r.done ++ unitsOf d))
            rw [List.take_of_length_le (by simp), full_append, full_units]
            omega
        · rw [putAll_short _ _ hue hrg (by rw [harm]; exact h0) (by rw [hul, harm]; omega) hlive]
          have hg' : R'.gone = true := by
            rw [hg]
            simp
            omega
          have hln : R.left.toNat < (unitsOf d).length := by omega
          have hsplit : (r.done ++ unitsOf d).take (r.done.length + R.left.toNat) = r.done ++ (unitsOf d).take R.left.toNat := by
            rw [List.take_length_add_append]
          refine ⟨h.room.trans (by rw [hr]), h.srt, h.kept, hdn _ rfl, by rw [hg'], fun e => (by rw [hg'] at e; cases e), hlow, ?_, fun e => (by rw [hg'] at e; cases e), fun _ => ?_, ?_⟩
          · show r.done.length + r.armed.toNat ≤ (r.done ++ unitsOf d).length
            rw [harm]
            simp
            omega
          · show ∃ u rest, (r.done ++ unitsOf d).drop (r.done.length + r.armed.toNat) = u :: rest ∧ u.empty = false
            rw [harm, List.drop_length_add_append, List.drop_eq_getElem_cons hln]
            exact ⟨_, _, rfl, hue _ (List.getElem_mem hln)⟩
          · rw [hc, hcnt]
            show _ = full ((r.done ++ unitsOf d).take (r.done.length + r.armed.toNat))
            rw [harm, hsplit, full_append, full_all (us := (unitsOf d).take R.left.toNat) (fun u hu => hue u (List.mem_of_mem_take hu))]
            simp
            omega
  · -- the power is gone
    have hrg : r.gone = true := h.gone.trans hgn
    rw [hgn] at hc ha hl hg
    simp only [if_true] at hc ha hl hg
    rw [putAll_gone _ _ hrg]
    have hlv := h.live
    obtain ⟨u, rest, hs, hu⟩ := h.stop hgn
    refine ⟨h.room.trans (by rw [hr]), h.srt, h.kept, hdn _ rfl, by rw [hg]; exact hrg, fun e => (by rw [hg] at e; cases e), hlow, ?_, fun e => (by rw [hg] at e; cases e), fun _ => ⟨u, rest ++ unitsOf d, ?_, hu⟩, ?_⟩
    · show r.live ≤ (r.done ++ unitsOf d).length
      simp
      omega
    · show (r.done ++ unitsOf d).drop r.live = _
      rw [List.drop_append_of_le_length hlv, hs]
      rfl
    · rw [hc]
      show _ = full ((r.done ++ unitsOf d).take r.live)
      rw [List.take_append_of_le_length hlv]
      exact h.count

/-- A crash. -/
theorem likes_crash {R : Rw} {f : Fs} {r : Rf} (h : Likes R f r) (keep : Int) (n : Nat) (hn : (n : Int) = min (max keep 0) (R.count : Int)) :
    SrtK (r.files (takeU (r.done.take r.live) keep.toNat).length) ∧ filesK (r.files (takeU (r.done.take r.live) keep.toNat).length) = keepF f R.deeds n := by
  have hst : r.done.drop r.live = [] ∨ ∃ u rest, r.done.drop r.live = u :: rest ∧ u.empty = false := by
    cases hg : R.gone
    · left
      rw [h.all hg]
      simp
    · exact .inr (h.stop hg)
  have hk := takeU_stop (r.done.take r.live) (r.done.drop r.live) keep.toNat hst
  rw [List.take_append_drop, ← h.count, show min keep.toNat R.count = n by omega] at hk
  have pre : ∀ (us : List Un) (m : Nat), us.take (takeU us m).length = takeU us m := by
    intro us
    induction us with
    | nil => intro m; rfl
    | cons u t ih =>
      intro m
      rw [takeU_cons]
      by_cases hu : u.empty
      · rw [if_pos hu]
        simp [ih m]
      · rw [if_neg hu]
        cases m with
        | zero => rfl
        | succ m => simp [ih m]
  have htake : r.done.take (takeU (r.done.take r.live) keep.toNat).length = takeU r.done n := by
    rw [hk]
    exact pre _ _
  obtain ⟨h1, h2⟩ := foldl_unit (r.done.take (takeU (r.done.take r.live) keep.toNat).length) h.srt
  refine ⟨h1, ?_⟩
  show filesK ((r.done.take _).foldl unitK r.kept) = _
  rw [h2, htake, h.kept, h.done, keep_units]

end Go.Proofs.Ytdcbepdghiafhaa
