/-
  The reference's reel in plain data.
-/
import Derived.Test.YtelkkpomehgcjaaGreatUnits
namespace Go.Proofs.YtelkkpomehgcjaaGreat
open Go.RowKit Go.Maps

def unitsOf (d : Dd) : List Un :=
  if d.drop then [⟨d.file, 0, true, false⟩]
  else if d.data = [] then [⟨d.file, 0, false, true⟩]
  else d.data.map fun c => ⟨d.file, c, false, false⟩

def ureplay (f : Fs) (us : List Un) : Fs := us.foldl ustep f

theorem ureplay_append (f : Fs) (a b : List Un) : ureplay f (a ++ b) = ureplay (ureplay f a) b := by simp [ureplay]

theorem ureplay_bytes (k : Int) : ∀ (data : List UInt8) (f : Fs), data ≠ [] → ureplay f (data.map fun c => ⟨k, c, false, false⟩) = f.set k (some ((f k).getD [] ++ data))
  | [], _, h => absurd rfl h
  | [c], f, _ => by simp [ureplay, ustep]
  | c :: d :: r, f, _ => by
    have := ureplay_bytes k (d :: r) (ustep f ⟨k, c, false, false⟩) (by simp)
    show ureplay (ustep f ⟨k, c, false, false⟩) ((d :: r).map fun c => ⟨k, c, false, false⟩) = _
    rw [this]
    simp [ustep, set_set, set_at]

theorem units_step (f : Fs) (d : Dd) : ureplay f (unitsOf d) = step f d := by
  unfold unitsOf step
  cases hd : d.drop
  · by_cases he : d.data = []
    · simp [he, ureplay, ustep]
    · simp only [Bool.false_eq_true, if_false, he]
      exact ureplay_bytes d.file d.data f he
  · simp [ureplay, ustep]

theorem units_replay : ∀ (ds : List Dd) (f : Fs), ureplay f (ds.flatMap unitsOf) = replay f ds
  | [], _ => rfl
  | d :: r, f => by
    rw [List.flatMap_cons, ureplay_append, units_step, units_replay r]
    rfl

/-- How many units count. -/
def full (us : List Un) : Nat := (us.filter fun u => !u.empty).length

theorem full_append (a b : List Un) : full (a ++ b) = full a + full b := by simp [full]

/-- The longest beginning with at most n that count. -/
def takeU : List Un → Nat → List Un
  | [], _ => []
  | u :: r, n => if u.empty then u :: takeU r n else match n with
    | 0 => []
    | n + 1 => u :: takeU r n

theorem takeU_cons (u : Un) (r : List Un) (n : Nat) : takeU (u :: r) n = if u.empty then u :: takeU r n else match n with
    | 0 => []
    | n + 1 => u :: takeU r n := rfl

theorem full_units (d : Dd) : full (unitsOf d) = d.units := by
  unfold unitsOf Dd.units full
  cases d.drop
  · by_cases he : d.data = []
    · simp [he]
    · simp [he, List.filter_map, Function.comp_def]
  · simp

theorem takeU_all : ∀ (us : List Un) (n : Nat), full us ≤ n → takeU us n = us
  | [], _, _ => rfl
  | u :: r, n, h => by
    unfold takeU
    by_cases hu : u.empty
    · rw [if_pos hu, takeU_all r n (by simpa [full, hu] using h)]
    · have hf : full (u :: r) = full r + 1 := by simp [full, hu]
      rw [if_neg hu]
      cases n with
      | zero => omega
      | succ n =>
        simp only
        rw [takeU_all r n (by omega)]

theorem takeU_append : ∀ (a b : List Un) (n : Nat), full a ≤ n → takeU (a ++ b) n = a ++ takeU b (n - full a)
  | [], _, _, _ => by simp [full]
  | u :: r, b, n, h => by
    rw [List.cons_append, takeU_cons]
    by_cases hu : u.empty
    · have hf : full (u :: r) = full r := by simp [full, hu]
      rw [if_pos hu, takeU_append r b n (by omega), hf]
      rfl
    · have hf : full (u :: r) = full r + 1 := by simp [full, hu]
      rw [if_neg hu]
      cases n with
      | zero => omega
      | succ n =>
        simp only
        rw [takeU_append r b n (by omega), hf]
        simp

theorem takeU_bytes (k : Int) (b : List Un) : ∀ (data : List UInt8) (n : Nat), n < data.length → takeU ((data.map fun c => (⟨k, c, false, false⟩ : Un)) ++ b) n = (data.take n).map fun c => ⟨k, c, false, false⟩
  | [], n, h => by simp at h
  | c :: r, 0, _ => by simp [takeU]
  | c :: r, n + 1, h => by
    simp only [List.map_cons, List.cons_append, takeU, List.take_succ_cons]
    rw [takeU_bytes k b r n (by simpa using h)]
    simp

theorem keep_units : ∀ (ds : List Dd) (f : Fs) (n : Nat), keepF f ds n = ureplay f (takeU (ds.flatMap unitsOf) n)
  | [], f, n => by simp [keepF, scan, replay, takeU, ureplay]
  | d :: r, f, n => by
    rw [List.flatMap_cons]
    by_cases hd : d.units ≤ n
    · rw [takeU_append _ _ _ (by rw [full_units]; exact hd), full_units, ureplay_append, units_step, ← keep_units r (step f d) (n - d.units)]
      unfold keepF
      rw [scan_cons, if_pos hd]
      simp only [List.drop_succ_cons, List.take_succ_cons]
      rfl
    · have hk : keepF f (d :: r) n = part f d n := by
        unfold keepF
        rw [scan_cons, if_neg hd]
        rfl
      rw [hk]
      have hlt : n < d.units := by omega
      unfold part
      cases hdr : d.drop
      · have hne : d.data ≠ [] := by
          intro e
          simp [Dd.units, hdr, e] at hlt
        have hl : n < d.data.length := by simpa [Dd.units, hdr] using hlt
        have hu : unitsOf d = d.data.map fun c => ⟨d.file, c, false, false⟩ := by simp [unitsOf, hdr, hne]
        rw [hu, takeU_bytes d.file _ d.data n hl]
        by_cases h0 : n = 0
        · subst h0
          simp [ureplay]
        · rw [if_neg h0, ureplay_bytes d.file _ f (by
            intro e
            have := congrArg List.length e
            simp at this
            rcases this with h | h
            · exact h0 h
            · exact hne h)]
          simp [step]
      · have h0 : n = 0 := by
          simp [Dd.units, hdr] at hlt
          exact hlt
        subst h0
        simp [unitsOf, hdr, takeU, ureplay]

/-- Beyond a unit that counts nothing is taken. -/
theorem takeU_stop : ∀ (a b : List Un) (n : Nat), (b = [] ∨ ∃ u r, b = u :: r ∧ u.empty = false) → takeU a n = takeU (a ++ b) (min n (full a))
  | [], b, n, h => by
    simp only [full, List.filter_nil, List.length_nil, Nat.min_zero, List.nil_append]
    rcases h with rfl | ⟨u, r, rfl, hu⟩
    · rfl
    · simp [takeU, hu]
  | u :: r, b, n, h => by
    rw [List.cons_append]
    unfold takeU
    by_cases hu : u.empty
    · have hf : full (u :: r) = full r := by simp [full, hu]
      rw [if_pos hu, if_pos hu, hf, takeU_stop r b n h]
    · have hf : full (u :: r) = full r + 1 := by simp [full, hu]
      rw [if_neg hu, if_neg hu]
      cases n with
      | zero => simp
      | succ n =>
        have : min (n + 1) (full (u :: r)) = min n (full r) + 1 := by omega
        rw [this]
        simp only
        rw [takeU_stop r b n h]

end Go.Proofs.YtelkkpomehgcjaaGreat

namespace Go.Proofs.YtelkkpomehgcjaaGreat
open Go.RowKit Go.Maps

structure Rf where
  room : Int
  kept : Kf
  done : List Un
  live : Nat
  gone : Bool
  armed : Int

def Rf.files (r : Rf) (n : Nat) : Kf := (r.done.take n).foldl unitK r.kept
def Rf.seen (r : Rf) : Kf := r.files r.done.length

/-- A unit is done. -/
def Rf.put (r : Rf) (u : Un) : Rf :=
  if r.gone then { r with done := r.done ++ [u] }
  else if u.empty then { r with done := r.done ++ [u], live := r.done.length + 1 }
  else if r.armed = 0 then { r with done := r.done ++ [u], gone := true }
  else { r with done := r.done ++ [u], armed := if 0 < r.armed then r.armed - 1 else r.armed, live := r.done.length + 1 }

def Rf.putAll (r : Rf) (us : List Un) : Rf := us.foldl Rf.put r

def Rf.pend (r : Rf) : Nat := full (r.done.take r.live)

/-- A reel, and what it must be. -/
structure Likes (R : Rw) (f : Fs) (r : Rf) : Prop where
  room : r.room = (R.room : Int)
  srt : SrtK r.kept
  kept : filesK r.kept = f
  done : r.done = R.deeds.flatMap unitsOf
  gone : r.gone = R.gone
  armed : R.gone = false → r.armed = if R.armed then R.left else -1
  low : R.armed = true → 0 ≤ R.left
  live : r.live ≤ r.done.length
  all : R.gone = false → r.live = r.done.length
  stop : R.gone = true → ∃ u rest, r.done.drop r.live = u :: rest ∧ u.empty = false
  count : R.count = full (r.done.take r.live)

theorem foldl_unit : ∀ (us : List Un) {l : Kf}, SrtK l → SrtK (us.foldl unitK l) ∧ filesK (us.foldl unitK l) = ureplay (filesK l) us
  | [], _, h => ⟨h, rfl⟩
  | u :: r, l, h => by
    obtain ⟨h1, h2⟩ := unit_ok h u
    obtain ⟨i1, i2⟩ := foldl_unit r h1
    refine ⟨i1, ?_⟩
    rw [List.foldl_cons, i2, h2]
    rfl

/-- The files that are seen. -/
theorem Likes.seen {R : Rw} {f : Fs} {r : Rf} (h : Likes R f r) : SrtK r.seen ∧ filesK r.seen = replay f R.deeds := by
  obtain ⟨h1, h2⟩ := foldl_unit (r.done.take r.done.length) h.srt
  refine ⟨h1, ?_⟩
  show filesK ((r.done.take r.done.length).foldl unitK r.kept) = _
  rw [h2, List.take_length, h.kept, h.done, units_replay]

theorem putAll_gone : ∀ (us : List Un) (r : Rf), r.gone = true → r.putAll us = { r with done := r.done ++ us }
  | [], r, _ => by simp [Rf.putAll]
  | u :: t, r, h => by
    have e : r.put u = { r with done := r.done ++ [u] } := by simp [Rf.put, h]
    show (r.put u).putAll t = _
    rw [putAll_gone t (r.put u) (by rw [e]; exact h), e]
    simp

/-- Units that count, the power there, not armed. -/
theorem putAll_free : ∀ (us : List Un) (r : Rf), r.gone = false → r.armed < 0 → r.live = r.done.length → r.putAll us = { r with done := r.done ++ us, live := r.done.length + us.length }
  | [], r, _, _, hl => by simp [Rf.putAll, hl.symm]
  | u :: t, r, h, ha, hl => by
    have e : r.put u = { r with done := r.done ++ [u], live := r.done.length + 1 } := by
      have h0 : ¬ r.armed = 0 := by omega
      have h1 : ¬ 0 < r.armed := by omega
      cases hu : u.empty <;> simp [Rf.put, h, hu, h0, h1]
    show (r.put u).putAll t = _
    rw [putAll_free t (r.put u) (by rw [e]; exact h) (by rw [e]; exact ha) (by rw [e]; simp), e]
    simp
    omega

/-- Units that count, armed with enough. -/
theorem putAll_armed : ∀ (us : List Un) (r : Rf), (∀ u ∈ us, u.empty = false) → r.gone = false → (us.length : Int) ≤ r.armed → r.live = r.done.length → r.putAll us = { r with done := r.done ++ us, live := r.done.length + us.length, armed := r.armed - us.length }
  | [], r, _, _, _, hl => by simp [Rf.putAll, hl.symm]
  | u :: t, r, hu, h, ha, hl => by
    have hu0 := hu u (by simp)
    simp only [List.length_cons] at ha
    have e : r.put u = { r with done := r.done ++ [u], live := r.done.length + 1, armed := r.armed - 1 } := by
      have h0 : ¬ r.armed = 0 := by omega
      have h1 : 0 < r.armed := by omega
      simp [Rf.put, h, hu0, h0, h1]
    show (r.put u).putAll t = _
    rw [putAll_armed t (r.put u) (fun x hx => hu x (by simp [hx])) (by rw [e]; exact h) (by rw [e]; show (t.length : Int) ≤ r.armed - 1; omega) (by rw [e]; simp), e]
    simp
    omega

/-- .. with too few. -/
theorem putAll_short : ∀ (us : List Un) (r : Rf), (∀ u ∈ us, u.empty = false) → r.gone = false → 0 ≤ r.armed → r.armed < (us.length : Int) → r.live = r.done.length → r.putAll us = { r with done := r.done ++ us, live := r.done.length + r.armed.toNat, armed := 0, gone := true }
  | [], r, _, _, h0, ha, _ => by simp at ha; omega
  | u :: t, r, hu, h, h0, ha, hl => by
    have hu0 := hu u (by simp)
    simp only [List.length_cons] at ha
    by_cases hz : r.armed = 0
    · have e : r.put u = { r with done := r.done ++ [u], gone := true } := by simp [Rf.put, h, hu0, hz]
      show (r.put u).putAll t = _
      rw [putAll_gone t (r.put u) (by rw [e]), e]
      simp [hz, hl]
    · have e : r.put u = { r with done := r.done ++ [u], live := r.done.length + 1, armed := r.armed - 1 } := by
        have h1 : 0 < r.armed := by omega
        simp [Rf.put, h, hu0, hz, h1]
      show (r.put u).putAll t = _
      rw [putAll_short t (r.put u) (fun x hx => hu x (by simp [hx])) (by rw [e]; exact h) (by rw [e]; show 0 ≤ r.armed - 1; omega) (by rw [e]; show r.armed - 1 < (t.length : Int); omega) (by rw [e]; simp), e]
      simp
      omega

end Go.Proofs.YtelkkpomehgcjaaGreat

namespace Go.Proofs.YtelkkpomehgcjaaGreat
open Go.RowKit Go.Maps

theorem units_length (d : Dd) (h : d.units ≠ 0) : (unitsOf d).length = d.units ∧ ∀ u ∈ unitsOf d, u.empty = false := by
  unfold unitsOf Dd.units at *
  cases hd : d.drop
  · rw [hd] at h
    simp only [Bool.false_eq_true, if_false] at h ⊢
    have he : d.data ≠ [] := fun e => h (by rw [e]; rfl)
    rw [if_neg he]
    exact ⟨by simp, by simp⟩
  · simp

theorem units_empty (d : Dd) (h : d.units = 0) : unitsOf d = [⟨d.file, 0, false, true⟩] := by
  unfold unitsOf Dd.units at *
  cases hd : d.drop
  · rw [hd] at h
    simp only [Bool.false_eq_true, if_false] at h ⊢
    rw [if_pos (List.eq_nil_of_length_eq_zero h)]
  · rw [hd] at h
    simp at h

theorem full_all {us : List Un} (h : ∀ u ∈ us, u.empty = false) : full us = us.length := by
  unfold full
  rw [List.filter_eq_self.2]
  intro u hu
  simp [h u hu]

theorem likes_deed {R R' : Rw} {f : Fs} {r : Rf} (h : Likes R f r) (d : Dd) (hd : R'.deeds = R.deeds ++ [d]) (hr : R'.room = R.room) (hp : R'.pw = R.pw.note d.units) (hlow : R'.armed = true → 0 ≤ R'.left) : Likes R' f (r.putAll (unitsOf d)) := by
  have hdn : ∀ x : List Un, x = r.done ++ unitsOf d → x = R'.deeds.flatMap unitsOf := fun x hx => by
    rw [hx, hd, h.done]
    simp
  have hc := congrArg Pw.count hp
  have ha := congrArg Pw.armed hp
  have hl := congrArg Pw.left hp
  have hg := congrArg Pw.gone hp
  unfold Pw.note Rw.pw at hc ha hl hg
  simp only at hc ha hl hg
  cases hgn : R.gone
  · have hlive := h.all hgn
    have hcnt := h.count
    rw [hlive, List.take_length] at hcnt
    have hrg : r.gone = false := h.gone.trans hgn
    have harm := h.armed hgn
    rw [hgn] at hc ha hl hg
    simp only [Bool.false_eq_true, if_false] at hc ha hl hg
    by_cases hu : d.units = 0
    · -- no unit
      have hus := units_empty d hu
      have e : r.putAll (unitsOf d) = { r with done := r.done ++ unitsOf d, live := r.done.length + 1 } := by
        rw [hus]
        simp [Rf.putAll, Rf.put, hrg]
      rw [e]
      have hR : R'.count = R.count ∧ R'.armed = R.armed ∧ R'.left = R.left ∧ R'.gone = false := by
        cases har : R.armed
        · rw [har] at hc ha hl hg
          simp only [Bool.false_eq_true, if_false] at hc ha hl hg
          exact ⟨by omega, ha, hl, hg⟩
        · rw [har] at hc ha hl hg
          have := h.low har
          rw [hu] at hc hl hg
          simp only [if_true] at hc ha hl hg
          refine ⟨by omega, ha, by omega, ?_⟩
          rw [hg]
          simp
          omega
      obtain ⟨q1, q2, q3, q4⟩ := hR
      have hul : (unitsOf d).length = 1 := by rw [hus]; rfl
      refine ⟨h.room.trans (by rw [hr]), h.srt, h.kept, hdn _ rfl, by rw [q4]; exact hrg, fun _ => by rw [q2, q3]; exact harm, hlow, by simp [hul], fun _ => by simp [hul], fun e => (by rw [q4] at e; cases e), ?_⟩
      rw [q1, hcnt]
      show _ = full (List.take (r.done.length + 1) (r.done ++ unitsOf d))
      rw [List.take_of_length_le (by simp [hul]), full_append, full_units, hu]
      rfl
    · obtain ⟨hul, hue⟩ := units_length d hu
      cases har : R.armed
      · rw [har] at hc ha hl hg harm
        simp only [Bool.false_eq_true, if_false] at hc ha hl hg harm
        rw [putAll_free _ _ hrg (by rw [harm]; decide) hlive]
        refine ⟨h.room.trans (by rw [hr]), h.srt, h.kept, hdn _ rfl, by rw [hg]; exact hrg, fun _ => by rw [ha]; exact harm, hlow, by simp, fun _ => by simp, fun e => (by rw [hg] at e; cases e), ?_⟩
        rw [hc, hcnt]
        show _ = full (List.take (r.done.length + (unitsOf d).length) (r.done ++ unitsOf d))
        rw [List.take_of_length_le (by simp), full_append, full_units]
      · rw [har] at hc ha hl hg harm
        have h0 := h.low har
        simp only [if_true] at hc ha hl hg harm
        by_cases hle : (d.units : Int) ≤ R.left
        · rw [putAll_armed _ _ hue hrg (by rw [hul, harm]; exact hle) hlive]
          have hg' : R'.gone = false := by
            rw [hg]
            simp
            omega
          refine ⟨h.room.trans (by rw [hr]), h.srt, h.kept, hdn _ rfl, by rw [hg']; exact hrg, fun _ => ?_, hlow, by simp, fun _ => by simp, fun e => (by rw [hg'] at e; cases e), ?_⟩
          · rw [ha, hl]
            show r.armed - ((unitsOf d).length : Int) = R.left - min (d.units : Int) R.left
            rw [hul, harm]
            omega
          · rw [hc, hcnt]
            show _ = full (List.take (r.done.length + (unitsOf d).length) (r.done ++ unitsOf d))
            rw [List.take_of_length_le (by simp), full_append, full_units]
            omega
        · rw [putAll_short _ _ hue hrg (by rw [harm]; exact h0) (by rw [hul, harm]; omega) hlive]
          have hg' : R'.gone = true := by
            rw [hg]
            simp
            omega
          have hln : R.left.toNat < (unitsOf d).length := by omega
          have hsplit : (r.done ++ unitsOf d).take (r.done.length + R.left.toNat) = r.done ++ (unitsOf d).take R.left.toNat := by
            rw [List.take_length_add_append]
          refine ⟨h.room.trans (by rw [hr]), h.srt, h.kept, hdn _ rfl, by rw [hg'], fun e => (by rw [hg'] at e; cases e), hlow, ?_, fun e => (by rw [hg'] at e; cases e), fun _ => ?_, ?_⟩
          · show r.done.length + r.armed.toNat ≤ (r.done ++ unitsOf d).length
            rw [harm]
            simp
            omega
          · show ∃ u rest, (r.done ++ unitsOf d).drop (r.done.length + r.armed.toNat) = u :: rest ∧ u.empty = false
            rw [harm, List.drop_length_add_append, List.drop_eq_getElem_cons hln]
            exact ⟨_, _, rfl, hue _ (List.getElem_mem hln)⟩
          · rw [hc, hcnt]
            show _ = full ((r.done ++ unitsOf d).take (r.done.length + r.armed.toNat))
            rw [harm, hsplit, full_append, full_all (us := (unitsOf d).take R.left.toNat) (fun u hu => hue u (List.mem_of_mem_take hu))]
            simp
            omega
  · -- the power is gone
    have hrg : r.gone = true := h.gone.trans hgn
    rw [hgn] at hc ha hl hg
    simp only [if_true] at hc ha hl hg
    rw [putAll_gone _ _ hrg]
    have hlv := h.live
    obtain ⟨u, rest, hs, hu⟩ := h.stop hgn
    refine ⟨h.room.trans (by rw [hr]), h.srt, h.kept, hdn _ rfl, by rw [hg]; exact hrg, fun e => (by rw [hg] at e; cases e), hlow, ?_, fun e => (by rw [hg] at e; cases e), fun _ => ⟨u, rest ++ unitsOf d, ?_, hu⟩, ?_⟩
    · show r.live ≤ (r.done ++ unitsOf d).length
      simp
      omega
    · show (r.done ++ unitsOf d).drop r.live = _
      rw [List.drop_append_of_le_length hlv, hs]
      rfl
    · rw [hc]
      show _ = full ((r.done ++ unitsOf d).take r.live)
      rw [List.take_append_of_le_length hlv]
      exact h.count

/-- A crash. -/
theorem likes_crash {R : Rw} {f : Fs} {r : Rf} (h : Likes R f r) (keep : Int) (n : Nat) (hn : (n : Int) = min (max keep 0) (R.count : Int)) :
    SrtK (r.files (takeU (r.done.take r.live) keep.toNat).length) ∧ filesK (r.files (takeU (r.done.take r.live) keep.toNat).length) = keepF f R.deeds n := by
  have hst : r.done.drop r.live = [] ∨ ∃ u rest, r.done.drop r.live = u :: rest ∧ u.empty = false := by
    cases hg : R.gone
    · left
      rw [h.all hg]
      simp
    · exact .inr (h.stop hg)
  have hk := takeU_stop (r.done.take r.live) (r.done.drop r.live) keep.toNat hst
  rw [List.take_append_drop, ← h.count, show min keep.toNat R.count = n by omega] at hk
  have pre : ∀ (us : List Un) (m : Nat), us.take (takeU us m).length = takeU us m := by
    intro us
    induction us with
    | nil => intro m; rfl
    | cons u t ih =>
      intro m
      rw [takeU_cons]
      by_cases hu : u.empty
      · rw [if_pos hu]
        simp [ih m]
      · rw [if_neg hu]
        cases m with
        | zero => rfl
        | succ m => simp [ih m]
  have htake : r.done.take (takeU (r.done.take r.live) keep.toNat).length = takeU r.done n := by
    rw [hk]
    exact pre _ _
  obtain ⟨h1, h2⟩ := foldl_unit (r.done.take (takeU (r.done.take r.live) keep.toNat).length) h.srt
  refine ⟨h1, ?_⟩
  show filesK ((r.done.take _).foldl unitK r.kept) = _
  rw [h2, htake, h.kept, h.done, keep_units]

end Go.Proofs.YtelkkpomehgcjaaGreat
