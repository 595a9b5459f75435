/-
  Deeds as units; what a crash takes of them: the pure part.
-/
import Derived.Test.YtdcbepdghiafhaaUnits
namespace Go.Proofs.Ytdcbepdghiafhaa
open Go.RowKit Go.Maps

def unitsOf (d : Dd) : List Un :=
  if d.drop then [⟨d.file, 0, true, false⟩]
  else if d.data = [] then [⟨d.file, 0, false, true⟩]
  else d.data.map fun c => ⟨d.file, c, false, false⟩

def ureplay (f : Fs) (us : List Un) : Fs := us.foldl ustep f

theorem ureplay_append (f : Fs) (a b : List Un) : ureplay f (a ++ b) = ureplay (ureplay f a) b := by simp [ureplay]

theorem ureplay_bytes (k : Int) : ∀ (data : List UInt8) (f : Fs), data ≠ [] → ureplay f (data.map fun c => ⟨k, c, false, false⟩) = f.set k (some ((f k).getD [] ++ data))
  | [], _, h => absurd rfl h
  | [c], f, _ => by simp [ureplay, ustep]
  | c :: d :: r, f, _ => by
    have := ureplay_bytes k (d :: r) (ustep f ⟨k, c, false, false⟩) (by simp)
    show ureplay (ustep f ⟨k, c, false, false⟩) ((d :: r).map fun c => ⟨k, c, false, false⟩) = _
    rw [this]
    simp [ustep, set_set, set_at]

theorem units_step (f : Fs) (d : Dd) : ureplay f (unitsOf d) = step f d := by
  unfold unitsOf step
  cases hd : d.drop
  · by_cases he : d.data = []
    · simp [he, ureplay, ustep]
    · simp only [Bool.false_eq_true, if_false, he]
      exact ureplay_bytes d.file d.data f he
  · simp [ureplay, ustep]

theorem units_replay : ∀ (ds : List Dd) (f : Fs), ureplay f (ds.flatMap unitsOf) = replay f ds
  | [], _ => rfl
  | d :: r, f => by
    rw [List.flatMap_cons, ureplay_append, units_step, units_replay r]
    rfl

/-- How many units count. -/
def full (us : List Un) : Nat := (us.filter fun u => !u.empty).length

theorem full_append (a b : List Un) : full (a ++ b) = full a + full b := by simp [full]

/-- The longest beginning with at most n that count. -/
def takeU : List Un → Nat → List Un
  | [], _ => []
  | u :: r, n => if u.empty then u :: takeU r n else match n with
    | 0 => []
    | n + 1 => u :: takeU r n

theorem takeU_cons (u : Un) (r : List Un) (n : Nat) : takeU (u :: r) n = if u.empty then u :: takeU r n else match n with
    | 0 => []
    | n + 1 => u :: takeU r n := rfl

theorem full_units (d : Dd) : full (unitsOf d) = d.units := by
  unfold unitsOf Dd.units full
  cases d.drop
  · by_cases he : d.data = []
    · simp [he]
    · simp [he, List.filter_map, Function.comp_def]
  · simp

theorem takeU_all : ∀ (us : List Un) (n : Nat), full us ≤ n → takeU us n = us
  | [], _, _ => rfl
  | u :: r, n, h => by
    unfold takeU
    by_cases hu : u.empty
    · rw [if_pos hu, takeU_all r n (by simpa [full, hu] using h)]
    · have hf : full (u :: r) = full r + 1 := by simp [full, hu]
      rw [if_neg hu]
      cases n with
      | zero => omega
      | succ n =>
        simp only
        rw [takeU_all r n (by omega)]

theorem takeU_append : ∀ (a b : List Un) (n : Nat), full a ≤ n → takeU (a ++ b) n = a ++ takeU b (n - full a)
  | [], _, _, _ => by simp [full]
  | u :: r, b, n, h => by
    rw [List.cons_append, takeU_cons]
    by_cases hu : u.empty
    · have hf : full (u :: r) = full r := by simp [full, hu]
      rw [if_pos hu, takeU_append r b n (by omega), hf]
      rfl
    · have hf : full (u :: r) = full r + 1 := by simp [full, hu]
      rw [if_neg hu]
      cases n with
      | zero => omega
      | succ n =>
        simp only
        rw [takeU_append r b n (by omega), hf]
        simp

theorem takeU_bytes (k : Int) (b : List Un) : ∀ (data : List UInt8) (n : Nat), n < data.length → takeU ((data.map fun c => (⟨k, c, false, false⟩ : Un)) ++ b) n = (data.take n).map fun c => ⟨k, c, false, false⟩
  | [], n, h => by simp at h
  | c :: r, 0, _ => by simp [takeU]
  | c :: r, n + 1, h => by
    simp only [List.map_cons, List.cons_append, takeU, List.take_succ_cons]
    rw [takeU_bytes k b r n (by simpa using h)]
    simp

theorem keep_units : ∀ (ds : List Dd) (f : Fs) (n : Nat), keepF f ds n = ureplay f (takeU (ds.flatMap unitsOf) n)
  | [], f, n => by simp [keepF, scan, replay, takeU, ureplay]
  | d :: r, f, n => by
    rw [List.flatMap_cons]
    by_cases hd : d.units ≤ n
    · rw [takeU_append _ _ _ (by rw [full_units]; exact hd), full_units, ureplay_append, units_step, ← keep_units r (step f d) (n - d.units)]
      unfold keepF
      rw [scan_cons, if_pos hd]
      simp only [List.drop_succ_cons, List.take_succ_cons]
      rfl
    · have hk : keepF f (d :: r) n = part f d n := by
        unfold keepF
        rw [scan_cons, if_neg hd]
        rfl
      rw [hk]
      have hlt : n < d.units := by omega
      unfold part
      cases hdr : d.drop
      · have hne : d.data ≠ [] := by
          intro e
          simp [Dd.units, hdr, e] at hlt
        have hl : n < d.data.length := by simpa [Dd.units, hdr] using hlt
        have hu : unitsOf d = d.data.map fun c => ⟨d.file, c, false, false⟩ := by simp [unitsOf, hdr, hne]
        rw [hu, takeU_bytes d.file _ d.data n hl]
        by_cases h0 : n = 0
        · subst h0
          simp [ureplay]
        · rw [if_neg h0, ureplay_bytes d.file _ f (by
            intro e
            have := congrArg List.length e
            simp at this
            rcases this with h | h
            · exact h0 h
            · exact hne h)]
          simp [step]
      · have h0 : n = 0 := by
          simp [Dd.units, hdr] at hlt
          exact hlt
        subst h0
        simp [unitsOf, hdr, takeU, ureplay]

/-- Beyond a unit that counts nothing is taken. -/
theorem takeU_stop : ∀ (a b : List Un) (n : Nat), (b = [] ∨ ∃ u r, b = u :: r ∧ u.empty = false) → takeU a n = takeU (a ++ b) (min n (full a))
  | [], b, n, h => by
    simp only [full, List.filter_nil, List.length_nil, Nat.min_zero, List.nil_append]
    rcases h with rfl | ⟨u, r, rfl, hu⟩
    · rfl
    · simp [takeU, hu]
  | u :: r, b, n, h => by
    rw [List.cons_append]
    unfold takeU
    by_cases hu : u.empty
    · have hf : full (u :: r) = full r := by simp [full, hu]
      rw [if_pos hu, if_pos hu, hf, takeU_stop r b n h]
    · have hf : full (u :: r) = full r + 1 := by simp [full, hu]
      rw [if_neg hu, if_neg hu]
      cases n with
      | zero => simp
      | succ n =>
        have : min (n + 1) (full (u :: r)) = min n (full r) + 1 := by omega
        rw [this]
        simp only
        rw [takeU_stop r b n h]

end Go.Proofs.Ytdcbepdghiafhaa
