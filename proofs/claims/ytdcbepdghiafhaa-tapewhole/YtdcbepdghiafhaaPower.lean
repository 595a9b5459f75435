/-
  Whatever is kept behind the power's going: a segment that is begun, a record that is appended, files that are dropped: the newest whole segment has the records from before, or those from behind.
-/
import Derived.Test.YtdcbepdghiafhaaCalm
namespace Go.Proofs.Ytdcbepdghiafhaa
open Go.RowKit Go.Maps

theorem newK_append (a b : Kf) : newK (a ++ b) = match newK b with | some s => some s | none => newK a := by
  induction a with
  | nil =>
    show newK b = _
    cases newK b <;> rfl
  | cons p r ih =>
    show (match newK (r ++ b) with | some s => some s | none => (segOf p.2).map fun s => (p.1, s)) = _
    rw [ih]
    cases newK b with
    | some s => rfl
    | none => rfl

theorem newK_none {K : Kf} : newK K = none ↔ ∀ q ∈ K, segOf q.2 = none := by
  induction K with
  | nil => simp [newK]
  | cons p r ih =>
    have e : newK (p :: r) = match newK r with | some s => some s | none => (segOf p.2).map fun s => (p.1, s) := rfl
    rw [e]
    cases hr : newK r with
    | some s =>
      simp only [List.mem_cons, forall_eq_or_imp, reduceCtorEq, false_iff]
      intro h
      rw [ih.2 h.2] at hr
      cases hr
    | none =>
      simp only [Option.map_eq_none_iff, List.mem_cons, forall_eq_or_imp]
      exact ⟨fun h => ⟨h, ih.1 hr⟩, fun h => h.1⟩

theorem newK_split {K : Kf} {n : Int} {s : Nat × List (List UInt8) × Bool} (h : newK K = some (n, s)) : ∃ pre b post, K = pre ++ (n, b) :: post ∧ segOf b = some s ∧ newK post = none := by
  induction K with
  | nil => cases h
  | cons p r ih =>
    have e : newK (p :: r) = match newK r with | some s => some s | none => (segOf p.2).map fun s => (p.1, s) := rfl
    rw [e] at h
    cases hr : newK r with
    | some t =>
      rw [hr] at h
      simp only [Option.some.injEq] at h
      obtain ⟨pre, b, post, h1, h2, h3⟩ := ih (by rw [hr, h])
      exact ⟨p :: pre, b, post, by rw [h1]; rfl, h2, h3⟩
    | none =>
      rw [hr] at h
      simp only [Option.map_eq_some_iff, Prod.mk.injEq] at h
      obtain ⟨t, h1, rfl, rfl⟩ := h
      exact ⟨[], p.2, r, rfl, h1, hr⟩

theorem newK_mk {pre post : Kf} {n : Int} {b : List UInt8} {s : Nat × List (List UInt8) × Bool} (h : segOf b = some s) (hp : newK post = none) : newK (pre ++ (n, b) :: post) = some (n, s) := by
  have e : newK ((n, b) :: post) = some (n, s) := by
    show (match newK post with | some s => some s | none => (segOf b).map fun s => (n, s)) = _
    rw [hp, h]
    rfl
  rw [newK_append, e]

theorem filesK_filter (q : Int → Bool) (K : Kf) (j : Int) : filesK (K.filter fun p => q p.1) j = if q j then filesK K j else none := by
  show getK j _ = if q j then getK j K else none
  induction K with
  | nil => simp [getK]
  | cons p r ih =>
    rw [List.filter_cons, getK_cons]
    by_cases e : p.1 = j
    · cases hq : q p.1
      · simp only [Bool.false_eq_true, if_false]
        rw [ih, if_pos e, ← e, hq]
        simp
      · simp only [if_true]
        rw [getK_cons, if_pos e, if_pos e, ← e, hq]
        simp
    · rw [if_neg e]
      cases hq : q p.1
      · simp only [Bool.false_eq_true, if_false]
        exact ih
      · simp only [if_true]
        rw [getK_cons, if_neg e]
        exact ih

/-- A filter that leaves the newest leaves it the newest. -/
theorem newK_filter (q : Int → Bool) {K : Kf} {n : Int} {s : Nat × List (List UInt8) × Bool} (h : newK K = some (n, s)) (hq : q n = true) : newK (K.filter fun p => q p.1) = some (n, s) := by
  obtain ⟨pre, b, post, rfl, h2, h3⟩ := newK_split h
  rw [List.filter_append, List.filter_cons]
  simp only [hq, if_true]
  refine newK_mk h2 (newK_none.2 fun x hx => newK_none.1 h3 x (List.mem_filter.1 hx).1)

theorem drops_f (d : Dk) (file : Int) (ks : List Int) : (d.drops file ks).f = d.f := by
  unfold Dk.drops
  generalize ks.filter (fun k => k != file) = js
  induction js generalizing d with
  | nil => rfl
  | cons j r ih => exact ih (d.drop j)

theorem drops_ds (d : Dk) (file : Int) (ks : List Int) : ∃ D : List Dd, (d.drops file ks).ds = d.ds ++ D ∧ D.map (·.file) = ks.filter (fun k => k != file) ∧ ∀ x ∈ D, x.drop = true := by
  unfold Dk.drops
  generalize ks.filter (fun k => k != file) = js
  induction js generalizing d with
  | nil => exact ⟨[], by simp, rfl, by simp⟩
  | cons j r ih =>
    obtain ⟨D, h1, h2, h3⟩ := ih (d.drop j)
    refine ⟨⟨j, true, false, (d.now j).getD []⟩ :: D, ?_, by simp [h2], ?_⟩
    · show ((r.foldl Dk.drop (d.drop j)).ds) = _
      rw [h1]
      simp [Dk.drop]
    · intro x hx
      rcases List.mem_cons.1 hx with rfl | hx
      · rfl
      · exact h3 x hx

theorem note_gone {s : Pw} (h : s.gone = true) (u : Nat) : s.note u = s := by
  unfold Pw.note
  rw [if_pos h]

theorem drops_gone {d : Dk} (h : d.pw.gone = true) (file : Int) (ks : List Int) : (d.drops file ks).pw = d.pw := by
  unfold Dk.drops
  generalize ks.filter (fun k => k != file) = js
  induction js generalizing d with
  | nil => rfl
  | cons j r ih =>
    have e : (d.drop j).pw = d.pw := note_gone h 1
    exact (ih (d := d.drop j) (by rw [e]; exact h)).trans e

theorem replay_drops : ∀ (D : List Dd) (f : Fs), (∀ x ∈ D, x.drop = true) → ∀ j, replay f D j = if j ∈ D.map (·.file) then none else f j
  | [], f, _, j => by simp [replay]
  | x :: r, f, h, j => by
    show replay (step f x) r j = _
    rw [replay_drops r (step f x) (fun y hy => h y (by simp [hy])) j]
    have hx := h x (by simp)
    by_cases h1 : j ∈ r.map (·.file)
    · simp [h1]
    · by_cases h2 : j = x.file
      · subst h2
        simp [step, hx, Fs.set]
      · simp [h1, h2, step, hx, Fs.set]

theorem keep_drops : ∀ (D : List Dd) (f : Fs) (n : Nat), (∀ x ∈ D, x.drop = true) → keepF f D n = replay f (D.take n)
  | [], f, n, _ => by rw [keep_nil]; simp [replay]
  | x :: r, f, 0, h => by
    have hx := h x (by simp)
    unfold keepF
    simp [scan, Dd.units, hx, part, replay]
  | x :: r, f, n + 1, h => by
    have hx := h x (by simp)
    have ih := keep_drops r (step f x) n fun y hy => h y (by simp [hy])
    have hs : scan (x :: r) (n + 1) = ((scan r n).1 + 1, (scan r n).2) := by
      simp [scan, Dd.units, hx]
    unfold keepF at ih ⊢
    rw [hs]
    simp only [List.drop_succ_cons, List.take_succ_cons]
    exact ih

/-- All but the newest are dropped, as far as the power lasts. -/
theorem others_kept {K : Kf} (hK : SrtK K) {file : Int} {s : Nat × List (List UInt8) × Bool} (hn : newK K = some (file, s)) (pw : Pw) (n : Nat) :
    ∃ K' : Kf, SrtK K' ∧ filesK K' = keepF ((⟨filesK K, [], pw⟩ : Dk).others file (keysK K)).f ((⟨filesK K, [], pw⟩ : Dk).others file (keysK K)).ds n ∧ newK K' = some (file, s) ∧ ∃ q : Int → Bool, K' = K.filter fun p => q p.1 := by
  have all : ∀ q : Int → Bool, q file = true → SrtK (K.filter fun p => q p.1) ∧ newK (K.filter fun p => q p.1) = some (file, s) := fun q hq => ⟨List.Pairwise.filter _ hK, newK_filter q hn hq⟩
  unfold Dk.others
  split
  · have e : (K.filter fun p => (fun _ : Int => true) p.1) = K := by simp
    refine ⟨K, hK, ?_, hn, fun _ => true, e.symm⟩
    rw [keep_nil]
  · unfold Dk.sync
    have hf := drops_f ⟨filesK K, [], pw⟩ file (keysK K)
    obtain ⟨D, h1, h2, h3⟩ := drops_ds ⟨filesK K, [], pw⟩ file (keysK K)
    have hnow := drops_now ⟨filesK K, [], pw⟩ file (keysK K)
    generalize (⟨filesK K, [], pw⟩ : Dk).drops file (keysK K) = E at *
    split
    · rw [hf, h1, List.nil_append]
      have hq : (fun k => !((D.take n).map (·.file)).contains k) file = true := by
        simp only [Bool.not_eq_true', List.contains_eq_mem, decide_eq_false_iff_not]
        intro hm
        have : file ∈ D.map (·.file) := by
          rw [List.map_take] at hm
          exact List.mem_of_mem_take hm
        rw [h2] at this
        simp at this
      obtain ⟨a1, a2⟩ := all (fun k => !((D.take n).map (·.file)).contains k) hq
      refine ⟨_, a1, ?_, a2, fun k => !((D.take n).map (·.file)).contains k, rfl⟩
      funext j
      have hff := filesK_filter (fun k => !((D.take n).map (·.file)).contains k) K j
      rw [keep_drops D _ n h3, replay_drops _ _ (fun x hx => h3 x (List.mem_of_mem_take hx))]
      refine hff.trans ?_
      simp
    · simp only
      rw [keep_nil]
      obtain ⟨a1, a2⟩ := all (fun k => k == file) (by simp)
      refine ⟨_, a1, ?_, a2, fun k => k == file, rfl⟩
      funext j
      refine (filesK_filter (fun k => k == file) K j).trans ?_
      rw [hnow]
      show _ = if j ∈ keysK K ∧ j ≠ file then none else filesK K j
      by_cases e : j = file
      · simp [e]
      · by_cases hj : j ∈ keysK K
        · simp [e, hj]
        · have : filesK K j = none := getK_none_of hj
          simp [e, hj, this]

theorem whole_lt : ∀ (l : List (List UInt8)) (n : Nat), n < (recs l).length → whole l n < l.length
  | [], n, h => by simp [recs] at h
  | b :: r, n, h => by
    unfold whole
    rw [recs_cons, List.length_append, record_length] at h
    split
    · have := whole_lt r (n - (b.length + 9)) (by omega)
      simp
      omega
    · simp

/-- A segment that is cut is not whole. -/
theorem segOf_cut {ms : List (List UInt8)} (hf : fits ms) (hl : ms.length ≤ 1000000) {n : Nat} (hn : n < (seg ms.length ms).length) : segOf ((seg ms.length ms).take n) = none := by
  have hr := rows_cut (four ms.length :: ms) n (fits_four _ hf)
  have hw := whole_lt (four ms.length :: ms) n hn
  unfold segOf
  rw [show ((seg ms.length ms).take n) = (recs (four ms.length :: ms)).take n from rfl, hr]
  cases hj : whole (four ms.length :: ms) n with
  | zero => simp [wholeB]
  | succ j =>
    rw [hj] at hw
    simp only [List.length_cons] at hw
    rw [List.take_succ_cons, wholeB_cons, num4_four _ (by omega)]
    rw [if_neg]
    simp
    omega

theorem app_pw (pw : Pw) (hg : pw.gone = false) (hc : pw.count = 0) (ha : pw.armed = true → 0 ≤ pw.left) (u : Nat) : ((pw.note u).gone = true → (pw.note u).count < u) ∧ (pw.note u).count ≤ u := by
  unfold Pw.note
  rw [hg]
  cases hA : pw.armed
  · simp [hc]
  · have := ha hA
    simp only [Bool.false_eq_true, if_false, if_true, hc, Nat.zero_add, decide_eq_true_eq]
    constructor
    · intro h
      omega
    · omega

/-- A segment is begun, as far as the power lasts. -/
theorem begun_kept {K : Kf} (hK : SrtK K) (hne : K ≠ []) (pw : Pw) (hg : pw.gone = false) (hc : pw.count = 0) (ha : pw.armed = true → 0 ≤ pw.left) {ms : List (List UInt8)} (hf : fits ms) (hl : ms.length ≤ 1000000) (n : Nat) (hn : n ≤ ((⟨filesK K, [], pw⟩ : Dk).begun K ms).pw.count) :
    ∃ K' : Kf, SrtK K' ∧ filesK K' = keepF ((⟨filesK K, [], pw⟩ : Dk).begun K ms).f ((⟨filesK K, [], pw⟩ : Dk).begun K ms).ds n ∧
      ((newK K' = newK K ∧ (K' = K ∨ K' = K ++ [(nextK K, (seg ms.length ms).take n)])) ∨ (newK K' = some (nextK K, ms.length, ms, true) ∧ ∃ q : Int → Bool, K' = (K ++ [(nextK K, seg ms.length ms)]).filter fun p => q p.1)) := by
  have hnk : keysK K ++ [nextK K] = keysK (K ++ [(nextK K, seg ms.length ms)]) := (keys_next K _).symm
  have hlen : ¬ (keysK K ++ [nextK K]).length < 2 := by
    cases K with
    | nil => exact absurd rfl hne
    | cons p r => simp [keysK]
  have hb := begun_now (d := ⟨filesK K, [], pw⟩) hK rfl (seg ms.length ms)
  unfold Dk.begun at hn ⊢
  have hpw : ((⟨filesK K, [], pw⟩ : Dk).app (nextK K) (seg ms.length ms)).pw = pw.note (seg ms.length ms).length := rfl
  by_cases hgo : (pw.note (seg ms.length ms).length).gone = true
  · have hs : ((⟨filesK K, [], pw⟩ : Dk).app (nextK K) (seg ms.length ms)).sync = (⟨filesK K, [], pw⟩ : Dk).app (nextK K) (seg ms.length ms) := by
      unfold Dk.sync
      rw [hpw, if_pos hgo]
    rw [hs] at hn ⊢
    unfold Dk.others at hn ⊢
    rw [if_neg hlen] at hn ⊢
    have hdp := drops_gone (d := (⟨filesK K, [], pw⟩ : Dk).app (nextK K) (seg ms.length ms)) (by rw [hpw]; exact hgo) (nextK K) (keysK K ++ [nextK K])
    have hdf := drops_f ((⟨filesK K, [], pw⟩ : Dk).app (nextK K) (seg ms.length ms)) (nextK K) (keysK K ++ [nextK K])
    obtain ⟨D, h1, _, _⟩ := drops_ds ((⟨filesK K, [], pw⟩ : Dk).app (nextK K) (seg ms.length ms)) (nextK K) (keysK K ++ [nextK K])
    generalize ((⟨filesK K, [], pw⟩ : Dk).app (nextK K) (seg ms.length ms)).drops (nextK K) (keysK K ++ [nextK K]) = E at *
    have hse : E.sync = E := by
      unfold Dk.sync
      rw [hdp, hpw, if_pos hgo]
    rw [hse] at hn ⊢
    rw [hdp, hpw] at hn
    have hlt := (app_pw pw hg hc ha (seg ms.length ms).length).1 hgo
    rw [hdf, h1]
    have hk : keepF (filesK K) ([⟨nextK K, false, (filesK K (nextK K)).isNone, seg ms.length ms⟩] ++ D) n = part (filesK K) ⟨nextK K, false, (filesK K (nextK K)).isNone, seg ms.length ms⟩ n := by
      have hsc : scan ([⟨nextK K, false, (filesK K (nextK K)).isNone, seg ms.length ms⟩] ++ D) n = (0, n) := by
        simp only [List.cons_append, List.nil_append, scan, Dd.units, Bool.false_eq_true, if_false]
        rw [if_neg (by omega)]
      unfold keepF
      rw [hsc]
      simp [replay]
    have hk' : keepF ((⟨filesK K, [], pw⟩ : Dk).app (nextK K) (seg ms.length ms)).f (((⟨filesK K, [], pw⟩ : Dk).app (nextK K) (seg ms.length ms)).ds ++ D) n = part (filesK K) ⟨nextK K, false, (filesK K (nextK K)).isNone, seg ms.length ms⟩ n := hk
    rw [hk']
    unfold part
    by_cases h0 : n = 0
    · rw [if_pos h0]
      exact ⟨K, hK, rfl, .inl ⟨rfl, .inl rfl⟩⟩
    · rw [if_neg h0]
      refine ⟨K ++ [(nextK K, (seg ms.length ms).take n)], srt_next hK _, ?_, .inl ⟨?_, .inr rfl⟩⟩
      · rw [files_next hK]
        have e0 : filesK K (nextK K) = none := getK_none_of (next_new hK)
        simp [step, e0]
      · rw [newK_append, newK_one, segOf_cut hf hl (by omega)]
        rfl
  · have hgf : (pw.note (seg ms.length ms).length).gone = false := by simpa using hgo
    have hs : ((⟨filesK K, [], pw⟩ : Dk).app (nextK K) (seg ms.length ms)).sync = ⟨filesK (K ++ [(nextK K, seg ms.length ms)]), [], ⟨0, (pw.note (seg ms.length ms).length).armed, (pw.note (seg ms.length ms).length).left, false⟩⟩ := by
      rw [hb, sync_now]
      unfold Dk.sync
      rw [hpw, if_neg hgo]
    rw [hs, hnk]
    have hnew : newK (K ++ [(nextK K, seg ms.length ms)]) = some (nextK K, ms.length, ms, true) := by
      rw [newK_append, newK_seg (nextK K) hf (Nat.le_refl _) hl]
    obtain ⟨K', k1, k2, k3, k4⟩ := others_kept (srt_next hK (seg ms.length ms)) hnew ⟨0, (pw.note (seg ms.length ms).length).armed, (pw.note (seg ms.length ms).length).left, false⟩ n
    exact ⟨K', k1, k2, .inr ⟨k3, k4⟩⟩

theorem pre_all (ls : List (List UInt8)) : pre ls ls.length = (recs ls).length := by
  unfold pre
  rw [List.take_length]

/-- A row with a part of one more record. -/
theorem segOf_more {base : Nat} {ls : List (List UInt8)} {m : List UInt8} (h : fits ls) (hm : m.length ≤ 16384) (hb : base ≤ ls.length) (hl : ls.length ≤ 1000000) {n : Nat} (hn : n < (record m).length) : ∃ c, segOf (seg base ls ++ (record m).take n) = some (base, ls, c) := by
  have hfit : ∀ b ∈ (four base :: ls) ++ [m], b.length ≤ 16384 := by
    intro b hb'
    rcases List.mem_append.1 hb' with hb' | hb'
    · exact fits_four base h b hb'
    · simp only [List.mem_singleton] at hb'
      rw [hb']
      exact hm
  have e : seg base ls ++ (record m).take n = (recs ((four base :: ls) ++ [m])).take ((seg base ls).length + n) := by
    rw [recs_append, recs_one]
    show _ = (seg base ls ++ record m).take ((seg base ls).length + n)
    rw [List.take_append, List.take_of_length_le (Nat.le_add_right _ _)]
    simp
  have hr := rows_cut ((four base :: ls) ++ [m]) ((seg base ls).length + n) hfit
  have hw : whole ((four base :: ls) ++ [m]) ((seg base ls).length + n) = ls.length + 1 := by
    refine whole_spec _ _ _ (by simp) ?_ (.inr ?_)
    · have : ((four base :: ls) ++ [m]).take (ls.length + 1) = four base :: ls := by
        rw [List.take_append_of_le_length (by simp)]
        exact List.take_of_length_le (by simp)
      unfold pre
      rw [this]
      exact Nat.le_add_right _ _
    · unfold pre
      rw [List.take_of_length_le (by simp), recs_append, recs_one, List.length_append]
      show _ < (seg base ls).length + _
      omega
  rw [hw] at hr
  have ht : ((four base :: ls) ++ [m]).take (ls.length + 1) = four base :: ls := by
    rw [List.take_append_of_le_length (by simp)]
    exact List.take_of_length_le (by simp)
  rw [ht, ← e] at hr
  unfold segOf
  rw [hr, wholeB_cons, num4_four base (by omega), if_pos (by simp [four]; omega)]
  simp only [List.headD_cons, List.drop_succ_cons, List.drop_zero]
  rw [num4_four base (by omega)]
  exact ⟨_, rfl⟩

/-- A record is appended, as far as the power lasts. -/
theorem app_kept (n0 : Int) {base : Nat} {ls : List (List UInt8)} {m : List UInt8} (h : fits ls) (hm : m.length ≤ 16384) (hb : base ≤ ls.length) (hl : ls.length < 1000000) (pw : Pw) (hg : pw.gone = false) (hc : pw.count = 0) (ha : pw.armed = true → 0 ≤ pw.left) (n : Nat)
    (hn : n ≤ (((⟨filesK [(n0, seg base ls)], [], pw⟩ : Dk).app n0 (record m)).sync).pw.count) :
    ∃ b : List UInt8, filesK [(n0, b)] = keepF (((⟨filesK [(n0, seg base ls)], [], pw⟩ : Dk).app n0 (record m)).sync).f (((⟨filesK [(n0, seg base ls)], [], pw⟩ : Dk).app n0 (record m)).sync).ds n ∧
      ((∃ c, segOf b = some (base, ls, c)) ∨ segOf b = some (base, ls ++ [m], true)) ∧ b.length ≤ segLen ls + (m.length + 9) := by
  have hpw : ((⟨filesK [(n0, seg base ls)], [], pw⟩ : Dk).app n0 (record m)).pw = pw.note (record m).length := rfl
  have e0 : filesK [(n0, seg base ls)] n0 = some (seg base ls) := by rw [filesK_one, if_pos rfl]
  have hfit : fits (ls ++ [m]) := by
    intro b hb'
    rcases List.mem_append.1 hb' with hb' | hb'
    · exact h b hb'
    · simp only [List.mem_singleton] at hb'
      rw [hb']
      exact hm
  by_cases hgo : (pw.note (record m).length).gone = true
  · have hs : ((⟨filesK [(n0, seg base ls)], [], pw⟩ : Dk).app n0 (record m)).sync = (⟨filesK [(n0, seg base ls)], [], pw⟩ : Dk).app n0 (record m) := by
      unfold Dk.sync
      rw [hpw, if_pos hgo]
    rw [hs] at hn ⊢
    rw [hpw] at hn
    have hlt := (app_pw pw hg hc ha (record m).length).1 hgo
    have hk : keepF ((⟨filesK [(n0, seg base ls)], [], pw⟩ : Dk).app n0 (record m)).f ((⟨filesK [(n0, seg base ls)], [], pw⟩ : Dk).app n0 (record m)).ds n = part (filesK [(n0, seg base ls)]) ⟨n0, false, (filesK [(n0, seg base ls)] n0).isNone, record m⟩ n := by
      show keepF (filesK [(n0, seg base ls)]) [⟨n0, false, (filesK [(n0, seg base ls)] n0).isNone, record m⟩] n = _
      have hsc : scan [⟨n0, false, (filesK [(n0, seg base ls)] n0).isNone, record m⟩] n = (0, n) := by
        simp only [scan, Dd.units, Bool.false_eq_true, if_false]
        rw [if_neg (by omega)]
      unfold keepF
      rw [hsc]
      simp [replay]
    rw [hk]
    refine ⟨seg base ls ++ (record m).take n, ?_, .inl (segOf_more h hm hb (by omega) (by omega)), ?_⟩
    · unfold part
      by_cases h0 : n = 0
      · rw [if_pos h0, h0]
        simp
      · rw [if_neg h0]
        funext j
        simp only [step, Bool.false_eq_true, if_false, Fs.set, e0, Option.getD_some]
        rw [filesK_one]
        by_cases e : j = n0
        · simp [e]
        · rw [if_neg e, if_neg e, filesK_one, if_neg e]
    · rw [List.length_append, seg_length, List.length_take, record_length]
      omega
  · have hs : ((⟨filesK [(n0, seg base ls)], [], pw⟩ : Dk).app n0 (record m)).sync = ⟨filesK [(n0, seg base (ls ++ [m]))], [], ⟨0, (pw.note (record m).length).armed, (pw.note (record m).length).left, false⟩⟩ := by
      have e1 : ((⟨filesK [(n0, seg base ls)], [], pw⟩ : Dk).app n0 (record m)).now = filesK [(n0, seg base (ls ++ [m]))] := by
        rw [app_now, ← seg_append]
        funext j
        show Fs.set (filesK [(n0, seg base ls)]) n0 (some ((filesK [(n0, seg base ls)] n0).getD [] ++ record m)) j = _
        rw [e0, filesK_one]
        unfold Fs.set
        by_cases e : j = n0
        · simp [e]
        · rw [if_neg e, if_neg e, filesK_one, if_neg e]
      unfold Dk.sync
      rw [hpw, if_neg hgo, e1]
    rw [hs]
    refine ⟨seg base (ls ++ [m]), by rw [keep_nil], .inr (segOf_seg hfit (by simp; omega) (by simp; omega)), ?_⟩
    rw [seg_length]
    unfold segLen
    rw [tot_append, tot_one]
    simp
    omega

end Go.Proofs.Ytdcbepdghiafhaa
