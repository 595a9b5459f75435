/-
  Reels whose power lasts: what the tape's steps leave, in plain data; segments that were begun and grew.
-/
import Derived.Test.YtelkkpomehgcjaaGreatTape
namespace Go.Proofs.YtelkkpomehgcjaaGreat
open Go.RowKit Go.Maps

/-- Nothing is armed, all is kept. -/
def calm (K : Kf) (l : Int) : Dk := ⟨filesK K, [], ⟨0, false, l, false⟩⟩

theorem calm_now (K : Kf) (l : Int) : (calm K l).now = filesK K := rfl

structure Free (d : Dk) (l : Int) : Prop where
  armed : d.pw.armed = false
  gone : d.pw.gone = false
  left : d.pw.left = l

theorem free_calm (K : Kf) (l : Int) : Free (calm K l) l := ⟨rfl, rfl, rfl⟩

theorem note_free {s : Pw} (ha : s.armed = false) (hg : s.gone = false) (u : Nat) : s.note u = ⟨s.count + u, false, s.left, false⟩ := by
  unfold Pw.note
  rw [hg, ha]
  simp

theorem Free.app {d : Dk} {l : Int} (h : Free d l) (k : Int) (m : List UInt8) : Free (d.app k m) l := by
  have e : (d.app k m).pw = ⟨d.pw.count + m.length, false, d.pw.left, false⟩ := note_free h.armed h.gone _
  exact ⟨by rw [e], by rw [e], by rw [e]; exact h.left⟩

theorem Free.drop {d : Dk} {l : Int} (h : Free d l) (k : Int) : Free (d.drop k) l := by
  have e : (d.drop k).pw = ⟨d.pw.count + 1, false, d.pw.left, false⟩ := note_free h.armed h.gone _
  exact ⟨by rw [e], by rw [e], by rw [e]; exact h.left⟩

theorem Free.drops {d : Dk} {l : Int} (h : Free d l) (file : Int) (ks : List Int) : Free (d.drops file ks) l := by
  unfold Dk.drops
  generalize ks.filter (fun k => k != file) = js
  induction js generalizing d with
  | nil => exact h
  | cons j r ih => exact ih (h.drop j)

theorem Free.sync {d : Dk} {l : Int} (h : Free d l) {K : Kf} (hK : d.now = filesK K) : d.sync = calm K l := by
  unfold Dk.sync calm
  rw [h.gone, if_neg (by simp), h.armed, h.left, hK]

theorem filesK_one (n : Int) (b : List UInt8) (k : Int) : filesK [(n, b)] k = if k = n then some b else none := by
  show getK k [(n, b)] = _
  rw [getK_cons]
  by_cases e : n = k
  · rw [if_pos e, if_pos e.symm]
  · rw [if_neg e, if_neg (fun h => e h.symm)]
    rfl

theorem srt_one (p : Int × List UInt8) : SrtK [p] := by simp [SrtK]

/-- All but one file are dropped. -/
theorem others_free {d : Dk} {l : Int} (h : Free d l) {K : Kf} (hd : d = calm K l) {n : Int} {b : List UInt8} (hn : filesK K n = some b) (hmem : n ∈ keysK K) : d.others n (keysK K) = calm [(n, b)] l := by
  unfold Dk.others
  split
  · rename_i hlt
    rw [hd]
    match K, hlt, hmem, hn with
    | [p], _, hmem, hn =>
      have e : n = p.1 := by simpa [keysK] using hmem
      subst e
      rw [filesK_one, if_pos rfl] at hn
      simp only [Option.some.injEq] at hn
      subst hn
      rfl
    | [], _, hmem, _ => simp [keysK] at hmem
    | p :: q :: r, hlt, _, _ =>
      simp [keysK] at hlt
      omega
  · refine (h.drops n (keysK K)).sync ?_
    funext j
    rw [drops_now, filesK_one, hd, calm_now]
    by_cases e : j = n
    · subst e
      simp [hn]
    · by_cases hj : j ∈ keysK K
      · simp [e, hj]
      · simp only [e, hj, false_and, if_false]
        exact getK_none_of hj

theorem begun_calm {K : Kf} (hK : SrtK K) (l : Int) (ls : List (List UInt8)) : (calm K l).begun K ls = calm [(nextK K, seg ls.length ls)] l := by
  unfold Dk.begun
  have hf := (free_calm K l).app (nextK K) (seg ls.length ls)
  have hn := begun_now (d := calm K l) hK (calm_now K l) (seg ls.length ls)
  have hs : ((calm K l).app (nextK K) (seg ls.length ls)).sync = calm (K ++ [(nextK K, seg ls.length ls)]) l := hf.sync (by rw [hn, sync_now])
  rw [hs, ← keys_next K (seg ls.length ls)]
  refine others_free (free_calm _ _) rfl ?_ (by simp [keysK])
  rw [files_next hK]
  simp [Fs.set]

theorem append_calm (n : Int) (b m : List UInt8) (l : Int) : ((calm [(n, b)] l).app n m).sync = calm [(n, b ++ m)] l := by
  refine ((free_calm _ l).app n m).sync ?_
  rw [app_now, calm_now]
  funext j
  unfold Fs.set
  by_cases e : j = n
  · rw [if_pos e, filesK_one, if_pos rfl, filesK_one, if_pos e]
    rfl
  · rw [if_neg e, filesK_one, if_neg e, filesK_one, if_neg e]

theorem fits_four (base : Nat) {ls : List (List UInt8)} (h : fits ls) : ∀ b ∈ four base :: ls, b.length ≤ 16384 := by
  intro b hb
  rcases List.mem_cons.1 hb with rfl | hb
  · simp [four]
  · exact h b hb

theorem rows_seg (base : Nat) {ls : List (List UInt8)} (h : fits ls) : rows (seg base ls) = (four base :: ls, (seg base ls).length) := rows_recs _ (fits_four base h)

theorem segOf_seg {base : Nat} {ls : List (List UInt8)} (h : fits ls) (hb : base ≤ ls.length) (hl : ls.length ≤ 1000000) : segOf (seg base ls) = some (base, ls, true) := by
  unfold segOf
  rw [rows_seg base h]
  simp only [List.headD_cons, List.drop_succ_cons, List.drop_zero]
  rw [wholeB_cons, num4_four base (by omega)]
  simp [four]
  omega

theorem newK_one (n : Int) (b : List UInt8) : newK [(n, b)] = (segOf b).map fun s => (n, s) := rfl

theorem newK_seg (n : Int) {base : Nat} {ls : List (List UInt8)} (h : fits ls) (hb : base ≤ ls.length) (hl : ls.length ≤ 1000000) : newK [(n, seg base ls)] = some (n, base, ls, true) := by
  rw [newK_one, segOf_seg h hb hl]
  rfl

theorem opened_calm (n : Int) {base : Nat} {ls : List (List UInt8)} (h : fits ls) (hb : base ≤ ls.length) (hl : ls.length ≤ 1000000) (l : Int) : (calm [(n, seg base ls)] l).opened [(n, seg base ls)] = ⟨n, base, ls, calm [(n, seg base ls)] l⟩ := by
  unfold Dk.opened
  rw [newK_seg n h hb hl]
  simp only
  congr 1

theorem opened_none (l : Int) : (calm [] l).opened [] = ⟨0, 0, [], calm [(0, seg 0 [])] l⟩ := by
  have e := begun_calm (K := []) (by simp [SrtK]) l []
  have e0 : nextK [] = 0 := rfl
  unfold Dk.opened
  show (⟨nextK [], 0, [], (calm [] l).begun [] []⟩ : Op) = _
  rw [e, e0]
  rfl

theorem seg_append (base : Nat) (ls : List (List UInt8)) (m : List UInt8) : seg base ls ++ record m = seg base (ls ++ [m]) := by
  unfold seg
  rw [recs_cons, recs_cons, recs_append, recs_one, List.append_assoc]

theorem sizeK_one (n : Int) (b : List UInt8) : sizeK [(n, b)] = b.length := by simp [sizeK]

theorem keep_nil (f : Fs) (n : Nat) : keepF f [] n = f := by
  unfold keepF
  simp [scan, replay]

end Go.Proofs.YtelkkpomehgcjaaGreat
