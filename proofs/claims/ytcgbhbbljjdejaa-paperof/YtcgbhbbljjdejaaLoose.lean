/-
  The document's own Of: what is read loosely.
-/
import Derived.Test.YtcgbhbbljjdejaaOf
import Derived.Test.YtcgbhbbljjdejaaMays
import Derived.Test.YtcgbhbbljjdejaaLists
namespace Go.Proofs.Ytcgbhbbljjdejaa
open Go.RowKit
attribute [local go_sem] cell?_more frozen?_more setCell_more size_more tape_more drew_more drewN_more more_drew more_drewN one_out plus_out plus_end lt_one le_p2 le_p3 le_p4 le_p5 le_p6 le_p7 le_p8 le_p9 le_p10 le_p11 le_p12 le_p13 le_p14 le_p15 le_p16 le_p17 le_p18 le_p19 le_p20 le_p21 le_p22 le_p23 le_p24 le_q0 le_q1 lt_q1 le_q2 lt_q2 le_q3 lt_q3 le_q4 lt_q4 le_q5 lt_q5 le_q6 lt_q6 le_q7 lt_q7 le_q8 lt_q8 le_q9 lt_q9 le_q10 lt_q10 le_q11 lt_q11 le_q12 lt_q12 le_q13 lt_q13 le_q14 lt_q14 le_q15 lt_q15 le_q16 lt_q16 le_q17 lt_q17 le_q18 lt_q18 le_q19 lt_q19 le_q20 lt_q20 le_q21 lt_q21 le_q22 lt_q22 le_q23 lt_q23 le_q24 lt_q24

def valL (t : T) : V := match t.list with
  | [a, b] => ⟨3, 0, ⟨#[]⟩, a.num, b.num⟩
  | _ => if t.kind = 2 then ⟨2, 0, t.text, 0, 0⟩ else ⟨1, t.num, ⟨#[]⟩, 0, 0⟩

theorem valL_two {t a b : T} (h : t.list = [a, b]) : valL t = ⟨3, 0, ⟨#[]⟩, a.num, b.num⟩ := by
  unfold valL
  rw [h]

theorem valL_not {t : T} (h : ¬ t.list.length = 2) : valL t = if t.kind = 2 then ⟨2, 0, t.text, 0, 0⟩ else ⟨1, t.num, ⟨#[]⟩, 0, 0⟩ := by
  unfold valL
  split
  · rename_i e
    rw [e] at h
    simp at h
  · rfl

def fOfL (p q : T) : F := if h : p.text.size ≤ 9223372036854775807 then ⟨p.text, valL q, h⟩ else ⟨⟨#[]⟩, valL q, by decide⟩

/-- What is read loosely. -/
def loose : List T → Option (List F)
  | [] => some []
  | t :: r => match t.list with
    | [p, q] => (loose r).map (fOfL p q :: ·)
    | _ => none

theorem loose_stop {t : T} {r : List T} (h : ¬ t.list.length = 2) : loose (t :: r) = none := by
  unfold loose
  split
  · rename_i p q e
    rw [e] at h
    simp at h
  · rfl

theorem loose_next {t p q : T} {r : List T} (h : t.list = [p, q]) : loose (t :: r) = (loose r).map (fOfL p q :: ·) := by
  rw [loose]
  rw [h]

theorem kind_of' {v : V} (h : v.check = 0) : v.kind = 1 ∨ v.kind = 2 ∨ v.kind = 3 := by
  by_cases h1 : v.kind = 1
  · exact .inl h1
  by_cases h2 : v.kind = 2
  · exact .inr (.inl h2)
  by_cases h3 : v.kind = 3
  · exact .inr (.inr h3)
  simp [V.check, V.fits, h1, h2, h3] at h

theorem valL_valT {v : V} (h : v.check = 0) : valL (valT v) = v := by
  have h0 := valOf_valT h
  rcases kind_of' h with h1 | h1 | h1
  · have e : valT v = tNum v.num := by simp [valT, h1]
    rw [e] at h0 ⊢
    rw [← h0]
    simp [valL, valOf, tNum, T.list, T.kind, T.num]
  · have e : valT v = tText v.text := by simp [valT, h1]
    rw [e] at h0 ⊢
    rw [← h0]
    simp [valL, valOf, tText, T.list, T.kind, T.text]
  · have e : valT v = tList [tNum v.re, tNum v.im] := by simp [valT, h1]
    rw [e] at h0 ⊢
    rw [← h0]
    simp [valL, valOf, tList, tNum, T.list, T.kind, T.num]

theorem loose_doc {fs : List F} (hv : ∀ f ∈ fs, f.val.check = 0) : loose (fs.map fieldT) = some fs := by
  induction fs with
  | nil => rfl
  | cons f r ih =>
    rw [List.map_cons, loose_next (p := tText f.path) (q := valT f.val) rfl, ih (fun g hg => hv g (by simp [hg]))]
    have hp : (tText f.path).text.size ≤ 9223372036854775807 := f.fits
    have hq : fOfL (tText f.path) (valT f.val) = f := by
      unfold fOfL
      rw [dif_pos hp]
      obtain ⟨p, v, hf⟩ := f
      have := hv ⟨p, v, hf⟩ (by simp)
      simp only [F.mk.injEq]
      exact ⟨rfl, valL_valT this⟩
    simp [hq]

end Go.Proofs.Ytcgbhbbljjdejaa
