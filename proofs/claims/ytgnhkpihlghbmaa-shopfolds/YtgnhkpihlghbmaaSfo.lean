/-
  The law ShopFolds, of documents and some that are asked.
-/
import Derived.Test.YtgnhkpihlghbmaaMssa
import Derived.Test.YtgnhkpihlghbmaaMsbl
import Derived.Test.YtgnhkpihlghbmaaMsbl
import Derived.Test.YtgnhkpihlghbmaaIxfd
namespace Go.Proofs.Ytgnhkpihlghbmaa
open Go.RowKit
attribute [local go_sem] cell?_more frozen?_more setCell_more size_more tape_more drew_more drewN_more more_drew more_drewN one_out plus_out plus_end lt_one le_p2 le_p3 le_p4 le_p5 le_p6 le_p7 le_p8 le_p9 le_p10 le_p11 le_p12 le_p13 le_p14 le_p15 le_p16 le_p17 le_p18 le_p19 le_p20 le_p21 le_p22 le_p23 le_p24 le_q0 le_q1 lt_q1 le_q2 lt_q2 le_q3 lt_q3 le_q4 lt_q4 le_q5 lt_q5 le_q6 lt_q6 le_q7 lt_q7 le_q8 lt_q8 le_q9 lt_q9 le_q10 lt_q10 le_q11 lt_q11 le_q12 lt_q12 le_q13 lt_q13 le_q14 lt_q14 le_q15 lt_q15 le_q16 lt_q16 le_q17 lt_q17 le_q18 lt_q18 le_q19 lt_q19 le_q20 lt_q20 le_q21 lt_q21 le_q22 lt_q22 le_q23 lt_q23 le_q24 lt_q24

/-- Changes whose places are without a gap. -/
def Ranked (l : List Ch) : Prop := ∀ i (h : i < l.length), l[i].pos = (i : Int) + 1

theorem ranked_nil : Ranked [] := fun i h => by simp at h

theorem ranked_more {l cs : List Ch} (h : Ranked l) : Ranked (l ++ placed l.length cs cs.length) := by
  intro i hi
  by_cases hl : i < l.length
  · rw [List.getElem_append_left hl]
    exact h i hl
  · rw [List.getElem_append_right (by omega)]
    have hi' : i - l.length < cs.length := by simp [placed_len] at hi; omega
    have : (placed (l.length : Int) cs cs.length)[i - l.length]'(by rw [placed_len]; exact hi') = atPlace ((l.length : Int) + 1 + ((i - l.length : Nat) : Int)) cs[i - l.length] := by
      unfold placed
      simp [hi']
    rw [this]
    show (l.length : Int) + 1 + ((i - l.length : Nat) : Int) = (i : Int) + 1
    omega

theorem fine_more {ds : List Dn} {l cs : List Ch} (h : ∀ i, i ≤ l.length → Fine (foldC ds (l.take i))) (h' : ∀ i, i ≤ cs.length → Fine (foldC (foldC ds l) (cs.take i))) (t : Int) : ∀ i, i ≤ (l ++ placed t cs cs.length).length → Fine (foldC ds ((l ++ placed t cs cs.length).take i)) := by
  intro i hi
  by_cases hl : i ≤ l.length
  · rw [List.take_append_of_le_length hl]
    exact h i hl
  · have e : i = l.length + (i - l.length) := by omega
    rw [e, List.take_length_add_append, foldC_append, foldC_placed]
    exact h' _ (by rw [List.length_append, placed_len] at hi; omega)

theorem foldC_all (ds : List Dn) (t : Int) (l cs : List Ch) : foldC ds (l ++ placed t cs cs.length) = foldC (foldC ds l) cs := by
  rw [foldC_append]
  have := foldC_placed (foldC ds l) t cs cs.length cs.length
  rwa [List.take_of_length_le (by rw [placed_len]; exact Nat.le_refl _), List.take_of_length_le (Nat.le_refl _)] at this

theorem light_more {l cs : List Ch} {t : Int} (h : ∀ x ∈ l, x.doc.length ≤ 1000) (h' : ∀ x ∈ cs, x.doc.length ≤ 1000) : ∀ x ∈ l ++ placed t cs cs.length, x.doc.length ≤ 1000 := by
  intro x hx
  rcases List.mem_append.1 hx with hx | hx
  · exact h x hx
  · unfold placed at hx
    obtain ⟨i, hi, rfl⟩ := List.mem_mapIdx.1 hx
    have := h' _ (List.getElem_mem hi)
    split
    · exact this
    · exact this

theorem ownH_none {w W1 : World} {k : Nat} (hA : Adds w W1) (hk : w.heap.size ≤ k) (h : W1.heap[k]? = some (.cells #[] 40 (0, 0))) : OwnH w.heap.size (.slice (some ⟨k, 0, none⟩) 0 0) [] w W1 :=
  ⟨⟨rfl, .inr ⟨k, 0, #[], rfl, hk, h, Nat.le_refl _, by unfold maxLen; omega, rfl, rfl⟩⟩, hA.below, hA.below.size, fun r h => by cases h⟩

theorem LightTold.bounds {v : Qv} {os : List Qv} (h : v.q.doc.length ≤ 20 ∧ v.q.want.length ≤ 20 ∧ os.length ≤ 6 ∧ ∀ x ∈ os, x.q.doc.length ≤ 20 ∧ x.q.want.length ≤ 20) : (∀ x ∈ os, x.q.doc.length ≤ 1000 ∧ x.q.want.length ≤ 1000) := fun x hx => by
  have := h.2.2.2 x hx
  omega

theorem far_adds {n : Nat} {w w' : World} (h : Adds w w') : Far n w w' := ⟨h.below.size, fun g _ hl => h.below.block g hl⟩

end Go.Proofs.Ytgnhkpihlghbmaa
