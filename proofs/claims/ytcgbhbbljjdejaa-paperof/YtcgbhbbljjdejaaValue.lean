/-
  The functions valueOf and read of package paper, by contracts.
-/
import Derived.Test.YtcgbhbbljjdejaaTree
namespace Go.Proofs.Ytcgbhbbljjdejaa
open Go.RowKit
attribute [local go_sem] cell?_more frozen?_more setCell_more size_more tape_more drew_more drewN_more more_drew more_drewN one_out plus_out plus_end lt_one le_p2 le_p3 le_p4 le_p5 le_p6 le_p7 le_p8 le_p9 le_p10 le_p11 le_p12 le_p13 le_p14 le_p15 le_p16 le_p17 le_p18 le_p19 le_p20 le_p21 le_p22 le_p23 le_p24 le_q0 le_q1 lt_q1 le_q2 lt_q2 le_q3 lt_q3 le_q4 lt_q4 le_q5 lt_q5 le_q6 lt_q6 le_q7 lt_q7 le_q8 lt_q8 le_q9 lt_q9 le_q10 lt_q10 le_q11 lt_q11 le_q12 lt_q12 le_q13 lt_q13 le_q14 lt_q14 le_q15 lt_q15 le_q16 lt_q16 le_q17 lt_q17 le_q18 lt_q18 le_q19 lt_q19 le_q20 lt_q20 le_q21 lt_q21 le_q22 lt_q22 le_q23 lt_q23 le_q24 lt_q24

/-- The value that is read off a cell. -/
def valOf (t : T) : V :=
  if t.kind = 1 then ⟨1, t.num, ⟨#[]⟩, 0, 0⟩ else if t.kind = 2 then ⟨2, 0, t.text, 0, 0⟩
  else match t.list with
    | [a, b] => ⟨3, 0, ⟨#[]⟩, a.num, b.num⟩
    | _ => ⟨0, 0, ⟨#[]⟩, 0, 0⟩

theorem valOf_list (t : T) (h1 : ¬ t.kind = 1) (h2 : ¬ t.kind = 2) (a b : T) (h : t.list = [a, b]) : valOf t = ⟨3, 0, ⟨#[]⟩, a.num, b.num⟩ := by
  simp [valOf, h1, h2, h]

theorem valOf_none (t : T) (h1 : ¬ t.kind = 1) (h2 : ¬ t.kind = 2) (h : ¬ t.list.length = 2) : valOf t = ⟨0, 0, ⟨#[]⟩, 0, 0⟩ := by
  unfold valOf
  rw [if_neg h1, if_neg h2]
  split
  · rename_i a b e
    rw [e] at h
    simp at h
  · rfl

set_option maxHeartbeats 2000000 in
theorem valueOf_any {ok : Nat → Prop} {d : Nat} (t : T) (s : Value) (w : World) (h : Tr ok d w s t.list) :
    Calls Try.prog 50 #[cellV t s] w fun e w' => e = .returned (valOf t).val ∧ Adds w w' := by
  obtain ⟨ao, cap, hs⟩ := h.shape
  by_cases h1 : t.kind = 1
  · have hv : valOf t = ⟨1, t.num, ⟨#[]⟩, 0, 0⟩ := by simp [valOf, h1]
    rw [hv]
    subst hs
    simp only [cellV, h1]
    clear hv h h1
    generalize t.num = n at *
    generalize t.text = x at *
    generalize t.list.length = m at *
    go_enter Try.func50, Try.ntmps50
    go_wp2_with (go_at_call 52; refine (num_any _ _).mono ?_; rintro e w1 ⟨rfl, os1, n1, rfl⟩)
    refine bodyPost_ret (v := V.val ⟨1, n, ⟨#[]⟩, 0, 0⟩) (by simp [results, Try.results50, go_sem, V.val]) rfl ⟨rfl, ?_⟩
    repeat (first | with_reducible exact Adds.refl _ | with_reducible refine Adds.alloc ?_ _ | with_reducible refine Adds.more ?_ _ _ | with_reducible refine Adds.drew ?_ | with_reducible refine Adds.drewN ?_ _)
  by_cases h2 : t.kind = 2
  · have hv : valOf t = ⟨2, 0, t.text, 0, 0⟩ := by simp [valOf, h2]
    rw [hv]
    subst hs
    simp only [cellV, h2]
    clear hv h h1 h2
    generalize t.num = n at *
    generalize t.text = x at *
    generalize t.list.length = m at *
    go_enter Try.func50, Try.ntmps50
    go_wp2_with (go_at_call 54; refine (text_any _ _).mono ?_; rintro e w1 ⟨rfl, os1, n1, rfl⟩)
    refine bodyPost_ret (v := V.val ⟨2, 0, x, 0, 0⟩) (by simp [results, Try.results50, go_sem, V.val]) rfl ⟨rfl, ?_⟩
    repeat (first | with_reducible exact Adds.refl _ | with_reducible refine Adds.alloc ?_ _ | with_reducible refine Adds.more ?_ _ _ | with_reducible refine Adds.drew ?_ | with_reducible refine Adds.drewN ?_ _)
  by_cases hl : t.list.length = 2
  · obtain ⟨a, b, hab⟩ : ∃ a b, t.list = [a, b] := by
      match hq : t.list, hl with
      | [a, b], _ => exact ⟨a, b, rfl⟩
    rw [valOf_list t h1 h2 a b hab]
    rw [hab] at h hs hl
    cases d with
    | zero => exact absurd h.1 (by simp)
    | succ d =>
      obtain ⟨ao', cap', hs', hc', h | ⟨bl, off, hao, hlt, hok, hx⟩⟩ := h
      · exact absurd h (by simp)
      obtain ⟨x0, ⟨a0, a1, a2, a3⟩, _, _⟩ := hx 0 (by simp)
      obtain ⟨x1, ⟨b0, b1, b2, b3⟩, _, _⟩ := hx 1 (by simp)
      simp only [List.length_cons, List.length_nil, List.getElem_cons_zero, List.getElem_cons_succ, Nat.zero_mul, Nat.add_zero, Nat.one_mul, Nat.zero_add, Nat.reduceAdd] at a0 a1 a2 a3 b0 b1 b2 b3 hs'
      subst hs' hao
      simp only [cellV]
      clear hs hl hx hab
      generalize t.kind = kd at *
      generalize t.num = n at *
      generalize t.text = x at *
      generalize a.num = an at *
      generalize b.num = bn at *
      go_enter Try.func50, Try.ntmps50
      go_wp2
      go_region_with (go_at_call 55; refine (point_any _ _ _).mono ?_; rintro e w1 ⟨rfl, os1, n1, rfl⟩)
      all_goals
        go_wp2
        refine bodyPost_ret (v := V.val ⟨3, 0, ⟨#[]⟩, an, bn⟩) (by simp [results, Try.results50, go_sem, V.val]) rfl ⟨rfl, ?_⟩
        repeat (first | with_reducible exact Adds.refl _ | with_reducible refine Adds.alloc ?_ _ | with_reducible refine Adds.more ?_ _ _ | with_reducible refine Adds.drew ?_ | with_reducible refine Adds.drewN ?_ _)
  · rw [valOf_none t h1 h2 hl]
    subst hs
    have hl' : ((t.list.length : Int) == 2) = false := by simp; omega
    simp only [cellV]
    generalize t.kind = kd at *
    generalize t.num = n at *
    generalize t.text = x at *
    clear h
    generalize t.list.length = m at *
    go_enter Try.func50, Try.ntmps50
    go_wp2
    refine bodyPost_ret (v := V.val ⟨0, 0, ⟨#[]⟩, 0, 0⟩) (by simp [results, Try.results50, go_sem, V.val]) rfl ⟨rfl, ?_⟩
    repeat (first | with_reducible exact Adds.refl _ | with_reducible refine Adds.alloc ?_ _ | with_reducible refine Adds.more ?_ _ _ | with_reducible refine Adds.drew ?_ | with_reducible refine Adds.drewN ?_ _)

end Go.Proofs.Ytcgbhbbljjdejaa
