/-
  Entries in order are told by what is among them; a change done twice is done once, and of two changes of other keys the order does not matter.
-/
import Derived.Test.YtiacnmcdfpmcfaaGreatDoorT38
namespace Go.Proofs.YtiacnmcdfpmcfaaGreatDoor
open Go.RowKit
attribute [local go_sem] cell?_more frozen?_more setCell_more size_more tape_more drew_more drewN_more more_drew more_drewN one_out plus_out plus_end lt_one le_p2 le_p3 le_p4 le_p5 le_p6 le_p7 le_p8 le_p9 le_p10 le_p11 le_p12 le_p13 le_p14 le_p15 le_p16 le_p17 le_p18 le_p19 le_p20 le_p21 le_p22 le_p23 le_p24 le_q0 le_q1 lt_q1 le_q2 lt_q2 le_q3 lt_q3 le_q4 lt_q4 le_q5 lt_q5 le_q6 lt_q6 le_q7 lt_q7 le_q8 lt_q8 le_q9 lt_q9 le_q10 lt_q10 le_q11 lt_q11 le_q12 lt_q12 le_q13 lt_q13 le_q14 lt_q14 le_q15 lt_q15 le_q16 lt_q16 le_q17 lt_q17 le_q18 lt_q18 le_q19 lt_q19 le_q20 lt_q20 le_q21 lt_q21 le_q22 lt_q22 le_q23 lt_q23 le_q24 lt_q24

theorem Sh.climbsE_iff {l : List Sh.F} : Sh.ClimbsE l ↔ l.Pairwise (fun a b => Sh.lessE a b = true) := by
  rw [List.pairwise_iff_getElem]
  exact Iff.rfl

/-- Two lists in order with the same entries are one. -/
theorem climb_ext : ∀ {l t : List Sh.F}, l.Pairwise (fun a b => Sh.lessE a b = true) → t.Pairwise (fun a b => Sh.lessE a b = true) → (∀ g, g ∈ l ↔ g ∈ t) → l = t
  | [], [], _, _, _ => rfl
  | [], b :: u, _, _, h => by have := (h b).2 (by simp); cases this
  | a :: r, [], _, _, h => by have := (h a).1 (by simp); cases this
  | a :: r, b :: u, hl, ht, h => by
    rw [List.pairwise_cons] at hl ht
    have hab : a = b := by
      apply Classical.byContradiction
      intro hne
      have h1 : a ∈ u := by
        have := (h a).1 (by simp)
        rcases List.mem_cons.1 this with e | e
        · exact absurd e hne
        · exact e
      have h2 : b ∈ r := by
        have := (h b).2 (by simp)
        rcases List.mem_cons.1 this with e | e
        · exact absurd e.symm hne
        · exact e
      have h3 := Sh.lessE_asymm (hl.1 b h2)
      rw [ht.1 a h1] at h3
      cases h3
    subst hab
    congr 1
    refine climb_ext hl.2 ht.2 (fun g => ⟨fun hg => ?_, fun hg => ?_⟩)
    · rcases List.mem_cons.1 ((h g).1 (List.mem_cons_of_mem _ hg)) with e | e
      · subst e
        have := hl.1 g hg
        rw [Sh.lessE_irrefl] at this
        cases this
      · exact e
    · rcases List.mem_cons.1 ((h g).2 (List.mem_cons_of_mem _ hg)) with e | e
      · subst e
        have := ht.1 g hg
        rw [Sh.lessE_irrefl] at this
        cases this
      · exact e

theorem putE_mem {f g : Sh.F} {l : List Sh.F} : g ∈ putE f l ↔ g = f ∨ g ∈ l := by
  unfold putE
  constructor
  · intro h
    rcases List.mem_append.1 h with h | h
    · exact .inr (List.mem_of_mem_take h)
    · rcases List.mem_cons.1 h with h | h
      · exact .inl h
      · exact .inr (List.mem_of_mem_drop h)
  · intro h
    rcases h with rfl | h
    · simp
    · rw [← List.take_append_drop (Sh.cutE f l) l] at h
      rcases List.mem_append.1 h with h | h
      · exact List.mem_append.2 (.inl h)
      · exact List.mem_append.2 (.inr (List.mem_cons_of_mem _ h))

theorem cutE_take {f : Sh.F} : ∀ {l : List Sh.F}, ∀ g ∈ l.take (Sh.cutE f l), Sh.lessE g f = true
  | [], g, h => by simp at h
  | a :: r, g, h => by
    unfold Sh.cutE at h
    by_cases e : Sh.lessE a f = true
    · rw [if_pos e, List.take_succ_cons] at h
      rcases List.mem_cons.1 h with rfl | h
      · exact e
      · exact cutE_take g h
    · rw [if_neg e] at h
      simp at h

theorem cutE_drop {f : Sh.F} : ∀ {l : List Sh.F}, l.Pairwise (fun a b => Sh.lessE a b = true) → f ∉ l → ∀ g ∈ l.drop (Sh.cutE f l), Sh.lessE f g = true
  | [], _, _, g, h => by simp at h
  | a :: r, hl, hf, g, h => by
    rw [List.pairwise_cons] at hl
    unfold Sh.cutE at h
    by_cases e : Sh.lessE a f = true
    · rw [if_pos e, List.drop_succ_cons] at h
      exact cutE_drop hl.2 (fun h => hf (List.mem_cons_of_mem _ h)) g h
    · rw [if_neg e, List.drop_zero] at h
      have hfa : Sh.lessE f a = true := Sh.lessE_total (by simpa using e) (fun e => hf (by rw [← e]; simp))
      rcases List.mem_cons.1 h with rfl | h
      · exact hfa
      · exact Sh.lessE_trans hfa (hl.1 g h)

theorem putE_climbs {f : Sh.F} {l : List Sh.F} (hl : l.Pairwise (fun a b => Sh.lessE a b = true)) (hf : f ∉ l) : (putE f l).Pairwise (fun a b => Sh.lessE a b = true) := by
  unfold putE
  rw [List.pairwise_append, List.pairwise_cons]
  refine ⟨hl.sublist (List.take_sublist _ _), ⟨cutE_drop hl hf, hl.sublist (List.drop_sublist _ _)⟩, fun a ha b hb => ?_⟩
  rcases List.mem_cons.1 hb with rfl | hb
  · exact cutE_take a ha
  · exact Sh.lessE_trans (cutE_take a ha) (cutE_drop hl hf b hb)

theorem entryOf_val {xs : List E} {key : ByteArray} {doc : List F} {f : Sh.F} (h : entryOf xs key doc = some f) : f.val = key := by
  unfold entryOf at h
  cases hv : evA doc xs with
  | none => rw [hv] at h; cases h
  | some vs => rw [hv] at h; cases h; rfl

theorem isNot_iff {k : ByteArray} {f : Sh.F} : Sh.isNot k f = true ↔ f.val ≠ k := by
  unfold Sh.isNot
  rw [Bool.not_eq_true', decide_eq_false_iff_not]
  exact ⟨fun h e => h (by rw [e]), fun h e => h (Sh.toList_inj e)⟩

theorem updE_mem {xs : List E} {es : List Sh.F} {key : ByteArray} {has : Bool} {doc : List F} {g : Sh.F} :
    g ∈ updE xs es key has doc ↔ (g ∈ es ∧ g.val ≠ key) ∨ (has = true ∧ entryOf xs key doc = some g) := by
  unfold updE
  cases has with
  | false => simp [List.mem_filter, isNot_iff]
  | true =>
    cases he : entryOf xs key doc with
    | none => simp [List.mem_filter, isNot_iff]
    | some f =>
      simp only [putE_mem, List.mem_filter, isNot_iff]
      constructor
      · rintro (rfl | h)
        · exact .inr ⟨by trivial, rfl⟩
        · exact .inl h
      · rintro (h | ⟨_, h⟩)
        · exact .inr h
        · exact .inl (Option.some.inj h).symm

theorem updE_climbs {xs : List E} {es : List Sh.F} {key : ByteArray} {has : Bool} {doc : List F} (h : es.Pairwise (fun a b => Sh.lessE a b = true)) : (updE xs es key has doc).Pairwise (fun a b => Sh.lessE a b = true) := by
  have hq := h.filter (Sh.isNot key)
  unfold updE
  cases has with
  | false => exact hq
  | true =>
    cases he : entryOf xs key doc with
    | none => exact hq
    | some f =>
      refine putE_climbs hq (fun hf => ?_)
      have := (List.mem_filter.1 hf).2
      rw [isNot_iff] at this
      exact this (entryOf_val he)

end Go.Proofs.YtiacnmcdfpmcfaaGreatDoor
