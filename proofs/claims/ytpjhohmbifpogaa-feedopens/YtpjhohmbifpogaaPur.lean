/-
  What is opened, acknowledged, closed and trimmed may be.
-/
import Derived.Test.YtpjhohmbifpogaaOph
import Derived.Test.YtpjhohmbifpogaaTrm
import Derived.Test.YtpjhohmbifpogaaAlw
namespace Go.Proofs.Ytpjhohmbifpogaa
open Go.RowKit
attribute [local go_sem] cell?_more frozen?_more setCell_more size_more tape_more drew_more drewN_more more_drew more_drewN one_out plus_out plus_end lt_one le_p2 le_p3 le_p4 le_p5 le_p6 le_p7 le_p8 le_p9 le_p10 le_p11 le_p12 le_p13 le_p14 le_p15 le_p16 le_p17 le_p18 le_p19 le_p20 le_p21 le_p22 le_p23 le_p24 le_q0 le_q1 lt_q1 le_q2 lt_q2 le_q3 lt_q3 le_q4 lt_q4 le_q5 lt_q5 le_q6 lt_q6 le_q7 lt_q7 le_q8 lt_q8 le_q9 lt_q9 le_q10 lt_q10 le_q11 lt_q11 le_q12 lt_q12 le_q13 lt_q13 le_q14 lt_q14 le_q15 lt_q15 le_q16 lt_q16 le_q17 lt_q17 le_q18 lt_q18 le_q19 lt_q19 le_q20 lt_q20 le_q21 lt_q21 le_q22 lt_q22 le_q23 lt_q23 le_q24 lt_q24

theorem subsc_iff {sb : List Sb} {lo hi : Int} : Subsc sb lo hi ↔ sb.length ≤ 8 ∧ (∀ s ∈ sb, isKey s.name = true ∧ lo ≤ s.pos ∧ s.pos ≤ hi) ∧ (sb.map (·.name)).Pairwise (fun a b => lessP a b = true) := by
  constructor
  · intro h
    refine ⟨h.1, ?_, ?_⟩
    · intro s hs
      obtain ⟨k, hk, rfl⟩ := List.getElem_of_mem hs
      exact ⟨(h.2 k hk).1, (h.2 k hk).2.1, (h.2 k hk).2.2.1⟩
    · rw [List.pairwise_iff_getElem]
      intro i j hi hj hij
      simpa using subsc_less h i j (by simpa using hi) (by simpa using hj) hij
  · rintro ⟨h1, h2, h3⟩
    refine ⟨h1, fun k hk => ⟨(h2 _ (List.getElem_mem hk)).1, (h2 _ (List.getElem_mem hk)).2.1, (h2 _ (List.getElem_mem hk)).2.2, fun h0 => ?_⟩⟩
    rw [List.pairwise_iff_getElem] at h3
    have h4 := h3 (k - 1) k (by simp; omega) (by simpa using hk) (by omega)
    rw [List.getElem_map, List.getElem_map] at h4
    exact h4

theorem cutAt_take (p : ByteArray) (sb : List Sb) : ∀ s ∈ sb.take (cutAt p sb), lessP s.name p = true := by
  induction sb with
  | nil => intro s h; simp at h
  | cons f r ih =>
    intro s hs
    by_cases h : lessP f.name p = true
    · simp only [cutAt, h, if_true, List.take_succ_cons, List.mem_cons] at hs
      rcases hs with rfl | hs
      · exact h
      · exact ih s hs
    · simp [cutAt, h] at hs

theorem cutAt_not (p : ByteArray) (sb : List Sb) (h : cutAt p sb < sb.length) : lessP sb[cutAt p sb].name p = false := by
  induction sb with
  | nil => simp at h
  | cons f r ih =>
    by_cases hf : lessP f.name p = true
    · have e : cutAt p (f :: r) = cutAt p r + 1 := by simp [cutAt, hf]
      have h' : cutAt p r < r.length := by rw [e] at h; simpa using h
      simp only [e, List.getElem_cons_succ]
      exact ih h'
    · have e : cutAt p (f :: r) = 0 := by simp [cutAt, hf]
      simp only [e, List.getElem_cons_zero]
      simpa using hf

theorem cutAt_drop {p : ByteArray} {sb : List Sb} {lo hi : Int} (hS : Subsc sb lo hi) (hn : hasAt p sb = false) : ∀ s ∈ sb.drop (cutAt p sb), lessP p s.name = true := by
  intro s hs
  obtain ⟨j, hj, rfl⟩ := List.getElem_of_mem hs
  have hj' : cutAt p sb + j < sb.length := by simp at hj; omega
  have hc : cutAt p sb < sb.length := by omega
  have h0 := cutAt_not p sb hc
  have h1 : sb[cutAt p sb].name.toList ≠ p.toList := fun e => by
    unfold hasAt at hn
    exact of_decide_eq_false hn ⟨hc, e⟩
  have h2 : lessP p sb[cutAt p sb].name = true := Sh.lessP_total h0 h1
  rw [List.getElem_drop]
  by_cases e : j = 0
  · subst e
    simpa using h2
  · exact Sh.lessP_trans h2 (subsc_less hS _ _ hc hj' (by omega))

theorem subsc_ins {sb : List Sb} {lo hi pos : Int} {name : ByteArray} (hS : Subsc sb lo hi) (hk : isKey name = true) (hn : hasAt name sb = false) (h8 : sb.length < 8) (h0 : lo ≤ pos) (h1 : pos ≤ hi) : Subsc (insS name pos sb) lo hi := by
  have hd := cutAt_drop hS hn
  have ht := cutAt_take name sb
  rw [subsc_iff] at hS ⊢
  obtain ⟨s1, s2, s3⟩ := hS
  refine ⟨by rw [insS_length]; omega, ?_, ?_⟩
  · intro s hs
    simp only [insS, List.mem_append, List.mem_cons] at hs
    rcases hs with hs | rfl | hs
    · exact s2 s (List.mem_of_mem_take hs)
    · exact ⟨hk, h0, h1⟩
    · exact s2 s (List.mem_of_mem_drop hs)
  · have e : sb.map (·.name) = (sb.take (cutAt name sb)).map (·.name) ++ (sb.drop (cutAt name sb)).map (·.name) := by rw [← List.map_append, List.take_append_drop]
    rw [e, List.pairwise_append] at s3
    obtain ⟨p1, p2, p3⟩ := s3
    simp only [insS, List.map_append, List.map_cons]
    rw [List.pairwise_append, List.pairwise_cons]
    refine ⟨p1, ⟨?_, p2⟩, ?_⟩
    · intro b hb
      obtain ⟨s, hs, rfl⟩ := List.mem_map.1 hb
      exact hd s hs
    · intro a ha b hb
      rcases List.mem_cons.1 hb with rfl | hb
      · obtain ⟨s, hs, rfl⟩ := List.mem_map.1 ha
        exact ht s hs
      · exact p3 a ha b hb

theorem subsc_set {sb : List Sb} {lo hi pos : Int} (hS : Subsc sb lo hi) (c : Nat) (hc : c < sb.length) (h0 : lo ≤ pos) (h1 : pos ≤ hi) : Subsc (sb.set c ⟨sb[c].name, pos⟩) lo hi := by
  have hkc := (hS.2 c hc).1
  rw [subsc_iff] at hS ⊢
  obtain ⟨s1, s2, s3⟩ := hS
  refine ⟨by rw [List.length_set]; exact s1, ?_, ?_⟩
  · intro s hs
    rcases List.mem_or_eq_of_mem_set hs with hs | rfl
    · exact s2 s hs
    · exact ⟨hkc, h0, h1⟩
  · have e : (sb.set c ⟨sb[c].name, pos⟩).map (·.name) = sb.map (·.name) := by
      rw [List.map_set]
      apply List.ext_getElem
      · simp
      · intro i h1 h2
        rw [List.getElem_set]
        split
        · subst_vars; simp
        · rfl
    rw [e]
    exact s3

theorem subsc_del {sb : List Sb} {lo hi : Int} (hS : Subsc sb lo hi) (c : Nat) : Subsc (sb.take c ++ sb.drop (c + 1)) lo hi := by
  rw [subsc_iff] at hS ⊢
  obtain ⟨s1, s2, s3⟩ := hS
  have hsub : (sb.take c ++ sb.drop (c + 1)).Sublist sb := by
    have h := List.take_append_drop c sb
    have h2 : (sb.take c ++ sb.drop (c + 1)).Sublist (sb.take c ++ sb.drop c) := List.Sublist.append (List.Sublist.refl _) (by rw [← List.drop_drop]; exact List.drop_sublist _ _)
    rwa [h] at h2
  exact ⟨Nat.le_trans hsub.length_le s1, fun s hs => s2 s (hsub.subset hs), s3.sublist (hsub.map _)⟩

theorem follow_drop {ch : List Ch} {t : Int} (h : Follow ch t) (q : Nat) (hq : q ≤ ch.length) : Follow (ch.drop q) (t + q) := by
  have e := List.take_append_drop q ch
  rw [← e] at h
  have := (follow_append.1 h).2
  rw [List.length_take, Nat.min_eq_left hq] at this
  exact this

theorem mayF_trim {f : Fd} (h : MayF f) (pos : Int) : MayF (trimF f pos) := by
  unfold trimF
  split
  · rename_i hb
    have hle := trimB_le f pos
    obtain ⟨h1, h2, h3, h4, h5, h6⟩ := h
    have hq : (f.base + ((trimB f pos - f.base).toNat : Int)) = trimB f pos := by omega
    refine ⟨by show 0 ≤ trimB f pos; omega, hle, h3, ?_, ?_, ?_⟩
    · show ((f.ch.drop (trimB f pos - f.base).toNat).length : Int) = f.total - trimB f pos
      rw [List.length_drop]
      omega
    · show Follow (f.ch.drop (trimB f pos - f.base).toNat) (trimB f pos)
      have := follow_drop h5 (trimB f pos - f.base).toNat (by omega)
      rw [hq] at this
      exact this
    · show Subsc f.sb (trimB f pos) f.total
      rw [subsc_iff] at h6 ⊢
      exact ⟨h6.1, fun s hs => ⟨(h6.2.1 s hs).1, leastS_mem _ _ s hs, (h6.2.1 s hs).2.2⟩, h6.2.2⟩
  · exact h

theorem trimF_sb (f : Fd) (pos : Int) : (trimF f pos).sb = f.sb ∧ (trimF f pos).total = f.total := by
  unfold trimF
  split <;> exact ⟨rfl, rfl⟩

theorem trimF_ch (f : Fd) (pos : Int) : (∀ d ∈ (trimF f pos).ch, d ∈ f.ch) ∧ (trimF f pos).ch.length ≤ f.ch.length := by
  unfold trimF
  split
  · exact ⟨fun d hd => List.mem_of_mem_drop hd, by simp⟩
  · exact ⟨fun d hd => hd, Nat.le_refl _⟩

end Go.Proofs.Ytpjhohmbifpogaa
