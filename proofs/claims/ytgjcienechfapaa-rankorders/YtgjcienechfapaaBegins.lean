/-
  The walk of the statement RankBegins: it returns true, whatever lists are handed in, and leaves all that was there as it was.
-/
import Derived.Test.YtgjcienechfapaaLex
namespace Go.Proofs.Ytgjcienechfapaa
open Go.RowKit

theorem Lst.take {w : World} {bo : Option Addr} {cap n : Nat} {t : List V} (h : Lst w (.slice bo t.length cap) t) (hn : n ≤ t.length) : Lst w (.slice bo n cap) (t.take n) := by
  obtain ⟨ao, cap', he, h⟩ := h
  simp only [Value.slice.injEq] at he
  obtain ⟨rfl, _, rfl⟩ := he
  refine ⟨bo, cap, by simp; omega, ?_⟩
  rcases h with rfl | ⟨b, off, rfl, hb, hl⟩
  · exact .inl (by simp)
  · refine .inr ⟨b, off, rfl, hb, fun j hj => ?_⟩
    have hj' : j < t.length := by simp at hj; omega
    have := hl j hj'
    simpa using this

theorem firstBad_ok {l : List V} (h : firstBad l = 0) : ∀ v ∈ l, v.check = 0 := by
  induction l with
  | nil => simp
  | cons x l ih =>
    unfold firstBad at h
    split at h
    · intro v hv
      rcases List.mem_cons.1 hv with rfl | hv
      · assumption
      · exact ih h v hv
    · exact absurd h ‹_›

theorem keyStr_ok {l : List V} (h : firstBad l = 0) : (keyStr l).toList = keyBytes l ∧ (keyStr l).size = (keyBytes l).length := by
  have : (keyStr l).toList = keyBytes l := by
    rw [ByteArray.toList_eq]
    simp [keyStr, h]
  exact ⟨this, by rw [← this, toList_length]⟩

theorem prefix_take {α : Type} [DecidableEq α] (l t : List α) : l <+: t ↔ l.length ≤ t.length ∧ l = t.take l.length := by
  constructor
  · intro h
    exact ⟨h.length_le, by rw [List.prefix_iff_eq_take] at h; exact h⟩
  · rintro ⟨_, h⟩
    rw [List.prefix_iff_eq_take]
    exact h

theorem extract_iff {X Y : ByteArray} (h : X.size ≤ Y.size) : (Y.extract 0 X.size).toList = X.toList ↔ X.toList <+: Y.toList := by
  rw [prefix_take, extract_front, toList_length, toList_length]
  exact ⟨fun e => ⟨h, e.symm⟩, fun e => e.2.symm⟩

/-- What the walk's end wants of the two keys. -/
theorem begins_facts {l t : List V} (ha : firstBad l = 0) (hb : firstBad t = 0) :
    (l <+: t → l.length ≤ t.length ∧ decide (l = t.take l.length) = true ∧ (keyStr l).size ≤ (keyStr t).size ∧ ((keyStr t).extract 0 (keyStr l).size).toList = (keyStr l).toList) ∧
    (¬ l <+: t → (l.length ≤ t.length → decide (l = t.take l.length) = false) ∧ ((keyStr l).size ≤ (keyStr t).size → ¬ ((keyStr t).extract 0 (keyStr l).size).toList = (keyStr l).toList)) := by
  have hp := keys_prefix (firstBad_ok ha) (firstBad_ok hb)
  rw [← (keyStr_ok ha).1, ← (keyStr_ok hb).1] at hp
  have hq := prefix_take l t
  constructor
  · intro h
    have h1 := hp.2 h
    have hs : (keyStr l).size ≤ (keyStr t).size := by
      have := h1.length_le
      rwa [toList_length, toList_length] at this
    exact ⟨(hq.1 h).1, decide_eq_true (hq.1 h).2, hs, (extract_iff hs).2 h1⟩
  · intro h
    exact ⟨fun hle => decide_eq_false fun e => h (hq.2 ⟨hle, e⟩), fun hs e => h (hp.1 ((extract_iff hs).1 e))⟩

set_option maxHeartbeats 2000000 in
theorem rankBegins_any (s s' : Value) (l t : List V) (w : World) (hl : Lst w s l) (ht : Lst w s' t) (hcp : ∀ ao n cap, s' = .slice ao n cap → n ≤ cap) :
    Calls Try.prog 4 #[s, s'] w fun e w' => e = .returned (.bool true) ∧ Below w.heap.size w w' := by
  obtain ⟨ao, cap, rfl, hlo⟩ := hl
  obtain ⟨bo, cap', rfl, hto⟩ := ht
  have hcap : t.length ≤ cap' := hcp _ _ _ rfl
  clear hcp
  have hl : Lst w (.slice ao l.length cap) l := ⟨ao, cap, rfl, hlo⟩
  have ht : Lst w (.slice bo t.length cap') t := ⟨bo, cap', rfl, hto⟩
  clear hlo hto
  by_cases h16 : l.length ≤ 16 ∧ t.length ≤ 16
  · obtain ⟨h16, h16'⟩ := h16
    have ka := fun w' (hb : Below w.heap.size w w') => key_any _ _ w' (hl.below hb) h16
    have kb := fun w' (hb : Below w.heap.size w w') => key_any _ _ w' (ht.below hb) h16'
    have sm := fun w' (hb : Below w.heap.size w w') (h : l.length ≤ t.length) => same_any _ _ _ _ w' (hl.below hb) ((ht.below hb).take h) (by omega) (by simp; omega)
    simp only [sameAll_eq] at sm
    have hfacts := begins_facts (l := l) (t := t)
    generalize keyStr l = X at *
    generalize keyStr t = Y at *
    generalize firstBad l = ea at *
    generalize firstBad t = eb at *
    have HF : Hid (ea = 0 → eb = 0 → (l <+: t → l.length ≤ t.length ∧ decide (l = t.take l.length) = true ∧ X.size ≤ Y.size ∧ (Y.extract 0 X.size).toList = X.toList) ∧
      (¬ l <+: t → (l.length ≤ t.length → decide (l = t.take l.length) = false) ∧ (X.size ≤ Y.size → ¬ (Y.extract 0 X.size).toList = X.toList))) := hfacts
    clear hfacts
    have hi1 : (l.length : Int) ≤ 16 := by omega
    have hi2 : (t.length : Int) ≤ 16 := by omega
    by_cases he : ea = 0 ∧ eb = 0
    · obtain ⟨rfl, rfl⟩ := he
      by_cases hP : l <+: t
      · obtain ⟨h1, h2, h3, h4⟩ := (HF.out rfl rfl).1 hP
        have sm' := fun w' hb => sm w' hb h1
        rw [h2] at sm'
        clear sm h2
        go_enter Try.func4, Try.ntmps4
        go_wp2_with (first
          | (go_at_call 8; first | (with_reducible refine (ka _ (Below.refl _ _)).mono ?_; rintro e w1 ⟨rfl, hb1⟩) | (with_reducible refine (kb _ hb1).mono ?_; rintro e w2 ⟨rfl, hb2⟩; have hb2' := since_on hb1 hb2))
          | (go_at_call 10; refine (sm' _ hb2').mono ?_; rintro e w3 ⟨rfl, hb3⟩)
          | (go_at_call 7; refine (awake_any _).mono ?_; rintro e w4 ⟨rfl, hb4⟩))
        go_ret
        exact ⟨rfl, since_on (since_on hb2' hb3) hb4⟩
      · obtain ⟨h1, h2⟩ := (HF.out rfl rfl).2 hP
        by_cases hle : l.length ≤ t.length
        · have sm' := fun w' hb => sm w' hb hle
          rw [h1 hle] at sm'
          clear sm h1
          by_cases hsz : X.size ≤ Y.size
          · have h3 : ((Y.extract 0 X.size).toList == X.toList) = false := by simpa using h2 hsz
            clear h2
            go_enter Try.func4, Try.ntmps4
            go_wp2_with (first
              | (go_at_call 8; first | (with_reducible refine (ka _ (Below.refl _ _)).mono ?_; rintro e w1 ⟨rfl, hb1⟩) | (with_reducible refine (kb _ hb1).mono ?_; rintro e w2 ⟨rfl, hb2⟩; have hb2' := since_on hb1 hb2))
              | (go_at_call 10; refine (sm' _ hb2').mono ?_; rintro e w3 ⟨rfl, hb3⟩)
              | (go_at_call 7; refine (awake_any _).mono ?_; rintro e w4 ⟨rfl, hb4⟩))
            go_ret
            exact ⟨rfl, since_on (since_on hb2' hb3) hb4⟩
          · clear h2
            go_enter Try.func4, Try.ntmps4
            go_wp2_with (first
              | (go_at_call 8; first | (with_reducible refine (ka _ (Below.refl _ _)).mono ?_; rintro e w1 ⟨rfl, hb1⟩) | (with_reducible refine (kb _ hb1).mono ?_; rintro e w2 ⟨rfl, hb2⟩; have hb2' := since_on hb1 hb2))
              | (go_at_call 10; refine (sm' _ hb2').mono ?_; rintro e w3 ⟨rfl, hb3⟩)
              | (go_at_call 7; refine (awake_any _).mono ?_; rintro e w4 ⟨rfl, hb4⟩))
            go_ret
            exact ⟨rfl, since_on (since_on hb2' hb3) hb4⟩
        · clear sm h1
          by_cases hsz : X.size ≤ Y.size
          · have h3 : ((Y.extract 0 X.size).toList == X.toList) = false := by simpa using h2 hsz
            clear h2
            go_enter Try.func4, Try.ntmps4
            go_wp2_with (first
              | (go_at_call 8; first | (with_reducible refine (ka _ (Below.refl _ _)).mono ?_; rintro e w1 ⟨rfl, hb1⟩) | (with_reducible refine (kb _ hb1).mono ?_; rintro e w2 ⟨rfl, hb2⟩; have hb2' := since_on hb1 hb2))
              | (go_at_call 7; refine (awake_any _).mono ?_; rintro e w4 ⟨rfl, hb4⟩))
            go_ret
            exact ⟨rfl, since_on hb2' hb4⟩
          · clear h2
            go_enter Try.func4, Try.ntmps4
            go_wp2_with (first
              | (go_at_call 8; first | (with_reducible refine (ka _ (Below.refl _ _)).mono ?_; rintro e w1 ⟨rfl, hb1⟩) | (with_reducible refine (kb _ hb1).mono ?_; rintro e w2 ⟨rfl, hb2⟩; have hb2' := since_on hb1 hb2))
              | (go_at_call 7; refine (awake_any _).mono ?_; rintro e w4 ⟨rfl, hb4⟩))
            go_ret
            exact ⟨rfl, since_on hb2' hb4⟩
    · go_enter Try.func4, Try.ntmps4
      go_wp2_with (first
        | (go_at_call 8; first | (with_reducible refine (ka _ (Below.refl _ _)).mono ?_; rintro e w1 ⟨rfl, hb1⟩) | (with_reducible refine (kb _ hb1).mono ?_; rintro e w2 ⟨rfl, hb2⟩; have hb2' := since_on hb1 hb2))
        | (go_at_call 7; refine (awake_any _).mono ?_; rintro e w3 ⟨rfl, hb3⟩))
      all_goals
        go_ret
        exact ⟨rfl, since_on hb2' hb3⟩
  · go_enter Try.func4, Try.ntmps4
    go_wp2_with (go_at_call 7; refine (awake_any _).mono ?_; rintro e w1 ⟨rfl, hb1⟩)
    all_goals
      go_ret
      exact ⟨rfl, hb1⟩

end Go.Proofs.Ytgjcienechfapaa
