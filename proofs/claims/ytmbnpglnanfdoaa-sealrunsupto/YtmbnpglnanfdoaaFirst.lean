/-
  The functions Clone, First and its reference by contracts.
-/
import Derived.Test.YtmbnpglnanfdoaaTags
namespace Go.Proofs.Ytmbnpglnanfdoaa
open Go.RowKit
attribute [local go_sem] cell?_more frozen?_more setCell_more size_more tape_more drew_more drewN_more more_drew more_drewN more_more one_out plus_out plus_end lt_one le_p2 le_p3 le_p4 le_p5 le_p6 le_p7 le_p8 le_p9 le_p10 le_p11 le_p12 le_p13 le_p14 le_p15 le_p16 le_p17 le_p18 le_p19 le_p20 le_p21 le_p22 le_p23 le_p24 le_q0 le_q1 lt_q1 le_q2 lt_q2 le_q3 lt_q3 le_q4 lt_q4 le_q5 lt_q5 le_q6 lt_q6 le_q7 lt_q7 le_q8 lt_q8 le_q9 lt_q9 le_q10 lt_q10 le_q11 lt_q11 le_q12 lt_q12 le_q13 lt_q13 le_q14 lt_q14 le_q15 lt_q15 le_q16 lt_q16 le_q17 lt_q17 le_q18 lt_q18 le_q19 lt_q19 le_q20 lt_q20 le_q21 lt_q21 le_q22 lt_q22 le_q23 lt_q23 le_q24 lt_q24

theorem clone_any (a : Addr) (n cap : Nat) (l : List UInt8) (w : World) (h : Byt w (.slice (some a) n cap) l) (hlen : l.length ≤ 1000000) :
    Calls Try.prog 21 #[.slice (some a) n cap] w fun e w' => ∃ v, e = .returned v ∧ OwnV w.heap.size 5 v (cellsB l) w w' := by
  have he := ownV_empty w 5
  have hq := Lib.run_eql_slice_nil (P := Try.prog) w 22 5 (some a) n cap 0 0 Try.underlying22
  simp only [Option.isNone_some] at hq
  go_enter Try.func21, Try.ntmps21
  go_wp2_with (at_builtin; refine byt_app (l := []) rfl (.tmp 5) (.tmp 6) rfl he rfl (h.adds (by repeat (first | with_reducible exact Adds.refl _ | with_reducible refine Adds.alloc ?_ _ | with_reducible refine Adds.more ?_ _ _ | with_reducible refine Adds.drew ?_ | with_reducible refine Adds.drewN ?_ _))) rfl (by simp; omega) ?_; intro v1 w1 h1)
  go_ret
  exact ⟨v1, rfl, h1⟩

theorem byt_nil (w : World) : Byt w (.slice none 0 0) [] := ⟨none, 0, rfl, Nat.le_refl _, .inl rfl⟩

theorem first_any (v : Value) (l : List UInt8) (w : World) (h : Byt w v l) (hlen : l.length ≤ 1000000) :
    Calls Try.prog 10 #[v] w fun e w' => ∃ r, e = .returned (.tuple #[r, .int .i64 ((first l).2.1 : Nat), .int .i64 (first l).2.2]) ∧ BytO 0 w' r (first l).1 ∧ Adds w w' := by
  have h' := h
  obtain ⟨ao, cap, rfl, hcap, ho⟩ := h.open
  have k1 := length_any _ l w h hlen
  unfold first
  by_cases he : (lengthOf l).2 = 0
  · rw [if_neg (by simpa using he)]
    have hne : l ≠ [] := by
      rintro rfl
      simp [lengthOf] at he
    have hnl : (lengthOf l).1 < 16777216 := by
      have := num3_lt l
      unfold lengthOf
      repeat' split
      all_goals simp
      omega
    rw [he] at k1
    obtain ⟨n, hn⟩ : ∃ n, n = (lengthOf l).1 := ⟨_, rfl⟩
    rw [← hn] at k1 hnl ⊢
    clear he hn
    by_cases h9 : l.length < n + 9
    · rw [if_pos h9]
      go_enter Try.func10, Try.ntmps10
      go_wp2_with (go_at_call 19; refine k1.mono ?_; rintro e w1 ⟨rfl, os1, n1, rfl⟩)
      go_ret3
      refine ⟨_, rfl, bytO_nil _, ?_⟩
      repeat (first | with_reducible exact Adds.refl _ | with_reducible refine Adds.alloc ?_ _ | with_reducible refine Adds.more ?_ _ _ | with_reducible refine Adds.drew ?_ | with_reducible refine Adds.drewN ?_ _)
    · rw [if_neg h9]
      rcases ho with rfl | ⟨b, off, rfl, hb, _⟩
      · exact absurd rfl hne
      have hA := h'.cut (lo := 6) (hi := 6 + n + 3) (by omega) (by omega)
      have hB := h'.cut (lo := 6) (hi := 6 + n) (by omega) (by omega)
      rw [if_neg (by omega)] at hA hB
      simp only [Option.map_some] at hA hB
      have eA : (l.take (6 + n + 3)).drop 6 = (l.drop 6).take (n + 3) := by rw [List.drop_take]; congr 1; omega
      have eB : (l.take (6 + n)).drop 6 = (l.drop 6).take n := by rw [List.drop_take]; congr 1; omega
      rw [eA] at hA
      rw [eB, Nat.add_sub_cancel_left] at hB
      have hT : ((l.drop 6).take (n + 3)).length = n + 3 := by simp; omega
      have hE : (sum (((l.drop 6).take (n + 3)).take (((l.drop 6).take (n + 3)).length - 3)) = num3 (((l.drop 6).take (n + 3)).drop (((l.drop 6).take (n + 3)).length - 3))) ↔ sum ((l.drop 6).take n) = num3 (l.drop (6 + n)) := by
        rw [hT, List.take_take, List.drop_take, num3_take _ _ (by omega), List.drop_drop, show min (n + 3 - 3) (n + 3) = n by omega, show n + 3 - 3 = n by omega]
      have k2 : ∀ W, Adds w W → Calls Try.prog 20 #[.slice (some ((⟨b, off, none⟩ : Addr).add 6)) (6 + n + 3 - 6) (cap - 6)] W fun e w' => e = .returned (.bool (decide (sum ((l.drop 6).take n) = num3 (l.drop (6 + n))))) ∧ Adds W w' := fun W hW => by
        have := sealed_any _ _ W (hA.adds hW) (by omega) (by omega)
        rw [decide_eq_decide.2 hE] at this
        exact this
      have k3 : ∀ W, Adds w W → Calls Try.prog 21 #[.slice (some ((⟨b, off, none⟩ : Addr).add 6)) n (cap - 6)] W fun e w' => ∃ v, e = .returned v ∧ OwnV W.heap.size 5 v (cellsB ((l.drop 6).take n)) W w' := fun W hW => by
        exact clone_any _ _ _ _ W (hB.adds hW) (by simp; omega)
      rw [add_at] at k2 k3
      clear hE hT hA hB eA eB
      by_cases hs : sum ((l.drop 6).take n) = num3 (l.drop (6 + n))
      · rw [if_neg (by simpa using hs)]
        rw [decide_eq_true hs] at k2
        clear hs
        generalize (l.drop 6).take n = m at *
        go_enter Try.func10, Try.ntmps10
        go_wp2_with (first
          | (go_at_call 19; refine k1.mono ?_; rintro e w1 ⟨rfl, os1, n1, rfl⟩)
          | (go_at_call 20; refine (k2 _ (by repeat (first | with_reducible exact Adds.refl _ | with_reducible refine Adds.alloc ?_ _ | with_reducible refine Adds.more ?_ _ _ | with_reducible refine Adds.drew ?_ | with_reducible refine Adds.drewN ?_ _))).mono ?_; rintro e w1 ⟨rfl, os2, n2, rfl⟩)
          | (go_at_call 21; refine (k3 _ (by repeat (first | with_reducible exact Adds.refl _ | with_reducible refine Adds.alloc ?_ _ | with_reducible refine Adds.more ?_ _ _ | with_reducible refine Adds.drew ?_ | with_reducible refine Adds.drewN ?_ _))).mono ?_; rintro e w1 ⟨v1, rfl, ho⟩; obtain ⟨hY, os3, n3, rfl⟩ := And.intro ho.tagged ho.added))
        go_ret3
        refine ⟨v1, ?_, ?_, ?_⟩
        · show Ending.returned (.tuple #[v1, .int .i64 (6 + (n : Int) + 3), .int .i64 0]) = .returned (.tuple #[v1, .int .i64 ((n + 9 : Nat) : Int), .int .i64 0])
          rw [show (6 + (n : Int) + 3) = ((n + 9 : Nat) : Int) by omega]
        · simpa only [more_more, Array.append_assoc] using hY
        repeat (first | with_reducible exact Adds.refl _ | with_reducible refine Adds.alloc ?_ _ | with_reducible refine Adds.more ?_ _ _ | with_reducible refine Adds.drew ?_ | with_reducible refine Adds.drewN ?_ _)
      · rw [if_pos (by simpa using hs)]
        rw [decide_eq_false hs] at k2
        clear hs
        go_enter Try.func10, Try.ntmps10
        go_wp2_with (first
          | (go_at_call 19; refine k1.mono ?_; rintro e w1 ⟨rfl, os1, n1, rfl⟩)
          | (go_at_call 20; refine (k2 _ (by repeat (first | with_reducible exact Adds.refl _ | with_reducible refine Adds.alloc ?_ _ | with_reducible refine Adds.more ?_ _ _ | with_reducible refine Adds.drew ?_ | with_reducible refine Adds.drewN ?_ _))).mono ?_; rintro e w1 ⟨rfl, os2, n2, rfl⟩))
        go_ret3
        refine ⟨_, rfl, bytO_nil _, ?_⟩
        repeat (first | with_reducible exact Adds.refl _ | with_reducible refine Adds.alloc ?_ _ | with_reducible refine Adds.more ?_ _ _ | with_reducible refine Adds.drew ?_ | with_reducible refine Adds.drewN ?_ _)
  · rw [if_pos (by simpa using he)]
    generalize (lengthOf l).1 = n at *
    generalize (lengthOf l).2 = x at *
    go_enter Try.func10, Try.ntmps10
    go_wp2_with (go_at_call 19; refine k1.mono ?_; rintro e w1 ⟨rfl, os1, n1, rfl⟩)
    go_ret3
    refine ⟨_, rfl, bytO_nil _, ?_⟩
    repeat (first | with_reducible exact Adds.refl _ | with_reducible refine Adds.alloc ?_ _ | with_reducible refine Adds.more ?_ _ _ | with_reducible refine Adds.drew ?_ | with_reducible refine Adds.drewN ?_ _)

theorem ne_cast (a b : Nat) : ((a : Int) != (b : Int)) = decide (b ≠ a) := by
  by_cases h : b = a
  · subst h
    simp
  · have : ¬ ((a : Int) = (b : Int)) := by omega
    rw [decide_eq_true h]
    simpa using this

set_option maxHeartbeats 1000000 in
theorem refFirst_any (B : Nat) (v : Value) (l : List UInt8) (w : World) (hO : BytO B w v l) (hlen : l.length ≤ 1000000) :
    Calls Try.prog 14 #[v] w fun e w' => ∃ r, e = .returned (.tuple #[r, .int .i64 ((first l).2.1 : Nat), .int .i64 (first l).2.2]) ∧ BytO B w' r (first l).1 ∧ Adds w w' := by
  have h := hO.byt
  have h' := h
  obtain ⟨ao, cap, rfl, hcap, ho⟩ := h.open
  by_cases h6 : l.length < 6
  · have hf : first l = ([], 0, 5) := by
      unfold first lengthOf
      rw [if_pos h6]
      simp
    rw [hf]
    go_enter Try.func14, Try.ntmps14
    go_wp2
    go_ret3
    refine ⟨_, rfl, bytO_none _ _, ?_⟩
    repeat (first | with_reducible exact Adds.refl _ | with_reducible refine Adds.alloc ?_ _ | with_reducible refine Adds.more ?_ _ _ | with_reducible refine Adds.drew ?_ | with_reducible refine Adds.drewN ?_ _)
  rcases ho with rfl | ⟨b, off, rfl, hb, _⟩
  · simp at h6
  have hA := h'.take (hi := 3) (by omega)
  have hB := h'.cut (lo := 3) (hi := l.length) (by omega) (by omega)
  rw [if_neg (by omega), List.take_length] at hB
  simp only [Option.map_some, add_at] at hB
  obtain ⟨S, hS⟩ : ∃ S, S = sum (l.take 3) := ⟨_, rfl⟩
  obtain ⟨M, hM⟩ : ∃ M, M = num3 (l.drop 3) := ⟨_, rfl⟩
  obtain ⟨n, hn⟩ : ∃ n, n = num3 l := ⟨_, rfl⟩
  have hn24 : n < 16777216 := hn ▸ num3_lt l
  have hS24 : S < 16777216 := hS ▸ sum_lt _
  have hM24 : M < 16777216 := hM ▸ num3_lt _
  have k1 : ∀ p, Calls Try.prog 12 #[.slice (some ⟨b, off, none⟩) 3 cap] (addTo w p) fun e w'' => e = .returned (.int .u32 (S : Nat)) ∧ ∃ p : Plus, w'' = addTo w p := fun p => by
    rw [hS]
    exact Calls.plus_of (refSum_any _ _ _ (hA.plus _) (by simp; omega))
  have k2 : ∀ p, Calls Try.prog 24 #[.slice (some ⟨b, off + 3, none⟩) (l.length - 3) (cap - 3)] (addTo w p) fun e w'' => e = .returned (.int .i64 (M : Nat)) ∧ ∃ p : Plus, w'' = addTo w p := fun p => by
    rw [hM]
    exact Calls.adds_of (refNumber_any _ _ _ (hB.plus _) (by simp; omega))
  have k3 : ∀ W, Adds w W → Calls Try.prog 24 #[.slice (some ⟨b, off, none⟩) l.length cap] W fun e w' => e = .returned (.int .i64 (n : Nat)) ∧ Adds W w' := fun W hW => by
    rw [hn]
    exact refNumber_any _ _ _ (h'.adds hW) (by omega)
  have hne := ne_cast M S
  by_cases hs : S = M
  · rw [decide_eq_false (by simpa using hs)] at hne
    have hL : lengthOf l = if 16384 < n then (0, 5) else (n, 0) := by
      unfold lengthOf
      rw [if_neg h6, ← hS, ← hM, if_neg (by simpa using hs), ← hn]
    clear hS hM hs
    by_cases hn1 : 16384 < n
    · have hf : first l = ([], 0, 5) := by
        unfold first
        rw [hL, if_pos hn1]
        simp
      rw [hf]
      clear hf hL hn
      go_enter Try.func14, Try.ntmps14
      go_wp2
      refine wp_region_adds (by kernel_rfl) (by kernel_rfl) ?_
      repeat (go_big_quiet_step ((first | (go_at_call 12; exact k1 _) | (go_at_call 24; exact k2 _))))
      refine wpQuiet_nil ?_
      rintro _ ⟨pl, rfl⟩
      unfold addTo
      go_wp2_with (go_at_call 24; refine (k3 _ (by repeat (first | with_reducible exact Adds.refl _ | with_reducible refine Adds.alloc ?_ _ | with_reducible refine Adds.more ?_ _ _ | with_reducible refine Adds.drew ?_ | with_reducible refine Adds.drewN ?_ _))).mono ?_; rintro e w1 ⟨rfl, os1, n1, rfl⟩)
      go_ret3
      refine ⟨_, rfl, bytO_none _ _, ?_⟩
      repeat (first | with_reducible exact Adds.refl _ | with_reducible refine Adds.alloc ?_ _ | with_reducible refine Adds.more ?_ _ _ | with_reducible refine Adds.drew ?_ | with_reducible refine Adds.drewN ?_ _)
    rw [if_neg hn1] at hL
    by_cases hn9 : l.length < n + 9
    · have hf : first l = ([], 0, 5) := by
        unfold first
        rw [hL]
        simp [hn9]
      rw [hf]
      clear hf hL hn
      go_enter Try.func14, Try.ntmps14
      go_wp2
      refine wp_region_adds (by kernel_rfl) (by kernel_rfl) ?_
      repeat (go_big_quiet_step ((first | (go_at_call 12; exact k1 _) | (go_at_call 24; exact k2 _))))
      refine wpQuiet_nil ?_
      rintro _ ⟨pl, rfl⟩
      unfold addTo
      go_wp2_with (go_at_call 24; refine (k3 _ (by repeat (first | with_reducible exact Adds.refl _ | with_reducible refine Adds.alloc ?_ _ | with_reducible refine Adds.more ?_ _ _ | with_reducible refine Adds.drew ?_ | with_reducible refine Adds.drewN ?_ _))).mono ?_; rintro e w1 ⟨rfl, os1, n1, rfl⟩)
      go_ret3
      refine ⟨_, rfl, bytO_none _ _, ?_⟩
      repeat (first | with_reducible exact Adds.refl _ | with_reducible refine Adds.alloc ?_ _ | with_reducible refine Adds.more ?_ _ _ | with_reducible refine Adds.drew ?_ | with_reducible refine Adds.drewN ?_ _)
    have hC := h'.cut (lo := 6 + n) (hi := l.length) (by omega) (by omega)
    have hD := hO.cut (lo := 6) (hi := 6 + n) (by omega) (by omega)
    rw [if_neg (by omega), List.take_length] at hC
    rw [if_neg (by omega)] at hD
    have eD : (l.take (6 + n)).drop 6 = (l.drop 6).take n := by rw [List.drop_take]; congr 1; omega
    rw [eD, Nat.add_sub_cancel_left] at hD
    simp only [Option.map_some, add_at] at hC hD
    have hF : first l = if sum ((l.drop 6).take n) ≠ num3 (l.drop (6 + n)) then ([], 0, 6) else ((l.drop 6).take n, n + 9, 0) := by
      unfold first
      rw [hL]
      simp [hn9]
    obtain ⟨S2, hS2⟩ : ∃ S, S = sum ((l.drop 6).take n) := ⟨_, rfl⟩
    obtain ⟨M2, hM2⟩ : ∃ M, M = num3 (l.drop (6 + n)) := ⟨_, rfl⟩
    have hS24' : S2 < 16777216 := hS2 ▸ sum_lt _
    have hM24' : M2 < 16777216 := hM2 ▸ num3_lt _
    have k4 : ∀ W p, Adds w W → Calls Try.prog 12 #[.slice (some ⟨b, off + 6, none⟩) n (cap - 6)] (addTo W p) fun e w'' => e = .returned (.int .u32 (S2 : Nat)) ∧ ∃ p : Plus, w'' = addTo W p := fun W p hW => by
      rw [hS2]
      exact Calls.plus_of (refSum_any _ _ _ ((hD.byt.adds hW).plus _) (by simp; omega))
    have k5 : ∀ W p, Adds w W → Calls Try.prog 24 #[.slice (some ⟨b, off + (6 + n), none⟩) (l.length - (6 + n)) (cap - (6 + n))] (addTo W p) fun e w'' => e = .returned (.int .i64 (M2 : Nat)) ∧ ∃ p : Plus, w'' = addTo W p := fun W p hW => by
      rw [hM2]
      exact Calls.adds_of (refNumber_any _ _ _ ((hC.adds hW).plus _) (by simp; omega))
    rw [← hS2, ← hM2] at hF
    have hne2 := ne_cast M2 S2
    generalize (l.drop 6).take n = m at *
    clear hS2 hM2 hL hn hA hB hC
    by_cases hs : S2 = M2
    · rw [decide_eq_false (by simpa using hs)] at hne2
      rw [if_neg (by simpa using hs)] at hF
      rw [hF]
      clear hF hs
      go_enter Try.func14, Try.ntmps14
      go_wp2
      refine wp_region_adds (by kernel_rfl) (by kernel_rfl) ?_
      repeat (go_big_quiet_step ((first | (go_at_call 12; exact k1 _) | (go_at_call 24; exact k2 _))))
      refine wpQuiet_nil ?_
      rintro _ ⟨pl, rfl⟩
      unfold addTo
      go_wp2_with (go_at_call 24; refine (k3 _ (by repeat (first | with_reducible exact Adds.refl _ | with_reducible refine Adds.alloc ?_ _ | with_reducible refine Adds.more ?_ _ _ | with_reducible refine Adds.drew ?_ | with_reducible refine Adds.drewN ?_ _))).mono ?_; rintro e w1 ⟨rfl, os1, n1, rfl⟩)
      refine wp_region_adds (by kernel_rfl) (by kernel_rfl) ?_
      repeat (go_big_quiet_step ((first | (go_at_call 12; exact k4 _ _ (by repeat (first | with_reducible exact Adds.refl _ | with_reducible refine Adds.alloc ?_ _ | with_reducible refine Adds.more ?_ _ _ | with_reducible refine Adds.drew ?_ | with_reducible refine Adds.drewN ?_ _))) | (go_at_call 24; exact k5 _ _ (by repeat (first | with_reducible exact Adds.refl _ | with_reducible refine Adds.alloc ?_ _ | with_reducible refine Adds.more ?_ _ _ | with_reducible refine Adds.drew ?_ | with_reducible refine Adds.drewN ?_ _))))))
      refine wpQuiet_nil ?_
      rintro _ ⟨pl2, rfl⟩
      unfold addTo
      go_wp2
      go_ret3
      refine ⟨.slice (some ⟨b, off + 6, none⟩) n (cap - 6), ?_, hD.adds ?_, ?_⟩
      · show Ending.returned (.tuple #[.slice (some ⟨b, off + 6, none⟩) (6 + n - 6) (cap - 6), .int .i64 ((n : Int) + 9), .int .i64 0]) = _
        rw [Nat.add_sub_cancel_left]
        rfl
      · repeat (first | with_reducible exact Adds.refl _ | with_reducible refine Adds.alloc ?_ _ | with_reducible refine Adds.more ?_ _ _ | with_reducible refine Adds.drew ?_ | with_reducible refine Adds.drewN ?_ _)
      · repeat (first | with_reducible exact Adds.refl _ | with_reducible refine Adds.alloc ?_ _ | with_reducible refine Adds.more ?_ _ _ | with_reducible refine Adds.drew ?_ | with_reducible refine Adds.drewN ?_ _)
    · rw [decide_eq_true (by simpa using hs)] at hne2
      rw [if_pos (by simpa using hs)] at hF
      rw [hF]
      clear hF hs
      go_enter Try.func14, Try.ntmps14
      go_wp2
      refine wp_region_adds (by kernel_rfl) (by kernel_rfl) ?_
      repeat (go_big_quiet_step ((first | (go_at_call 12; exact k1 _) | (go_at_call 24; exact k2 _))))
      refine wpQuiet_nil ?_
      rintro _ ⟨pl, rfl⟩
      unfold addTo
      go_wp2_with (go_at_call 24; refine (k3 _ (by repeat (first | with_reducible exact Adds.refl _ | with_reducible refine Adds.alloc ?_ _ | with_reducible refine Adds.more ?_ _ _ | with_reducible refine Adds.drew ?_ | with_reducible refine Adds.drewN ?_ _))).mono ?_; rintro e w1 ⟨rfl, os1, n1, rfl⟩)
      refine wp_region_adds (by kernel_rfl) (by kernel_rfl) ?_
      repeat (go_big_quiet_step ((first | (go_at_call 12; exact k4 _ _ (by repeat (first | with_reducible exact Adds.refl _ | with_reducible refine Adds.alloc ?_ _ | with_reducible refine Adds.more ?_ _ _ | with_reducible refine Adds.drew ?_ | with_reducible refine Adds.drewN ?_ _))) | (go_at_call 24; exact k5 _ _ (by repeat (first | with_reducible exact Adds.refl _ | with_reducible refine Adds.alloc ?_ _ | with_reducible refine Adds.more ?_ _ _ | with_reducible refine Adds.drew ?_ | with_reducible refine Adds.drewN ?_ _))))))
      refine wpQuiet_nil ?_
      rintro _ ⟨pl2, rfl⟩
      unfold addTo
      go_wp2
      go_ret3
      refine ⟨_, rfl, bytO_none _ _, ?_⟩
      repeat (first | with_reducible exact Adds.refl _ | with_reducible refine Adds.alloc ?_ _ | with_reducible refine Adds.more ?_ _ _ | with_reducible refine Adds.drew ?_ | with_reducible refine Adds.drewN ?_ _)
  · have hf : first l = ([], 0, 6) := by
      have hL : lengthOf l = (0, 6) := by
        unfold lengthOf
        rw [if_neg h6, ← hS, ← hM, if_pos (by simpa using hs)]
      unfold first
      rw [hL]
      simp
    rw [decide_eq_true (by simpa using hs)] at hne
    rw [hf]
    clear hf hn hS hM
    go_enter Try.func14, Try.ntmps14
    go_wp2
    refine wp_region_adds (by kernel_rfl) (by kernel_rfl) ?_
    repeat (go_big_quiet_step ((first | (go_at_call 12; exact k1 _) | (go_at_call 24; exact k2 _))))
    refine wpQuiet_nil ?_
    rintro _ ⟨pl, rfl⟩
    unfold addTo
    go_wp2
    go_ret3
    refine ⟨_, rfl, bytO_none _ _, ?_⟩
    repeat (first | with_reducible exact Adds.refl _ | with_reducible refine Adds.alloc ?_ _ | with_reducible refine Adds.more ?_ _ _ | with_reducible refine Adds.drew ?_ | with_reducible refine Adds.drewN ?_ _)

end Go.Proofs.Ytmbnpglnanfdoaa
