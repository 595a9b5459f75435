/-
  SealRecords: the law's walk.
-/
import Derived.Test.YtmbnpglnanfdoaaRecord
namespace Go.Proofs.Ytmbnpglnanfdoaa
open Go.RowKit
attribute [local go_sem] cell?_more frozen?_more setCell_more size_more tape_more drew_more drewN_more more_drew more_drewN more_more one_out plus_out plus_end lt_one le_p2 le_p3 le_p4 le_p5 le_p6 le_p7 le_p8 le_p9 le_p10 le_p11 le_p12 le_p13 le_p14 le_p15 le_p16 le_p17 le_p18 le_p19 le_p20 le_p21 le_p22 le_p23 le_p24 le_q0 le_q1 lt_q1 le_q2 lt_q2 le_q3 lt_q3 le_q4 lt_q4 le_q5 lt_q5 le_q6 lt_q6 le_q7 lt_q7 le_q8 lt_q8 le_q9 lt_q9 le_q10 lt_q10 le_q11 lt_q11 le_q12 lt_q12 le_q13 lt_q13 le_q14 lt_q14 le_q15 lt_q15 le_q16 lt_q16 le_q17 lt_q17 le_q18 lt_q18 le_q19 lt_q19 le_q20 lt_q20 le_q21 lt_q21 le_q22 lt_q22 le_q23 lt_q23 le_q24 lt_q24

theorem Byt.strs {w : World} {v : Value} {l : List UInt8} (h : Byt w v l) (os : Array Obj) (k : Nat) : (convert 22 9 v).run Try.prog (more w os k) = .ok (.string ⟨l.toArray⟩) (more w os k) := (h.adds ⟨os, k, rfl⟩).str

theorem sealRecords_awake (v : Value) (l : List UInt8) (w : World) (h : Byt w v l) (hl : 3000 < l.length ∧ l.length ≤ 16384 ∨ 20000 < l.length) :
    Calls Try.prog 3 #[v] w fun e w' => e = .returned (.bool true) ∧ Adds w w' := by
  obtain ⟨ao, cap, rfl, hcap, ho⟩ := h.open
  rcases hl with hl | hl
  · go_enter Try.func3, Try.ntmps3
    go_wp2_with (go_at_call 8; refine (awake_any _).mono ?_; rintro e w1 ⟨rfl, os1, n1, rfl⟩)
    go_ret
    refine ⟨rfl, ?_⟩
    repeat (first | with_reducible exact Adds.refl _ | with_reducible refine Adds.alloc ?_ _ | with_reducible refine Adds.more ?_ _ _ | with_reducible refine Adds.drew ?_ | with_reducible refine Adds.drewN ?_ _)
  · go_enter Try.func3, Try.ntmps3
    go_wp2_with (go_at_call 8; refine (awake_any _).mono ?_; rintro e w1 ⟨rfl, os1, n1, rfl⟩)
    go_ret
    refine ⟨rfl, ?_⟩
    repeat (first | with_reducible exact Adds.refl _ | with_reducible refine Adds.alloc ?_ _ | with_reducible refine Adds.more ?_ _ _ | with_reducible refine Adds.drew ?_ | with_reducible refine Adds.drewN ?_ _)

theorem sealRecords_long (v : Value) (l : List UInt8) (w : World) (h : Byt w v l) (hl : 16384 < l.length) (hl2 : l.length ≤ 20000) :
    Calls Try.prog 3 #[v] w fun e w' => e = .returned (.bool true) ∧ Adds w w' := by
  have h' := h
  obtain ⟨ao, cap, rfl, hcap, ho⟩ := h.open
  have he := ownV_empty w 5
  rw [show ([] : List Value) = cellsB [] from rfl] at he
  go_enter Try.func3, Try.ntmps3
  go_wp2_with (first
    | (at_builtin; refine byt_app rfl (.tmp 23) (.tmp 24) rfl he rfl (h'.adds (by repeat (first | with_reducible exact Adds.refl _ | with_reducible refine Adds.alloc ?_ _ | with_reducible refine Adds.more ?_ _ _ | with_reducible refine Adds.drew ?_ | with_reducible refine Adds.drewN ?_ _))) rfl (by simp; omega) ?_; intro v2 w2 h2; rw [List.nil_append] at h2)
    | (go_at_call 9; (with_reducible refine (record_long _ _ _ h2.byt hl (by omega)).mono ?_); rintro e w3 ⟨rfl, a3⟩)
    | (go_at_call 8; refine (awake_any _).mono ?_; rintro e w4 ⟨rfl, a4⟩))
  go_ret
  exact ⟨rfl, h2.added.trans (a3.trans a4)⟩

set_option maxHeartbeats 4000000 in
set_option maxRecDepth 20000 in
theorem sealRecords_short (v : Value) (l : List UInt8) (w : World) (h : Byt w v l) (hl : l.length ≤ 3000) :
    Calls Try.prog 3 #[v] w fun e w' => e = .returned (.bool true) ∧ Adds w w' := by
  have h' := h
  obtain ⟨ao, cap, rfl, hcap, ho⟩ := h.open
  have he := ownV_empty w 5
  rw [show ([] : List Value) = cellsB [] from rfl] at he
  obtain ⟨N, hN⟩ : ∃ N, N = l.length + 9 := ⟨_, rfl⟩
  have hF : ∀ v W, Byt W v (record l) → Calls Try.prog 10 #[v] W fun e w' => ∃ r, e = .returned (.tuple #[r, .int .i64 (N : Int), .int .i64 0]) ∧ Byt w' r l ∧ Adds W w' := fun v W hW => by
    have := first_any v (record l) W hW (by rw [record_length]; omega)
    have hf := first_record l [] (by omega)
    rw [List.append_nil] at hf
    rw [hf] at this
    rw [hN]
    exact this.mono fun _ _ ⟨r, he, hr, ha⟩ => ⟨r, he, hr.byt, ha⟩
  have hlr : (record l).length = N := by rw [record_length, hN]
  have hN2 : N ≤ 4000 := by omega
  clear hN
  go_enter Try.func3, Try.ntmps3
  go_wp2_with (first
    | (at_builtin; refine byt_app rfl (.tmp 23) (.tmp 24) rfl he rfl (h'.adds (by repeat (first | with_reducible exact Adds.refl _ | with_reducible refine Adds.alloc ?_ _ | with_reducible refine Adds.more ?_ _ _ | with_reducible refine Adds.drew ?_ | with_reducible refine Adds.drewN ?_ _))) rfl (by simp; omega) ?_; intro v2 w2 h2; rw [List.nil_append] at h2)
    | (go_at_call 9; (with_reducible refine (record_any _ _ _ h2.byt (by omega)).mono ?_); rintro e w3 ⟨s, rfl, h3⟩; obtain ⟨so, sc, hsv, _⟩ := h3.byt.open; rw [hlr] at hsv; subst hsv)
    | (go_at_call 10; (with_reducible refine (hF _ _ h3.byt).mono ?_); rintro e w4 ⟨r, rfl, h4, os4, n4, rfl⟩))
  have a34 := h2.added.trans h3.added
  have b4 := h'.adds a34
  have s4 := h3.byt
  have q1 := fun k => (b4.strs os4 k)
  have q2 := fun k => (s4.strs os4 k)
  have q3 := fun k => (h4.strs #[] k)
  simp only [more_more, Array.append_empty] at q3
  have p1 := fun os k => (b4.strs (os4 ++ os) k)
  have p2 := fun os k => (s4.strs (os4 ++ os) k)
  have p3 := fun os k => (h4.strs os k)
  simp only [more_more] at p3
  have k1 : ∀ W, Adds w3 W → Calls Try.prog 11 #[.slice ao l.length cap] W fun e w' => e = .returned (.int .u32 (sum l : Nat)) ∧ w' = W := fun W hW => sum_any _ _ _ (b4.adds hW) (by omega)
  have k2 : ∀ W, Adds w3 W → Calls Try.prog 12 #[.slice ao l.length cap] W fun e w' => e = .returned (.int .u32 (sum l : Nat)) ∧ w' = W := fun W hW => refSum_any _ _ _ (b4.adds hW) (by omega)
  have k3 : ∀ W, Adds w3 W → Calls Try.prog 13 #[.slice ao l.length cap] W fun e w' => ∃ r, e = .returned r ∧ Byt w' r (record l) ∧ Adds W w' := fun W hW => refRecord_any _ _ _ (b4.adds hW) (by omega)
  generalize sum l = S at *
  generalize record l = R at *
  clear he h2 hF h' h h3 b4 s4 h4 ho
  refine wp_region_any (by kernel_rfl) ?_
  change wpAny _ _ _ _ _ _ _ (World.drew _)
  refine wpAny_take (i := 0) (v := ?_) rfl (by kernel_rfl) (by kernel_rfl) (by kernel_rfl) (fun _ _ _ h => h) (Or.inl ⟨by rfl, fun _ => ?_⟩) ?_
  rotate_left
  · (go_simp; try with_reducible rfl)
  go_simp
  refine wpAny_take (i := 2) (v := ?_) rfl (by kernel_rfl) (by kernel_rfl) (by kernel_rfl) (fun _ _ _ h => h) (Or.inl ⟨by rfl, fun _ => ?_⟩) ?_
  rotate_left
  · (go_simp; try with_reducible rfl)
  go_simp
  refine wpAny_ready (rs := [1]) (by kernel_rfl) (by simp) ?_
  refine AllReady.cons rfl (fun K hK => ?_) ?_
  · go_simp
    go_wp2_with (go_at_call 11; (with_reducible refine (k1 _ (by repeat (first | with_reducible exact Adds.refl _ | with_reducible refine Adds.alloc ?_ _ | with_reducible refine Adds.more ?_ _ _ | with_reducible refine Adds.drew ?_ | with_reducible refine Adds.drewN ?_ _))).mono ?_); rintro e w5 ⟨rfl, rfl⟩)
    try (refine hK _ _ ?_; clear hK K)
    go_simp
    refine wpAny_ready (rs := [3]) (by kernel_rfl) (by simp) ?_
    refine AllReady.cons rfl (fun K hK => ?_) ?_
    · go_simp
      go_wp2_with (go_at_call 12; (with_reducible refine (k2 _ (by repeat (first | with_reducible exact Adds.refl _ | with_reducible refine Adds.alloc ?_ _ | with_reducible refine Adds.more ?_ _ _ | with_reducible refine Adds.drew ?_ | with_reducible refine Adds.drewN ?_ _))).mono ?_); rintro e w5 ⟨rfl, rfl⟩)
      try (refine hK _ _ ?_; clear hK K)
      go_simp
      refine wpAny_take (i := 4) (v := ?_) rfl (by kernel_rfl) (by kernel_rfl) (by kernel_rfl) (fun _ _ _ h => h) (Or.inl ⟨by rfl, fun _ => ?_⟩) ?_
      rotate_left
      · (go_simp; try with_reducible rfl)
      go_simp
      refine wpAny_take (i := 5) (v := ?_) rfl (by kernel_rfl) (by kernel_rfl) (by kernel_rfl) (fun _ _ _ h => h) (Or.inl ⟨by rfl, fun _ => ?_⟩) ?_
      rotate_left
      · (go_simp; try with_reducible rfl)
      go_simp
      refine wpAny_take (i := 6) (v := ?_) rfl (by kernel_rfl) (by kernel_rfl) (by kernel_rfl) (fun _ _ _ h => h) (Or.inl ⟨by rfl, fun _ => ?_⟩) ?_
      rotate_left
      · (go_simp; try with_reducible rfl)
      go_simp
      refine wpAny_take (i := 7) (v := ?_) rfl (by kernel_rfl) (by kernel_rfl) (by kernel_rfl) (fun _ _ _ h => h) (Or.inl ⟨by rfl, fun _ => ?_⟩) ?_
      rotate_left
      · (go_simp; try with_reducible rfl)
      go_simp
      refine wpAny_take (i := 8) (v := ?_) rfl (by kernel_rfl) (by kernel_rfl) (by kernel_rfl) (fun _ _ _ h => h) (Or.inl ⟨by rfl, fun _ => ?_⟩) ?_
      rotate_left
      · (go_simp; try with_reducible rfl)
      go_simp
      refine wpAny_take (i := 9) (v := ?_) rfl (by kernel_rfl) (by kernel_rfl) (by kernel_rfl) (fun _ _ _ h => h) (Or.inl ⟨by rfl, fun _ => ?_⟩) ?_
      rotate_left
      · (go_simp; try with_reducible rfl)
      go_simp
      refine wpAny_take (i := 10) (v := ?_) rfl (by kernel_rfl) (by kernel_rfl) (by kernel_rfl) (fun _ _ _ h => h) (Or.inl ⟨by rfl, fun _ => ?_⟩) ?_
      rotate_left
      · (go_simp; try with_reducible rfl)
      go_simp
      refine wpAny_take (i := 12) (v := ?_) rfl (by kernel_rfl) (by kernel_rfl) (by kernel_rfl) (fun _ _ _ h => h) (Or.inl ⟨by rfl, fun _ => ?_⟩) ?_
      rotate_left
      · (go_simp; try with_reducible rfl)
      go_simp
      refine wpAny_ready (rs := [11, 13]) (by kernel_rfl) (by simp) ?_
      refine AllReady.cons rfl (fun K hK => ?_) ?_
      · go_simp
        refine hK _ _ ?_
        clear hK K
        go_simp
        refine wpAny_ready (rs := [13]) (by kernel_rfl) (by simp) ?_
        refine AllReady.cons rfl (fun K hK => ?_) ?_
        · go_simp
          go_wp2_with (go_at_call 13; (with_reducible refine (k3 _ (by repeat (first | with_reducible exact Adds.refl _ | with_reducible refine Adds.alloc ?_ _ | with_reducible refine Adds.more ?_ _ _ | with_reducible refine Adds.drew ?_ | with_reducible refine Adds.drewN ?_ _))).mono ?_); rintro e w5 ⟨r5, rfl, hY5, os5, n5, rfl⟩; have q5 := fun k => (hY5.strs #[] k); have p5 := fun os k => (hY5.strs os k); simp only [more_more, Array.append_empty, Array.append_assoc] at q5 p5)
          try (refine hK _ _ ?_; clear hK K)
          go_simp
          refine wpAny_ready (rs := [14]) (by kernel_rfl) (by simp) ?_
          refine AllReady.cons rfl (fun K hK => ?_) ?_
          · go_simp
            refine hK _ _ ?_
            clear hK K
            go_simp
            refine wpAny_take (i := 15) (v := ?_) rfl (by kernel_rfl) (by kernel_rfl) (by kernel_rfl) (fun _ _ _ h => h) (Or.inl ⟨by rfl, fun _ => ?_⟩) ?_
            rotate_left
            · (go_simp; try with_reducible rfl)
            go_simp
            refine wpAny_take (i := 16) (v := ?_) rfl (by kernel_rfl) (by kernel_rfl) (by kernel_rfl) (fun _ _ _ h => h) (Or.inl ⟨by rfl, fun _ => ?_⟩) ?_
            rotate_left
            · (go_simp; try with_reducible rfl)
            go_simp
            refine wpAny_take (i := 17) (v := ?_) rfl (by kernel_rfl) (by kernel_rfl) (by kernel_rfl) (fun _ _ _ h => h) (Or.inl ⟨by rfl, fun _ => ?_⟩) ?_
            rotate_left
            · (go_simp; try with_reducible rfl)
            go_simp
            refine wpAny_take (i := 18) (v := ?_) rfl (by kernel_rfl) (by kernel_rfl) (by kernel_rfl) (fun _ _ _ h => h) (Or.inl ⟨by rfl, fun _ => ?_⟩) ?_
            rotate_left
            · (go_simp; try with_reducible rfl)
            go_simp
            refine wpAny_take (i := 19) (v := ?_) rfl (by kernel_rfl) (by kernel_rfl) (by kernel_rfl) (fun _ _ _ h => h) (Or.inl ⟨by rfl, fun _ => ?_⟩) ?_
            rotate_left
            · (go_simp; try with_reducible rfl)
            go_simp
            refine wpAny_take (i := 20) (v := ?_) rfl (by kernel_rfl) (by kernel_rfl) (by kernel_rfl) (fun _ _ _ h => h) (Or.inl ⟨by rfl, fun _ => ?_⟩) ?_
            rotate_left
            · (go_simp; try with_reducible rfl)
            go_simp
            refine wpAny_take (i := 21) (v := ?_) rfl (by kernel_rfl) (by kernel_rfl) (by kernel_rfl) (fun _ _ _ h => h) (Or.inl ⟨by rfl, fun _ => ?_⟩) ?_
            rotate_left
            · (go_simp; try with_reducible rfl)
            go_simp
            refine wpAny_take (i := 22) (v := ?_) rfl (by kernel_rfl) (by kernel_rfl) (by kernel_rfl) (fun _ _ _ h => h) (Or.inl ⟨by rfl, fun _ => ?_⟩) ?_
            rotate_left
            · (go_simp; try with_reducible rfl)
            go_simp
            refine wpAny_take (i := 23) (v := ?_) rfl (by kernel_rfl) (by kernel_rfl) (by kernel_rfl) (fun _ _ _ h => h) (Or.inl ⟨by rfl, fun _ => ?_⟩) ?_
            rotate_left
            · (go_simp; try with_reducible rfl)
            go_simp
            refine wpAny_take (i := 24) (v := ?_) rfl (by kernel_rfl) (by kernel_rfl) (by kernel_rfl) (fun _ _ _ h => h) (Or.inl ⟨by rfl, fun _ => ?_⟩) ?_
            rotate_left
            · (go_simp; try with_reducible rfl)
            go_simp
            refine wpAny_take (i := 25) (v := ?_) rfl (by kernel_rfl) (by kernel_rfl) (by kernel_rfl) (fun _ _ _ h => h) (Or.inl ⟨by rfl, fun _ => ?_⟩) ?_
            rotate_left
            · (go_simp; try with_reducible rfl)
            go_simp
            refine wpAny_take (i := 26) (v := ?_) rfl (by kernel_rfl) (by kernel_rfl) (by kernel_rfl) (fun _ _ _ h => h) (Or.inl ⟨by rfl, fun _ => ?_⟩) ?_
            rotate_left
            · (go_simp; try with_reducible rfl)
            go_simp
            refine wpAny_take (i := 27) (v := ?_) rfl (by kernel_rfl) (by kernel_rfl) (by kernel_rfl) (fun _ _ _ h => h) (Or.inl ⟨by rfl, fun _ => ?_⟩) ?_
            rotate_left
            · (go_simp; try with_reducible rfl)
            go_simp
            refine wpAny_take (i := 28) (v := ?_) rfl (by kernel_rfl) (by kernel_rfl) (by kernel_rfl) (fun _ _ _ h => h) (Or.inl ⟨by rfl, fun _ => ?_⟩) ?_
            rotate_left
            · (go_simp; try with_reducible rfl)
            go_simp
            refine wpAny_take (i := 30) (v := ?_) rfl (by kernel_rfl) (by kernel_rfl) (by kernel_rfl) (fun _ _ _ h => h) (Or.inl ⟨by rfl, fun _ => ?_⟩) ?_
            rotate_left
            · (go_simp; try with_reducible rfl)
            go_simp
            refine wpAny_ready (rs := [29, 31]) (by kernel_rfl) (by simp) ?_
            refine AllReady.cons rfl (fun K hK => ?_) ?_
            · go_simp
              refine hK _ _ ?_
              clear hK K
              go_simp
              refine wpAny_ready (rs := [31]) (by kernel_rfl) (by simp) ?_
              refine AllReady.cons rfl (fun K hK => ?_) ?_
              · go_simp
                refine hK _ _ ?_
                clear hK K
                go_simp
                refine wpAny_take (i := 32) (v := ?_) rfl (by kernel_rfl) (by kernel_rfl) (by kernel_rfl) (fun _ _ _ h => h) (Or.inl ⟨by rfl, fun _ => ?_⟩) ?_
                rotate_left
                · (go_simp; try with_reducible rfl)
                go_simp
                refine wpAny_take (i := 33) (v := ?_) rfl (by kernel_rfl) (by kernel_rfl) (by kernel_rfl) (fun _ _ _ h => h) (Or.inl ⟨by rfl, fun _ => ?_⟩) ?_
                rotate_left
                · (go_simp; try with_reducible rfl)
                go_simp
                refine wpAny_take (i := 34) (v := ?_) rfl (by kernel_rfl) (by kernel_rfl) (by kernel_rfl) (fun _ _ _ h => h) (Or.inl ⟨by rfl, fun _ => ?_⟩) ?_
                rotate_left
                · (go_simp; try with_reducible rfl)
                go_simp
                refine wpAny_ready (rs := [35]) (by kernel_rfl) (by simp) ?_
                refine AllReady.cons rfl (fun K hK => ?_) ?_
                · go_simp
                  go_wp2_with (go_at_call 8; (with_reducible refine (awake_any _).mono ?_); rintro e w6 ⟨rfl, os6, n6, rfl⟩)
                  try (refine hK _ _ ?_; clear hK K)
                  go_simp
                  refine wpAny_take (i := 36) (v := ?_) rfl (by kernel_rfl) (by kernel_rfl) (by kernel_rfl) (fun _ _ _ h => h) (Or.inl ⟨by rfl, fun _ => ?_⟩) ?_
                  rotate_left
                  · (go_simp; try with_reducible rfl)
                  go_simp
                  refine wpAny_take (i := 37) (v := ?_) rfl (by kernel_rfl) (by kernel_rfl) (by kernel_rfl) (fun _ _ _ h => h) (Or.inl ⟨by rfl, fun _ => ?_⟩) ?_
                  rotate_left
                  · (go_simp; try with_reducible rfl)
                  go_simp
                  refine wpAny_done (by kernel_rfl) ?_ _
                  go_wp2
                  go_ret
                  exact ⟨rfl, a34.trans (by repeat (first | with_reducible exact Adds.refl _ | with_reducible refine Adds.alloc ?_ _ | with_reducible refine Adds.more ?_ _ _ | with_reducible refine Adds.drew ?_ | with_reducible refine Adds.drewN ?_ _))⟩
                exact AllReady.nil
              exact AllReady.nil
            refine AllReady.cons rfl (fun K hK => ?_) ?_
            · go_simp
              refine hK _ _ ?_
              clear hK K
              go_simp
              refine wpAny_ready (rs := [29]) (by kernel_rfl) (by simp) ?_
              refine AllReady.cons rfl (fun K hK => ?_) ?_
              · go_simp
                refine hK _ _ ?_
                clear hK K
                go_simp
                refine wpAny_take (i := 32) (v := ?_) rfl (by kernel_rfl) (by kernel_rfl) (by kernel_rfl) (fun _ _ _ h => h) (Or.inl ⟨by rfl, fun _ => ?_⟩) ?_
                rotate_left
                · (go_simp; try with_reducible rfl)
                go_simp
                refine wpAny_take (i := 33) (v := ?_) rfl (by kernel_rfl) (by kernel_rfl) (by kernel_rfl) (fun _ _ _ h => h) (Or.inl ⟨by rfl, fun _ => ?_⟩) ?_
                rotate_left
                · (go_simp; try with_reducible rfl)
                go_simp
                refine wpAny_take (i := 34) (v := ?_) rfl (by kernel_rfl) (by kernel_rfl) (by kernel_rfl) (fun _ _ _ h => h) (Or.inl ⟨by rfl, fun _ => ?_⟩) ?_
                rotate_left
                · (go_simp; try with_reducible rfl)
                go_simp
                refine wpAny_ready (rs := [35]) (by kernel_rfl) (by simp) ?_
                refine AllReady.cons rfl (fun K hK => ?_) ?_
                · go_simp
                  go_wp2_with (go_at_call 8; (with_reducible refine (awake_any _).mono ?_); rintro e w6 ⟨rfl, os6, n6, rfl⟩)
                  try (refine hK _ _ ?_; clear hK K)
                  go_simp
                  refine wpAny_take (i := 36) (v := ?_) rfl (by kernel_rfl) (by kernel_rfl) (by kernel_rfl) (fun _ _ _ h => h) (Or.inl ⟨by rfl, fun _ => ?_⟩) ?_
                  rotate_left
                  · (go_simp; try with_reducible rfl)
                  go_simp
                  refine wpAny_take (i := 37) (v := ?_) rfl (by kernel_rfl) (by kernel_rfl) (by kernel_rfl) (fun _ _ _ h => h) (Or.inl ⟨by rfl, fun _ => ?_⟩) ?_
                  rotate_left
                  · (go_simp; try with_reducible rfl)
                  go_simp
                  refine wpAny_done (by kernel_rfl) ?_ _
                  go_wp2
                  go_ret
                  exact ⟨rfl, a34.trans (by repeat (first | with_reducible exact Adds.refl _ | with_reducible refine Adds.alloc ?_ _ | with_reducible refine Adds.more ?_ _ _ | with_reducible refine Adds.drew ?_ | with_reducible refine Adds.drewN ?_ _))⟩
                exact AllReady.nil
              exact AllReady.nil
            exact AllReady.nil
          exact AllReady.nil
        exact AllReady.nil
      refine AllReady.cons rfl (fun K hK => ?_) ?_
      · go_simp
        go_wp2_with (go_at_call 13; (with_reducible refine (k3 _ (by repeat (first | with_reducible exact Adds.refl _ | with_reducible refine Adds.alloc ?_ _ | with_reducible refine Adds.more ?_ _ _ | with_reducible refine Adds.drew ?_ | with_reducible refine Adds.drewN ?_ _))).mono ?_); rintro e w5 ⟨r5, rfl, hY5, os5, n5, rfl⟩; have q5 := fun k => (hY5.strs #[] k); have p5 := fun os k => (hY5.strs os k); simp only [more_more, Array.append_empty, Array.append_assoc] at q5 p5)
        try (refine hK _ _ ?_; clear hK K)
        go_simp
        refine wpAny_ready (rs := [11, 14]) (by kernel_rfl) (by simp) ?_
        refine AllReady.cons rfl (fun K hK => ?_) ?_
        · go_simp
          refine hK _ _ ?_
          clear hK K
          go_simp
          refine wpAny_ready (rs := [14]) (by kernel_rfl) (by simp) ?_
          refine AllReady.cons rfl (fun K hK => ?_) ?_
          · go_simp
            refine hK _ _ ?_
            clear hK K
            go_simp
            refine wpAny_take (i := 15) (v := ?_) rfl (by kernel_rfl) (by kernel_rfl) (by kernel_rfl) (fun _ _ _ h => h) (Or.inl ⟨by rfl, fun _ => ?_⟩) ?_
            rotate_left
            · (go_simp; try with_reducible rfl)
            go_simp
            refine wpAny_take (i := 16) (v := ?_) rfl (by kernel_rfl) (by kernel_rfl) (by kernel_rfl) (fun _ _ _ h => h) (Or.inl ⟨by rfl, fun _ => ?_⟩) ?_
            rotate_left
            · (go_simp; try with_reducible rfl)
            go_simp
            refine wpAny_take (i := 17) (v := ?_) rfl (by kernel_rfl) (by kernel_rfl) (by kernel_rfl) (fun _ _ _ h => h) (Or.inl ⟨by rfl, fun _ => ?_⟩) ?_
            rotate_left
            · (go_simp; try with_reducible rfl)
            go_simp
            refine wpAny_take (i := 18) (v := ?_) rfl (by kernel_rfl) (by kernel_rfl) (by kernel_rfl) (fun _ _ _ h => h) (Or.inl ⟨by rfl, fun _ => ?_⟩) ?_
            rotate_left
            · (go_simp; try with_reducible rfl)
            go_simp
            refine wpAny_take (i := 19) (v := ?_) rfl (by kernel_rfl) (by kernel_rfl) (by kernel_rfl) (fun _ _ _ h => h) (Or.inl ⟨by rfl, fun _ => ?_⟩) ?_
            rotate_left
            · (go_simp; try with_reducible rfl)
            go_simp
            refine wpAny_take (i := 20) (v := ?_) rfl (by kernel_rfl) (by kernel_rfl) (by kernel_rfl) (fun _ _ _ h => h) (Or.inl ⟨by rfl, fun _ => ?_⟩) ?_
            rotate_left
            · (go_simp; try with_reducible rfl)
            go_simp
            refine wpAny_take (i := 21) (v := ?_) rfl (by kernel_rfl) (by kernel_rfl) (by kernel_rfl) (fun _ _ _ h => h) (Or.inl ⟨by rfl, fun _ => ?_⟩) ?_
            rotate_left
            · (go_simp; try with_reducible rfl)
            go_simp
            refine wpAny_take (i := 22) (v := ?_) rfl (by kernel_rfl) (by kernel_rfl) (by kernel_rfl) (fun _ _ _ h => h) (Or.inl ⟨by rfl, fun _ => ?_⟩) ?_
            rotate_left
            · (go_simp; try with_reducible rfl)
            go_simp
            refine wpAny_take (i := 23) (v := ?_) rfl (by kernel_rfl) (by kernel_rfl) (by kernel_rfl) (fun _ _ _ h => h) (Or.inl ⟨by rfl, fun _ => ?_⟩) ?_
            rotate_left
            · (go_simp; try with_reducible rfl)
            go_simp
            refine wpAny_take (i := 24) (v := ?_) rfl (by kernel_rfl) (by kernel_rfl) (by kernel_rfl) (fun _ _ _ h => h) (Or.inl ⟨by rfl, fun _ => ?_⟩) ?_
            rotate_left
            · (go_simp; try with_reducible rfl)
            go_simp
            refine wpAny_take (i := 25) (v := ?_) rfl (by kernel_rfl) (by kernel_rfl) (by kernel_rfl) (fun _ _ _ h => h) (Or.inl ⟨by rfl, fun _ => ?_⟩) ?_
            rotate_left
            · (go_simp; try with_reducible rfl)
            go_simp
            refine wpAny_take (i := 26) (v := ?_) rfl (by kernel_rfl) (by kernel_rfl) (by kernel_rfl) (fun _ _ _ h => h) (Or.inl ⟨by rfl, fun _ => ?_⟩) ?_
            rotate_left
            · (go_simp; try with_reducible rfl)
            go_simp
            refine wpAny_take (i := 27) (v := ?_) rfl (by kernel_rfl) (by kernel_rfl) (by kernel_rfl) (fun _ _ _ h => h) (Or.inl ⟨by rfl, fun _ => ?_⟩) ?_
            rotate_left
            · (go_simp; try with_reducible rfl)
            go_simp
            refine wpAny_take (i := 28) (v := ?_) rfl (by kernel_rfl) (by kernel_rfl) (by kernel_rfl) (fun _ _ _ h => h) (Or.inl ⟨by rfl, fun _ => ?_⟩) ?_
            rotate_left
            · (go_simp; try with_reducible rfl)
            go_simp
            refine wpAny_take (i := 30) (v := ?_) rfl (by kernel_rfl) (by kernel_rfl) (by kernel_rfl) (fun _ _ _ h => h) (Or.inl ⟨by rfl, fun _ => ?_⟩) ?_
            rotate_left
            · (go_simp; try with_reducible rfl)
            go_simp
            refine wpAny_ready (rs := [29, 31]) (by kernel_rfl) (by simp) ?_
            refine AllReady.cons rfl (fun K hK => ?_) ?_
            · go_simp
              refine hK _ _ ?_
              clear hK K
              go_simp
              refine wpAny_ready (rs := [31]) (by kernel_rfl) (by simp) ?_
              refine AllReady.cons rfl (fun K hK => ?_) ?_
              · go_simp
                refine hK _ _ ?_
                clear hK K
                go_simp
                refine wpAny_take (i := 32) (v := ?_) rfl (by kernel_rfl) (by kernel_rfl) (by kernel_rfl) (fun _ _ _ h => h) (Or.inl ⟨by rfl, fun _ => ?_⟩) ?_
                rotate_left
                · (go_simp; try with_reducible rfl)
                go_simp
                refine wpAny_take (i := 33) (v := ?_) rfl (by kernel_rfl) (by kernel_rfl) (by kernel_rfl) (fun _ _ _ h => h) (Or.inl ⟨by rfl, fun _ => ?_⟩) ?_
                rotate_left
                · (go_simp; try with_reducible rfl)
                go_simp
                refine wpAny_take (i := 34) (v := ?_) rfl (by kernel_rfl) (by kernel_rfl) (by kernel_rfl) (fun _ _ _ h => h) (Or.inl ⟨by rfl, fun _ => ?_⟩) ?_
                rotate_left
                · (go_simp; try with_reducible rfl)
                go_simp
                refine wpAny_ready (rs := [35]) (by kernel_rfl) (by simp) ?_
                refine AllReady.cons rfl (fun K hK => ?_) ?_
                · go_simp
                  go_wp2_with (go_at_call 8; (with_reducible refine (awake_any _).mono ?_); rintro e w6 ⟨rfl, os6, n6, rfl⟩)
                  try (refine hK _ _ ?_; clear hK K)
                  go_simp
                  refine wpAny_take (i := 36) (v := ?_) rfl (by kernel_rfl) (by kernel_rfl) (by kernel_rfl) (fun _ _ _ h => h) (Or.inl ⟨by rfl, fun _ => ?_⟩) ?_
                  rotate_left
                  · (go_simp; try with_reducible rfl)
                  go_simp
                  refine wpAny_take (i := 37) (v := ?_) rfl (by kernel_rfl) (by kernel_rfl) (by kernel_rfl) (fun _ _ _ h => h) (Or.inl ⟨by rfl, fun _ => ?_⟩) ?_
                  rotate_left
                  · (go_simp; try with_reducible rfl)
                  go_simp
                  refine wpAny_done (by kernel_rfl) ?_ _
                  go_wp2
                  go_ret
                  exact ⟨rfl, a34.trans (by repeat (first | with_reducible exact Adds.refl _ | with_reducible refine Adds.alloc ?_ _ | with_reducible refine Adds.more ?_ _ _ | with_reducible refine Adds.drew ?_ | with_reducible refine Adds.drewN ?_ _))⟩
                exact AllReady.nil
              exact AllReady.nil
            refine AllReady.cons rfl (fun K hK => ?_) ?_
            · go_simp
              refine hK _ _ ?_
              clear hK K
              go_simp
              refine wpAny_ready (rs := [29]) (by kernel_rfl) (by simp) ?_
              refine AllReady.cons rfl (fun K hK => ?_) ?_
              · go_simp
                refine hK _ _ ?_
                clear hK K
                go_simp
                refine wpAny_take (i := 32) (v := ?_) rfl (by kernel_rfl) (by kernel_rfl) (by kernel_rfl) (fun _ _ _ h => h) (Or.inl ⟨by rfl, fun _ => ?_⟩) ?_
                rotate_left
                · (go_simp; try with_reducible rfl)
                go_simp
                refine wpAny_take (i := 33) (v := ?_) rfl (by kernel_rfl) (by kernel_rfl) (by kernel_rfl) (fun _ _ _ h => h) (Or.inl ⟨by rfl, fun _ => ?_⟩) ?_
                rotate_left
                · (go_simp; try with_reducible rfl)
                go_simp
                refine wpAny_take (i := 34) (v := ?_) rfl (by kernel_rfl) (by kernel_rfl) (by kernel_rfl) (fun _ _ _ h => h) (Or.inl ⟨by rfl, fun _ => ?_⟩) ?_
                rotate_left
                · (go_simp; try with_reducible rfl)
                go_simp
                refine wpAny_ready (rs := [35]) (by kernel_rfl) (by simp) ?_
                refine AllReady.cons rfl (fun K hK => ?_) ?_
                · go_simp
                  go_wp2_with (go_at_call 8; (with_reducible refine (awake_any _).mono ?_); rintro e w6 ⟨rfl, os6, n6, rfl⟩)
                  try (refine hK _ _ ?_; clear hK K)
                  go_simp
                  refine wpAny_take (i := 36) (v := ?_) rfl (by kernel_rfl) (by kernel_rfl) (by kernel_rfl) (fun _ _ _ h => h) (Or.inl ⟨by rfl, fun _ => ?_⟩) ?_
                  rotate_left
                  · (go_simp; try with_reducible rfl)
                  go_simp
                  refine wpAny_take (i := 37) (v := ?_) rfl (by kernel_rfl) (by kernel_rfl) (by kernel_rfl) (fun _ _ _ h => h) (Or.inl ⟨by rfl, fun _ => ?_⟩) ?_
                  rotate_left
                  · (go_simp; try with_reducible rfl)
                  go_simp
                  refine wpAny_done (by kernel_rfl) ?_ _
                  go_wp2
                  go_ret
                  exact ⟨rfl, a34.trans (by repeat (first | with_reducible exact Adds.refl _ | with_reducible refine Adds.alloc ?_ _ | with_reducible refine Adds.more ?_ _ _ | with_reducible refine Adds.drew ?_ | with_reducible refine Adds.drewN ?_ _))⟩
                exact AllReady.nil
              exact AllReady.nil
            exact AllReady.nil
          exact AllReady.nil
        refine AllReady.cons rfl (fun K hK => ?_) ?_
        · go_simp
          refine hK _ _ ?_
          clear hK K
          go_simp
          refine wpAny_ready (rs := [11]) (by kernel_rfl) (by simp) ?_
          refine AllReady.cons rfl (fun K hK => ?_) ?_
          · go_simp
            refine hK _ _ ?_
            clear hK K
            go_simp
            refine wpAny_take (i := 15) (v := ?_) rfl (by kernel_rfl) (by kernel_rfl) (by kernel_rfl) (fun _ _ _ h => h) (Or.inl ⟨by rfl, fun _ => ?_⟩) ?_
            rotate_left
            · (go_simp; try with_reducible rfl)
            go_simp
            refine wpAny_take (i := 16) (v := ?_) rfl (by kernel_rfl) (by kernel_rfl) (by kernel_rfl) (fun _ _ _ h => h) (Or.inl ⟨by rfl, fun _ => ?_⟩) ?_
            rotate_left
            · (go_simp; try with_reducible rfl)
            go_simp
            refine wpAny_take (i := 17) (v := ?_) rfl (by kernel_rfl) (by kernel_rfl) (by kernel_rfl) (fun _ _ _ h => h) (Or.inl ⟨by rfl, fun _ => ?_⟩) ?_
            rotate_left
            · (go_simp; try with_reducible rfl)
            go_simp
            refine wpAny_take (i := 18) (v := ?_) rfl (by kernel_rfl) (by kernel_rfl) (by kernel_rfl) (fun _ _ _ h => h) (Or.inl ⟨by rfl, fun _ => ?_⟩) ?_
            rotate_left
            · (go_simp; try with_reducible rfl)
            go_simp
            refine wpAny_take (i := 19) (v := ?_) rfl (by kernel_rfl) (by kernel_rfl) (by kernel_rfl) (fun _ _ _ h => h) (Or.inl ⟨by rfl, fun _ => ?_⟩) ?_
            rotate_left
            · (go_simp; try with_reducible rfl)
            go_simp
            refine wpAny_take (i := 20) (v := ?_) rfl (by kernel_rfl) (by kernel_rfl) (by kernel_rfl) (fun _ _ _ h => h) (Or.inl ⟨by rfl, fun _ => ?_⟩) ?_
            rotate_left
            · (go_simp; try with_reducible rfl)
            go_simp
            refine wpAny_take (i := 21) (v := ?_) rfl (by kernel_rfl) (by kernel_rfl) (by kernel_rfl) (fun _ _ _ h => h) (Or.inl ⟨by rfl, fun _ => ?_⟩) ?_
            rotate_left
            · (go_simp; try with_reducible rfl)
            go_simp
            refine wpAny_take (i := 22) (v := ?_) rfl (by kernel_rfl) (by kernel_rfl) (by kernel_rfl) (fun _ _ _ h => h) (Or.inl ⟨by rfl, fun _ => ?_⟩) ?_
            rotate_left
            · (go_simp; try with_reducible rfl)
            go_simp
            refine wpAny_take (i := 23) (v := ?_) rfl (by kernel_rfl) (by kernel_rfl) (by kernel_rfl) (fun _ _ _ h => h) (Or.inl ⟨by rfl, fun _ => ?_⟩) ?_
            rotate_left
            · (go_simp; try with_reducible rfl)
            go_simp
            refine wpAny_take (i := 24) (v := ?_) rfl (by kernel_rfl) (by kernel_rfl) (by kernel_rfl) (fun _ _ _ h => h) (Or.inl ⟨by rfl, fun _ => ?_⟩) ?_
            rotate_left
            · (go_simp; try with_reducible rfl)
            go_simp
            refine wpAny_take (i := 25) (v := ?_) rfl (by kernel_rfl) (by kernel_rfl) (by kernel_rfl) (fun _ _ _ h => h) (Or.inl ⟨by rfl, fun _ => ?_⟩) ?_
            rotate_left
            · (go_simp; try with_reducible rfl)
            go_simp
            refine wpAny_take (i := 26) (v := ?_) rfl (by kernel_rfl) (by kernel_rfl) (by kernel_rfl) (fun _ _ _ h => h) (Or.inl ⟨by rfl, fun _ => ?_⟩) ?_
            rotate_left
            · (go_simp; try with_reducible rfl)
            go_simp
            refine wpAny_take (i := 27) (v := ?_) rfl (by kernel_rfl) (by kernel_rfl) (by kernel_rfl) (fun _ _ _ h => h) (Or.inl ⟨by rfl, fun _ => ?_⟩) ?_
            rotate_left
            · (go_simp; try with_reducible rfl)
            go_simp
            refine wpAny_take (i := 28) (v := ?_) rfl (by kernel_rfl) (by kernel_rfl) (by kernel_rfl) (fun _ _ _ h => h) (Or.inl ⟨by rfl, fun _ => ?_⟩) ?_
            rotate_left
            · (go_simp; try with_reducible rfl)
            go_simp
            refine wpAny_take (i := 30) (v := ?_) rfl (by kernel_rfl) (by kernel_rfl) (by kernel_rfl) (fun _ _ _ h => h) (Or.inl ⟨by rfl, fun _ => ?_⟩) ?_
            rotate_left
            · (go_simp; try with_reducible rfl)
            go_simp
            refine wpAny_ready (rs := [29, 31]) (by kernel_rfl) (by simp) ?_
            refine AllReady.cons rfl (fun K hK => ?_) ?_
            · go_simp
              refine hK _ _ ?_
              clear hK K
              go_simp
              refine wpAny_ready (rs := [31]) (by kernel_rfl) (by simp) ?_
              refine AllReady.cons rfl (fun K hK => ?_) ?_
              · go_simp
                refine hK _ _ ?_
                clear hK K
                go_simp
                refine wpAny_take (i := 32) (v := ?_) rfl (by kernel_rfl) (by kernel_rfl) (by kernel_rfl) (fun _ _ _ h => h) (Or.inl ⟨by rfl, fun _ => ?_⟩) ?_
                rotate_left
                · (go_simp; try with_reducible rfl)
                go_simp
                refine wpAny_take (i := 33) (v := ?_) rfl (by kernel_rfl) (by kernel_rfl) (by kernel_rfl) (fun _ _ _ h => h) (Or.inl ⟨by rfl, fun _ => ?_⟩) ?_
                rotate_left
                · (go_simp; try with_reducible rfl)
                go_simp
                refine wpAny_take (i := 34) (v := ?_) rfl (by kernel_rfl) (by kernel_rfl) (by kernel_rfl) (fun _ _ _ h => h) (Or.inl ⟨by rfl, fun _ => ?_⟩) ?_
                rotate_left
                · (go_simp; try with_reducible rfl)
                go_simp
                refine wpAny_ready (rs := [35]) (by kernel_rfl) (by simp) ?_
                refine AllReady.cons rfl (fun K hK => ?_) ?_
                · go_simp
                  go_wp2_with (go_at_call 8; (with_reducible refine (awake_any _).mono ?_); rintro e w6 ⟨rfl, os6, n6, rfl⟩)
                  try (refine hK _ _ ?_; clear hK K)
                  go_simp
                  refine wpAny_take (i := 36) (v := ?_) rfl (by kernel_rfl) (by kernel_rfl) (by kernel_rfl) (fun _ _ _ h => h) (Or.inl ⟨by rfl, fun _ => ?_⟩) ?_
                  rotate_left
                  · (go_simp; try with_reducible rfl)
                  go_simp
                  refine wpAny_take (i := 37) (v := ?_) rfl (by kernel_rfl) (by kernel_rfl) (by kernel_rfl) (fun _ _ _ h => h) (Or.inl ⟨by rfl, fun _ => ?_⟩) ?_
                  rotate_left
                  · (go_simp; try with_reducible rfl)
                  go_simp
                  refine wpAny_done (by kernel_rfl) ?_ _
                  go_wp2
                  go_ret
                  exact ⟨rfl, a34.trans (by repeat (first | with_reducible exact Adds.refl _ | with_reducible refine Adds.alloc ?_ _ | with_reducible refine Adds.more ?_ _ _ | with_reducible refine Adds.drew ?_ | with_reducible refine Adds.drewN ?_ _))⟩
                exact AllReady.nil
              exact AllReady.nil
            refine AllReady.cons rfl (fun K hK => ?_) ?_
            · go_simp
              refine hK _ _ ?_
              clear hK K
              go_simp
              refine wpAny_ready (rs := [29]) (by kernel_rfl) (by simp) ?_
              refine AllReady.cons rfl (fun K hK => ?_) ?_
              · go_simp
                refine hK _ _ ?_
                clear hK K
                go_simp
                refine wpAny_take (i := 32) (v := ?_) rfl (by kernel_rfl) (by kernel_rfl) (by kernel_rfl) (fun _ _ _ h => h) (Or.inl ⟨by rfl, fun _ => ?_⟩) ?_
                rotate_left
                · (go_simp; try with_reducible rfl)
                go_simp
                refine wpAny_take (i := 33) (v := ?_) rfl (by kernel_rfl) (by kernel_rfl) (by kernel_rfl) (fun _ _ _ h => h) (Or.inl ⟨by rfl, fun _ => ?_⟩) ?_
                rotate_left
                · (go_simp; try with_reducible rfl)
                go_simp
                refine wpAny_take (i := 34) (v := ?_) rfl (by kernel_rfl) (by kernel_rfl) (by kernel_rfl) (fun _ _ _ h => h) (Or.inl ⟨by rfl, fun _ => ?_⟩) ?_
                rotate_left
                · (go_simp; try with_reducible rfl)
                go_simp
                refine wpAny_ready (rs := [35]) (by kernel_rfl) (by simp) ?_
                refine AllReady.cons rfl (fun K hK => ?_) ?_
                · go_simp
                  go_wp2_with (go_at_call 8; (with_reducible refine (awake_any _).mono ?_); rintro e w6 ⟨rfl, os6, n6, rfl⟩)
                  try (refine hK _ _ ?_; clear hK K)
                  go_simp
                  refine wpAny_take (i := 36) (v := ?_) rfl (by kernel_rfl) (by kernel_rfl) (by kernel_rfl) (fun _ _ _ h => h) (Or.inl ⟨by rfl, fun _ => ?_⟩) ?_
                  rotate_left
                  · (go_simp; try with_reducible rfl)
                  go_simp
                  refine wpAny_take (i := 37) (v := ?_) rfl (by kernel_rfl) (by kernel_rfl) (by kernel_rfl) (fun _ _ _ h => h) (Or.inl ⟨by rfl, fun _ => ?_⟩) ?_
                  rotate_left
                  · (go_simp; try with_reducible rfl)
                  go_simp
                  refine wpAny_done (by kernel_rfl) ?_ _
                  go_wp2
                  go_ret
                  exact ⟨rfl, a34.trans (by repeat (first | with_reducible exact Adds.refl _ | with_reducible refine Adds.alloc ?_ _ | with_reducible refine Adds.more ?_ _ _ | with_reducible refine Adds.drew ?_ | with_reducible refine Adds.drewN ?_ _))⟩
                exact AllReady.nil
              exact AllReady.nil
            exact AllReady.nil
          exact AllReady.nil
        exact AllReady.nil
      exact AllReady.nil
    exact AllReady.nil
  exact AllReady.nil

end Go.Proofs.Ytmbnpglnanfdoaa
