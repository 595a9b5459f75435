/-
  PaperCells: the law's walk.
-/
import Derived.Test.YtcgbhbbljjdejaaOf
import Derived.Test.YtcgbhbbljjdejaaMays
import Derived.Test.YtcgbhbbljjdejaaAwake
namespace Go.Proofs.Ytcgbhbbljjdejaa
open Go.RowKit
attribute [local go_sem] cell?_more frozen?_more setCell_more size_more tape_more drew_more drewN_more more_drew more_drewN one_out plus_out plus_end lt_one le_p2 le_p3 le_p4 le_p5 le_p6 le_p7 le_p8 le_p9 le_p10 le_p11 le_p12 le_p13 le_p14 le_p15 le_p16 le_p17 le_p18 le_p19 le_p20 le_p21 le_p22 le_p23 le_p24 le_q0 le_q1 lt_q1 le_q2 lt_q2 le_q3 lt_q3 le_q4 lt_q4 le_q5 lt_q5 le_q6 lt_q6 le_q7 lt_q7 le_q8 lt_q8 le_q9 lt_q9 le_q10 lt_q10 le_q11 lt_q11 le_q12 lt_q12 le_q13 lt_q13 le_q14 lt_q14 le_q15 lt_q15 le_q16 lt_q16 le_q17 lt_q17 le_q18 lt_q18 le_q19 lt_q19 le_q20 lt_q20 le_q21 lt_q21 le_q22 lt_q22 le_q23 lt_q23 le_q24 lt_q24

theorem cell_adds {w w' : World} (h : Adds w w') {n i : Nat} (hn : n < w.heap.size) : w'.cell? ⟨n, i, none⟩ = w.cell? ⟨n, i, none⟩ := by
  obtain ⟨os, k, rfl⟩ := h
  exact cell?_more _ _ _ _ hn

def tZero : T := .mk 0 0 ⟨#[]⟩ []

theorem may_vals {fs : List F} (h : May fs) : ∀ f ∈ fs, f.val.check = 0 := by
  intro f hf
  obtain ⟨k, hk, rfl⟩ := List.getElem_of_mem hf
  exact (h.2 k hk).2.1

theorem docT_slim3 {fs : List F} (h : fs.length ≤ 16) : Slim 3 (docT fs) := by
  have := (docT_slim h).2 (docT fs) (by simp [tList, T.list])
  exact this

set_option maxHeartbeats 4000000 in
set_option maxRecDepth 20000 in
theorem paperCells_of (hRef : ∀ (s : Value) (fs : List F) (w : World), Lst w s fs → May fs →
      Calls Try.prog 29 #[s] w fun e w' => ∃ r, e = .returned (.agg #[.int .i64 3, .int .i64 0, .string ⟨#[]⟩, r]) ∧ Tr (fun _ => True) 3 w' r (docT fs).list ∧ Adds w w')
    (s : Value) (fs : List F) (w : World) (h : Lst w s fs) : Calls Try.prog 5 #[s] w fun e w' => e = .returned (.bool true) ∧ Adds w w' := by
  have h' := h
  obtain ⟨ao, cap, rfl, hcap, hlo⟩ := h
  by_cases h40 : fs.length ≤ 40
  · by_cases hm : May fs
    · have kM := fun W (hA : Adds w W) => refMay_any _ fs W (h'.adds hA) (by omega)
      rw [decide_eq_true hm] at kM
      have hrd : rd 0 (docT fs).list = fs := rd_doc (may_vals hm) 0 (by have := hm.1; omega)
      have k26 := cell_ok _ fs w h' hm
      have kO : ∀ r W, Tr (fun _ => True) 3 W r (docT fs).list → Calls Try.prog 28 #[.agg #[.int .i64 3, .int .i64 0, .string ⟨#[]⟩, r]] W fun e w' => ∃ v, e = .returned (.tuple #[v, .int .i64 0]) ∧ Lst w' v fs ∧ Adds W w' := fun r W hW => by
        have := of_any (d := 1) (docT fs) r W hW (by simp [docT, tList, T.list]; omega) (Nat.zero_le _)
        refine this.mono fun e w' ⟨v, x, he, ht, ha⟩ => ?_
        have h1 := ht.1 (by rw [hrd]; exact ⟨hm, rfl⟩)
        rw [hrd] at h1
        rw [h1.1] at he
        exact ⟨v, he, h1.2, ha⟩
      have kS0 : ∀ r1 r2 W, Tr (fun _ => True) 3 W r1 (docT fs).list → Tr (fun _ => True) 3 W r2 (docT fs).list → Calls Try.prog 27 #[.agg #[.int .i64 3, .int .i64 0, .string ⟨#[]⟩, r1], .agg #[.int .i64 3, .int .i64 0, .string ⟨#[]⟩, r2]] W fun e w' => e = .returned (.bool true) ∧ Adds W w' := fun r1 r2 W h1 h2 => by
        refine (refSame_tree 3 3 (docT fs) (docT fs) r1 r2 W h1 h2 (docT_slim3 hm.1)).mono fun e w' ⟨q, he, hq, ha⟩ => ?_
        rw [hq.2 rfl] at he
        exact ⟨he, ha⟩
      go_enter Try.func5, Try.ntmps5
      go_wp2_with (first
        | (go_at_call 26; (with_reducible refine k26.mono ?_); rintro e w1 ⟨r, rfl, hT, a1⟩; obtain ⟨ro, rc, hrv⟩ := hT.shape; subst hrv)
        | (go_at_call 13; (with_reducible refine (kM _ (a1.trans (by repeat (first | with_reducible exact Adds.refl _ | with_reducible refine Adds.alloc ?_ _ | with_reducible refine Adds.more ?_ _ _ | with_reducible refine Adds.drew ?_ | with_reducible refine Adds.drewN ?_ _)))).mono ?_); rintro e w2 ⟨rfl, os2, n2, rfl⟩)
        | (go_at_call 28; (with_reducible refine (kO _ _ (hT.adds (by repeat (first | with_reducible exact Adds.refl _ | with_reducible refine Adds.alloc ?_ _ | with_reducible refine Adds.more ?_ _ _ | with_reducible refine Adds.drew ?_ | with_reducible refine Adds.drewN ?_ _)))).mono ?_); rintro e w3 ⟨x3, rfl, hl3, a3⟩))
      have hA3 : Adds (w1.alloc (.cells #[.int .i64 3, .int .i64 0, .string ⟨#[]⟩, .slice ro (docT fs).list.length rc] 50)) w3 := ((Adds.refl _).more os2 n2).trans a3
      have hB1 : w1.heap.size < w3.heap.size := Nat.lt_of_lt_of_le (by simp) hA3.below.size
      have q0 : w3.cell? ⟨w1.heap.size, 0, none⟩ = some (.int .i64 3) := by rw [cell_adds hA3 (by simp)]; simp
      have q1 : w3.cell? ⟨w1.heap.size, 1, none⟩ = some (.int .i64 0) := by rw [cell_adds hA3 (by simp)]; simp
      have q2 : w3.cell? ⟨w1.heap.size, 2, none⟩ = some (.string ⟨#[]⟩) := by rw [cell_adds hA3 (by simp)]; simp
      have q3 : w3.cell? ⟨w1.heap.size, 3, none⟩ = some (.slice ro (docT fs).list.length rc) := by rw [cell_adds hA3 (by simp)]; simp
      have hA1 : Adds w1 w3 := ((Adds.refl _).alloc _).trans hA3
      have kC := fun W (hA : Adds w3 W) => hRef _ fs W (h'.adds ((a1.trans hA1).trans hA)) hm
      have kS := fun r2 W (hA : Adds w3 W) (h2 : Tr (fun _ => True) 3 W r2 (docT fs).list) => kS0 _ r2 W (hT.adds (hA1.trans hA)) h2
      have kD : ∀ W, Adds w3 W → Calls Try.prog 15 #[x3, .slice ao fs.length cap] W fun e w' => e = .returned (.bool true) ∧ Adds W w' := fun W hA => by
        have := refSame_any _ _ fs fs W (hl3.adds hA) (h'.adds ((a1.trans hA1).trans hA)) (by omega) (by omega)
        simpa using this
      have aW := a1.trans hA1
      generalize (docT fs).list.length = dl at *
      generalize (docT fs).list = dt at *
      clear kM k26 kO kS0 hT a3 hA3 hA1 a1 hl3 hlo h' hrd hRef
      refine wp_region_any (by kernel_rfl) ?_
      change wpAny _ _ _ _ _ _ _ (World.drew _)
      refine wpAny_take (i := 0) (v := ?_) rfl (by kernel_rfl) (by kernel_rfl) (by kernel_rfl) (fun _ _ _ h => h) (Or.inl ⟨by rfl, fun _ => ?_⟩) ?_
      rotate_left
      · (go_simp; try with_reducible rfl)
      go_simp
      refine wpAny_take (i := 1) (v := ?_) rfl (by kernel_rfl) (by kernel_rfl) (by kernel_rfl) (fun _ _ _ h => h) (Or.inl ⟨by rfl, fun _ => ?_⟩) ?_
      rotate_left
      · (go_simp; try with_reducible rfl)
      go_simp
      refine wpAny_take (i := 2) (v := ?_) rfl (by kernel_rfl) (by kernel_rfl) (by kernel_rfl) (fun _ _ _ h => h) (Or.inl ⟨by rfl, fun _ => ?_⟩) ?_
      rotate_left
      · (go_simp; try with_reducible rfl)
      go_simp
      refine wpAny_take (i := 4) (v := ?_) rfl (by kernel_rfl) (by kernel_rfl) (by kernel_rfl) (fun _ _ _ h => h) (Or.inl ⟨by rfl, fun _ => ?_⟩) ?_
      rotate_left
      · (go_simp; try with_reducible rfl)
      go_simp
      refine wpAny_ready (rs := [3, 5]) (by kernel_rfl) (by simp) ?_
      refine AllReady.cons rfl (fun K hK => ?_) ?_
      · go_simp
        refine hK _ _ ?_
        clear hK K
        go_simp
        refine wpAny_ready (rs := [5]) (by kernel_rfl) (by simp) ?_
        refine AllReady.cons rfl (fun K hK => ?_) ?_
        · go_simp
          go_wp2_with (go_at_call 29; (with_reducible refine (kC _ (by repeat (first | with_reducible exact Adds.refl _ | with_reducible refine Adds.alloc ?_ _ | with_reducible refine Adds.more ?_ _ _ | with_reducible refine Adds.drew ?_ | with_reducible refine Adds.drewN ?_ _))).mono ?_); rintro e w5 ⟨r5, rfl, hr5, os5, n5, rfl⟩; simp only [more_drew] at hr5)
          try (refine hK _ _ ?_; clear hK K)
          go_simp
          refine wpAny_ready (rs := [6]) (by kernel_rfl) (by simp) ?_
          refine AllReady.cons rfl (fun K hK => ?_) ?_
          · go_simp
            go_wp2_with (go_at_call 27; (with_reducible refine (kS _ _ (by repeat (first | with_reducible exact Adds.refl _ | with_reducible refine Adds.alloc ?_ _ | with_reducible refine Adds.more ?_ _ _ | with_reducible refine Adds.drew ?_ | with_reducible refine Adds.drewN ?_ _)) hr5).mono ?_); rintro e w6 ⟨rfl, os6, n6, rfl⟩)
            try (refine hK _ _ ?_; clear hK K)
            go_simp
            refine wpAny_take (i := 7) (v := ?_) rfl (by kernel_rfl) (by kernel_rfl) (by kernel_rfl) (fun _ _ _ h => h) (Or.inl ⟨by rfl, fun _ => ?_⟩) ?_
            rotate_left
            · (go_simp; try with_reducible rfl)
            go_simp
            refine wpAny_take (i := 8) (v := ?_) rfl (by kernel_rfl) (by kernel_rfl) (by kernel_rfl) (fun _ _ _ h => h) (Or.inl ⟨by rfl, fun _ => ?_⟩) ?_
            rotate_left
            · (go_simp; try with_reducible rfl)
            go_simp
            refine wpAny_take (i := 9) (v := ?_) rfl (by kernel_rfl) (by kernel_rfl) (by kernel_rfl) (fun _ _ _ h => h) (Or.inl ⟨by rfl, fun _ => ?_⟩) ?_
            rotate_left
            · (go_simp; try with_reducible rfl)
            go_simp
            refine wpAny_take (i := 10) (v := ?_) rfl (by kernel_rfl) (by kernel_rfl) (by kernel_rfl) (fun _ _ _ h => h) (Or.inl ⟨by rfl, fun _ => ?_⟩) ?_
            rotate_left
            · (go_simp; try with_reducible rfl)
            go_simp
            refine wpAny_take (i := 11) (v := ?_) rfl (by kernel_rfl) (by kernel_rfl) (by kernel_rfl) (fun _ _ _ h => h) (Or.inl ⟨by rfl, fun _ => ?_⟩) ?_
            rotate_left
            · (go_simp; try with_reducible rfl)
            go_simp
            refine wpAny_take (i := 12) (v := ?_) rfl (by kernel_rfl) (by kernel_rfl) (by kernel_rfl) (fun _ _ _ h => h) (Or.inl ⟨by rfl, fun _ => ?_⟩) ?_
            rotate_left
            · (go_simp; try with_reducible rfl)
            go_simp
            refine wpAny_take (i := 13) (v := ?_) rfl (by kernel_rfl) (by kernel_rfl) (by kernel_rfl) (fun _ _ _ h => h) (Or.inl ⟨by rfl, fun _ => ?_⟩) ?_
            rotate_left
            · (go_simp; try with_reducible rfl)
            go_simp
            refine wpAny_take (i := 14) (v := ?_) rfl (by kernel_rfl) (by kernel_rfl) (by kernel_rfl) (fun _ _ _ h => h) (Or.inl ⟨by rfl, fun _ => ?_⟩) ?_
            rotate_left
            · (go_simp; try with_reducible rfl)
            go_simp
            refine wpAny_ready (rs := [15]) (by kernel_rfl) (by simp) ?_
            refine AllReady.cons rfl (fun K hK => ?_) ?_
            · go_simp
              go_wp2_with (go_at_call 15; (with_reducible refine (kD _ (by repeat (first | with_reducible exact Adds.refl _ | with_reducible refine Adds.alloc ?_ _ | with_reducible refine Adds.more ?_ _ _ | with_reducible refine Adds.drew ?_ | with_reducible refine Adds.drewN ?_ _))).mono ?_); rintro e w7 ⟨rfl, os7, n7, rfl⟩)
              try (refine hK _ _ ?_; clear hK K)
              go_simp
              refine wpAny_take (i := 16) (v := ?_) rfl (by kernel_rfl) (by kernel_rfl) (by kernel_rfl) (fun _ _ _ h => h) (Or.inl ⟨by rfl, fun _ => ?_⟩) ?_
              rotate_left
              · (go_simp; try with_reducible rfl)
              go_simp
              refine wpAny_take (i := 17) (v := ?_) rfl (by kernel_rfl) (by kernel_rfl) (by kernel_rfl) (fun _ _ _ h => h) (Or.inl ⟨by rfl, fun _ => ?_⟩) ?_
              rotate_left
              · (go_simp; try with_reducible rfl)
              go_simp
              refine wpAny_ready (rs := [18]) (by kernel_rfl) (by simp) ?_
              refine AllReady.cons rfl (fun K hK => ?_) ?_
              · go_simp
                go_wp2_with (go_at_call 8; (with_reducible refine (awake_any _).mono ?_); rintro e w8 ⟨rfl, os8, n8, rfl⟩)
                try (refine hK _ _ ?_; clear hK K)
                go_simp
                refine wpAny_take (i := 19) (v := ?_) rfl (by kernel_rfl) (by kernel_rfl) (by kernel_rfl) (fun _ _ _ h => h) (Or.inl ⟨by rfl, fun _ => ?_⟩) ?_
                rotate_left
                · (go_simp; try with_reducible rfl)
                go_simp
                refine wpAny_take (i := 20) (v := ?_) rfl (by kernel_rfl) (by kernel_rfl) (by kernel_rfl) (fun _ _ _ h => h) (Or.inl ⟨by rfl, fun _ => ?_⟩) ?_
                rotate_left
                · (go_simp; try with_reducible rfl)
                go_simp
                refine wpAny_done (by kernel_rfl) ?_ _
                go_wp2
                go_ret
                exact ⟨rfl, aW.trans (by repeat (first | with_reducible exact Adds.refl _ | with_reducible refine Adds.alloc ?_ _ | with_reducible refine Adds.more ?_ _ _ | with_reducible refine Adds.drew ?_ | with_reducible refine Adds.drewN ?_ _))⟩
              exact AllReady.nil
            exact AllReady.nil
          exact AllReady.nil
        exact AllReady.nil
      refine AllReady.cons rfl (fun K hK => ?_) ?_
      · go_simp
        go_wp2_with (go_at_call 29; (with_reducible refine (kC _ (by repeat (first | with_reducible exact Adds.refl _ | with_reducible refine Adds.alloc ?_ _ | with_reducible refine Adds.more ?_ _ _ | with_reducible refine Adds.drew ?_ | with_reducible refine Adds.drewN ?_ _))).mono ?_); rintro e w5 ⟨r5, rfl, hr5, os5, n5, rfl⟩; simp only [more_drew] at hr5)
        try (refine hK _ _ ?_; clear hK K)
        go_simp
        refine wpAny_ready (rs := [3]) (by kernel_rfl) (by simp) ?_
        refine AllReady.cons rfl (fun K hK => ?_) ?_
        · go_simp
          refine hK _ _ ?_
          clear hK K
          go_simp
          refine wpAny_ready (rs := [6]) (by kernel_rfl) (by simp) ?_
          refine AllReady.cons rfl (fun K hK => ?_) ?_
          · go_simp
            go_wp2_with (go_at_call 27; (with_reducible refine (kS _ _ (by repeat (first | with_reducible exact Adds.refl _ | with_reducible refine Adds.alloc ?_ _ | with_reducible refine Adds.more ?_ _ _ | with_reducible refine Adds.drew ?_ | with_reducible refine Adds.drewN ?_ _)) hr5).mono ?_); rintro e w6 ⟨rfl, os6, n6, rfl⟩)
            try (refine hK _ _ ?_; clear hK K)
            go_simp
            refine wpAny_take (i := 7) (v := ?_) rfl (by kernel_rfl) (by kernel_rfl) (by kernel_rfl) (fun _ _ _ h => h) (Or.inl ⟨by rfl, fun _ => ?_⟩) ?_
            rotate_left
            · (go_simp; try with_reducible rfl)
            go_simp
            refine wpAny_take (i := 8) (v := ?_) rfl (by kernel_rfl) (by kernel_rfl) (by kernel_rfl) (fun _ _ _ h => h) (Or.inl ⟨by rfl, fun _ => ?_⟩) ?_
            rotate_left
            · (go_simp; try with_reducible rfl)
            go_simp
            refine wpAny_take (i := 9) (v := ?_) rfl (by kernel_rfl) (by kernel_rfl) (by kernel_rfl) (fun _ _ _ h => h) (Or.inl ⟨by rfl, fun _ => ?_⟩) ?_
            rotate_left
            · (go_simp; try with_reducible rfl)
            go_simp
            refine wpAny_take (i := 10) (v := ?_) rfl (by kernel_rfl) (by kernel_rfl) (by kernel_rfl) (fun _ _ _ h => h) (Or.inl ⟨by rfl, fun _ => ?_⟩) ?_
            rotate_left
            · (go_simp; try with_reducible rfl)
            go_simp
            refine wpAny_take (i := 11) (v := ?_) rfl (by kernel_rfl) (by kernel_rfl) (by kernel_rfl) (fun _ _ _ h => h) (Or.inl ⟨by rfl, fun _ => ?_⟩) ?_
            rotate_left
            · (go_simp; try with_reducible rfl)
            go_simp
            refine wpAny_take (i := 12) (v := ?_) rfl (by kernel_rfl) (by kernel_rfl) (by kernel_rfl) (fun _ _ _ h => h) (Or.inl ⟨by rfl, fun _ => ?_⟩) ?_
            rotate_left
            · (go_simp; try with_reducible rfl)
            go_simp
            refine wpAny_take (i := 13) (v := ?_) rfl (by kernel_rfl) (by kernel_rfl) (by kernel_rfl) (fun _ _ _ h => h) (Or.inl ⟨by rfl, fun _ => ?_⟩) ?_
            rotate_left
            · (go_simp; try with_reducible rfl)
            go_simp
            refine wpAny_take (i := 14) (v := ?_) rfl (by kernel_rfl) (by kernel_rfl) (by kernel_rfl) (fun _ _ _ h => h) (Or.inl ⟨by rfl, fun _ => ?_⟩) ?_
            rotate_left
            · (go_simp; try with_reducible rfl)
            go_simp
            refine wpAny_ready (rs := [15]) (by kernel_rfl) (by simp) ?_
            refine AllReady.cons rfl (fun K hK => ?_) ?_
            · go_simp
              go_wp2_with (go_at_call 15; (with_reducible refine (kD _ (by repeat (first | with_reducible exact Adds.refl _ | with_reducible refine Adds.alloc ?_ _ | with_reducible refine Adds.more ?_ _ _ | with_reducible refine Adds.drew ?_ | with_reducible refine Adds.drewN ?_ _))).mono ?_); rintro e w7 ⟨rfl, os7, n7, rfl⟩)
              try (refine hK _ _ ?_; clear hK K)
              go_simp
              refine wpAny_take (i := 16) (v := ?_) rfl (by kernel_rfl) (by kernel_rfl) (by kernel_rfl) (fun _ _ _ h => h) (Or.inl ⟨by rfl, fun _ => ?_⟩) ?_
              rotate_left
              · (go_simp; try with_reducible rfl)
              go_simp
              refine wpAny_take (i := 17) (v := ?_) rfl (by kernel_rfl) (by kernel_rfl) (by kernel_rfl) (fun _ _ _ h => h) (Or.inl ⟨by rfl, fun _ => ?_⟩) ?_
              rotate_left
              · (go_simp; try with_reducible rfl)
              go_simp
              refine wpAny_ready (rs := [18]) (by kernel_rfl) (by simp) ?_
              refine AllReady.cons rfl (fun K hK => ?_) ?_
              · go_simp
                go_wp2_with (go_at_call 8; (with_reducible refine (awake_any _).mono ?_); rintro e w8 ⟨rfl, os8, n8, rfl⟩)
                try (refine hK _ _ ?_; clear hK K)
                go_simp
                refine wpAny_take (i := 19) (v := ?_) rfl (by kernel_rfl) (by kernel_rfl) (by kernel_rfl) (fun _ _ _ h => h) (Or.inl ⟨by rfl, fun _ => ?_⟩) ?_
                rotate_left
                · (go_simp; try with_reducible rfl)
                go_simp
                refine wpAny_take (i := 20) (v := ?_) rfl (by kernel_rfl) (by kernel_rfl) (by kernel_rfl) (fun _ _ _ h => h) (Or.inl ⟨by rfl, fun _ => ?_⟩) ?_
                rotate_left
                · (go_simp; try with_reducible rfl)
                go_simp
                refine wpAny_done (by kernel_rfl) ?_ _
                go_wp2
                go_ret
                exact ⟨rfl, aW.trans (by repeat (first | with_reducible exact Adds.refl _ | with_reducible refine Adds.alloc ?_ _ | with_reducible refine Adds.more ?_ _ _ | with_reducible refine Adds.drew ?_ | with_reducible refine Adds.drewN ?_ _))⟩
              exact AllReady.nil
            exact AllReady.nil
          exact AllReady.nil
        exact AllReady.nil
      exact AllReady.nil

    · have kM := fun W (hA : Adds w W) => refMay_any _ fs W (h'.adds hA) (by omega)
      rw [decide_eq_false hm] at kM
      have k26 := cell_bad _ fs w h' hm
      have kS : ∀ W, Calls Try.prog 27 #[.agg #[.int .i64 0, .int .i64 0, .string ⟨#[]⟩, .slice none 0 0], .agg #[.int .i64 0, .int .i64 0, .string ⟨#[]⟩, .slice none 0 0]] W fun e w' => e = .returned (.bool true) ∧ Adds W w' := fun W => by
        refine (refSame_tree 0 0 tZero tZero (.slice none 0 0) (.slice none 0 0) W (ok := fun _ => True) (ok' := fun _ => True) ⟨rfl, none, 0, rfl⟩ ⟨rfl, none, 0, rfl⟩ rfl).mono fun e w' ⟨q, he, hq, ha⟩ => ?_
        rw [hq.2 rfl] at he
        exact ⟨he, ha⟩
      go_enter Try.func5, Try.ntmps5
      go_wp2_with (first
        | (go_at_call 26; (with_reducible refine k26.mono ?_); rintro e w1 ⟨rfl, a1⟩)
        | (go_at_call 13; (with_reducible refine (kM _ (a1.trans (by repeat (first | with_reducible exact Adds.refl _ | with_reducible refine Adds.alloc ?_ _ | with_reducible refine Adds.more ?_ _ _ | with_reducible refine Adds.drew ?_ | with_reducible refine Adds.drewN ?_ _)))).mono ?_); rintro e w2 ⟨rfl, os2, n2, rfl⟩)
        | (go_at_call 27; (with_reducible refine (kS _).mono ?_); rintro e w3 ⟨rfl, os3, n3, rfl⟩)
        | (go_at_call 8; (with_reducible refine (awake_any _).mono ?_); rintro e w4 ⟨rfl, os4, n4, rfl⟩))
      go_ret
      exact ⟨rfl, a1.trans (by repeat (first | with_reducible exact Adds.refl _ | with_reducible refine Adds.alloc ?_ _ | with_reducible refine Adds.more ?_ _ _ | with_reducible refine Adds.drew ?_ | with_reducible refine Adds.drewN ?_ _))⟩
  · go_enter Try.func5, Try.ntmps5
    go_wp2_with (go_at_call 8; (with_reducible refine (awake_any _).mono ?_); rintro e w4 ⟨rfl, os4, n4, rfl⟩)
    go_ret
    refine ⟨rfl, ?_⟩
    repeat (first | with_reducible exact Adds.refl _ | with_reducible refine Adds.alloc ?_ _ | with_reducible refine Adds.more ?_ _ _ | with_reducible refine Adds.drew ?_ | with_reducible refine Adds.drewN ?_ _)

end Go.Proofs.Ytcgbhbbljjdejaa
