/-
  The document's own Cell of a document, by a contract: the walk.
-/
import Derived.Test.YtcgbhbbljjdejaaRefCell
namespace Go.Proofs.Ytcgbhbbljjdejaa
open Go.RowKit
attribute [local go_sem] cell?_more frozen?_more setCell_more size_more tape_more drew_more drewN_more more_drew more_drewN one_out plus_out plus_end lt_one le_p2 le_p3 le_p4 le_p5 le_p6 le_p7 le_p8 le_p9 le_p10 le_p11 le_p12 le_p13 le_p14 le_p15 le_p16 le_p17 le_p18 le_p19 le_p20 le_p21 le_p22 le_p23 le_p24 le_q0 le_q1 lt_q1 le_q2 lt_q2 le_q3 lt_q3 le_q4 lt_q4 le_q5 lt_q5 le_q6 lt_q6 le_q7 lt_q7 le_q8 lt_q8 le_q9 lt_q9 le_q10 lt_q10 le_q11 lt_q11 le_q12 lt_q12 le_q13 lt_q13 le_q14 lt_q14 le_q15 lt_q15 le_q16 lt_q16 le_q17 lt_q17 le_q18 lt_q18 le_q19 lt_q19 le_q20 lt_q20 le_q21 lt_q21 le_q22 lt_q22 le_q23 lt_q23 le_q24 lt_q24

set_option maxHeartbeats 4000000 in
theorem refCell_any (s : Value) (fs : List F) (w : World) (h : Lst w s fs) (hm : May fs) :
    Calls Try.prog 29 #[s] w fun e w' => ∃ r, e = .returned (.agg #[.int .i64 3, .int .i64 0, .string ⟨#[]⟩, r]) ∧ Tr (fun _ => True) 3 w' r (docT fs).list ∧ Adds w w' := by
  have hle := hm.1
  have hgood := hm.2
  obtain ⟨ao, cap, rfl, hcap, hlo⟩ := h
  go_enter Try.func29, Try.ntmps29
  go_wp2
  go_loopw [4] (fun iv wr => ∃ (k : Nat) (v : Value) (ss : List Value), k ≤ fs.length ∧ iv = .int .i64 k ∧ Cst (w.heap.size + 1) (w.alloc (.cells #[.int .i64 0, .int .i64 0, .string ⟨#[]⟩, .slice none 0 0] 50)) fs k v ss wr) (fun iv _ => fs.length - (intOf iv).toNat)
  case atStart =>
    refine ⟨0, .slice none 0 0, [], Nat.zero_le _, rfl, ?_, World.ownsRow_nil _ _ _ _, ?_, by simp, rfl, fun j hj => absurd hj (by simp)⟩
    · rw [show w.heap.size + 1 = (w.alloc (.cells #[.int .i64 0, .int .i64 0, .string ⟨#[]⟩, .slice none 0 0] 50)).heap.size from by simp]
      exact new_block _ _
    · have := ((Adds.refl (w.alloc (.cells #[.int .i64 0, .int .i64 0, .string ⟨#[]⟩, .slice none 0 0] 50))).alloc (.cells #[.int .i64 3, .int .i64 0, .string ⟨#[]⟩, .slice none 0 0] 50)).below
      simpa using this
  case round =>
    obtain ⟨k, v, ss, hk, rfl, hC⟩ := hrel
    have hbw : Below w.heap.size w wr := ((Adds.refl w).alloc _).below.trans (hC.2.2.1.mono (by omega))
    have hCs := hC.2.2.2.1
    obtain ⟨va, vn, vc, rfl⟩ : ∃ va vn vc, v = .slice va vn vc := by
      rcases hC.2.1.2 with ⟨rfl, _⟩ | ⟨g, cap, cur, rfl, _⟩
      · exact ⟨_, _, _, rfl⟩
      · exact ⟨_, _, _, rfl⟩
    have q0 : wr.cell? ⟨w.heap.size + 1, 0, none⟩ = some (.int .i64 3) := by simp [World.cell?, hC.1]
    have q1 : wr.cell? ⟨w.heap.size + 1, 1, none⟩ = some (.int .i64 0) := by simp [World.cell?, hC.1]
    have q2 : wr.cell? ⟨w.heap.size + 1, 2, none⟩ = some (.string ⟨#[]⟩) := by simp [World.cell?, hC.1]
    have q3 : wr.cell? ⟨w.heap.size + 1, 3, none⟩ = some (.slice va vn vc) := by simp [World.cell?, hC.1]
    have qf : wr.frozen? ⟨w.heap.size + 1, 3, none⟩ = false := by simp [World.frozen?, hC.1]
    by_cases hlt : k < fs.length
    · rcases hlo with rfl | ⟨b, off, rfl, hbb, hl⟩
      · simp at hlt
      obtain ⟨c0, c1, c2, c3, c4, c5⟩ := hl.below hbw hbb k hlt
      have hck := kind_of (hgood k hlt).2.1
      have hb' : b < wr.heap.size := Nat.lt_of_lt_of_le hbb hbw.size
      obtain ⟨x, hx⟩ : ∃ x, x = fs[k] := ⟨_, rfl⟩
      rw [← hx] at c0 c1 c2 c3 c4 c5 hck
      have hck0 := (hgood k hlt).2.1
      rw [← hx] at hck0
      have HX : Hid _ := hx
      clear hx
      have hsl : ss.length ≤ 10000 := by have := hC.2.2.2.2.1; omega
      have hown : ∀ P, wr.heap.size ≤ P → (w.heap.size + 1 < P ∧ some P ≠ (Value.slice va vn vc).ownBlock) := by
        intro P hP
        refine ⟨by omega, fun e => ?_⟩
        have := hC.2.1.lt P e.symm
        omega
      have kT : ∀ (t : T) (sx : Value) (W W' : World) (P : Nat), t.text.size ≤ 9223372036854775807 → wr.heap.size ≤ W.heap.size → P = W.heap.size → Tr (fun b => w.heap.size + 1 < b ∧ some b ≠ (Value.slice va vn vc).ownBlock) 1 W sx t.list → Adds (W.alloc (.cells #[.int .i64 2, .int .i64 0, .string x.path, .slice none 0 0, .int .i64 t.kind, .int .i64 t.num, .string t.text, sx] 50)) W' → Tr (fun b => w.heap.size + 1 < b ∧ some b ≠ (Value.slice va vn vc).ownBlock) 2 W' (.slice (some ⟨P, 0, none⟩) 2 2) [tText x.path, t] :=
        fun t sx W W' P h1 h2 h3 h4 h5 => tr_two (a := tText x.path) (b := t) h3 (hown P (by omega)) (Tr.nil _ _ _) h4 x.fits h1 h5
      rcases hck with h1 | h1 | h1
      · have hv : (fieldT x).list = [tText x.path, tNum x.val.num] := by simp [fieldT, tList, T.list, valT, h1]
        rw [h1] at c1
        have kTn : ∀ (W W' : World) (P : Nat), wr.heap.size ≤ W.heap.size → P = W.heap.size → Adds (W.alloc (.cells #[.int .i64 2, .int .i64 0, .string x.path, .slice none 0 0, .int .i64 1, .int .i64 x.val.num, .string ⟨#[]⟩, .slice none 0 0] 50)) W' → Tr (fun b => w.heap.size + 1 < b ∧ some b ≠ (Value.slice va vn vc).ownBlock) 2 W' (.slice (some ⟨P, 0, none⟩) 2 2) [tText x.path, tNum x.val.num] :=
          fun W W' P h1 h2 h3 => kT (tNum x.val.num) (.slice none 0 0) W W' P (Nat.zero_le _) h1 h2 (Tr.nil _ _ _) h3
        have HV : Hid ((fieldT x).list = [tText x.path, tNum x.val.num]) := hv
        clear hv h1
        go_wp2
        go_region_law (first
          | (refine cell_step (ao := some ⟨wr.heap.size + 1 + 1, 0, none⟩) (an := 2) (ac := 2) rfl (.tmp 42) (.tmp 52) rfl (hC.adds (by repeat (first | with_reducible exact Adds.refl _ | with_reducible refine Adds.alloc ?_ _ | with_reducible refine Adds.more ?_ _ _ | with_reducible refine Adds.drew ?_ | with_reducible refine Adds.drewN ?_ _))).2.1 (hC.adds (by repeat (first | with_reducible exact Adds.refl _ | with_reducible refine Adds.alloc ?_ _ | with_reducible refine Adds.more ?_ _ _ | with_reducible refine Adds.drew ?_ | with_reducible refine Adds.drewN ?_ _))).2.2.2.1 rfl rfl ⟨by simp [go_sem], by simp [go_sem], by simp [go_sem], by simp [go_sem]⟩ hsl ?_; intro va4 vn4 vc4 w4 ho4 hg4 hbk4; obtain ⟨n3, nf⟩ := (hC.adds (by repeat (first | with_reducible exact Adds.refl _ | with_reducible refine Adds.alloc ?_ _ | with_reducible refine Adds.more ?_ _ _ | with_reducible refine Adds.drew ?_ | with_reducible refine Adds.drewN ?_ _))).after hg4))
        all_goals
          go_wp2
          go_roundw
          case rel => exact ⟨k + 1, _, _, by omega, by go_num, (hC.adds (by repeat (first | with_reducible exact Adds.refl _ | with_reducible refine Adds.alloc ?_ _ | with_reducible refine Adds.more ?_ _ _ | with_reducible refine Adds.drew ?_ | with_reducible refine Adds.drewN ?_ _))).push ho4 hg4 hbk4 hlt (by
            rw [← HX.out, HV.out]
            refine kTn _ _ _ ?_ ?_ (by repeat (first | with_reducible exact Adds.refl _ | with_reducible refine Adds.alloc ?_ _ | with_reducible refine Adds.more ?_ _ _ | with_reducible refine Adds.drew ?_ | with_reducible refine Adds.drewN ?_ _))
            · simp only [World.size_alloc]; omega
            · simp [go_sem])⟩
          case measure => simp [intOf]; omega
      · have hv : (fieldT x).list = [tText x.path, tText x.val.text] := by simp [fieldT, tList, T.list, valT, h1]
        have htx : x.val.text.size ≤ 9223372036854775807 := by
          have := valT_text hck0
          simpa [valT, h1, tText, T.text] using this
        rw [h1] at c1
        have kTt : ∀ (W W' : World) (P : Nat), wr.heap.size ≤ W.heap.size → P = W.heap.size → Adds (W.alloc (.cells #[.int .i64 2, .int .i64 0, .string x.path, .slice none 0 0, .int .i64 2, .int .i64 0, .string x.val.text, .slice none 0 0] 50)) W' → Tr (fun b => w.heap.size + 1 < b ∧ some b ≠ (Value.slice va vn vc).ownBlock) 2 W' (.slice (some ⟨P, 0, none⟩) 2 2) [tText x.path, tText x.val.text] :=
          fun W W' P h1 h2 h3 => kT (tText x.val.text) (.slice none 0 0) W W' P htx h1 h2 (Tr.nil _ _ _) h3
        have HV : Hid ((fieldT x).list = [tText x.path, tText x.val.text]) := hv
        clear hv h1
        go_wp2
        go_region_law (first
          | (refine cell_step (ao := some ⟨wr.heap.size + 1 + 1, 0, none⟩) (an := 2) (ac := 2) rfl (.tmp 42) (.tmp 52) rfl (hC.adds (by repeat (first | with_reducible exact Adds.refl _ | with_reducible refine Adds.alloc ?_ _ | with_reducible refine Adds.more ?_ _ _ | with_reducible refine Adds.drew ?_ | with_reducible refine Adds.drewN ?_ _))).2.1 (hC.adds (by repeat (first | with_reducible exact Adds.refl _ | with_reducible refine Adds.alloc ?_ _ | with_reducible refine Adds.more ?_ _ _ | with_reducible refine Adds.drew ?_ | with_reducible refine Adds.drewN ?_ _))).2.2.2.1 rfl rfl ⟨by simp [go_sem], by simp [go_sem], by simp [go_sem], by simp [go_sem]⟩ hsl ?_; intro va4 vn4 vc4 w4 ho4 hg4 hbk4; obtain ⟨n3, nf⟩ := (hC.adds (by repeat (first | with_reducible exact Adds.refl _ | with_reducible refine Adds.alloc ?_ _ | with_reducible refine Adds.more ?_ _ _ | with_reducible refine Adds.drew ?_ | with_reducible refine Adds.drewN ?_ _))).after hg4))
        all_goals
          go_wp2
          go_roundw
          case rel => exact ⟨k + 1, _, _, by omega, by go_num, (hC.adds (by repeat (first | with_reducible exact Adds.refl _ | with_reducible refine Adds.alloc ?_ _ | with_reducible refine Adds.more ?_ _ _ | with_reducible refine Adds.drew ?_ | with_reducible refine Adds.drewN ?_ _))).push ho4 hg4 hbk4 hlt (by
            rw [← HX.out, HV.out]
            refine kTt _ _ _ ?_ ?_ (by repeat (first | with_reducible exact Adds.refl _ | with_reducible refine Adds.alloc ?_ _ | with_reducible refine Adds.more ?_ _ _ | with_reducible refine Adds.drew ?_ | with_reducible refine Adds.drewN ?_ _))
            · simp only [World.size_alloc]; omega
            · simp [go_sem])⟩
          case measure => simp [intOf]; omega
      · have hv : (fieldT x).list = [tText x.path, tList [tNum x.val.re, tNum x.val.im]] := by simp [fieldT, tList, T.list, valT, h1]
        rw [h1] at c1
        have kTl : ∀ (W0 W W' : World) (P P2 : Nat), Adds (W.alloc (.cells #[.int .i64 2, .int .i64 0, .string x.path, .slice none 0 0, .int .i64 3, .int .i64 0, .string ⟨#[]⟩, .slice (some ⟨P2, 0, none⟩) 2 2] 50)) W' →
            Adds (W0.alloc (.cells #[.int .i64 1, .int .i64 x.val.re, .string ⟨#[]⟩, .slice none 0 0, .int .i64 1, .int .i64 x.val.im, .string ⟨#[]⟩, .slice none 0 0] 50)) W →
            wr.heap.size ≤ W0.heap.size → P2 = W0.heap.size → wr.heap.size ≤ W.heap.size → P = W.heap.size → Tr (fun b => w.heap.size + 1 < b ∧ some b ≠ (Value.slice va vn vc).ownBlock) 2 W' (.slice (some ⟨P, 0, none⟩) 2 2) [tText x.path, tList [tNum x.val.re, tNum x.val.im]] :=
          fun W0 W W' P P2 h3 hA0 h0 hp2 h1 h2 => kT (tList [tNum x.val.re, tNum x.val.im]) (.slice (some ⟨P2, 0, none⟩) 2 2) W W' P (Nat.zero_le _) h1 h2 (tr_two (a := tNum x.val.re) (b := tNum x.val.im) hp2 (hown P2 (by omega)) (Tr.nil _ _ _) (Tr.nil _ _ _) (Nat.zero_le _) (Nat.zero_le _) hA0) h3
        have HV : Hid ((fieldT x).list = [tText x.path, tList [tNum x.val.re, tNum x.val.im]]) := hv
        clear hv h1
        go_wp2
        go_region_law (first
          | (refine cell_step (ao := some ⟨wr.heap.size + 1 + 1 + 1, 0, none⟩) (an := 2) (ac := 2) rfl (.tmp 42) (.tmp 52) rfl (hC.adds (by repeat (first | with_reducible exact Adds.refl _ | with_reducible refine Adds.alloc ?_ _ | with_reducible refine Adds.more ?_ _ _ | with_reducible refine Adds.drew ?_ | with_reducible refine Adds.drewN ?_ _))).2.1 (hC.adds (by repeat (first | with_reducible exact Adds.refl _ | with_reducible refine Adds.alloc ?_ _ | with_reducible refine Adds.more ?_ _ _ | with_reducible refine Adds.drew ?_ | with_reducible refine Adds.drewN ?_ _))).2.2.2.1 rfl rfl ⟨by simp [go_sem], by simp [go_sem], by simp [go_sem], by simp [go_sem]⟩ hsl ?_; intro va4 vn4 vc4 w4 ho4 hg4 hbk4; obtain ⟨n3, nf⟩ := (hC.adds (by repeat (first | with_reducible exact Adds.refl _ | with_reducible refine Adds.alloc ?_ _ | with_reducible refine Adds.more ?_ _ _ | with_reducible refine Adds.drew ?_ | with_reducible refine Adds.drewN ?_ _))).after hg4))
        all_goals
          go_wp2
          go_roundw
          case rel => exact ⟨k + 1, _, _, by omega, by go_num, (hC.adds (by repeat (first | with_reducible exact Adds.refl _ | with_reducible refine Adds.alloc ?_ _ | with_reducible refine Adds.more ?_ _ _ | with_reducible refine Adds.drew ?_ | with_reducible refine Adds.drewN ?_ _))).push ho4 hg4 hbk4 hlt (by
            rw [← HX.out, HV.out]
            refine kTl _ _ _ _ _ (by repeat (first | with_reducible exact Adds.refl _ | with_reducible refine Adds.alloc ?_ _ | with_reducible refine Adds.more ?_ _ _ | with_reducible refine Adds.drew ?_ | with_reducible refine Adds.drewN ?_ _)) (by repeat (first | with_reducible exact Adds.refl _ | with_reducible refine Adds.alloc ?_ _ | with_reducible refine Adds.more ?_ _ _ | with_reducible refine Adds.drew ?_ | with_reducible refine Adds.drewN ?_ _)) ?_ ?_ ?_ ?_
            · simp only [World.size_alloc]; omega
            · simp [go_sem]
            · simp only [World.size_alloc]; omega
            · simp [go_sem])⟩
          case measure => simp [intOf]; omega
    · have hk' : k = fs.length := by omega
      subst hk'
      have hW0 : wr.heap[w.heap.size]? = some (.cells #[.int .i64 0, .int .i64 0, .string ⟨#[]⟩, .slice none 0 0] 50 (0, 0)) := by
        rw [hC.2.2.1.block w.heap.size (by omega)]
        exact new_block _ _
      have x0 : wr.cell? ⟨w.heap.size, 0, none⟩ = some (.int .i64 0) := by simp [World.cell?, hW0]
      have x1 : wr.cell? ⟨w.heap.size, 1, none⟩ = some (.int .i64 0) := by simp [World.cell?, hW0]
      have x2 : wr.cell? ⟨w.heap.size, 2, none⟩ = some (.string ⟨#[]⟩) := by simp [World.cell?, hW0]
      have x3 : wr.cell? ⟨w.heap.size, 3, none⟩ = some (.slice none 0 0) := by simp [World.cell?, hW0]
      have y0 : wr.frozen? ⟨w.heap.size, 0, none⟩ = false := by simp [World.frozen?, hW0]
      have y1 : wr.frozen? ⟨w.heap.size, 1, none⟩ = false := by simp [World.frozen?, hW0]
      have y2 : wr.frozen? ⟨w.heap.size, 2, none⟩ = false := by simp [World.frozen?, hW0]
      have y3 : wr.frozen? ⟨w.heap.size, 3, none⟩ = false := by simp [World.frozen?, hW0]
      have hT := hC.tree
      go_wp2
      refine bodyPost_ret (v := .agg #[.int .i64 3, .int .i64 0, .string ⟨#[]⟩, .slice va vn vc]) (by simp [results, Try.results29, go_sem, x0, x1, x2, x3]) rfl ⟨_, rfl, ?_, ?_⟩
      · exact (hT.frame (ok' := fun b => b ≠ w.heap.size ∧ True) (Nat.le_refl _) (fun _ _ _ => rfl) (fun _ h => ⟨by omega, trivial⟩)).oth ((((Oth.set _ _ _ _).trans (Oth.set _ _ _ _)).trans (Oth.set _ _ _ _)).trans (Oth.set _ _ _ _))
      · exact Adds.of (below_setCells hbw (Nat.le_refl _) [.int .i64 3, .int .i64 0, .string ⟨#[]⟩, .slice va vn vc] 0)

end Go.Proofs.Ytcgbhbbljjdejaa
