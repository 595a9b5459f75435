/-
  The method All of a keep by contract.
-/
import Derived.Test.YtelkkpomehgcjaaKread
namespace Go.Proofs.Ytelkkpomehgcjaa
open Go.RowKit Go.Maps
attribute [local go_sem] cell?_more frozen?_more setCell_more size_more tape_more drew_more drewN_more more_drew more_drewN more_more one_out plus_out plus_end lt_one le_p2 le_p3 le_p4 le_p5 le_p6 le_p7 le_p8 le_p9 le_p10 le_p11 le_p12 le_p13 le_p14 le_p15 le_p16 le_p17 le_p18 le_p19 le_p20 le_p21 le_p22 le_p23 le_p24 le_q0 le_q1 lt_q1 le_q2 lt_q2 le_q3 lt_q3 le_q4 lt_q4 le_q5 lt_q5 le_q6 lt_q6 le_q7 lt_q7 le_q8 lt_q8 le_q9 lt_q9 le_q10 lt_q10 le_q11 lt_q11 le_q12 lt_q12 le_q13 lt_q13 le_q14 lt_q14 le_q15 lt_q15 le_q16 lt_q16 le_q17 lt_q17 le_q18 lt_q18 le_q19 lt_q19 le_q20 lt_q20 le_q21 lt_q21 le_q22 lt_q22 le_q23 lt_q23 le_q24 lt_q24

set_option maxRecDepth 20000 in
theorem allK_any {w : World} {K : Kw} (h : Kr w K) (hf : fits K.es) (hn : K.es.length ≤ 1000000) :
    Calls Try.prog 9 #[ptr K.p] w fun e w' => ∃ r xs, e = .returned r ∧ OwnV w.heap.size 22 r xs w w' ∧ EachF w.heap.size w' xs (K.es.map (List.drop 1)) := by
  have kL := lenK_any h
  obtain ⟨w0, hr, ho⟩ := make_rows w K.es.length hn
  go_enter Try.func9, Try.ntmps9
  go_wp2_with (go_at_call 8; refine kL.mono ?_; rintro e w1 ⟨rfl, hw1⟩; subst hw1)
  clear hr kL
  generalize hsz : w1.heap.size = s0 at *
  have HSZ : Hid (w1.heap.size = s0) := hsz
  have ho' : w0.ownsRow s0 22 1 (.slice (some ⟨s0, 0, none⟩) K.es.length K.es.length) (List.replicate K.es.length (Value.slice none 0 0)).length (List.replicate K.es.length (Value.slice none 0 0)) := ho.1
  have hA0 : Adds w1 w0 := (show OwnV w1.heap.size 22 _ _ w1 w0 by rw [HSZ.out]; exact ho).added
  clear hsz ho
  go_loopw [10] (fun i W => ∃ (k : Nat) (xs : List Value), k ≤ K.es.length ∧ i = .int .i64 k ∧ xs.length = K.es.length ∧ W.ownsRow s0 22 1 (.slice (some ⟨s0, 0, none⟩) K.es.length K.es.length) xs.length xs ∧ EachF s0 W (xs.take k) ((K.es.map (List.drop 1)).take k) ∧ Adds w1 W) (fun i _ => (K.es.length - intOf i).toNat)
  case atStart => exact ⟨0, _, by omega, rfl, by simp, ho', by simp [EachF], hA0⟩
  case round =>
    obtain ⟨k, xs, hk, rfl, hxl, hown, heach, ha⟩ := hrel
    have HA : Hid (Adds w1 wr) := ha
    have hml : (K.es.map (List.drop 1)).length = K.es.length := by simp
    by_cases hlt : k < K.es.length
    · have kr := h.adds ha
      have c2 : wr.cell? ⟨K.p, 2, none⟩ = some K.ev := cell_of_row wr K.p 2 _ _ _ kr.hp
      obtain ⟨ae, ce, hv, hce⟩ := kr.rows.slice
      have hr := kr.rows
      rw [hv] at c2 hr
      obtain ⟨b, off, x, rfl, hb, hc, hx⟩ := hr.at hlt
      have kC := behind_any _ _ wr hx (by have := hf _ (List.getElem_mem hlt); omega)
      have HE : Hid ((K.es.map (List.drop 1))[k]'(by omega) = K.es[k].drop 1) := by
        show _ = _
        simp
      clear ha kr hr hx hv
      generalize K.es[k].drop 1 = m at *
      go_wp2_with (go_at_call 15; refine kC.mono ?_; rintro e w4 ⟨v4, rfl, h4, a4⟩; obtain ⟨ao4, l4, c4, rfl⟩ := row_slice h4; have hown4 := row_adds hown a4; obtain ⟨g4, cap4, e4, _, hB4, hg4, hc4, hz4⟩ := row_at hown4 (j := k) (by omega); (have e5 : g4 = s0 := by simp at e4; exact e4.1.symm); subst e5; clear e4)
      go_roundw
      case rel =>
        have hrow := row_set (B := g4) (e := 22) (g := g4) (cap := K.es.length) (xs := xs) (w := w4) (by rw [hxl] at hown4 ⊢; exact hown4) k (by omega) (.slice ao4 l4 c4)
        have hgr := grown_set w4 g4 k (.slice ao4 l4 c4)
        have hsz := HSZ.out
        have hle := HA.out.below.size
        refine ⟨k + 1, xs.set k (.slice ao4 l4 c4), by omega, by go_num, by simpa using hxl, by simpa [hxl] using hrow, ?_, ?_⟩
        · rw [take_set_next (by omega), List.take_succ_eq_append_getElem (by omega)]
          refine EachF.append ?_ ⟨?_, trivial⟩
          · exact (heach.imp fun _ _ hx => hx.adds a4).imp fun _ _ hx => hx.grown hown4 (by decide) hgr
          · rw [HE.out]
            exact ((fr_row h4).mono (by omega)).grown hown4 (by decide) hgr
        · exact adds_of_grown (HA.out.trans a4) hgr (fun i hi => by cases hi; omega)
      case measure => simp [intOf]; omega
    · obtain rfl : k = K.es.length := by omega
      rw [List.take_of_length_le (by omega), List.take_of_length_le (by omega)] at heach
      go_wp2
      go_ret
      refine ⟨_, xs, rfl, ⟨?_, ?_, ?_⟩, ?_⟩
      · rw [HSZ.out]
        exact hown
      · exact HA.out.below
      · exact HA.out.below.size
      · rw [HSZ.out]
        exact heach

end Go.Proofs.Ytelkkpomehgcjaa
