/-
  The row of a segment, by contract; copies of a list.
-/
import Derived.Test.YtelkkpomehgcjaaTlist
namespace Go.Proofs.Ytelkkpomehgcjaa
open Go.RowKit Go.Maps
attribute [local go_sem] cell?_more frozen?_more setCell_more size_more tape_more drew_more drewN_more more_drew more_drewN more_more one_out plus_out plus_end lt_one le_p2 le_p3 le_p4 le_p5 le_p6 le_p7 le_p8 le_p9 le_p10 le_p11 le_p12 le_p13 le_p14 le_p15 le_p16 le_p17 le_p18 le_p19 le_p20 le_p21 le_p22 le_p23 le_p24 le_q0 le_q1 lt_q1 le_q2 lt_q2 le_q3 lt_q3 le_q4 lt_q4 le_q5 lt_q5 le_q6 lt_q6 le_q7 lt_q7 le_q8 lt_q8 le_q9 lt_q9 le_q10 lt_q10 le_q11 lt_q11 le_q12 lt_q12 le_q13 lt_q13 le_q14 lt_q14 le_q15 lt_q15 le_q16 lt_q16 le_q17 lt_q17 le_q18 lt_q18 le_q19 lt_q19 le_q20 lt_q20 le_q21 lt_q21 le_q22 lt_q22 le_q23 lt_q23 le_q24 lt_q24

def seg (base : Nat) (ls : List (List UInt8)) : List UInt8 := recs (four base :: ls)

theorem seg_length (base : Nat) (ls : List (List UInt8)) : (seg base ls).length = segLen ls := by
  unfold seg segLen
  rw [recs_tot]
  show (four base).length + tot ls + 9 * (ls.length + 1) = _
  rw [four_length]
  omega

theorem recs_cons (b : List UInt8) (ls : List (List UInt8)) : recs (b :: ls) = record b ++ recs ls := rfl

set_option maxRecDepth 20000 in
theorem seg_any (v : Value) (ls : List (List UInt8)) (w : World) (h : Rws w v ls) (hf : fits ls) (hlen : segLen ls ≤ 1000000) :
    Calls Try.prog 54 #[v] w fun e w' => ∃ r, e = .returned r ∧ Byt w' r (seg ls.length ls) ∧ Adds w w' := by
  obtain ⟨ao, cap, rfl, hcap⟩ := h.slice
  have hn : ls.length ≤ 1000000 := by unfold segLen at hlen; omega
  go_enter Try.func54, Try.ntmps54
  go_wp2_with (first
    | (go_at_call 63; refine (numbered_any ls.length _ (by omega)).mono ?_; rintro e w1 ⟨v1, rfl, a1, hY1⟩)
    | (go_at_call 57; refine (record_any _ _ _ hY1 (by simp [four])).mono ?_; rintro e w2 ⟨v2, rfl, h2⟩))
  go_loopw [3, 18] (fun s i W => ∃ k : Nat, k ≤ ls.length ∧ i = .int .i64 k ∧ OwnV w1.heap.size 5 s (cellsB (seg ls.length (ls.take k))) w1 W) (fun _ i _ => (ls.length - intOf i).toNat)
  case atStart => exact ⟨0, by omega, rfl, by simpa [seg, recs] using h2⟩
  case round =>
    obtain ⟨k, hk, rfl, hs⟩ := hrel
    have ha : Adds w wr := a1.trans hs.added
    have HA : Hid (Adds w wr) := ha
    by_cases hlt : k < ls.length
    · obtain ⟨b, off, x, rfl, hb, hc, hx⟩ := (h.adds ha).at hlt
      have hle : ls[k].length ≤ 16384 := hf _ (List.getElem_mem hlt)
      have kR := record_any _ _ _ hx hle
      have hsl : (seg ls.length (ls.take k)).length + (record ls[k]).length ≤ 1000000 := by
        rw [seg_length, record_length]
        have h1 : tot (ls.take k) + ls[k].length ≤ tot ls := by
          rw [← tot_next hlt]
          exact tot_take ls (k + 1)
        unfold segLen at hlen ⊢
        simp
        omega
      have HN : Hid (seg ls.length (ls.take (k + 1)) = seg ls.length (ls.take k) ++ record ls[k]) := by
        show _ = _
        unfold seg
        rw [recs_cons, recs_cons, recs_next hlt, List.append_assoc]
      clear ha
      go_wp2_with (first
        | (go_at_call 57; refine kR.mono ?_; rintro e w4 ⟨v4, rfl, h4⟩)
        | (at_builtin; refine byt_app rfl (.tmp 27) (.tmp 28) rfl (hs.adds h4.added) rfl h4.byt rfl hsl ?_; intro v5 w5 h5))
      go_roundw
      case rel => exact ⟨k + 1, by omega, by go_num, by rw [HN.out]; exact h5⟩
      case measure => simp [intOf]; omega
    · obtain rfl : k = ls.length := by omega
      rw [List.take_length] at hs
      go_wp2
      go_ret
      exact ⟨_, rfl, hs.byt, HA.out⟩

theorem made_cells (n : Nat) (z : Value) (hz : z.cells = #[z]) : (madeCells z.cells n).toList = List.replicate n z := by
  rw [hz]
  unfold madeCells
  apply List.ext_getElem
  · simp
  · intro i h1 h2
    simp [Nat.mod_one]

theorem make_rows (w : World) (n : Nat) (hn : n ≤ 1000000) : ∃ w', (Instr.makeSlice 27 (.int .i64 (n : Int)) (.int .i64 (n : Int))).run Try.prog w = .ok (.slice (some ⟨w.heap.size, 0, none⟩) n n) w' ∧
    OwnV w.heap.size 22 (.slice (some ⟨w.heap.size, 0, none⟩) n n) (List.replicate n (.slice none 0 0)) w w' := by
  obtain ⟨i0, hi, hz0, hzs, hzb⟩ := info_parts Try.info22
  have hr := run_make (P := Try.prog) w 27 22 i0 (.slice none 0 0) Try.underlying27 hi hz0 .i64 .i64 n n (by omega) (by omega) (by rw [hzb]; omega) (by omega)
  simp only [Int.toNat_natCast, hzs, Nat.mul_one] at hr
  refine ⟨_, hr, ⟨by simp, .inr ⟨w.heap.size, n, _, by simp, Nat.le_refl _, new_block _ _, by simp, by unfold maxLen; omega, ?_, ?_⟩⟩, ((Adds.refl w).alloc _).below, by simp⟩
  · rw [size_madeCells]
    omega
  · rw [made_cells _ _ rfl]
    simp

theorem fr_row {B : Nat} {w : World} {v : Value} {l : List UInt8} (h : w.ownsRow B 5 1 v l.length (cellsB l)) : Fr B w v l := by
  obtain ⟨ao, cap, rfl, hc, hl⟩ := (row_byt h).open
  refine ⟨ao, cap, rfl, hc, ?_⟩
  rcases hl with hl | ⟨b, off, rfl, hb, hl⟩
  · exact .inl hl
  · rcases h.2 with ⟨e, _⟩ | ⟨g, cap', cur, e, hB, hg, _⟩
    · cases e
    · simp only [Value.slice.injEq, Option.some.injEq, Addr.mk.injEq] at e
      obtain ⟨⟨rfl, rfl, _⟩, _, _⟩ := e
      exact .inr ⟨b, 0, cur, rfl, hB, hg, hl⟩

theorem EachF.keep {B : Nat} {w w' : World} {xs : List Value} {ls : List (List UInt8)} (h : EachF B w xs ls) (hk : ∀ b C, B ≤ b → w.heap[b]? = some (.cells C 5 (0, 0)) → w'.heap[b]? = w.heap[b]?) : EachF B w' xs ls :=
  h.imp fun _ _ hx => hx.keep hk

theorem take_set_next {xs : List Value} {k : Nat} (h : k < xs.length) (x : Value) : (xs.set k x).take (k + 1) = xs.take k ++ [x] := by
  rw [List.take_succ_eq_append_getElem (by simpa using h), List.take_set_of_le (Nat.le_refl _)]
  simp

theorem copied_any (v : Value) (ls : List (List UInt8)) (w : World) (h : Rws w v ls) (hf : fits ls) (hn : ls.length ≤ 1000000) :
    Calls Try.prog 67 #[v] w fun e w' => ∃ r xs, e = .returned r ∧ OwnV w.heap.size 22 r xs w w' ∧ EachF w.heap.size w' xs ls := by
  obtain ⟨ao, cap, rfl, hcap⟩ := h.slice
  obtain ⟨w0, hr, ho⟩ := make_rows w ls.length hn
  go_enter Try.func67, Try.ntmps67
  go_wp2
  clear hr
  go_loopw [11] (fun i W => ∃ (k : Nat) (xs : List Value), k ≤ ls.length ∧ i = .int .i64 k ∧ xs.length = ls.length ∧ W.ownsRow w.heap.size 22 1 (.slice (some ⟨w.heap.size, 0, none⟩) ls.length ls.length) xs.length xs ∧ EachF w.heap.size W (xs.take k) (ls.take k) ∧ Adds w W) (fun i _ => (ls.length - intOf i).toNat)
  case atStart => exact ⟨0, _, by omega, rfl, by simp, ho.1, by simp [EachF], ho.added⟩
  case round =>
    obtain ⟨k, xs, hk, rfl, hxl, hown, heach, ha⟩ := hrel
    have HA : Hid (Adds w wr) := ha
    by_cases hlt : k < ls.length
    · obtain ⟨b, off, x, rfl, hb, hc, hx⟩ := (h.adds ha).at hlt
      have hle : ls[k].length ≤ 16384 := hf _ (List.getElem_mem hlt)
      have kC := clone_any _ _ _ hx (by omega)
      clear ha
      go_wp2_with (go_at_call 27; refine kC.mono ?_; rintro e w4 ⟨v4, rfl, h4, a4⟩; obtain ⟨ao4, l4, c4, rfl⟩ := row_slice h4; have hown4 := row_adds hown a4; obtain ⟨g4, cap4, e4, _, hB4, hg4, hc4, hz4⟩ := row_at hown4 (j := k) (by omega); (have e5 : g4 = w.heap.size := by simp at e4; exact e4.1.symm); subst e5; clear e4)
      go_roundw
      case rel =>
        have hrow := row_set (B := w.heap.size) (e := 22) (g := w.heap.size) (cap := ls.length) (xs := xs) (w := w4) (by rw [hxl] at hown4 ⊢; exact hown4) k (by omega) (.slice ao4 l4 c4)
        have hgr := grown_set w4 w.heap.size k (.slice ao4 l4 c4)
        have hrow4 : w4.ownsRow w.heap.size 22 1 (.slice (some ⟨w.heap.size, 0, none⟩) ls.length ls.length) xs.length xs := hown4
        refine ⟨k + 1, xs.set k (.slice ao4 l4 c4), by omega, by go_num, by simpa using hxl, by simpa [hxl] using hrow, ?_, ?_⟩
        · rw [take_set_next (by omega), List.take_succ_eq_append_getElem hlt]
          refine EachF.append ?_ ⟨?_, trivial⟩
          · exact (heach.imp fun _ _ hx => hx.adds a4).imp fun _ _ hx => hx.grown hrow4 (by decide) hgr
          · exact ((fr_row h4).mono HA.out.below.size).grown hrow4 (by decide) hgr
        · exact adds_of_grown (HA.out.trans a4) hgr (fun i hi => by cases hi; exact Nat.le_refl _)
      case measure => simp [intOf]; omega
    · obtain rfl : k = ls.length := by omega
      rw [List.take_length, List.take_of_length_le (by omega)] at heach
      go_wp2
      go_ret
      exact ⟨_, xs, rfl, ⟨hown, HA.out.below, HA.out.below.size⟩, heach⟩

end Go.Proofs.Ytelkkpomehgcjaa
