/-
  The document's own Set, and the statements' own function none, by contracts.
-/
import Derived.Test.YtcgbhbbljjdejaaLists
namespace Go.Proofs.Ytcgbhbbljjdejaa
open Go.RowKit
attribute [local go_sem] cell?_more frozen?_more setCell_more size_more tape_more drew_more drewN_more more_drew more_drewN more_more one_out plus_out plus_end lt_one le_p2 le_p3 le_p4 le_p5 le_p6 le_p7 le_p8 le_p9 le_p10 le_p11 le_p12 le_p13 le_p14 le_p15 le_p16 le_p17 le_p18 le_p19 le_p20 le_p21 le_p22 le_p23 le_p24 le_q0 le_q1 lt_q1 le_q2 lt_q2 le_q3 lt_q3 le_q4 lt_q4 le_q5 lt_q5 le_q6 lt_q6 le_q7 lt_q7 le_q8 lt_q8 le_q9 lt_q9 le_q10 lt_q10 le_q11 lt_q11 le_q12 lt_q12 le_q13 lt_q13 le_q14 lt_q14 le_q15 lt_q15 le_q16 lt_q16 le_q17 lt_q17 le_q18 lt_q18 le_q19 lt_q19 le_q20 lt_q20 le_q21 lt_q21 le_q22 lt_q22 le_q23 lt_q23 le_q24 lt_q24

theorem putSet_next {fs : List F} {f : F} {k : Nat} (hk : k < fs.length) (put : Bool) : putSet f put (fs.drop k) = (if put = false ∧ lessP fs[k].path f.path = false then [f] else []) ++ (if fs[k].path.toList = f.path.toList then [] else [fs[k]]) ++ putSet f (put || !lessP fs[k].path f.path) (fs.drop (k + 1)) := by
  rw [List.drop_eq_getElem_cons hk]
  rfl

set_option maxHeartbeats 4000000 in
theorem refSet_any (s : Value) (fs : List F) (f : F) (w : World) (h : Lst w s fs) (hle : fs.length ≤ 1000) :
    Calls Try.prog 25 #[s, .string f.path, f.val.val] w fun e w' => ∃ r, e = .returned r ∧ Lst w' r (putSet f false fs) ∧ Adds w w' := by
  obtain ⟨ao, cap, rfl, hcap, hlo⟩ := h
  obtain ⟨p, ⟨kind, num, text, re, im⟩, hpf⟩ := f
  simp only [V.val]
  obtain ⟨f, hf⟩ : ∃ f : F, f = ⟨p, ⟨kind, num, text, re, im⟩, hpf⟩ := ⟨_, rfl⟩
  rw [← hf]
  have HF : Hid _ := hf
  clear hf
  go_enter Try.func25, Try.ntmps25
  go_wp2
  go_loopw [7, 8, 9] (fun nv bv i w2 => ∃ (k : Nat) (put : Bool) (l : List F), k ≤ fs.length ∧ i = .int .i64 k ∧ bv = .bool put ∧ l.length ≤ 2 * k ∧ l ++ putSet f put (fs.drop k) = putSet f false fs ∧ Own (w.heap.size + 1) nv l (w.alloc (.cells #[.int .i64 kind, .int .i64 num, .string text, .int .i64 re, .int .i64 im] 34)) w2) (fun _ _ i _ => fs.length - (intOf i).toNat)
  case atStart =>
    refine ⟨0, false, [], Nat.zero_le _, rfl, rfl, by simp, by simp, ?_⟩
    simpa using own_empty (w.alloc (.cells #[.int .i64 kind, .int .i64 num, .string text, .int .i64 re, .int .i64 im] 34))
  case round =>
    obtain ⟨k, put, l, hk, rfl, rfl, hll, hput, hown⟩ := hrel
    have hbw : ∀ w2, Below (w.heap.size + 1) (w.alloc (.cells #[.int .i64 kind, .int .i64 num, .string text, .int .i64 re, .int .i64 im] 34)) w2 → Below w.heap.size w w2 := fun w2 h2 =>
      ((Adds.refl w).alloc (.cells #[.int .i64 kind, .int .i64 num, .string text, .int .i64 re, .int .i64 im] 34)).below.trans (h2.mono (by omega))
    have hb := hbw _ hown.2.1
    have hbx := fun i => hown.2.1.cell (p := ⟨w.heap.size, i, none⟩) (by show w.heap.size < w.heap.size + 1; omega)
    have b0 := hbx 0
    have b1 := hbx 1
    have b2 := hbx 2
    have b3 := hbx 3
    have b4 := hbx 4
    clear hbx
    simp at b0 b1 b2 b3 b4
    have HP : Hid _ := hput
    clear hput
    have hB := hown.2.2
    by_cases hlt : k < fs.length
    · rcases hlo with rfl | ⟨b, off, rfl, hbb, hl⟩
      · simp at hlt
      obtain ⟨c0, c1, c2, c3, c4, c5⟩ := hl.below hb hbb k hlt
      have HJ : Hid _ := putSet_next (f := f) hlt put
      have hcs := fun w2 h2 => hl.below (hbw w2 h2) hbb k hlt
      obtain ⟨x, hx⟩ : ∃ x, x = fs[k] := ⟨_, rfl⟩
      rw [← hx] at c0 c1 c2 c3 c4 c5 HJ
      simp only [← hx] at hcs
      clear hx
      have HL : Hid (lessP x.path p = Op.bytesLess x.path.toList p.toList) := rfl
      have HFp : Hid (f.path = p) := by
        show f.path = p
        rw [HF.out]
      obtain ⟨q, hq⟩ : ∃ q, Op.bytesLess x.path.toList p.toList = q := ⟨_, rfl⟩
      have HQ : Hid (lessP x.path f.path = q) := by
        show lessP x.path f.path = q
        rw [HFp.out, HL.out, hq]
      by_cases he : x.path.toList = p.toList
      · have he' : (x.path.toList == p.toList) = true := by simpa using he
        have HE : Hid (x.path.toList = f.path.toList) := by
          show x.path.toList = f.path.toList
          rw [HFp.out]; exact he
        have hqf : q = false := by rw [← hq]; exact lessP_irrefl x.path p he
        subst hqf
        have hpp : Op.bytesLess p.toList p.toList = false := lessP_irrefl p p rfl
        cases put
        · go_wp2_with (first
            | (at_builtin; refine own_app rfl (.tmp 28) (.tmp 32) rfl (hown.alloc _) rfl (lst_new (f := ⟨p, ⟨kind, num, text, re, im⟩, hpf⟩) (by simp [go_sem])) rfl (by simp only [List.length_singleton]; omega) ?_; intro v2 w2 hown2; obtain ⟨d0, d1, d2, d3, d4, d5⟩ := hcs w2 hown2.2.1))
          go_roundw
          case rel =>
            refine ⟨k + 1, true, l ++ [f], by omega, by go_num, rfl, by simp; omega, ?_, by rw [HF.out]; exact hown2⟩
            rw [← HP.out, HJ.out, HQ.out]
            simp [HE.out]
          case measure => simp [intOf]; omega
        · go_wp2
          go_roundw
          case rel =>
            refine ⟨k + 1, true, l, by omega, by go_num, rfl, by omega, ?_, hown⟩
            rw [← HP.out, HJ.out, HQ.out]
            simp [HE.out]
          case measure => simp [intOf]; omega
      · have he' : (x.path.toList == p.toList) = false := by simpa using he
        have HE : Hid (¬ x.path.toList = f.path.toList) := by
          show ¬ x.path.toList = f.path.toList
          rw [HFp.out]; exact he
        cases put
        · cases q
          · go_wp2_with (first
              | (at_builtin; refine own_app rfl (.tmp 28) (.tmp 32) rfl (hown.alloc _) rfl (lst_new (f := ⟨p, ⟨kind, num, text, re, im⟩, hpf⟩) (by simp [go_sem])) rfl (by simp only [List.length_singleton]; omega) ?_; intro v2 w2 hown2; obtain ⟨d0, d1, d2, d3, d4, d5⟩ := hcs w2 hown2.2.1)
              | (at_builtin; refine own_app rfl (.tmp 41) (.tmp 46) rfl (hown2.alloc _) rfl (lst_new (f := x) (by simp [go_sem])) rfl (by simp only [List.length_append, List.length_singleton]; omega) ?_; intro v3 w3 hown3))
            go_roundw
            case rel =>
              refine ⟨k + 1, true, l ++ [f] ++ [x], by omega, by go_num, rfl, by simp; omega, ?_, by rw [HF.out]; exact hown3⟩
              rw [← HP.out, HJ.out, HQ.out]
              simp [HE.out]
            case measure => simp [intOf]; omega
          · go_wp2_with (first
              | (at_builtin; refine own_app rfl (.tmp 41) (.tmp 46) rfl (hown.alloc _) rfl (lst_new (f := x) (by simp [go_sem])) rfl (by simp only [List.length_singleton]; omega) ?_; intro v2 w2 hown2))
            go_roundw
            case rel =>
              refine ⟨k + 1, false, l ++ [x], by omega, by go_num, rfl, by simp; omega, ?_, hown2⟩
              rw [← HP.out, HJ.out, HQ.out]
              simp [HE.out]
            case measure => simp [intOf]; omega
        · go_wp2_with (first
            | (at_builtin; refine own_app rfl (.tmp 41) (.tmp 46) rfl (hown.alloc _) rfl (lst_new (f := x) (by simp [go_sem])) rfl (by simp only [List.length_singleton]; omega) ?_; intro v2 w2 hown2))
          go_roundw
          case rel =>
            refine ⟨k + 1, true, l ++ [x], by omega, by go_num, rfl, by simp; omega, ?_, hown2⟩
            rw [← HP.out, HJ.out, HQ.out]
            simp [HE.out]
          case measure => simp [intOf]; omega
    · have hk' : k = fs.length := by omega
      subst hk'
      have hA := Adds.of hb
      cases put
      · go_wp2_with (first
          | (at_builtin; refine own_app rfl (.tmp 50) (.tmp 54) rfl (hown.alloc _) rfl (lst_new (f := ⟨p, ⟨kind, num, text, re, im⟩, hpf⟩) (by simp [go_sem])) rfl (by simp only [List.length_singleton]; omega) ?_; intro v2 w2 hown2))
        go_ret
        refine ⟨_, rfl, ?_, ?_⟩
        · rw [← HP.out, List.drop_length]
          have := hown2.lst
          rw [← HF.out] at this
          exact this
        · exact Adds.of (hbw _ hown2.2.1)
      · go_wp2
        go_ret
        refine ⟨_, rfl, ?_, hA⟩
        rw [← HP.out, List.drop_length]
        simpa [putSet] using hown.lst

/-- The statements' own function none. -/
theorem none_any (ao : Option Addr) (n cap : Nat) (e want : Int) (w : World) :
    Calls Try.prog 21 #[.slice ao n cap, .int .i64 e, .int .i64 want] w fun x w' => x = .returned (.bool (decide (e = want ∧ n = 0))) ∧ w' = w := by
  by_cases h1 : e = want <;> by_cases h2 : n = 0
  all_goals
    have h1' : (e == want) = decide (e = want) := by simp [h1]
    have h2' : ((n : Int) == 0) = decide (n = 0) := by simp [h2]
    go_enter Try.func21, Try.ntmps21
    go_wp2
    all_goals
      go_ret
      refine ⟨?_, rfl⟩
      simp [h1, h2]

end Go.Proofs.Ytcgbhbbljjdejaa
