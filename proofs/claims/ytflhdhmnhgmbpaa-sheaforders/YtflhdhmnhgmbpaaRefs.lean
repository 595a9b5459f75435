/-
  The document's own Set and Drop, by contracts.
-/
import Derived.Test.YtflhdhmnhgmbpaaSets
namespace Go.Proofs.Ytflhdhmnhgmbpaa
open Go.RowKit
attribute [local go_sem] cell?_more frozen?_more setCell_more size_more tape_more drew_more drewN_more more_drew more_drewN more_more one_out plus_out plus_end lt_one le_p2 le_p3 le_p4 le_p5 le_p6 le_p7 le_p8 le_p9 le_p10 le_p11 le_p12 le_p13 le_p14 le_p15 le_p16 le_p17 le_p18 le_p19 le_p20 le_p21 le_p22 le_p23 le_p24 le_q0 le_q1 lt_q1 le_q2 lt_q2 le_q3 lt_q3 le_q4 lt_q4 le_q5 lt_q5 le_q6 lt_q6 le_q7 lt_q7 le_q8 lt_q8 le_q9 lt_q9 le_q10 lt_q10 le_q11 lt_q11 le_q12 lt_q12 le_q13 lt_q13 le_q14 lt_q14 le_q15 lt_q15 le_q16 lt_q16 le_q17 lt_q17 le_q18 lt_q18 le_q19 lt_q19 le_q20 lt_q20 le_q21 lt_q21 le_q22 lt_q22 le_q23 lt_q23 le_q24 lt_q24

theorem own_empty (w : World) : Own w.heap.size (.slice (some ⟨w.heap.size, 0, none⟩) 0 0) [] w (w.alloc (.cells #[] 35)) := by
  refine ⟨⟨by simp [cellsF], .inr ⟨w.heap.size, 0, #[], rfl, Nat.le_refl _, new_block w _, Nat.zero_le _, by unfold maxLen; omega, by simp, by simp [cellsF]⟩⟩, ((Adds.refl _).alloc _).below, by simp⟩

theorem Own.from {w : World} {v : Value} {fs : List F} {w' : World} (h : Own w.heap.size v fs w w') : Adds w w' := Adds.of h.2.1

theorem cut_next {p : ByteArray} {l : List F} {k : Nat} (hk : k < l.length) (h : ∀ t (ht : t < l.length), t < k → lessP l[t].path p = true) (hx : lessP l[k].path p = true) : ∀ t (ht : t < l.length), t < k + 1 → lessP l[t].path p = true := by
  intro t ht htk
  by_cases e : t = k
  · subst e; exact hx
  · exact h t ht (by omega)

theorem after_next {p : ByteArray} {l : List F} {k : Nat} (hk : k < l.length) : after p (l.take (k + 1)) = after p (l.take k) ++ (if lessP p l[k].path then [l[k]] else []) := by
  rw [List.take_succ_eq_append_getElem hk]
  unfold after
  rw [List.filter_append]
  congr 1
  by_cases e : lessP p l[k].path = true <;> simp [e]

set_option maxHeartbeats 2000000 in
theorem refSet_any (s : Value) (fs : List F) (f : F) (w : World) (h : Lst w s fs) (hle : fs.length ≤ 1000) :
    Calls Try.prog 16 #[s, .string f.path, .string f.val] w fun e w' => ∃ r, e = .returned r ∧ Lst w' r (fs.take (cutAt f.path fs) ++ f :: after f.path fs) ∧ Adds w w' := by
  obtain ⟨ao, cap, rfl, hcap, hlo⟩ := h
  obtain ⟨p, v⟩ := f
  simp only
  go_enter Try.func16, Try.ntmps16
  go_wp2
  go_loopw [7, 8] (fun nv i w2 => ∃ k : Nat, k ≤ fs.length ∧ i = .int .i64 k ∧ (∀ t (ht : t < fs.length), t < k → lessP fs[t].path p = true) ∧ Own w.heap.size nv (fs.take k) w w2) (fun _ i _ => fs.length - (intOf i).toNat)
  case atStart => exact ⟨0, Nat.zero_le _, rfl, fun t _ ht => absurd ht (by omega), by simpa using own_empty w⟩
  case round =>
    obtain ⟨k, hk, rfl, hlow, hown⟩ := hrel
    have hB := hown.2.2
    by_cases hlt : k < fs.length
    · obtain ⟨q, hq⟩ : ∃ q, lessP fs[k].path p = q := ⟨_, rfl⟩
      cases q
      · rcases hlo with rfl | ⟨b, off, rfl, hbb, hl⟩
        · simp at hlt
        obtain ⟨c0, c1⟩ := hl.below hown.2.1 hbb k hlt
        have hbl : b < wr.heap.size := by omega
        have hlo : fs = [] ∨ ∃ b' off', some (⟨b, off, none⟩ : Addr) = some ⟨b', off', none⟩ ∧ b' < w.heap.size ∧ Lies w b' off' fs := .inr ⟨b, off, rfl, hbb, hl⟩
        have hq' : Op.bytesLess fs[k].path.toList p.toList = false := hq
        have hcut : Hid (fs.take (cutAt p fs) = fs.take k) := by
          show fs.take (cutAt p fs) = fs.take k
          rw [cutAt_eq hk hlow (fun _ => hq)]
        clear hlow
        have hl2 : (fs.take k).length ≤ fs.length := by rw [List.length_take]; omega
        go_wp2_with (at_builtin; refine own_app rfl (.tmp 33) (.tmp 37) rfl (hown.alloc _) rfl (lst_new (f := ⟨p, v⟩) (by simp [go_sem])) rfl (by simp only [List.length_singleton]; omega) ?_; intro v1 w1 hown1)
        clear hown c0 c1 hq hq' hl
        generalize fs.take k = L0 at *
        go_loopw [7, 9] (fun nv i w2 => ∃ j : Nat, j ≤ fs.length ∧ i = .int .i64 j ∧ Own w.heap.size nv (L0 ++ [⟨p, v⟩] ++ after p (fs.take j)) w w2) (fun _ i _ => fs.length - (intOf i).toNat)
        case atStart => exact ⟨0, Nat.zero_le _, rfl, by simpa [after] using hown1⟩
        case round =>
          clear hown1
          obtain ⟨j, hj, rfl, hown⟩ := hrel
          have hB := hown.2.2
          by_cases hlt : j < fs.length
          · rcases hlo with rfl | ⟨b2, off2, he2, hbb, hl⟩
            · simp at hlt
            obtain ⟨rfl, rfl⟩ : b = b2 ∧ off = off2 := by simpa using he2
            obtain ⟨c0, c1⟩ := hl.below hown.2.1 hbb j hlt
            have hbl : b < wr.heap.size := by omega
            have HJ : Hid _ := after_next (p := p) hlt
            have hla : (after p (fs.take j)).length ≤ fs.length := Nat.le_trans (List.length_filter_le _ _) (by rw [List.length_take]; omega)
            generalize fs[j] = x at *
            generalize after p (fs.take j) = A at *
            by_cases hq : lessP x.path p = true
            · have HQ : Hid (lessP p x.path = false) := lessP_asymm hq
              have hq1 : Op.bytesLess x.path.toList p.toList = true := hq
              go_wp2
              go_roundw
              case rel => exact ⟨j + 1, by omega, by go_num, by rw [HJ.out, HQ.out]; simpa using hown⟩
              case measure => simp [intOf]; omega
            have hq1 : Op.bytesLess x.path.toList p.toList = false := Bool.eq_false_iff.2 hq
            by_cases hE : x.path.toList = p.toList
            · have HQ : Hid (lessP p x.path = false) := lessP_irrefl _ _ hE.symm
              have hE1 : (x.path.toList == p.toList) = true := by simpa using hE
              go_wp2
              go_roundw
              case rel => exact ⟨j + 1, by omega, by go_num, by rw [HJ.out, HQ.out]; simpa using hown⟩
              case measure => simp [intOf]; omega
            have HQ : Hid (lessP p x.path = true) := lessP_total hq1 hE
            have hE1 : (x.path.toList == p.toList) = false := by simpa using hE
            clear hq
            go_wp2_with (at_builtin; refine own_app rfl (.tmp 52) (.tmp 57) rfl (hown.alloc _) rfl (lst_new (f := x) (by simp [go_sem])) rfl (by simp only [List.length_append, List.length_singleton]; omega) ?_; intro v2 w2 hown2)
            go_roundw
            case rel => exact ⟨j + 1, by omega, by go_num, by rw [HJ.out, HQ.out]; simpa using hown2⟩
            case measure => simp [intOf]; omega
          · have hj' : j = fs.length := by omega
            subst hj'
            rw [List.take_length] at hown
            go_wp2
            go_ret
            exact ⟨_, rfl, by rw [hcut.out]; simpa using hown.lst, Adds.of hown.2.1⟩
      · rcases hlo with rfl | ⟨b, off, rfl, hbb, hl⟩
        · simp at hlt
        obtain ⟨c0, c1⟩ := hl.below hown.2.1 hbb k hlt
        have hbl : b < wr.heap.size := by omega
        have HN : Hid _ := cut_next hlt hlow hq
        have HT : Hid (fs.take (k + 1) = fs.take k ++ [fs[k]]) := List.take_succ_eq_append_getElem hlt
        have hl2 : (fs.take k).length ≤ fs.length := by rw [List.length_take]; omega
        have hq' : Op.bytesLess fs[k].path.toList p.toList = true := hq
        clear hlow hq
        generalize fs[k] = x at *
        go_wp2_with (at_builtin; refine own_app rfl (.tmp 26) (.tmp 31) rfl (hown.alloc _) rfl (lst_new (f := x) (by simp [go_sem])) rfl (by simp only [List.length_singleton]; omega) ?_; intro v1 w1 hown1)
        go_roundw
        case rel => exact ⟨k + 1, by omega, by go_num, HN.out, by rw [HT.out]; exact hown1⟩
        case measure => simp [intOf]; omega
    · have hk' : ¬ (k : Int) < (fs.length : Int) := by omega
      have hcut : Hid (fs.take (cutAt p fs) = fs.take k) := by
        show fs.take (cutAt p fs) = fs.take k
        rw [cutAt_eq hk hlow (fun h => absurd h hlt)]
      clear hlow hlt
      have hl2 : (fs.take k).length ≤ fs.length := by rw [List.length_take]; omega
      go_wp2_with (at_builtin; refine own_app rfl (.tmp 33) (.tmp 37) rfl (hown.alloc _) rfl (lst_new (f := ⟨p, v⟩) (by simp [go_sem])) rfl (by simp only [List.length_singleton]; omega) ?_; intro v1 w1 hown1)
      clear hown hk'
      generalize fs.take k = L0 at *
      go_loopw [7, 9] (fun nv i w2 => ∃ j : Nat, j ≤ fs.length ∧ i = .int .i64 j ∧ Own w.heap.size nv (L0 ++ [⟨p, v⟩] ++ after p (fs.take j)) w w2) (fun _ i _ => fs.length - (intOf i).toNat)
      case atStart => exact ⟨0, Nat.zero_le _, rfl, by simpa [after] using hown1⟩
      case round =>
        clear hown1
        obtain ⟨j, hj, rfl, hown⟩ := hrel
        have hB := hown.2.2
        by_cases hlt : j < fs.length
        · rcases hlo with rfl | ⟨b, off, rfl, hbb, hl⟩
          · simp at hlt
          obtain ⟨c0, c1⟩ := hl.below hown.2.1 hbb j hlt
          have hbl : b < wr.heap.size := by omega
          have HJ : Hid _ := after_next (p := p) hlt
          have hla : (after p (fs.take j)).length ≤ fs.length := Nat.le_trans (List.length_filter_le _ _) (by rw [List.length_take]; omega)
          generalize fs[j] = x at *
          generalize after p (fs.take j) = A at *
          by_cases hq : lessP x.path p = true
          · have HQ : Hid (lessP p x.path = false) := lessP_asymm hq
            have hq1 : Op.bytesLess x.path.toList p.toList = true := hq
            go_wp2
            go_roundw
            case rel => exact ⟨j + 1, by omega, by go_num, by rw [HJ.out, HQ.out]; simpa using hown⟩
            case measure => simp [intOf]; omega
          have hq1 : Op.bytesLess x.path.toList p.toList = false := Bool.eq_false_iff.2 hq
          by_cases hE : x.path.toList = p.toList
          · have HQ : Hid (lessP p x.path = false) := lessP_irrefl _ _ hE.symm
            have hE1 : (x.path.toList == p.toList) = true := by simpa using hE
            go_wp2
            go_roundw
            case rel => exact ⟨j + 1, by omega, by go_num, by rw [HJ.out, HQ.out]; simpa using hown⟩
            case measure => simp [intOf]; omega
          have HQ : Hid (lessP p x.path = true) := lessP_total hq1 hE
          have hE1 : (x.path.toList == p.toList) = false := by simpa using hE
          clear hq
          go_wp2_with (at_builtin; refine own_app rfl (.tmp 52) (.tmp 57) rfl (hown.alloc _) rfl (lst_new (f := x) (by simp [go_sem])) rfl (by simp only [List.length_append, List.length_singleton]; omega) ?_; intro v2 w2 hown2)
          go_roundw
          case rel => exact ⟨j + 1, by omega, by go_num, by rw [HJ.out, HQ.out]; simpa using hown2⟩
          case measure => simp [intOf]; omega
        · have hj' : j = fs.length := by omega
          subst hj'
          rw [List.take_length] at hown
          go_wp2
          go_ret
          exact ⟨_, rfl, by rw [hcut.out]; simpa using hown.lst, Adds.of hown.2.1⟩

theorem without_next {p : ByteArray} {l : List F} {k : Nat} (hk : k < l.length) : without (l.take (k + 1)) p = without (l.take k) p ++ (if l[k].path.toList = p.toList then [] else [l[k]]) := by
  rw [List.take_succ_eq_append_getElem hk]
  unfold without
  rw [List.filter_append]
  congr 1
  by_cases e : l[k].path.toList = p.toList <;> simp [e]

set_option maxHeartbeats 2000000 in
theorem refDrop_any (s : Value) (fs : List F) (p : ByteArray) (w : World) (h : Lst w s fs) (hle : fs.length ≤ 1000) :
    Calls Try.prog 17 #[s, .string p] w fun e w' => ∃ r, e = .returned r ∧ Lst w' r (without fs p) ∧ Adds w w' := by
  obtain ⟨ao, cap, rfl, hcap, hlo⟩ := h
  go_enter Try.func17, Try.ntmps17
  go_wp2
  go_loopw [5, 6] (fun nv i w2 => ∃ j : Nat, j ≤ fs.length ∧ i = .int .i64 j ∧ Own w.heap.size nv (without (fs.take j) p) w w2) (fun _ i _ => fs.length - (intOf i).toNat)
  case atStart => exact ⟨0, Nat.zero_le _, rfl, by simpa [without] using own_empty w⟩
  case round =>
    obtain ⟨j, hj, rfl, hown⟩ := hrel
    have hB := hown.2.2
    by_cases hlt : j < fs.length
    · rcases hlo with rfl | ⟨b, off, rfl, hbb, hl⟩
      · simp at hlt
      obtain ⟨c0, c1⟩ := hl.below hown.2.1 hbb j hlt
      have hbl : b < wr.heap.size := by omega
      have HJ : Hid _ := without_next (p := p) hlt
      have hla : (without (fs.take j) p).length ≤ fs.length := Nat.le_trans (List.length_filter_le _ _) (by rw [List.length_take]; omega)
      generalize fs[j] = x at *
      generalize without (fs.take j) p = A at *
      by_cases hE : x.path.toList = p.toList
      · have HE : Hid _ := hE
        go_wp2
        go_roundw
        case rel => exact ⟨j + 1, by omega, by go_num, by rw [HJ.out, if_pos HE.out]; simpa using hown⟩
        case measure => simp [intOf]; omega
      · have HE : Hid _ := hE
        have hE' : (x.path.toList != p.toList) = true := by simpa using hE
        have hE2 : (x.path.toList == p.toList) = false := by simpa using hE
        go_wp2_with (at_builtin; refine own_app rfl (.tmp 21) (.tmp 26) rfl (hown.alloc _) rfl (lst_new (f := x) (by simp [go_sem])) rfl (by simp only [List.length_singleton]; omega) ?_; intro v2 w2 hown2)
        go_roundw
        case rel => exact ⟨j + 1, by omega, by go_num, by rw [HJ.out, if_neg HE.out]; exact hown2⟩
        case measure => simp [intOf]; omega
    · have hj' : j = fs.length := by omega
      subst hj'
      rw [List.take_length] at hown
      go_wp2
      go_ret
      exact ⟨_, rfl, hown.lst, Adds.of hown.2.1⟩

end Go.Proofs.Ytflhdhmnhgmbpaa
