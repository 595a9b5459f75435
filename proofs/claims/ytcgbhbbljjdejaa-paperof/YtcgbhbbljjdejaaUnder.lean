/-
  The function Under of package paper, and the document's own Drop and Under, by contracts.
-/
import Derived.Test.YtcgbhbbljjdejaaWithin
import Derived.Test.YtcgbhbbljjdejaaSet
namespace Go.Proofs.Ytcgbhbbljjdejaa
open Go.RowKit
attribute [local go_sem] cell?_more frozen?_more setCell_more size_more tape_more drew_more drewN_more more_drew more_drewN more_more one_out plus_out plus_end lt_one le_p2 le_p3 le_p4 le_p5 le_p6 le_p7 le_p8 le_p9 le_p10 le_p11 le_p12 le_p13 le_p14 le_p15 le_p16 le_p17 le_p18 le_p19 le_p20 le_p21 le_p22 le_p23 le_p24 le_q0 le_q1 lt_q1 le_q2 lt_q2 le_q3 lt_q3 le_q4 lt_q4 le_q5 lt_q5 le_q6 lt_q6 le_q7 lt_q7 le_q8 lt_q8 le_q9 lt_q9 le_q10 lt_q10 le_q11 lt_q11 le_q12 lt_q12 le_q13 lt_q13 le_q14 lt_q14 le_q15 lt_q15 le_q16 lt_q16 le_q17 lt_q17 le_q18 lt_q18 le_q19 lt_q19 le_q20 lt_q20 le_q21 lt_q21 le_q22 lt_q22 le_q23 lt_q23 le_q24 lt_q24

theorem take_filter_next (q : F → Bool) {fs : List F} {k : Nat} (hk : k < fs.length) : (fs.take (k + 1)).filter q = (fs.take k).filter q ++ (if q fs[k] then [fs[k]] else []) := by
  rw [List.take_succ_eq_append_getElem hk, List.filter_append]
  congr 1
  by_cases h : q fs[k] = true <;> simp [h]

theorem filter_take_le (q : F → Bool) (fs : List F) (k : Nat) : ((fs.take k).filter q).length ≤ fs.length := by
  have h1 := List.length_filter_le q (fs.take k)
  have h2 := List.length_take_le' k fs
  omega

/-- The empty row that 'Doc{}' makes. -/
theorem own_empty (w : World) : Own w.heap.size (.slice (some ⟨w.heap.size, 0, none⟩) 0 0) [] w (w.alloc (.cells #[] 42)) :=
  ⟨⟨rfl, .inr ⟨w.heap.size, 0, #[], rfl, Nat.le_refl _, new_block w _, Nat.le_refl _, Nat.zero_le _, rfl, rfl⟩⟩, ((Adds.refl w).alloc _).below, by simp⟩

def underDoc (fs : List F) (p : ByteArray) : List F := fs.filter (fun f => isUnder f.path p)

theorem under_bad (s : Value) (fs : List F) (p : ByteArray) (w : World) (h : Lst w s fs) (hb : ¬ May fs) :
    Calls Try.prog 18 #[s, .string p] w fun e w' => e = .returned (.tuple #[.slice none 0 0, .int .i64 1]) ∧ Adds w w' := by
  have hd0 := check_doc s fs w h
  rw [err_bad hb] at hd0
  obtain ⟨ao, cap, rfl, hcap, hlo⟩ := h
  go_enter Try.func18, Try.ntmps18
  go_wp2_with (go_at_call 12; refine hd0.mono ?_; rintro e w1 ⟨rfl, os1, n1, rfl⟩)
  go_ret2
  refine ⟨rfl, ?_⟩
  repeat (first | with_reducible exact Adds.refl _ | with_reducible refine Adds.alloc ?_ _ | with_reducible refine Adds.more ?_ _ _ | with_reducible refine Adds.drew ?_ | with_reducible refine Adds.drewN ?_ _)

set_option maxHeartbeats 2000000 in
theorem under_ok (s : Value) (fs : List F) (p : ByteArray) (w : World) (h : Lst w s fs) (hb : May fs) :
    Calls Try.prog 18 #[s, .string p] w fun e w' => ∃ r, e = .returned (.tuple #[r, .int .i64 0]) ∧ Lst w' r (underDoc fs p) ∧ Adds w w' := by
  have hle : fs.length ≤ 16 := hb.1
  have hd0 := check_doc s fs w h
  rw [err_ok hb] at hd0
  clear hb
  obtain ⟨ao, cap, rfl, hcap, hlo⟩ := h
  go_enter Try.func18, Try.ntmps18
  go_wp2_with (go_at_call 12; refine hd0.mono ?_; rintro e w1 ⟨rfl, os1, n1, rfl⟩)
  go_loopw [7, 17] (fun nv i w2 => ∃ k : Nat, k ≤ fs.length ∧ i = .int .i64 k ∧ Own w.heap.size nv ((fs.take k).filter (fun f => isUnder f.path p)) w w2) (fun _ i _ => fs.length - (intOf i).toNat)
  case atStart =>
    refine ⟨0, Nat.zero_le _, rfl, ?_⟩
    exact (Own.nil w.heap.size w (Nat.le_refl _)).adds ⟨_, _, rfl⟩
  case round =>
    obtain ⟨k, hk, rfl, hown⟩ := hrel
    by_cases hlt : k < fs.length
    · rcases hlo with rfl | ⟨b, off, rfl, hbb, hl⟩
      · simp at hlt
      obtain ⟨c0, c1, c2, c3, c4, c5⟩ := hl.below hown.2.1 hbb k hlt
      have HJ : Hid _ := take_filter_next (fun f => isUnder f.path p) hlt
      have hfl := filter_take_le (fun f => isUnder f.path p) fs k
      obtain ⟨x, hx⟩ : ∃ x, x = fs[k] := ⟨_, rfl⟩
      rw [← hx] at c0 c1 c2 c3 c4 c5
      have HX : Hid _ := hx
      clear hx
      have hu := within_path x.path p
      obtain ⟨q, hq⟩ : ∃ q, isUnder x.path p = q := ⟨_, rfl⟩
      rw [hq] at hu
      have HQ : Hid _ := hq
      clear hq
      cases q
      · go_wp2_with (first
          | (go_at_call 37; refine (hu _).mono ?_; rintro e w3 ⟨rfl, hw⟩; subst w3))
        go_roundw
        case rel =>
          refine ⟨k + 1, by omega, by go_num, ?_⟩
          rw [HJ.out, ← HX.out, HQ.out]
          simpa using hown.alloc _
        case measure => simp [intOf]; omega
      · go_wp2_with (first
          | (go_at_call 37; refine (hu _).mono ?_; rintro e w3 ⟨rfl, hw⟩; subst w3)
          | (at_builtin; refine own_app rfl (.tmp 25) (.tmp 27) rfl ((hown.alloc _).alloc _) rfl (lst_new (f := x) (by simp [go_sem])) rfl (by simp only [List.length_singleton]; omega) ?_; intro v2 w2 hown2))
        go_roundw
        case rel =>
          refine ⟨k + 1, by omega, by go_num, ?_⟩
          rw [HJ.out, ← HX.out, HQ.out, if_pos rfl]
          exact hown2
        case measure => simp [intOf]; omega
    · have hk' : k = fs.length := by omega
      subst hk'
      rw [List.take_length] at hown
      go_wp2
      go_ret2
      exact ⟨_, rfl, hown.lst, Adds.of hown.2.1⟩

/-- The document's own Drop. -/
def without (fs : List F) (p : ByteArray) : List F := fs.filter (fun f => decide (¬ f.path.toList = p.toList))

set_option maxHeartbeats 2000000 in
theorem refDrop_any (s : Value) (fs : List F) (p : ByteArray) (w : World) (h : Lst w s fs) (hle : fs.length ≤ 1000) :
    Calls Try.prog 22 #[s, .string p] w fun e w' => ∃ r, e = .returned r ∧ Lst w' r (without fs p) ∧ Adds w w' := by
  obtain ⟨ao, cap, rfl, hcap, hlo⟩ := h
  go_enter Try.func22, Try.ntmps22
  go_wp2
  go_loopw [5, 6] (fun nv i w2 => ∃ k : Nat, k ≤ fs.length ∧ i = .int .i64 k ∧ Own w.heap.size nv ((fs.take k).filter (fun f => decide (¬ f.path.toList = p.toList))) w w2) (fun _ i _ => fs.length - (intOf i).toNat)
  case atStart => exact ⟨0, Nat.zero_le _, rfl, own_empty w⟩
  case round =>
    obtain ⟨k, hk, rfl, hown⟩ := hrel
    by_cases hlt : k < fs.length
    · rcases hlo with rfl | ⟨b, off, rfl, hbb, hl⟩
      · simp at hlt
      obtain ⟨c0, c1, c2, c3, c4, c5⟩ := hl.below hown.2.1 hbb k hlt
      have HJ : Hid _ := take_filter_next (fun f => decide (¬ f.path.toList = p.toList)) hlt
      have hfl := filter_take_le (fun f => decide (¬ f.path.toList = p.toList)) fs k
      obtain ⟨x, hx⟩ : ∃ x, x = fs[k] := ⟨_, rfl⟩
      rw [← hx] at c0 c1 c2 c3 c4 c5
      have HX : Hid _ := hx
      clear hx
      by_cases hq : x.path.toList = p.toList
      · go_wp2
        go_roundw
        case rel =>
          refine ⟨k + 1, by omega, by go_num, ?_⟩
          rw [HJ.out, ← HX.out]
          simpa [hq] using hown
        case measure => simp [intOf]; omega
      · have hq' : (x.path.toList == p.toList) = false := by simpa using hq
        go_wp2_with (first
          | (at_builtin; refine own_app rfl (.tmp 21) (.tmp 26) rfl (hown.alloc _) rfl (lst_new (f := x) (by simp [go_sem])) rfl (by simp only [List.length_singleton]; omega) ?_; intro v2 w2 hown2))
        go_roundw
        case rel =>
          refine ⟨k + 1, by omega, by go_num, ?_⟩
          rw [HJ.out, ← HX.out]
          simpa [hq] using hown2
        case measure => simp [intOf]; omega
    · have hk' : k = fs.length := by omega
      subst hk'
      rw [List.take_length] at hown
      go_wp2
      go_ret
      exact ⟨_, rfl, hown.lst, Adds.of hown.2.1⟩

set_option maxHeartbeats 4000000 in
theorem refUnder_any (s : Value) (fs : List F) (p : ByteArray) (w : World) (h : Lst w s fs) (hle : fs.length ≤ 1000) :
    Calls Try.prog 23 #[s, .string p] w fun e w' => ∃ r, e = .returned r ∧ Lst w' r (underDoc fs p) ∧ Adds w w' := by
  obtain ⟨ao, cap, rfl, hcap, hlo⟩ := h
  go_enter Try.func23, Try.ntmps23
  go_wp2
  go_loopw [5, 6] (fun nv i w2 => ∃ k : Nat, k ≤ fs.length ∧ i = .int .i64 k ∧ Own w.heap.size nv ((fs.take k).filter (fun f => isUnder f.path p)) w w2) (fun _ i _ => fs.length - (intOf i).toNat)
  case atStart => exact ⟨0, Nat.zero_le _, rfl, own_empty w⟩
  case round =>
    obtain ⟨k, hk, rfl, hown⟩ := hrel
    by_cases hlt : k < fs.length
    · rcases hlo with rfl | ⟨b, off, rfl, hbb, hl⟩
      · simp at hlt
      obtain ⟨c0, c1, c2, c3, c4, c5⟩ := hl.below hown.2.1 hbb k hlt
      have HJ : Hid _ := take_filter_next (fun f => isUnder f.path p) hlt
      have hfl := filter_take_le (fun f => isUnder f.path p) fs k
      obtain ⟨x, hx⟩ : ∃ x, x = fs[k] := ⟨_, rfl⟩
      rw [← hx] at c0 c1 c2 c3 c4 c5
      have HX : Hid _ := hx
      clear hx
      have HU : Hid (isUnder x.path p = (begins x.path p && (decide (x.path.size = p.size) || decide (∃ h : p.size < x.path.size, (x.path[p.size].toNat : Int) = 46)))) := rfl
      have HB : Hid (begins x.path p = decide (p.size ≤ x.path.size ∧ (x.path.extract 0 p.size).toList = p.toList)) := rfl
      by_cases he : x.path.toList = p.toList
      · have hq : isUnder x.path p = true := by
          have hs : x.path.size = p.size := by rw [← toList_length, ← toList_length, he]
          have hE : (x.path.extract 0 p.size).toList = p.toList := by rw [← hs, ByteArray.extract_zero_size]; exact he
          rw [HU.out, HB.out]
          simp [hs, hE]
        have HQ : Hid _ := hq
        clear hq
        go_wp2_with (first
          | (at_builtin; refine own_app rfl (.tmp 45) (.tmp 50) rfl (hown.alloc _) rfl (lst_new (f := x) (by simp [go_sem])) rfl (by simp only [List.length_singleton]; omega) ?_; intro v2 w2 hown2))
        go_roundw
        case rel =>
          refine ⟨k + 1, by omega, by go_num, ?_⟩
          rw [HJ.out, ← HX.out, HQ.out, if_pos rfl]
          exact hown2
        case measure => simp [intOf]; omega
      · have he' : (x.path.toList == p.toList) = false := by simpa using he
        by_cases hl1 : p.size < x.path.size
        · have hne : ¬ x.path.size = p.size := by omega
          by_cases hE : (x.path.extract 0 p.size).toList = p.toList
          · by_cases h46 : (x.path[p.size].toNat : Int) = 46
            · have hq : isUnder x.path p = true := by
                rw [HU.out, HB.out]
                simp [hl1, hE, h46]
                omega
              have HQ : Hid _ := hq
              clear hq
              go_wp2_with (first
                | (at_builtin; refine own_app rfl (.tmp 45) (.tmp 50) rfl (hown.alloc _) rfl (lst_new (f := x) (by simp [go_sem])) rfl (by simp only [List.length_singleton]; omega) ?_; intro v2 w2 hown2))
              go_roundw
              case rel =>
                refine ⟨k + 1, by omega, by go_num, ?_⟩
                rw [HJ.out, ← HX.out, HQ.out, if_pos rfl]
                exact hown2
              case measure => simp [intOf]; omega
            · have hq : isUnder x.path p = false := by
                rw [HU.out]
                simp [h46, hne]
              have HQ : Hid _ := hq
              clear hq
              go_wp2
              go_roundw
              case rel =>
                refine ⟨k + 1, by omega, by go_num, ?_⟩
                rw [HJ.out, ← HX.out, HQ.out]
                simpa using hown
              case measure => simp [intOf]; omega
          · have hq : isUnder x.path p = false := by
              rw [HU.out, HB.out]
              simp [hE]
            have HQ : Hid _ := hq
            clear hq
            have hE' : ((x.path.extract 0 p.size).toList == p.toList) = false := by simpa using hE
            go_wp2
            go_roundw
            case rel =>
              refine ⟨k + 1, by omega, by go_num, ?_⟩
              rw [HJ.out, ← HX.out, HQ.out]
              simpa using hown
            case measure => simp [intOf]; omega
        · have hq : isUnder x.path p = false := by
            rw [HU.out, HB.out]
            by_cases hs : x.path.size = p.size
            · have hE : ¬ (x.path.extract 0 p.size).toList = p.toList := by rw [← hs, ByteArray.extract_zero_size]; exact he
              simp [hE]
            · have : ¬ p.size ≤ x.path.size := by omega
              simp [this]
          have HQ : Hid _ := hq
          clear hq
          go_wp2
          go_roundw
          case rel =>
            refine ⟨k + 1, by omega, by go_num, ?_⟩
            rw [HJ.out, ← HX.out, HQ.out]
            simpa using hown
          case measure => simp [intOf]; omega
    · have hk' : k = fs.length := by omega
      subst hk'
      rw [List.take_length] at hown
      go_wp2
      go_ret
      exact ⟨_, rfl, hown.lst, Adds.of hown.2.1⟩

end Go.Proofs.Ytcgbhbbljjdejaa
