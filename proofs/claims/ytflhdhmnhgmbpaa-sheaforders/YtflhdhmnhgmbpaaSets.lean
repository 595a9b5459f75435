/-
  The functions Set, Drop and Get of package sheaf, by contracts.
-/
import Derived.Test.YtflhdhmnhgmbpaaCuts
namespace Go.Proofs.Ytflhdhmnhgmbpaa
open Go.RowKit
attribute [local go_sem] cell?_more frozen?_more setCell_more size_more tape_more drew_more drewN_more more_drew more_drewN one_out plus_out plus_end lt_one le_p2 le_p3 le_p4 le_p5 le_p6 le_p7 le_p8 le_p9 le_p10 le_p11 le_p12 le_p13 le_p14 le_p15 le_p16 le_p17 le_p18 le_p19 le_p20 le_p21 le_p22 le_p23 le_p24 le_q0 le_q1 lt_q1 le_q2 lt_q2 le_q3 lt_q3 le_q4 lt_q4 le_q5 lt_q5 le_q6 lt_q6 le_q7 lt_q7 le_q8 lt_q8 le_q9 lt_q9 le_q10 lt_q10 le_q11 lt_q11 le_q12 lt_q12 le_q13 lt_q13 le_q14 lt_q14 le_q15 lt_q15 le_q16 lt_q16 le_q17 lt_q17 le_q18 lt_q18 le_q19 lt_q19 le_q20 lt_q20 le_q21 lt_q21 le_q22 lt_q22 le_q23 lt_q23 le_q24 lt_q24

theorem Lst.slice {w : World} {x : Value} {l : List F} (h : Lst w x l) : ∃ a c, x = .slice a l.length c := by
  obtain ⟨a, c, h, _⟩ := h
  exact ⟨a, c, h⟩

theorem set_bad (s : Value) (fs : List F) (f : F) (w : World) (h : Lst w s fs) (hl6 : fs.length ≤ 1000) (hb : ¬ May fs) :
    Calls Try.prog 8 #[s, .string f.path, .string f.val] w fun e w' => e = .returned (.tuple #[.slice none 0 0, .int .i64 1]) ∧ Adds w w' := by
  have hd0 := check_any s fs w h hl6
  rw [err_bad hb] at hd0
  go_enter Try.func8, Try.ntmps8
  go_wp2_with (go_at_call 11; refine hd0.mono ?_; rintro e w1 ⟨rfl, os1, n1, rfl⟩)
  go_ret2
  exact ⟨rfl, ⟨_, _, rfl⟩⟩

theorem drop_bad (s : Value) (fs : List F) (p : ByteArray) (w : World) (h : Lst w s fs) (hl6 : fs.length ≤ 1000) (hb : ¬ May fs) :
    Calls Try.prog 9 #[s, .string p] w fun e w' => e = .returned (.tuple #[.slice none 0 0, .int .i64 1]) ∧ Adds w w' := by
  have hd0 := check_any s fs w h hl6
  rw [err_bad hb] at hd0
  go_enter Try.func9, Try.ntmps9
  go_wp2_with (go_at_call 11; refine hd0.mono ?_; rintro e w1 ⟨rfl, os1, n1, rfl⟩)
  go_ret2
  exact ⟨rfl, ⟨_, _, rfl⟩⟩

set_option maxHeartbeats 1000000 in
theorem set_ok (s : Value) (fs : List F) (f : F) (w : World) (h : Lst w s fs) (hl6 : fs.length ≤ 900) (hb : May fs) :
    Calls Try.prog 8 #[s, .string f.path, .string f.val] w fun e w' => ∃ r, e = .returned (.tuple #[r, .int .i64 0]) ∧ Lst w' r (setDoc fs f) ∧ Adds w w' := by
  have hd0 := check_any s fs w h (by omega)
  rw [err_ok hb] at hd0
  have hf := fun w' hA => split_any s fs f.path w' (h.adds hA) (by omega) hb.rises
  have hS : Hid (setDoc fs f = fs.take (cutAt f.path fs) ++ f :: restOf f.path fs) := rfl
  have hle3 : (fs.take (cutAt f.path fs)).length + (restOf f.path fs).length ≤ fs.length := by
    unfold restOf
    have := cutAt_le f.path fs
    split <;> simp <;> omega
  generalize fs.take (cutAt f.path fs) = L1 at *
  generalize restOf f.path fs = L2 at *
  obtain ⟨p, v⟩ := f
  go_enter Try.func8, Try.ntmps8
  go_wp2_with (first
    | (go_at_call 11; refine hd0.mono ?_; rintro e w1 ⟨rfl, os1, n1, rfl⟩)
    | (go_at_call 23; refine (hf _ ⟨_, _, rfl⟩).mono ?_; rintro e w1 ⟨x, y, rfl, hx, hy, os3, n3, rfl⟩; obtain ⟨ax, cx, rfl⟩ := hx.slice; obtain ⟨ay, cy, rfl⟩ := hy.slice)
    | (go_at_call 24; refine (concat_any _ 3 [(_, L1), (_, [⟨p, v⟩]), (_, L2)] _ (pile3 (by simp [go_sem]) (hx.adds (by repeat (first | with_reducible exact Adds.refl _ | with_reducible refine Adds.alloc ?_ _ | with_reducible refine Adds.more ?_ _ _ | with_reducible refine Adds.drew ?_ | with_reducible refine Adds.drewN ?_ _))) (lst_new (f := ⟨p, v⟩) (by simp [go_sem])) (hy.adds (by repeat (first | with_reducible exact Adds.refl _ | with_reducible refine Adds.alloc ?_ _ | with_reducible refine Adds.more ?_ _ _ | with_reducible refine Adds.drew ?_ | with_reducible refine Adds.drewN ?_ _)))) (by simp) (by simp [joined]; omega)).mono ?_; rintro e w9 ⟨v9, rfl, ho9⟩; obtain ⟨hl9, os9, n9, rfl⟩ := And.intro ho9.lst (Adds.of ho9.2.1)))
  go_ret2
  rw [joined3] at hl9
  refine ⟨_, rfl, by rw [hS.out]; exact hl9, ?_⟩
  repeat (first | with_reducible exact Adds.refl _ | with_reducible refine Adds.alloc ?_ _ | with_reducible refine Adds.more ?_ _ _ | with_reducible refine Adds.drew ?_ | with_reducible refine Adds.drewN ?_ _)

set_option maxHeartbeats 1000000 in
theorem drop_ok (s : Value) (fs : List F) (p : ByteArray) (w : World) (h : Lst w s fs) (hl6 : fs.length ≤ 900) (hb : May fs) :
    Calls Try.prog 9 #[s, .string p] w fun e w' => ∃ r, e = .returned (.tuple #[r, .int .i64 0]) ∧ Lst w' r (dropDoc fs p) ∧ Adds w w' := by
  have hd0 := check_any s fs w h (by omega)
  rw [err_ok hb] at hd0
  have hf := fun w' hA => split_any s fs p w' (h.adds hA) (by omega) hb.rises
  have hS : Hid (dropDoc fs p = fs.take (cutAt p fs) ++ restOf p fs) := dropDoc_rest fs p
  have hle3 : (fs.take (cutAt p fs)).length + (restOf p fs).length ≤ fs.length := by
    unfold restOf
    have := cutAt_le p fs
    split <;> simp <;> omega
  generalize fs.take (cutAt p fs) = L1 at *
  generalize restOf p fs = L2 at *
  go_enter Try.func9, Try.ntmps9
  go_wp2_with (first
    | (go_at_call 11; refine hd0.mono ?_; rintro e w1 ⟨rfl, os1, n1, rfl⟩)
    | (go_at_call 23; refine (hf _ ⟨_, _, rfl⟩).mono ?_; rintro e w1 ⟨x, y, rfl, hx, hy, os3, n3, rfl⟩; obtain ⟨ax, cx, rfl⟩ := hx.slice; obtain ⟨ay, cy, rfl⟩ := hy.slice)
    | (go_at_call 24; refine (concat_any _ 2 [(_, L1), (_, L2)] _ (pile2 (by simp [go_sem]) (hx.adds (by repeat (first | with_reducible exact Adds.refl _ | with_reducible refine Adds.alloc ?_ _ | with_reducible refine Adds.more ?_ _ _ | with_reducible refine Adds.drew ?_ | with_reducible refine Adds.drewN ?_ _))) (hy.adds (by repeat (first | with_reducible exact Adds.refl _ | with_reducible refine Adds.alloc ?_ _ | with_reducible refine Adds.more ?_ _ _ | with_reducible refine Adds.drew ?_ | with_reducible refine Adds.drewN ?_ _)))) (by simp) (by simp [joined]; omega)).mono ?_; rintro e w9 ⟨v9, rfl, ho9⟩; obtain ⟨hl9, os9, n9, rfl⟩ := And.intro ho9.lst (Adds.of ho9.2.1)))
  go_ret2
  rw [joined2] at hl9
  refine ⟨_, rfl, by rw [hS.out]; exact hl9, ?_⟩
  repeat (first | with_reducible exact Adds.refl _ | with_reducible refine Adds.alloc ?_ _ | with_reducible refine Adds.more ?_ _ _ | with_reducible refine Adds.drew ?_ | with_reducible refine Adds.drewN ?_ _)

theorem got_has {p : ByteArray} {l : List F} (hr : Rises l) (h : hasAt p l = true) : ∃ hc : cutAt p l < l.length, got p l = l[cutAt p l].val := by
  have h1 := first_cut p hr h
  rw [hasAt_first p hr, decide_eq_true_eq] at h
  have h' := h
  rw [h1] at h'
  refine ⟨h', ?_⟩
  unfold got
  simp only [h1, h', dif_pos]

theorem got_no {p : ByteArray} {l : List F} (hr : Rises l) (h : hasAt p l = false) : got p l = ⟨#[]⟩ := by
  rw [hasAt_first p hr, decide_eq_false_iff_not] at h
  unfold got
  rw [dif_neg h]

set_option maxHeartbeats 1000000 in
theorem get_ok (s : Value) (fs : List F) (p : ByteArray) (w : World) (h : Lst w s fs) (hl6 : fs.length ≤ 1000) (hb : May fs) :
    Calls Try.prog 13 #[s, .string p] w fun e w' => e = .returned (.tuple #[.string (got p fs), .bool (hasAt p fs)]) ∧ Adds w w' := by
  have hd0 := check_any s fs w h (by omega)
  rw [err_ok hb] at hd0
  have hf := fun w' hA => find_any s fs p w' (h.adds hA) hl6 hb.rises
  have h1 := got_has (p := p) hb.rises
  have h0 := got_no (p := p) hb.rises
  obtain ⟨ao, cap, rfl, hcap, hlo⟩ := h
  generalize hasAt p fs = q at *
  cases q
  · rw [h0 rfl]
    clear h1 h0
    go_enter Try.func13, Try.ntmps13
    go_wp2_with (first
      | (go_at_call 11; refine hd0.mono ?_; rintro e w1 ⟨rfl, os1, n1, rfl⟩)
      | (go_at_call 25; refine (hf _ ⟨_, _, rfl⟩).mono ?_; rintro e w1 ⟨rfl, os3, n3, rfl⟩))
    go_ret2
    refine ⟨rfl, ?_⟩
    repeat (first | with_reducible exact Adds.refl _ | with_reducible refine Adds.alloc ?_ _ | with_reducible refine Adds.more ?_ _ _ | with_reducible refine Adds.drew ?_ | with_reducible refine Adds.drewN ?_ _)
  · obtain ⟨hc, hg⟩ := h1 rfl
    rw [hg]
    clear h1 h0 hg
    rcases hlo with rfl | ⟨b, off, rfl, hbb, hl⟩
    · simp at hc
    have c1 := (hl _ hc).2
    generalize fs[cutAt p fs].val = V at *
    generalize cutAt p fs = k at *
    go_enter Try.func13, Try.ntmps13
    go_wp2_with (first
      | (go_at_call 11; refine hd0.mono ?_; rintro e w1 ⟨rfl, os1, n1, rfl⟩)
      | (go_at_call 25; refine (hf _ ⟨_, _, rfl⟩).mono ?_; rintro e w1 ⟨rfl, os3, n3, rfl⟩))
    go_ret2
    refine ⟨rfl, ?_⟩
    repeat (first | with_reducible exact Adds.refl _ | with_reducible refine Adds.alloc ?_ _ | with_reducible refine Adds.more ?_ _ _ | with_reducible refine Adds.drew ?_ | with_reducible refine Adds.drewN ?_ _)

end Go.Proofs.Ytflhdhmnhgmbpaa
