/-
  The function Drop of package paper, by a contract.
-/
import Derived.Test.YtcgbhbbljjdejaaSet
namespace Go.Proofs.Ytcgbhbbljjdejaa
open Go.RowKit
attribute [local go_sem] cell?_more frozen?_more setCell_more size_more tape_more drew_more drewN_more more_drew more_drewN more_more one_out plus_out plus_end lt_one le_p2 le_p3 le_p4 le_p5 le_p6 le_p7 le_p8 le_p9 le_p10 le_p11 le_p12 le_p13 le_p14 le_p15 le_p16 le_p17 le_p18 le_p19 le_p20 le_p21 le_p22 le_p23 le_p24 le_q0 le_q1 lt_q1 le_q2 lt_q2 le_q3 lt_q3 le_q4 lt_q4 le_q5 lt_q5 le_q6 lt_q6 le_q7 lt_q7 le_q8 lt_q8 le_q9 lt_q9 le_q10 lt_q10 le_q11 lt_q11 le_q12 lt_q12 le_q13 lt_q13 le_q14 lt_q14 le_q15 lt_q15 le_q16 lt_q16 le_q17 lt_q17 le_q18 lt_q18 le_q19 lt_q19 le_q20 lt_q20 le_q21 lt_q21 le_q22 lt_q22 le_q23 lt_q23 le_q24 lt_q24

theorem pile1 {w : World} {a : Value} {l : List F} {T : TypeId} {k : Nat} (hk : k = w.heap.size) (ha : Lst w a l) : Pile (w.alloc (.cells #[a] T)) k [(a, l)] := by
  subst hk
  refine ⟨by simp, fun i hi => ?_⟩
  have hA : Adds w (w.alloc (.cells #[a] T)) := (Adds.refl _).alloc _
  match i, hi with
  | 0, _ => exact ⟨by simp, ha.adds hA⟩
  | (i + 1), hi => simp at hi

theorem pile2 {w : World} {a b : Value} {l m : List F} {T : TypeId} {k : Nat} (hk : k = w.heap.size) (ha : Lst w a l) (hb : Lst w b m) : Pile (w.alloc (.cells #[a, b] T)) k [(a, l), (b, m)] := by
  subst hk
  refine ⟨by simp, fun i hi => ?_⟩
  have hA : Adds w (w.alloc (.cells #[a, b] T)) := (Adds.refl _).alloc _
  match i, hi with
  | 0, _ => exact ⟨by simp, ha.adds hA⟩
  | 1, _ => exact ⟨by simp, hb.adds hA⟩
  | (i + 2), hi => simp at hi; omega

theorem joined1 (a : Value) (l : List F) : joined [(a, l)] = l := by simp [joined]
theorem joined2 (a b : Value) (l n : List F) : joined [(a, l), (b, n)] = l ++ n := by simp [joined]

/-- A document without a path. -/
def dropDoc (fs : List F) (p : ByteArray) : List F := if hasAt p fs then fs.take (cutAt p fs) ++ fs.drop (cutAt p fs + 1) else fs

theorem drop_bad (s : Value) (fs : List F) (p : ByteArray) (w : World) (h : Lst w s fs) (hb : ¬ May fs) :
    Calls Try.prog 17 #[s, .string p] w fun e w' => e = .returned (.tuple #[.slice none 0 0, .int .i64 1]) ∧ Adds w w' := by
  have hd0 := check_doc s fs w h
  rw [err_bad hb] at hd0
  obtain ⟨ao, cap, rfl, hcap, hlo⟩ := h
  go_enter Try.func17, Try.ntmps17
  go_wp2_with (go_at_call 12; refine hd0.mono ?_; rintro e w1 ⟨rfl, os1, n1, rfl⟩)
  go_ret2
  refine ⟨rfl, ?_⟩
  repeat (first | with_reducible exact Adds.refl _ | with_reducible refine Adds.alloc ?_ _ | with_reducible refine Adds.more ?_ _ _ | with_reducible refine Adds.drew ?_ | with_reducible refine Adds.drewN ?_ _)

set_option maxHeartbeats 4000000 in
theorem drop_ok (s : Value) (fs : List F) (p : ByteArray) (w : World) (h : Lst w s fs) (hb : May fs) :
    Calls Try.prog 17 #[s, .string p] w fun e w' => ∃ r, e = .returned (.tuple #[r, .int .i64 0]) ∧ Lst w' r (dropDoc fs p) ∧ Adds w w' := by
  have hle : fs.length ≤ 16 := hb.1
  have hd0 := check_doc s fs w h
  have hf := fun w' hA => find_any s fs p w' (h.adds hA) (by omega) hb.rises
  rw [err_ok hb] at hd0
  have hcl := cutAt_le p fs
  have hS : Hid (dropDoc fs p = if hasAt p fs then fs.take (cutAt p fs) ++ fs.drop (cutAt p fs + 1) else fs) := rfl
  have hhas : hasAt p fs = true → cutAt p fs < fs.length := by
    intro h
    simp only [hasAt, decide_eq_true_eq] at h
    exact h.1
  clear hb
  generalize hasAt p fs = q at *
  generalize cutAt p fs = k at *
  obtain ⟨ao, cap, rfl, hcap, hlo⟩ := h
  have hfs : Lst w (.slice ao fs.length cap) fs := ⟨ao, cap, rfl, hcap, hlo⟩
  cases q
  · rw [if_neg (by simp)] at hS
    go_enter Try.func17, Try.ntmps17
    go_wp2_with (first
      | (go_at_call 12; refine hd0.mono ?_; rintro e w1 ⟨rfl, os1, n1, rfl⟩)
      | (go_at_call 35; refine (hf _ (by repeat (first | with_reducible exact Adds.refl _ | with_reducible refine Adds.alloc ?_ _ | with_reducible refine Adds.more ?_ _ _ | with_reducible refine Adds.drew ?_ | with_reducible refine Adds.drewN ?_ _))).mono ?_; rintro e w1 ⟨rfl, os3, n3, rfl⟩)
      | (go_at_call 36; refine (concat_any _ 1 [(_, fs)] _ (pile1 (by simp [go_sem]) (hfs.adds (by repeat (first | with_reducible exact Adds.refl _ | with_reducible refine Adds.alloc ?_ _ | with_reducible refine Adds.more ?_ _ _ | with_reducible refine Adds.drew ?_ | with_reducible refine Adds.drewN ?_ _)))) (by simp) (by simp [joined] <;> omega)).mono ?_; rintro e w9 ⟨v9, rfl, hl9, os9, n9, rfl⟩))
    go_ret2
    rw [joined1] at hl9
    refine ⟨_, rfl, by rw [hS.out]; exact hl9, ?_⟩
    repeat (first | with_reducible exact Adds.refl _ | with_reducible refine Adds.alloc ?_ _ | with_reducible refine Adds.more ?_ _ _ | with_reducible refine Adds.drew ?_ | with_reducible refine Adds.drewN ?_ _)
  · have hkl := hhas rfl
    rw [if_pos rfl] at hS
    rcases hlo with rfl | ⟨b, off, rfl, hbb, hl⟩
    · simp at hkl
    have ht := hfs.take hcl
    have hw1 : IntKind.i64.wrap ((k : Int) + 1) = (k : Int) + 1 := by rw [IntKind.wrap_i64]; omega
    have hw2 : (k : Int) + 1 ≤ (fs.length : Int) := by omega
    have hw3 : ((k : Int) + 1).toNat = k + 1 := by omega
    have hw4 : (0 : Int) ≤ (k : Int) + 1 := by omega
    by_cases hck : cap = k + 1
    · have hdn : fs.drop (k + 1) = [] := List.drop_eq_nil_of_le (by omega)
      subst hck
      go_enter Try.func17, Try.ntmps17
      go_wp2_with (first
        | (go_at_call 12; refine hd0.mono ?_; rintro e w1 ⟨rfl, os1, n1, rfl⟩)
        | (go_at_call 35; refine (hf _ (by repeat (first | with_reducible exact Adds.refl _ | with_reducible refine Adds.alloc ?_ _ | with_reducible refine Adds.more ?_ _ _ | with_reducible refine Adds.drew ?_ | with_reducible refine Adds.drewN ?_ _))).mono ?_; rintro e w1 ⟨rfl, os3, n3, rfl⟩))
      go_region_with (go_at_call 36; refine (concat_any _ 2 [(_, fs.take k), (_, fs.drop (k + 1))] _ (pile2 (by simp [go_sem]) (ht.adds (by repeat (first | with_reducible exact Adds.refl _ | with_reducible refine Adds.alloc ?_ _ | with_reducible refine Adds.more ?_ _ _ | with_reducible refine Adds.drew ?_ | with_reducible refine Adds.drewN ?_ _))) (Lst.empty _ _ _ _ (fs.drop (k + 1)) (by first | rfl | omega) hdn)) (by simp) (by simp [joined] <;> omega)).mono ?_; rintro e w9 ⟨v9, rfl, hl9, os9, n9, rfl⟩)
      all_goals
        go_wp2
        go_ret2
        rw [joined2] at hl9
        refine ⟨_, rfl, by rw [hS.out]; exact hl9, ?_⟩
        repeat (first | with_reducible exact Adds.refl _ | with_reducible refine Adds.alloc ?_ _ | with_reducible refine Adds.more ?_ _ _ | with_reducible refine Adds.drew ?_ | with_reducible refine Adds.drewN ?_ _)
    · have hdr := Lst.drop hbb hl hcap (n := k + 1) (by omega)
      go_enter Try.func17, Try.ntmps17
      go_wp2_with (first
        | (go_at_call 12; refine hd0.mono ?_; rintro e w1 ⟨rfl, os1, n1, rfl⟩)
        | (go_at_call 35; refine (hf _ (by repeat (first | with_reducible exact Adds.refl _ | with_reducible refine Adds.alloc ?_ _ | with_reducible refine Adds.more ?_ _ _ | with_reducible refine Adds.drew ?_ | with_reducible refine Adds.drewN ?_ _))).mono ?_; rintro e w1 ⟨rfl, os3, n3, rfl⟩))
      go_region_with (go_at_call 36; refine (concat_any _ 2 [(_, fs.take k), (_, fs.drop (k + 1))] _ (pile2 (by simp [go_sem]) (ht.adds (by repeat (first | with_reducible exact Adds.refl _ | with_reducible refine Adds.alloc ?_ _ | with_reducible refine Adds.more ?_ _ _ | with_reducible refine Adds.drew ?_ | with_reducible refine Adds.drewN ?_ _))) (hdr.adds (by repeat (first | with_reducible exact Adds.refl _ | with_reducible refine Adds.alloc ?_ _ | with_reducible refine Adds.more ?_ _ _ | with_reducible refine Adds.drew ?_ | with_reducible refine Adds.drewN ?_ _)))) (by simp) (by simp [joined] <;> omega)).mono ?_; rintro e w9 ⟨v9, rfl, hl9, os9, n9, rfl⟩)
      all_goals
        go_wp2
        go_ret2
        rw [joined2] at hl9
        refine ⟨_, rfl, by rw [hS.out]; exact hl9, ?_⟩
        repeat (first | with_reducible exact Adds.refl _ | with_reducible refine Adds.alloc ?_ _ | with_reducible refine Adds.more ?_ _ _ | with_reducible refine Adds.drew ?_ | with_reducible refine Adds.drewN ?_ _)

end Go.Proofs.Ytcgbhbbljjdejaa
