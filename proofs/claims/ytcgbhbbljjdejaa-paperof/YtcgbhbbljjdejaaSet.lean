/-
  The function Set of package paper, by a contract; and the statements' own function awake.
-/
import Derived.Test.YtcgbhbbljjdejaaJoin
namespace Go.Proofs.Ytcgbhbbljjdejaa
open Go.RowKit
attribute [local go_sem] cell?_more frozen?_more setCell_more size_more tape_more drew_more drewN_more more_drew more_drewN more_more one_out plus_out plus_end lt_one le_p2 le_p3 le_p4 le_p5 le_p6 le_p7 le_p8 le_p9 le_p10 le_p11 le_p12 le_p13 le_p14 le_p15 le_p16 le_p17 le_p18 le_p19 le_p20 le_p21 le_p22 le_p23 le_p24 le_q0 le_q1 lt_q1 le_q2 lt_q2 le_q3 lt_q3 le_q4 lt_q4 le_q5 lt_q5 le_q6 lt_q6 le_q7 lt_q7 le_q8 lt_q8 le_q9 lt_q9 le_q10 lt_q10 le_q11 lt_q11 le_q12 lt_q12 le_q13 lt_q13 le_q14 lt_q14 le_q15 lt_q15 le_q16 lt_q16 le_q17 lt_q17 le_q18 lt_q18 le_q19 lt_q19 le_q20 lt_q20 le_q21 lt_q21 le_q22 lt_q22 le_q23 lt_q23 le_q24 lt_q24

theorem Lst.take {w : World} {ao : Option Addr} {cap n : Nat} {fs : List F} (h : Lst w (.slice ao fs.length cap) fs) (hn : n ≤ fs.length) : Lst w (.slice ao n cap) (fs.take n) := by
  obtain ⟨ao', cap', he, hc, h⟩ := h
  simp only [Value.slice.injEq] at he
  obtain ⟨rfl, _, rfl⟩ := he
  refine ⟨ao, cap, by simp; omega, by simp; omega, ?_⟩
  rcases h with rfl | ⟨b, off, rfl, hb, hl⟩
  · exact .inl (by simp)
  · refine .inr ⟨b, off, rfl, hb, fun j hj => ?_⟩
    have hj' : j < fs.length := by simp at hj; omega
    have := hl j hj'
    simpa using this

theorem Lst.drop {w : World} {b off cap n : Nat} {fs : List F} (hb : b < w.heap.size) (hl : Lies w b off fs) (hc : fs.length ≤ cap) (hn : n ≤ fs.length) : Lst w (.slice (some ⟨b, off + n * 6, none⟩) (fs.length - n) (cap - n)) (fs.drop n) := by
  refine ⟨_, _, by simp; rfl, by simp; omega, .inr ⟨b, off + n * 6, rfl, hb, fun j hj => ?_⟩⟩
  have hj' : n + j < fs.length := by simp at hj; omega
  have := hl (n + j) hj'
  have he : off + (n + j) * 6 = off + n * 6 + j * 6 := by omega
  rw [he] at this
  simpa using this

theorem Lst.none (w : World) : Lst w (.slice Option.none 0 0) [] := ⟨Option.none, 0, rfl, Nat.le_refl _, .inl rfl⟩

/-- A document with a field. -/
def setDoc (fs : List F) (f : F) : List F := fs.take (cutAt f.path fs) ++ f :: (if hasAt f.path fs then fs.drop (cutAt f.path fs + 1) else fs.drop (cutAt f.path fs))

def SetOk (fs : List F) (f : F) : Prop := May fs ∧ isPath f.path = true ∧ f.val.check = 0
instance (fs : List F) (f : F) : Decidable (SetOk fs f) := by unfold SetOk; infer_instance

theorem Lst.empty (w : World) (ao : Option Addr) (n cap : Nat) (fs : List F) (hn : n = 0) (hf : fs = []) : Lst w (.slice ao n cap) fs := by
  subst hn hf
  exact ⟨ao, cap, rfl, Nat.zero_le _, .inl rfl⟩

theorem lst_new {f : F} {w : World} {T : TypeId} {k : Nat} (hk : k = w.heap.size) : Lst (w.alloc (.cells #[.string f.path, .int .i64 f.val.kind, .int .i64 f.val.num, .string f.val.text, .int .i64 f.val.re, .int .i64 f.val.im] T)) (.slice (some ⟨k, 0, Option.none⟩) 1 1) [f] := by
  subst hk
  exact lst_one f w T

theorem pile3 {w : World} {a b c : Value} {l m n : List F} {T : TypeId} {k : Nat} (hk : k = w.heap.size) (ha : Lst w a l) (hb : Lst w b m) (hc : Lst w c n) : Pile (w.alloc (.cells #[a, b, c] T)) k [(a, l), (b, m), (c, n)] := by
  subst hk
  refine ⟨by simp, fun i hi => ?_⟩
  have hA : Adds w (w.alloc (.cells #[a, b, c] T)) := (Adds.refl _).alloc _
  match i, hi with
  | 0, _ => exact ⟨by simp, ha.adds hA⟩
  | 1, _ => exact ⟨by simp, hb.adds hA⟩
  | 2, _ => exact ⟨by simp, hc.adds hA⟩
  | (i + 3), hi => simp at hi; omega

theorem joined3 (a b c : Value) (l n : List F) (f : F) : joined [(a, l), (b, [f]), (c, n)] = l ++ f :: n := by simp [joined]

/-- What Set tells where it tells an error. -/
theorem set_bad (s : Value) (fs : List F) (f : F) (w : World) (h : Lst w s fs) (hb : ¬ SetOk fs f) :
    Calls Try.prog 16 #[s, .string f.path, f.val.val] w fun e w' => e = .returned (.tuple #[.slice none 0 0, .int .i64 1]) ∧ Adds w w' := by
  have hd0 := check_doc s fs (w.alloc (.cells f.val.val.cells 34)) (h.adds ((Adds.refl _).alloc _))
  have hp := path_any f.path
  have hv := check_any f.val
  obtain ⟨ao, cap, rfl, hcap, hlo⟩ := h
  obtain ⟨p, ⟨kind, num, text, re, im⟩, hpf⟩ := f
  simp only [SetOk, V.val, Value.cells] at hp hv hb hd0 ⊢
  by_cases hm : May fs
  · rw [err_ok hm] at hd0
    have hb' : ¬ (isPath p = true ∧ V.check ⟨kind, num, text, re, im⟩ = 0) := fun h => hb ⟨hm, h⟩
    clear hb hm
    generalize isPath p = q1 at *
    generalize V.check ⟨kind, num, text, re, im⟩ = q2 at *
    cases q1
    · go_enter Try.func16, Try.ntmps16
      go_wp2_with (first
        | (go_at_call 12; refine hd0.mono ?_; rintro e w1 ⟨rfl, os1, n1, rfl⟩)
        | (go_at_call 9; refine (hp _).mono ?_; rintro e w1 ⟨rfl, hw⟩; subst w1)
        | (go_at_call 33; refine (hv _).mono ?_; rintro e w1 ⟨rfl, os1, n1, rfl⟩))
      go_ret2
      refine ⟨rfl, ?_⟩
      repeat (first | with_reducible exact Adds.refl _ | with_reducible refine Adds.alloc ?_ _ | with_reducible refine Adds.more ?_ _ _ | with_reducible refine Adds.drew ?_ | with_reducible refine Adds.drewN ?_ _)
    · have hq : (q2 != 0) = true := by simp at hb'; simp [hb']
      go_enter Try.func16, Try.ntmps16
      go_wp2_with (first
        | (go_at_call 12; refine hd0.mono ?_; rintro e w1 ⟨rfl, os1, n1, rfl⟩)
        | (go_at_call 9; refine (hp _).mono ?_; rintro e w1 ⟨rfl, hw⟩; subst w1)
        | (go_at_call 33; refine (hv _).mono ?_; rintro e w1 ⟨rfl, os2, n2, rfl⟩))
      go_ret2
      refine ⟨rfl, ?_⟩
      repeat (first | with_reducible exact Adds.refl _ | with_reducible refine Adds.alloc ?_ _ | with_reducible refine Adds.more ?_ _ _ | with_reducible refine Adds.drew ?_ | with_reducible refine Adds.drewN ?_ _)
  · rw [err_bad hm] at hd0
    clear hb
    go_enter Try.func16, Try.ntmps16
    go_wp2_with (first
      | (go_at_call 12; refine hd0.mono ?_; rintro e w1 ⟨rfl, os1, n1, rfl⟩))
    go_ret2
    refine ⟨rfl, ?_⟩
    repeat (first | with_reducible exact Adds.refl _ | with_reducible refine Adds.alloc ?_ _ | with_reducible refine Adds.more ?_ _ _ | with_reducible refine Adds.drew ?_ | with_reducible refine Adds.drewN ?_ _)

set_option maxHeartbeats 2000000 in
theorem set_full (s : Value) (fs : List F) (f : F) (w : World) (h : Lst w s fs) (hb : SetOk fs f) (hno : hasAt f.path fs = false) (h16 : fs.length = 16) :
    Calls Try.prog 16 #[s, .string f.path, f.val.val] w fun e w' => e = .returned (.tuple #[.slice none 0 0, .int .i64 2]) ∧ Adds w w' := by
  have hd0 := check_doc s fs (w.alloc (.cells f.val.val.cells 34)) (h.adds ((Adds.refl _).alloc _))
  have hf := fun w' hA => find_any s fs f.path w' (h.adds hA) (by omega) hb.1.rises
  have hp := path_any f.path
  have hv := check_any f.val
  rw [err_ok hb.1] at hd0
  rw [hb.2.1] at hp
  rw [hb.2.2] at hv
  simp only [hno] at hf
  clear hb hno
  obtain ⟨ao, cap, rfl, hcap, hlo⟩ := h
  obtain ⟨p, ⟨kind, num, text, re, im⟩, hpf⟩ := f
  simp only [V.val, Value.cells] at hp hv hd0 hf ⊢
  rw [h16] at *
  go_enter Try.func16, Try.ntmps16
  go_wp2_with (first
    | (go_at_call 12; refine hd0.mono ?_; rintro e w1 ⟨rfl, os1, n1, rfl⟩)
    | (go_at_call 9; refine (hp _).mono ?_; rintro e w1 ⟨rfl, hw⟩; subst w1)
    | (go_at_call 33; refine (hv _).mono ?_; rintro e w1 ⟨rfl, os2, n2, rfl⟩)
    | (go_at_call 35; refine (hf _ (by repeat (first | with_reducible exact Adds.refl _ | with_reducible refine Adds.alloc ?_ _ | with_reducible refine Adds.more ?_ _ _ | with_reducible refine Adds.drew ?_ | with_reducible refine Adds.drewN ?_ _))).mono ?_; rintro e w1 ⟨rfl, os3, n3, rfl⟩))
  go_ret2
  refine ⟨rfl, ?_⟩
  repeat (first | with_reducible exact Adds.refl _ | with_reducible refine Adds.alloc ?_ _ | with_reducible refine Adds.more ?_ _ _ | with_reducible refine Adds.drew ?_ | with_reducible refine Adds.drewN ?_ _)

set_option maxHeartbeats 4000000 in
theorem set_ok (s : Value) (fs : List F) (f : F) (w : World) (h : Lst w s fs) (hb : SetOk fs f) (h16 : hasAt f.path fs = true ∨ fs.length < 16) :
    Calls Try.prog 16 #[s, .string f.path, f.val.val] w fun e w' => ∃ r, e = .returned (.tuple #[r, .int .i64 0]) ∧ Lst w' r (setDoc fs f) ∧ Adds w w' := by
  have hle : fs.length ≤ 16 := hb.1.1
  have hd0 := check_doc s fs (w.alloc (.cells f.val.val.cells 34)) (h.adds ((Adds.refl _).alloc _))
  have hf := fun w' hA => find_any s fs f.path w' (h.adds hA) (by omega) hb.1.rises
  have hp := path_any f.path
  have hv := check_any f.val
  rw [err_ok hb.1] at hd0
  rw [hb.2.1] at hp
  rw [hb.2.2] at hv
  have hcl := cutAt_le f.path fs
  have hS : Hid (setDoc fs f = fs.take (cutAt f.path fs) ++ f :: (if hasAt f.path fs then fs.drop (cutAt f.path fs + 1) else fs.drop (cutAt f.path fs))) := rfl
  have hhas : hasAt f.path fs = true → cutAt f.path fs < fs.length := by
    intro h
    simp only [hasAt, decide_eq_true_eq] at h
    exact h.1
  clear hb
  generalize hasAt f.path fs = q at *
  generalize cutAt f.path fs = k at *
  obtain ⟨ao, cap, rfl, hcap, hlo⟩ := h
  have hfs : Lst w (.slice ao fs.length cap) fs := ⟨ao, cap, rfl, hcap, hlo⟩
  cases q
  · have hk16 : fs.length < 16 := by simpa using h16
    have hne : ((fs.length : Int) == 16) = false := by simp; omega
    rw [if_neg (by simp)] at hS
    rcases hlo with rfl | ⟨b, off, rfl, hbb, hl⟩
    · have hk0 : k = 0 := by simpa using hcl
      subst hk0
      cases ao with
      | none =>
        obtain ⟨p, ⟨kind, num, text, re, im⟩, hpf⟩ := f
        simp only [V.val, Value.cells] at hp hv hd0 hf ⊢
        go_enter Try.func16, Try.ntmps16
        go_wp2_with (first
          | (go_at_call 12; refine hd0.mono ?_; rintro e w1 ⟨rfl, os1, n1, rfl⟩)
          | (go_at_call 9; refine (hp _).mono ?_; rintro e w1 ⟨rfl, hw⟩; subst w1)
          | (go_at_call 33; refine (hv _).mono ?_; rintro e w1 ⟨rfl, os2, n2, rfl⟩)
          | (go_at_call 35; refine (hf _ (by repeat (first | with_reducible exact Adds.refl _ | with_reducible refine Adds.alloc ?_ _ | with_reducible refine Adds.more ?_ _ _ | with_reducible refine Adds.drew ?_ | with_reducible refine Adds.drewN ?_ _))).mono ?_; rintro e w1 ⟨rfl, os3, n3, rfl⟩))
        go_region_with (go_at_call 36; refine (concat_any _ 3 [(_, []), (_, [⟨p, ⟨kind, num, text, re, im⟩, hpf⟩]), (_, [])] _ (pile3 (by simp [go_sem]) (Lst.empty _ _ _ _ [] rfl rfl) (lst_new (f := ⟨p, ⟨kind, num, text, re, im⟩, hpf⟩) (by simp [go_sem])) (Lst.empty _ _ _ _ [] rfl rfl)) (by simp) (by simp [joined] <;> omega)).mono ?_; rintro e w9 ⟨v9, rfl, hl9, os9, n9, rfl⟩)
        all_goals
          go_wp2
          go_ret2
          rw [joined3] at hl9
          refine ⟨_, rfl, by rw [hS.out]; exact hl9, ?_⟩
          repeat (first | with_reducible exact Adds.refl _ | with_reducible refine Adds.alloc ?_ _ | with_reducible refine Adds.more ?_ _ _ | with_reducible refine Adds.drew ?_ | with_reducible refine Adds.drewN ?_ _)
      | some a =>
        obtain ⟨b, off, spot⟩ := a
        by_cases hc0 : cap = 0
        · subst hc0
          obtain ⟨p, ⟨kind, num, text, re, im⟩, hpf⟩ := f
          simp only [V.val, Value.cells] at hp hv hd0 hf ⊢
          go_enter Try.func16, Try.ntmps16
          go_wp2_with (first
            | (go_at_call 12; refine hd0.mono ?_; rintro e w1 ⟨rfl, os1, n1, rfl⟩)
            | (go_at_call 9; refine (hp _).mono ?_; rintro e w1 ⟨rfl, hw⟩; subst w1)
            | (go_at_call 33; refine (hv _).mono ?_; rintro e w1 ⟨rfl, os2, n2, rfl⟩)
            | (go_at_call 35; refine (hf _ (by repeat (first | with_reducible exact Adds.refl _ | with_reducible refine Adds.alloc ?_ _ | with_reducible refine Adds.more ?_ _ _ | with_reducible refine Adds.drew ?_ | with_reducible refine Adds.drewN ?_ _))).mono ?_; rintro e w1 ⟨rfl, os3, n3, rfl⟩))
          go_region_with (go_at_call 36; refine (concat_any _ 3 [(_, []), (_, [⟨p, ⟨kind, num, text, re, im⟩, hpf⟩]), (_, [])] _ (pile3 (by simp [go_sem]) (Lst.empty _ _ _ _ [] rfl rfl) (lst_new (f := ⟨p, ⟨kind, num, text, re, im⟩, hpf⟩) (by simp [go_sem])) (Lst.empty _ _ _ _ [] rfl rfl)) (by simp) (by simp [joined] <;> omega)).mono ?_; rintro e w9 ⟨v9, rfl, hl9, os9, n9, rfl⟩)
          all_goals
            go_wp2
            go_ret2
            rw [joined3] at hl9
            refine ⟨_, rfl, by rw [hS.out]; exact hl9, ?_⟩
            repeat (first | with_reducible exact Adds.refl _ | with_reducible refine Adds.alloc ?_ _ | with_reducible refine Adds.more ?_ _ _ | with_reducible refine Adds.drew ?_ | with_reducible refine Adds.drewN ?_ _)
        ·
          obtain ⟨p, ⟨kind, num, text, re, im⟩, hpf⟩ := f
          simp only [V.val, Value.cells] at hp hv hd0 hf ⊢
          go_enter Try.func16, Try.ntmps16
          go_wp2_with (first
            | (go_at_call 12; refine hd0.mono ?_; rintro e w1 ⟨rfl, os1, n1, rfl⟩)
            | (go_at_call 9; refine (hp _).mono ?_; rintro e w1 ⟨rfl, hw⟩; subst w1)
            | (go_at_call 33; refine (hv _).mono ?_; rintro e w1 ⟨rfl, os2, n2, rfl⟩)
            | (go_at_call 35; refine (hf _ (by repeat (first | with_reducible exact Adds.refl _ | with_reducible refine Adds.alloc ?_ _ | with_reducible refine Adds.more ?_ _ _ | with_reducible refine Adds.drew ?_ | with_reducible refine Adds.drewN ?_ _))).mono ?_; rintro e w1 ⟨rfl, os3, n3, rfl⟩))
          go_region_with (go_at_call 36; refine (concat_any _ 3 [(_, []), (_, [⟨p, ⟨kind, num, text, re, im⟩, hpf⟩]), (_, [])] _ (pile3 (by simp [go_sem]) (Lst.empty _ _ _ _ [] rfl rfl) (lst_new (f := ⟨p, ⟨kind, num, text, re, im⟩, hpf⟩) (by simp [go_sem])) (Lst.empty _ _ _ _ [] rfl rfl)) (by simp) (by simp [joined] <;> omega)).mono ?_; rintro e w9 ⟨v9, rfl, hl9, os9, n9, rfl⟩)
          all_goals
            go_wp2
            go_ret2
            rw [joined3] at hl9
            refine ⟨_, rfl, by rw [hS.out]; exact hl9, ?_⟩
            repeat (first | with_reducible exact Adds.refl _ | with_reducible refine Adds.alloc ?_ _ | with_reducible refine Adds.more ?_ _ _ | with_reducible refine Adds.drew ?_ | with_reducible refine Adds.drewN ?_ _)
    · have ht := hfs.take hcl
      by_cases hck : cap = k
      · subst hck
        have hkl : fs.length - cap = 0 := by omega
        have hdn : fs.drop cap = [] := List.drop_eq_nil_of_le (by omega)
        obtain ⟨p, ⟨kind, num, text, re, im⟩, hpf⟩ := f
        simp only [V.val, Value.cells] at hp hv hd0 hf ⊢
        go_enter Try.func16, Try.ntmps16
        go_wp2_with (first
          | (go_at_call 12; refine hd0.mono ?_; rintro e w1 ⟨rfl, os1, n1, rfl⟩)
          | (go_at_call 9; refine (hp _).mono ?_; rintro e w1 ⟨rfl, hw⟩; subst w1)
          | (go_at_call 33; refine (hv _).mono ?_; rintro e w1 ⟨rfl, os2, n2, rfl⟩)
          | (go_at_call 35; refine (hf _ (by repeat (first | with_reducible exact Adds.refl _ | with_reducible refine Adds.alloc ?_ _ | with_reducible refine Adds.more ?_ _ _ | with_reducible refine Adds.drew ?_ | with_reducible refine Adds.drewN ?_ _))).mono ?_; rintro e w1 ⟨rfl, os3, n3, rfl⟩))
        go_region_with (go_at_call 36; refine (concat_any _ 3 [(_, fs.take cap), (_, [⟨p, ⟨kind, num, text, re, im⟩, hpf⟩]), (_, fs.drop cap)] _ (pile3 (by simp [go_sem]) (ht.adds (by repeat (first | with_reducible exact Adds.refl _ | with_reducible refine Adds.alloc ?_ _ | with_reducible refine Adds.more ?_ _ _ | with_reducible refine Adds.drew ?_ | with_reducible refine Adds.drewN ?_ _))) (lst_new (f := ⟨p, ⟨kind, num, text, re, im⟩, hpf⟩) (by simp [go_sem])) (Lst.empty _ _ _ _ (fs.drop cap) (by first | rfl | omega) hdn)) (by simp) (by simp [joined] <;> omega)).mono ?_; rintro e w9 ⟨v9, rfl, hl9, os9, n9, rfl⟩)
        all_goals
          go_wp2
          go_ret2
          rw [joined3] at hl9
          refine ⟨_, rfl, by rw [hS.out]; exact hl9, ?_⟩
          repeat (first | with_reducible exact Adds.refl _ | with_reducible refine Adds.alloc ?_ _ | with_reducible refine Adds.more ?_ _ _ | with_reducible refine Adds.drew ?_ | with_reducible refine Adds.drewN ?_ _)
      · have hdr := Lst.drop hbb hl hcap hcl
        obtain ⟨p, ⟨kind, num, text, re, im⟩, hpf⟩ := f
        simp only [V.val, Value.cells] at hp hv hd0 hf ⊢
        go_enter Try.func16, Try.ntmps16
        go_wp2_with (first
          | (go_at_call 12; refine hd0.mono ?_; rintro e w1 ⟨rfl, os1, n1, rfl⟩)
          | (go_at_call 9; refine (hp _).mono ?_; rintro e w1 ⟨rfl, hw⟩; subst w1)
          | (go_at_call 33; refine (hv _).mono ?_; rintro e w1 ⟨rfl, os2, n2, rfl⟩)
          | (go_at_call 35; refine (hf _ (by repeat (first | with_reducible exact Adds.refl _ | with_reducible refine Adds.alloc ?_ _ | with_reducible refine Adds.more ?_ _ _ | with_reducible refine Adds.drew ?_ | with_reducible refine Adds.drewN ?_ _))).mono ?_; rintro e w1 ⟨rfl, os3, n3, rfl⟩))
        go_region_with (go_at_call 36; refine (concat_any _ 3 [(_, fs.take k), (_, [⟨p, ⟨kind, num, text, re, im⟩, hpf⟩]), (_, fs.drop k)] _ (pile3 (by simp [go_sem]) (ht.adds (by repeat (first | with_reducible exact Adds.refl _ | with_reducible refine Adds.alloc ?_ _ | with_reducible refine Adds.more ?_ _ _ | with_reducible refine Adds.drew ?_ | with_reducible refine Adds.drewN ?_ _))) (lst_new (f := ⟨p, ⟨kind, num, text, re, im⟩, hpf⟩) (by simp [go_sem])) (hdr.adds (by repeat (first | with_reducible exact Adds.refl _ | with_reducible refine Adds.alloc ?_ _ | with_reducible refine Adds.more ?_ _ _ | with_reducible refine Adds.drew ?_ | with_reducible refine Adds.drewN ?_ _)))) (by simp) (by simp [joined] <;> omega)).mono ?_; rintro e w9 ⟨v9, rfl, hl9, os9, n9, rfl⟩)
        all_goals
          go_wp2
          go_ret2
          rw [joined3] at hl9
          refine ⟨_, rfl, by rw [hS.out]; exact hl9, ?_⟩
          repeat (first | with_reducible exact Adds.refl _ | with_reducible refine Adds.alloc ?_ _ | with_reducible refine Adds.more ?_ _ _ | with_reducible refine Adds.drew ?_ | with_reducible refine Adds.drewN ?_ _)
  · have hkl := hhas rfl
    rw [if_pos rfl] at hS
    rcases hlo with rfl | ⟨b, off, rfl, hbb, hl⟩
    · simp at hkl
    have ht := hfs.take hcl
    by_cases hck : cap = k + 1
    · have hdn : fs.drop (k + 1) = [] := List.drop_eq_nil_of_le (by omega)
      subst hck
      obtain ⟨p, ⟨kind, num, text, re, im⟩, hpf⟩ := f
      simp only [V.val, Value.cells] at hp hv hd0 hf ⊢
      go_enter Try.func16, Try.ntmps16
      go_wp2_with (first
        | (go_at_call 12; refine hd0.mono ?_; rintro e w1 ⟨rfl, os1, n1, rfl⟩)
        | (go_at_call 9; refine (hp _).mono ?_; rintro e w1 ⟨rfl, hw⟩; subst w1)
        | (go_at_call 33; refine (hv _).mono ?_; rintro e w1 ⟨rfl, os2, n2, rfl⟩)
        | (go_at_call 35; refine (hf _ (by repeat (first | with_reducible exact Adds.refl _ | with_reducible refine Adds.alloc ?_ _ | with_reducible refine Adds.more ?_ _ _ | with_reducible refine Adds.drew ?_ | with_reducible refine Adds.drewN ?_ _))).mono ?_; rintro e w1 ⟨rfl, os3, n3, rfl⟩))
      go_region_with (go_at_call 36; refine (concat_any _ 3 [(_, fs.take k), (_, [⟨p, ⟨kind, num, text, re, im⟩, hpf⟩]), (_, fs.drop (k + 1))] _ (pile3 (by simp [go_sem]) (ht.adds (by repeat (first | with_reducible exact Adds.refl _ | with_reducible refine Adds.alloc ?_ _ | with_reducible refine Adds.more ?_ _ _ | with_reducible refine Adds.drew ?_ | with_reducible refine Adds.drewN ?_ _))) (lst_new (f := ⟨p, ⟨kind, num, text, re, im⟩, hpf⟩) (by simp [go_sem])) (Lst.empty _ _ _ _ (fs.drop (k + 1)) (by first | rfl | omega) hdn)) (by simp) (by simp [joined] <;> omega)).mono ?_; rintro e w9 ⟨v9, rfl, hl9, os9, n9, rfl⟩)
      all_goals
        go_wp2
        go_ret2
        rw [joined3] at hl9
        refine ⟨_, rfl, by rw [hS.out]; exact hl9, ?_⟩
        repeat (first | with_reducible exact Adds.refl _ | with_reducible refine Adds.alloc ?_ _ | with_reducible refine Adds.more ?_ _ _ | with_reducible refine Adds.drew ?_ | with_reducible refine Adds.drewN ?_ _)
    · have hdr := Lst.drop hbb hl hcap (n := k + 1) (by omega)
      obtain ⟨p, ⟨kind, num, text, re, im⟩, hpf⟩ := f
      simp only [V.val, Value.cells] at hp hv hd0 hf ⊢
      go_enter Try.func16, Try.ntmps16
      go_wp2_with (first
        | (go_at_call 12; refine hd0.mono ?_; rintro e w1 ⟨rfl, os1, n1, rfl⟩)
        | (go_at_call 9; refine (hp _).mono ?_; rintro e w1 ⟨rfl, hw⟩; subst w1)
        | (go_at_call 33; refine (hv _).mono ?_; rintro e w1 ⟨rfl, os2, n2, rfl⟩)
        | (go_at_call 35; refine (hf _ (by repeat (first | with_reducible exact Adds.refl _ | with_reducible refine Adds.alloc ?_ _ | with_reducible refine Adds.more ?_ _ _ | with_reducible refine Adds.drew ?_ | with_reducible refine Adds.drewN ?_ _))).mono ?_; rintro e w1 ⟨rfl, os3, n3, rfl⟩))
      go_region_with (go_at_call 36; refine (concat_any _ 3 [(_, fs.take k), (_, [⟨p, ⟨kind, num, text, re, im⟩, hpf⟩]), (_, fs.drop (k + 1))] _ (pile3 (by simp [go_sem]) (ht.adds (by repeat (first | with_reducible exact Adds.refl _ | with_reducible refine Adds.alloc ?_ _ | with_reducible refine Adds.more ?_ _ _ | with_reducible refine Adds.drew ?_ | with_reducible refine Adds.drewN ?_ _))) (lst_new (f := ⟨p, ⟨kind, num, text, re, im⟩, hpf⟩) (by simp [go_sem])) (hdr.adds (by repeat (first | with_reducible exact Adds.refl _ | with_reducible refine Adds.alloc ?_ _ | with_reducible refine Adds.more ?_ _ _ | with_reducible refine Adds.drew ?_ | with_reducible refine Adds.drewN ?_ _)))) (by simp) (by simp [joined] <;> omega)).mono ?_; rintro e w9 ⟨v9, rfl, hl9, os9, n9, rfl⟩)
      all_goals
        go_wp2
        go_ret2
        rw [joined3] at hl9
        refine ⟨_, rfl, by rw [hS.out]; exact hl9, ?_⟩
        repeat (first | with_reducible exact Adds.refl _ | with_reducible refine Adds.alloc ?_ _ | with_reducible refine Adds.more ?_ _ _ | with_reducible refine Adds.drew ?_ | with_reducible refine Adds.drewN ?_ _)

end Go.Proofs.Ytcgbhbbljjdejaa
