/-
  The function split of package sheaf, by contracts.
-/
import Derived.Test.YtflhdhmnhgmbpaaLists
namespace Go.Proofs.Ytflhdhmnhgmbpaa
open Go.RowKit
attribute [local go_sem] cell?_more frozen?_more setCell_more size_more tape_more drew_more drewN_more more_drew more_drewN one_out plus_out plus_end lt_one le_p2 le_p3 le_p4 le_p5 le_p6 le_p7 le_p8 le_p9 le_p10 le_p11 le_p12 le_p13 le_p14 le_p15 le_p16 le_p17 le_p18 le_p19 le_p20 le_p21 le_p22 le_p23 le_p24 le_q0 le_q1 lt_q1 le_q2 lt_q2 le_q3 lt_q3 le_q4 lt_q4 le_q5 lt_q5 le_q6 lt_q6 le_q7 lt_q7 le_q8 lt_q8 le_q9 lt_q9 le_q10 lt_q10 le_q11 lt_q11 le_q12 lt_q12 le_q13 lt_q13 le_q14 lt_q14 le_q15 lt_q15 le_q16 lt_q16 le_q17 lt_q17 le_q18 lt_q18 le_q19 lt_q19 le_q20 lt_q20 le_q21 lt_q21 le_q22 lt_q22 le_q23 lt_q23 le_q24 lt_q24

theorem Lst.take {w : World} {ao : Option Addr} {cap n : Nat} {fs : List F} (h : Lst w (.slice ao fs.length cap) fs) (hn : n ≤ fs.length) : Lst w (.slice ao n cap) (fs.take n) := by
  obtain ⟨ao', cap', he, hc, h⟩ := h
  simp only [Value.slice.injEq] at he
  obtain ⟨rfl, _, rfl⟩ := he
  refine ⟨ao, cap, by simp; omega, by simp; omega, ?_⟩
  rcases h with rfl | ⟨b, off, rfl, hb, hl⟩
  · exact .inl (by simp)
  · refine .inr ⟨b, off, rfl, hb, fun j hj => ?_⟩
    have hj' : j < fs.length := by simp at hj; omega
    have := hl j hj'
    simpa using this

theorem Lst.drop {w : World} {b off cap n : Nat} {fs : List F} (hb : b < w.heap.size) (hl : Lies w b off fs) (hc : fs.length ≤ cap) (hn : n ≤ fs.length) : Lst w (.slice (some ⟨b, off + n * 2, none⟩) (fs.length - n) (cap - n)) (fs.drop n) := by
  refine ⟨_, _, by simp; rfl, by simp; omega, .inr ⟨b, off + n * 2, rfl, hb, fun j hj => ?_⟩⟩
  have hj' : n + j < fs.length := by simp at hj; omega
  have := hl (n + j) hj'
  have he : off + (n + j) * 2 = off + n * 2 + j * 2 := by omega
  rw [he] at this
  simpa using this

theorem Lst.none (w : World) : Lst w (.slice Option.none 0 0) [] := ⟨Option.none, 0, rfl, Nat.le_refl _, .inl rfl⟩

theorem Lst.empty (w : World) (ao : Option Addr) (n cap : Nat) (fs : List F) (hn : n = 0) (hf : fs = []) : Lst w (.slice ao n cap) fs := by
  subst hn hf
  exact ⟨ao, cap, rfl, Nat.zero_le _, .inl rfl⟩

theorem lst_new {f : F} {w : World} {T : TypeId} {k : Nat} (hk : k = w.heap.size) : Lst (w.alloc (.cells #[.string f.path, .string f.val] T)) (.slice (some ⟨k, 0, Option.none⟩) 1 1) [f] := by
  subst hk
  exact lst_one f w T

theorem pile3 {w : World} {a b c : Value} {l m n : List F} {T : TypeId} {k : Nat} (hk : k = w.heap.size) (ha : Lst w a l) (hb : Lst w b m) (hc : Lst w c n) : Pile (w.alloc (.cells #[a, b, c] T)) k [(a, l), (b, m), (c, n)] := by
  subst hk
  refine ⟨by simp, fun i hi => ?_⟩
  have hA : Adds w (w.alloc (.cells #[a, b, c] T)) := (Adds.refl _).alloc _
  match i, hi with
  | 0, _ => exact ⟨by simp, ha.adds hA⟩
  | 1, _ => exact ⟨by simp, hb.adds hA⟩
  | 2, _ => exact ⟨by simp, hc.adds hA⟩
  | (i + 3), hi => simp at hi; omega

theorem joined3 (a b c : Value) (l n : List F) (f : F) : joined [(a, l), (b, [f]), (c, n)] = l ++ f :: n := by simp [joined]

theorem pile1 {w : World} {a : Value} {l : List F} {T : TypeId} {k : Nat} (hk : k = w.heap.size) (ha : Lst w a l) : Pile (w.alloc (.cells #[a] T)) k [(a, l)] := by
  subst hk
  refine ⟨by simp, fun i hi => ?_⟩
  have hA : Adds w (w.alloc (.cells #[a] T)) := (Adds.refl _).alloc _
  match i, hi with
  | 0, _ => exact ⟨by simp, ha.adds hA⟩
  | (i + 1), hi => simp at hi

theorem pile2 {w : World} {a b : Value} {l m : List F} {T : TypeId} {k : Nat} (hk : k = w.heap.size) (ha : Lst w a l) (hb : Lst w b m) : Pile (w.alloc (.cells #[a, b] T)) k [(a, l), (b, m)] := by
  subst hk
  refine ⟨by simp, fun i hi => ?_⟩
  have hA : Adds w (w.alloc (.cells #[a, b] T)) := (Adds.refl _).alloc _
  match i, hi with
  | 0, _ => exact ⟨by simp, ha.adds hA⟩
  | 1, _ => exact ⟨by simp, hb.adds hA⟩
  | (i + 2), hi => simp at hi; omega

theorem joined1 (a : Value) (l : List F) : joined [(a, l)] = l := by simp [joined]
theorem joined2 (a b : Value) (l n : List F) : joined [(a, l), (b, n)] = l ++ n := by simp [joined]


set_option maxHeartbeats 2000000 in
theorem split_any (s : Value) (fs : List F) (p : ByteArray) (w : World) (h : Lst w s fs) (hl6 : fs.length ≤ 1000) (hr : Rises fs) :
    Calls Try.prog 23 #[s, .string p] w fun e w' => ∃ x y, e = .returned (.tuple #[x, y]) ∧ Lst w x (fs.take (cutAt p fs)) ∧ Lst w y (restOf p fs) ∧ Adds w w' := by
  have hf := find_any s fs p w h hl6 hr
  have hcl := cutAt_le p fs
  have hS : Hid (restOf p fs = if hasAt p fs then fs.drop (cutAt p fs + 1) else fs.drop (cutAt p fs)) := rfl
  have hhas : hasAt p fs = true → cutAt p fs < fs.length := by
    intro h
    simp only [hasAt, decide_eq_true_eq] at h
    exact h.1
  generalize hasAt p fs = q at *
  generalize cutAt p fs = k at *
  obtain ⟨ao, cap, rfl, hcap, hlo⟩ := h
  have hfs : Lst w (.slice ao fs.length cap) fs := ⟨ao, cap, rfl, hcap, hlo⟩
  cases q
  · rw [if_neg (by simp)] at hS
    rcases hlo with rfl | ⟨b, off, rfl, hbb, hl⟩
    · have hk0 : k = 0 := by simpa using hcl
      subst hk0
      have hS' : restOf p [] = [] := by rw [hS.out]; rfl
      cases ao with
      | none =>
        go_enter Try.func23, Try.ntmps23
        go_wp2_with (go_at_call 25; refine hf.mono ?_; rintro e w1 ⟨rfl, os3, n3, rfl⟩)
        go_quiet (fail)
        go_wp2
        go_ret2
        refine ⟨_, _, rfl, Lst.empty _ _ _ _ [] rfl rfl, Lst.empty _ _ _ _ _ rfl hS', ?_⟩
        repeat (first | with_reducible exact Adds.refl _ | with_reducible refine Adds.alloc ?_ _ | with_reducible refine Adds.more ?_ _ _ | with_reducible refine Adds.drew ?_ | with_reducible refine Adds.drewN ?_ _)
      | some a =>
        obtain ⟨b, off, spot⟩ := a
        by_cases hc0 : cap = 0
        · subst hc0
          go_enter Try.func23, Try.ntmps23
          go_wp2_with (go_at_call 25; refine hf.mono ?_; rintro e w1 ⟨rfl, os3, n3, rfl⟩)
          go_quiet (fail)
          go_wp2
          go_ret2
          refine ⟨_, _, rfl, Lst.empty _ _ _ _ [] rfl rfl, Lst.empty _ _ _ _ _ rfl hS', ?_⟩
          repeat (first | with_reducible exact Adds.refl _ | with_reducible refine Adds.alloc ?_ _ | with_reducible refine Adds.more ?_ _ _ | with_reducible refine Adds.drew ?_ | with_reducible refine Adds.drewN ?_ _)
        · go_enter Try.func23, Try.ntmps23
          go_wp2_with (go_at_call 25; refine hf.mono ?_; rintro e w1 ⟨rfl, os3, n3, rfl⟩)
          go_quiet (fail)
          go_wp2
          go_ret2
          refine ⟨_, _, rfl, Lst.empty _ _ _ _ [] rfl rfl, Lst.empty _ _ _ _ _ rfl hS', ?_⟩
          repeat (first | with_reducible exact Adds.refl _ | with_reducible refine Adds.alloc ?_ _ | with_reducible refine Adds.more ?_ _ _ | with_reducible refine Adds.drew ?_ | with_reducible refine Adds.drewN ?_ _)
    · have ht := hfs.take hcl
      by_cases hck : cap = k
      · subst hck
        have hkl : fs.length - cap = 0 := by omega
        have hdn : fs.drop cap = [] := List.drop_eq_nil_of_le (by omega)
        go_enter Try.func23, Try.ntmps23
        go_wp2_with (go_at_call 25; refine hf.mono ?_; rintro e w1 ⟨rfl, os3, n3, rfl⟩)
        go_quiet (fail)
        go_wp2
        go_ret2
        refine ⟨_, _, rfl, ht, by rw [hS.out]; exact Lst.empty _ _ _ _ (fs.drop cap) (by first | rfl | omega) hdn, ?_⟩
        repeat (first | with_reducible exact Adds.refl _ | with_reducible refine Adds.alloc ?_ _ | with_reducible refine Adds.more ?_ _ _ | with_reducible refine Adds.drew ?_ | with_reducible refine Adds.drewN ?_ _)
      · have hdr := Lst.drop hbb hl hcap hcl
        go_enter Try.func23, Try.ntmps23
        go_wp2_with (go_at_call 25; refine hf.mono ?_; rintro e w1 ⟨rfl, os3, n3, rfl⟩)
        go_quiet (fail)
        go_wp2
        go_ret2
        refine ⟨_, _, rfl, ht, by rw [hS.out]; exact hdr, ?_⟩
        repeat (first | with_reducible exact Adds.refl _ | with_reducible refine Adds.alloc ?_ _ | with_reducible refine Adds.more ?_ _ _ | with_reducible refine Adds.drew ?_ | with_reducible refine Adds.drewN ?_ _)
  · have hkl := hhas rfl
    rw [if_pos rfl] at hS
    rcases hlo with rfl | ⟨b, off, rfl, hbb, hl⟩
    · simp at hkl
    have ht := hfs.take hcl
    have hw1 : IntKind.i64.wrap ((k : Int) + 1) = (k : Int) + 1 := by rw [IntKind.wrap_i64]; omega
    have hw2 : (k : Int) + 1 ≤ (fs.length : Int) := by omega
    have hw3 : ((k : Int) + 1).toNat = k + 1 := by omega
    have hw4 : (0 : Int) ≤ (k : Int) + 1 := by omega
    by_cases hck : cap = k + 1
    · have hdn : fs.drop (k + 1) = [] := List.drop_eq_nil_of_le (by omega)
      subst hck
      go_enter Try.func23, Try.ntmps23
      go_wp2_with (go_at_call 25; refine hf.mono ?_; rintro e w1 ⟨rfl, os3, n3, rfl⟩)
      go_quiet (fail)
      go_wp2
      go_ret2
      refine ⟨_, _, rfl, ht, by rw [hS.out]; exact Lst.empty _ _ _ _ (fs.drop (k + 1)) (by first | rfl | omega) hdn, ?_⟩
      repeat (first | with_reducible exact Adds.refl _ | with_reducible refine Adds.alloc ?_ _ | with_reducible refine Adds.more ?_ _ _ | with_reducible refine Adds.drew ?_ | with_reducible refine Adds.drewN ?_ _)
    · have hdr := Lst.drop hbb hl hcap (n := k + 1) (by omega)
      go_enter Try.func23, Try.ntmps23
      go_wp2_with (go_at_call 25; refine hf.mono ?_; rintro e w1 ⟨rfl, os3, n3, rfl⟩)
      go_quiet (fail)
      go_wp2
      go_ret2
      refine ⟨_, _, rfl, ht, by rw [hS.out]; exact hdr, ?_⟩
      repeat (first | with_reducible exact Adds.refl _ | with_reducible refine Adds.alloc ?_ _ | with_reducible refine Adds.more ?_ _ _ | with_reducible refine Adds.drew ?_ | with_reducible refine Adds.drewN ?_ _)

end Go.Proofs.Ytflhdhmnhgmbpaa
