/-
  The functions Row and its reference by contracts.
-/
import Derived.Test.YtmbnpglnanfdoaaSlices
namespace Go.Proofs.Ytmbnpglnanfdoaa
open Go.RowKit
attribute [local go_sem] cell?_more frozen?_more setCell_more size_more tape_more drew_more drewN_more more_drew more_drewN more_more one_out plus_out plus_end lt_one le_p2 le_p3 le_p4 le_p5 le_p6 le_p7 le_p8 le_p9 le_p10 le_p11 le_p12 le_p13 le_p14 le_p15 le_p16 le_p17 le_p18 le_p19 le_p20 le_p21 le_p22 le_p23 le_p24 le_q0 le_q1 lt_q1 le_q2 lt_q2 le_q3 lt_q3 le_q4 lt_q4 le_q5 lt_q5 le_q6 lt_q6 le_q7 lt_q7 le_q8 lt_q8 le_q9 lt_q9 le_q10 lt_q10 le_q11 lt_q11 le_q12 lt_q12 le_q13 lt_q13 le_q14 lt_q14 le_q15 lt_q15 le_q16 lt_q16 le_q17 lt_q17 le_q18 lt_q18 le_q19 lt_q19 le_q20 lt_q20 le_q21 lt_q21 le_q22 lt_q22 le_q23 lt_q23 le_q24 lt_q24

theorem Byt.rest {w : World} {ao : Option Addr} {cap k : Nat} {l : List UInt8} (h : Byt w (.slice ao l.length cap) l) (hk : k ≤ l.length) : Byt w (.slice (if cap = k then ao else ao.map (·.add k)) (l.length - k) (cap - k)) (l.drop k) := by
  have := h.cut (lo := k) (hi := l.length) hk (Nat.le_refl _)
  rw [List.take_length] at this
  exact this

theorem row_any (v : Value) (l : List UInt8) (w : World) (h : Byt w v l) (hlen : l.length ≤ 1000000) :
    Calls Try.prog 15 #[v] w fun e w' => ∃ r, e = .returned (.tuple #[r, .int .i64 ((rows l).2 : Nat)]) ∧ Rws w' r (rows l).1 ∧ Adds w w' := by
  have h' := h
  obtain ⟨ao, cap, rfl, hcap, ho⟩ := h.open
  go_enter Try.func15, Try.ntmps15
  go_wp2
  go_loopw [4, 5] (fun v t W => ∃ (k : Nat) (xs : List Value) (acc : List (List UInt8)), k ≤ l.length ∧ t = .int .i64 k ∧ acc.length ≤ k ∧ OwnV w.heap.size 22 v xs w W ∧ Each w.heap.size W xs acc ∧ rows l = (acc ++ (rows (l.drop k)).1, k + (rows (l.drop k)).2)) (fun _ t _ => (l.length - intOf t).toNat)
  case atStart => exact ⟨0, [], [], by omega, rfl, by simp, OwnV.nil _ _ _ (Nat.le_refl _), trivial, by simp⟩
  case round =>
    obtain ⟨k, xs, acc, hk, rfl, hak, hown, heach, hrows⟩ := hrel
    have hb := (h'.adds hown.added).rest hk
    have k1 := first_any _ _ _ hb (by simp; omega)
    have HR : Hid _ := hrows
    clear hrows
    by_cases he : (first (l.drop k)).2.2 = 0
    · have hn := first_ok he
      have hrs := rows_some he
      rw [he] at k1
      have hkl : (l.drop k).length = l.length - k := by simp
      have HN : Hid (rows l = ((acc ++ [(first (l.drop k)).1]) ++ (rows (l.drop (k + (first (l.drop k)).2.1))).1, (k + (first (l.drop k)).2.1) + (rows (l.drop (k + (first (l.drop k)).2.1))).2)) := by
        show rows l = _
        rw [HR.out, hrs, List.drop_drop]
        simp [Nat.add_assoc]
      clear he hrs HR
      generalize (first (l.drop k)).2.1 = n at *
      generalize (first (l.drop k)).1 = m at *
      have hxs := heach.length
      rw [hkl] at hn
      rw [if_neg (show ¬ cap = k by omega)] at k1
      go_wp2_with (first
        | (go_at_call 10; (with_reducible refine k1.mono ?_); rintro e w1 ⟨r, rfl, hr, a1⟩; obtain ⟨ro, rc, hrv, _⟩ := id hr; subst hrv)
        | (at_builtin; refine row_app rfl (.tmp 21) (.tmp 23) rfl ((hown.adds a1).alloc _) rfl (lst_new rfl) rfl (by intro u hu; simp at hu; subst hu; rfl) (by simp; omega) ?_; intro v2 w2 h2 g2))
      go_roundw
      case rel =>
        refine ⟨k + n, xs ++ [.slice ro m.length rc], acc ++ [m], by omega, by go_num, by simp; omega, h2, Each.append ?_ ⟨?_, trivial⟩, HN.out⟩
        · exact heach.imp fun x l hx => ((hx.adds a1).adds ((Adds.refl _).alloc _)).keep ((hown.adds a1).alloc _) (Nat.le_refl _) g2
        · exact (((hr.mono (Nat.zero_le _)).adds ((Adds.refl _).alloc _))).keep ((hown.adds a1).alloc _) (Nat.le_refl _) g2
      case measure => simp [intOf]; omega
    · have hrn := rows_none he
      have HN : Hid (rows l = (acc, k)) := by
        show rows l = _
        rw [HR.out, hrn]
        simp
      have he0 : ((first (l.drop k)).2.2 != 0) = true := by simpa using he
      clear he hrn HR
      generalize (first (l.drop k)).2.2 = x at *
      generalize (first (l.drop k)).2.1 = n at *
      generalize (first (l.drop k)).1 = m at *
      go_wp2_with (go_at_call 10; (with_reducible refine k1.mono ?_); rintro e w1 ⟨r, rfl, hr, a1⟩)
      all_goals
        go_ret2
        refine ⟨u4, ?_, ?_, hown.added.trans a1⟩
        · rw [HN.out]
          rfl
        · rw [HN.out]
          exact ⟨xs, (hown.adds a1).lst, heach.imp fun x l hx => (hx.adds a1).mono (hown.adds a1).2.2⟩

theorem refRow_any (v : Value) (l : List UInt8) (w : World) (h : Byt w v l) (hlen : l.length ≤ 1000000) :
    Calls Try.prog 16 #[v] w fun e w' => ∃ r, e = .returned (.tuple #[r, .int .i64 ((rows l).2 : Nat)]) ∧ Rws w' r (rows l).1 ∧ Adds w w' := by
  have h' := h
  obtain ⟨ao, cap, rfl, hcap, ho⟩ := h.open
  go_enter Try.func16, Try.ntmps16
  go_wp2
  go_loopw [4, 5, 6] (fun v t i W => ∃ (k : Nat) (xs : List Value) (acc : List (List UInt8)), k ≤ l.length ∧ t = .int .i64 k ∧ i = .int .i64 (acc.length : Nat) ∧ acc.length ≤ k ∧ OwnV w.heap.size 22 v xs w W ∧ Each w.heap.size W xs acc ∧ rows l = (acc ++ (rows (l.drop k)).1, k + (rows (l.drop k)).2)) (fun _ t _ _ => (l.length - intOf t).toNat)
  case atStart => exact ⟨0, [], [], by omega, rfl, rfl, by simp, ownV_empty _ _, trivial, by simp⟩
  case round =>
    obtain ⟨k, xs, acc, hk, rfl, rfl, hak, hown, heach, hrows⟩ := hrel
    have hb := (h'.adds hown.added).rest hk
    have hO : BytO w.heap.size wr (.slice (if cap = k then ao else ao.map (·.add k)) (l.length - k) (cap - k)) (l.drop k) := by
      have := (h'.old.adds hown.added).cut (lo := k) (hi := l.length) hk (Nat.le_refl _)
      rw [List.take_length] at this
      exact this
    have k1 := refFirst_any _ _ _ _ hO (by simp; omega)
    have HR : Hid _ := hrows
    clear hrows hO
    by_cases he : (first (l.drop k)).2.2 = 0
    · have hn := first_ok he
      have hrs := rows_some he
      rw [he] at k1
      have hkl : (l.drop k).length = l.length - k := by simp
      have HN : Hid (rows l = ((acc ++ [(first (l.drop k)).1]) ++ (rows (l.drop (k + (first (l.drop k)).2.1))).1, (k + (first (l.drop k)).2.1) + (rows (l.drop (k + (first (l.drop k)).2.1))).2)) := by
        show rows l = _
        rw [HR.out, hrs, List.drop_drop]
        simp [Nat.add_assoc]
      clear he hrs HR
      generalize (first (l.drop k)).2.1 = n at *
      generalize (first (l.drop k)).1 = m at *
      have hxs := heach.length
      rw [hkl] at hn
      rw [if_neg (show ¬ cap = k by omega)] at k1
      go_wp2_with (first
        | (go_at_call 14; (with_reducible refine k1.mono ?_); rintro e w1 ⟨r, rfl, hr, a1⟩; obtain ⟨ro, rc, hrv, _⟩ := id hr; subst hrv)
        | (at_builtin; refine row_app rfl (.tmp 29) (.tmp 31) rfl ((hown.adds a1).alloc _) rfl (lst_new rfl) rfl (by intro u hu; simp at hu; subst hu; rfl) (by simp; omega) ?_; intro v2 w2 h2 g2))
      go_roundw
      case rel =>
        refine ⟨k + n, xs ++ [.slice ro m.length rc], acc ++ [m], by omega, by go_num, by rw [List.length_append]; go_num, by simp; omega, h2, Each.append ?_ ⟨?_, trivial⟩, HN.out⟩
        · exact heach.imp fun x l hx => ((hx.adds a1).adds ((Adds.refl _).alloc _)).keep ((hown.adds a1).alloc _) (Nat.le_refl _) g2
        · exact (hr.adds ((Adds.refl _).alloc _)).keep ((hown.adds a1).alloc _) (Nat.le_refl _) g2
      case measure => simp [intOf]; omega
    · have hrn := rows_none he
      have HN : Hid (rows l = (acc, k)) := by
        show rows l = _
        rw [HR.out, hrn]
        simp
      have he0 : ((first (l.drop k)).2.2 != 0) = true := by simpa using he
      clear he hrn HR
      generalize (first (l.drop k)).2.2 = x at *
      generalize (first (l.drop k)).2.1 = n at *
      generalize (first (l.drop k)).1 = m at *
      go_wp2_with (go_at_call 14; (with_reducible refine k1.mono ?_); rintro e w1 ⟨r, rfl, hr, a1⟩)
      all_goals
        go_ret2
        refine ⟨u4, ?_, ?_, hown.added.trans a1⟩
        · rw [HN.out]
          rfl
        · rw [HN.out]
          exact ⟨xs, (hown.adds a1).lst, heach.imp fun x l hx => (hx.adds a1).mono (hown.adds a1).2.2⟩

end Go.Proofs.Ytmbnpglnanfdoaa
