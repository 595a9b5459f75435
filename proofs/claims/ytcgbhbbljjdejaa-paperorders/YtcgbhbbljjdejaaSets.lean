/-
  The walk of the statement PaperSets: it returns true, whatever is handed in, and leaves all that was there as it was.
-/
import Derived.Test.YtcgbhbbljjdejaaRefSet
import Derived.Test.YtcgbhbbljjdejaaAwake
import Derived.Test.YtcgbhbbljjdejaaMays
import Derived.Deep.Cut
namespace Go.Proofs.Ytcgbhbbljjdejaa
open Go.RowKit
attribute [local go_sem] cell?_more frozen?_more setCell_more size_more tape_more drew_more drewN_more more_drew more_drewN one_out plus_out plus_end lt_one le_p2 le_p3 le_p4 le_p5 le_p6 le_p7 le_p8 le_p9 le_p10 le_p11 le_p12 le_p13 le_p14 le_p15 le_p16 le_p17 le_p18 le_p19 le_p20 le_p21 le_p22 le_p23 le_p24 le_q0 le_q1 lt_q1 le_q2 lt_q2 le_q3 lt_q3 le_q4 lt_q4 le_q5 lt_q5 le_q6 lt_q6 le_q7 lt_q7 le_q8 lt_q8 le_q9 lt_q9 le_q10 lt_q10 le_q11 lt_q11 le_q12 lt_q12 le_q13 lt_q13 le_q14 lt_q14 le_q15 lt_q15 le_q16 lt_q16 le_q17 lt_q17 le_q18 lt_q18 le_q19 lt_q19 le_q20 lt_q20 le_q21 lt_q21 le_q22 lt_q22 le_q23 lt_q23 le_q24 lt_q24

/-- What Set tells. -/
def SetTold (fs : List F) (f : F) (w : World) (r : Value) (x : Int) : Prop :=
  (¬ SetOk fs f → r = .slice none 0 0 ∧ x = 1) ∧ (SetOk fs f → hasAt f.path fs = false → fs.length = 16 → r = .slice none 0 0 ∧ x = 2) ∧ (SetOk fs f → hasAt f.path fs = true ∨ fs.length < 16 → x = 0 ∧ Lst w r (setDoc fs f))

theorem SetTold.adds {fs : List F} {f : F} {w w' : World} {r : Value} {x : Int} (h : SetTold fs f w r x) (hA : Adds w w') : SetTold fs f w' r x :=
  ⟨h.1, h.2.1, fun h1 h2 => ⟨(h.2.2 h1 h2).1, (h.2.2 h1 h2).2.adds hA⟩⟩

theorem set_any (s : Value) (fs : List F) (f : F) (w : World) (h : Lst w s fs) :
    Calls Try.prog 16 #[s, .string f.path, f.val.val] w fun e w' => ∃ r x, e = .returned (.tuple #[r, .int .i64 x]) ∧ SetTold fs f w' r x ∧ Adds w w' := by
  by_cases h1 : SetOk fs f
  · by_cases h2 : hasAt f.path fs = true ∨ fs.length < 16
    · refine (set_ok s fs f w h h1 h2).mono ?_
      rintro e w' ⟨r, rfl, hl, hA⟩
      refine ⟨r, 0, rfl, ⟨fun h => absurd h1 h, fun _ h3 h4 => ?_, fun _ _ => ⟨rfl, hl⟩⟩, hA⟩
      rcases h2 with h2 | h2
      · rw [h2] at h3; cases h3
      · omega
    · have h3 : hasAt f.path fs = false := by
        by_cases h : hasAt f.path fs = true
        · exact absurd (.inl h) h2
        · simpa using h
      have h4 : fs.length = 16 := by
        have := h1.1.1
        by_cases h : fs.length < 16
        · exact absurd (.inr h) h2
        · omega
      refine (set_full s fs f w h h1 h3 h4).mono ?_
      rintro e w' ⟨rfl, hA⟩
      exact ⟨_, 2, rfl, ⟨fun h => absurd h1 h, fun _ _ _ => ⟨rfl, rfl⟩, fun _ h => absurd h h2⟩, hA⟩
  · refine (set_bad s fs f w h h1).mono ?_
    rintro e w' ⟨rfl, hA⟩
    exact ⟨_, 1, rfl, ⟨fun _ => ⟨rfl, rfl⟩, fun h => absurd h h1, fun h => absurd h h1⟩, hA⟩

/-- What Drop and Under tell. -/
def Told (m : Prop) (l : List F) (w : World) (r : Value) (x : Int) : Prop := (¬ m → r = .slice none 0 0 ∧ x = 1) ∧ (m → x = 0 ∧ Lst w r l)

theorem Told.adds {m : Prop} {l : List F} {w w' : World} {r : Value} {x : Int} (h : Told m l w r x) (hA : Adds w w') : Told m l w' r x := ⟨h.1, fun h1 => ⟨(h.2 h1).1, (h.2 h1).2.adds hA⟩⟩

theorem drop_any (s : Value) (fs : List F) (p : ByteArray) (w : World) (h : Lst w s fs) :
    Calls Try.prog 17 #[s, .string p] w fun e w' => ∃ r x, e = .returned (.tuple #[r, .int .i64 x]) ∧ Told (May fs) (dropDoc fs p) w' r x ∧ Adds w w' := by
  by_cases h1 : May fs
  · refine (drop_ok s fs p w h h1).mono ?_
    rintro e w' ⟨r, rfl, hl, hA⟩
    exact ⟨r, 0, rfl, ⟨fun h => absurd h1 h, fun _ => ⟨rfl, hl⟩⟩, hA⟩
  · refine (drop_bad s fs p w h h1).mono ?_
    rintro e w' ⟨rfl, hA⟩
    exact ⟨_, 1, rfl, ⟨fun _ => ⟨rfl, rfl⟩, fun h => absurd h h1⟩, hA⟩

theorem under_any (s : Value) (fs : List F) (p : ByteArray) (w : World) (h : Lst w s fs) :
    Calls Try.prog 18 #[s, .string p] w fun e w' => ∃ r x, e = .returned (.tuple #[r, .int .i64 x]) ∧ Told (May fs) (underDoc fs p) w' r x ∧ Adds w w' := by
  by_cases h1 : May fs
  · refine (under_ok s fs p w h h1).mono ?_
    rintro e w' ⟨r, rfl, hl, hA⟩
    exact ⟨r, 0, rfl, ⟨fun h => absurd h1 h, fun _ => ⟨rfl, hl⟩⟩, hA⟩
  · refine (under_bad s fs p w h h1).mono ?_
    rintro e w' ⟨rfl, hA⟩
    exact ⟨_, 1, rfl, ⟨fun _ => ⟨rfl, rfl⟩, fun h => absurd h h1⟩, hA⟩

theorem run_neq_self (v : V) (w : World) : (binOp .neq 34 (.agg #[.int .i64 v.kind, .int .i64 v.num, .string v.text, .int .i64 v.re, .int .i64 v.im]) (.agg #[.int .i64 v.kind, .int .i64 v.num, .string v.text, .int .i64 v.re, .int .i64 v.im])).run Try.prog w = .ok (.bool false) w := by
  rw [run_neq34]
  rw [show (⟨v.kind, v.num, v.text, v.re, v.im⟩ : V) = v from rfl, V.eqv_self]
  rfl

theorem run_eql_self (v : V) (w : World) : (binOp .eql 34 (.agg #[.int .i64 v.kind, .int .i64 v.num, .string v.text, .int .i64 v.re, .int .i64 v.im]) (.agg #[.int .i64 v.kind, .int .i64 v.num, .string v.text, .int .i64 v.re, .int .i64 v.im])).run Try.prog w = .ok (.bool true) w := by
  rw [run_eql34]
  rw [show (⟨v.kind, v.num, v.text, v.re, v.im⟩ : V) = v from rfl, V.eqv_self]

theorem refSame_eq (s s' : Value) (l : List F) (w : World) (h : Lst w s l) (h' : Lst w s' l) (hl : l.length ≤ 1000) :
    Calls Try.prog 15 #[s, s'] w fun e w' => e = .returned (.bool true) ∧ Adds w w' := by
  have := refSame_any s s' l l w h h' hl hl
  rwa [decide_eq_true rfl] at this

theorem refMay_yes (s : Value) (l : List F) (w : World) (h : Lst w s l) (hm : May l) :
    Calls Try.prog 13 #[s] w fun e w' => e = .returned (.bool true) ∧ Adds w w' := by
  have := refMay_any s l w h (Nat.le_trans hm.1 (by omega))
  rwa [decide_eq_true hm] at this

theorem refMay_no (s : Value) (l : List F) (w : World) (h : Lst w s l) (hl : l.length ≤ 1000) (hm : ¬ May l) :
    Calls Try.prog 13 #[s] w fun e w' => e = .returned (.bool false) ∧ Adds w w' := by
  have := refMay_any s l w h hl
  rwa [decide_eq_false hm] at this

theorem none_yes (x : Int) (w : World) :
    Calls Try.prog 21 #[.slice none 0 0, .int .i64 x, .int .i64 x] w fun e w' => e = .returned (.bool true) ∧ w' = w := by
  have := none_any none 0 0 x x w
  rwa [decide_eq_true ⟨rfl, rfl⟩] at this

theorem got_at {p : ByteArray} {l : List F} (h : firstAt p l < l.length) : got p l = l[firstAt p l].val := by
  unfold got
  rw [dif_pos h]

theorem got_none {p : ByteArray} {l : List F} (h : ¬ firstAt p l < l.length) : got p l = ⟨0, 0, ⟨#[]⟩, 0, 0⟩ := by
  unfold got
  rw [dif_neg h]

set_option maxHeartbeats 4000000 in
set_option maxRecDepth 20000 in
theorem paperSets_any (s : Value) (fs : List F) (f : F) (w : World) (h : Lst w s fs) :
    Calls Try.prog 4 #[s, .string f.path, f.val.val] w fun e w' => e = .returned (.bool true) ∧ Adds w w' := by
  by_cases h40 : fs.length ≤ 40 ∧ f.path.size ≤ 1000
  · obtain ⟨hl4, hp4⟩ := h40
    have k16 := fun w' hA => set_any s fs f w' (h.adds hA)
    have k17 := fun w' hA => drop_any s fs f.path w' (h.adds hA)
    have k18 := fun w' hA => under_any s fs f.path w' (h.adds hA)
    have k19 := fun w' hA => get_any s fs f.path w' (h.adds hA) (by omega)
    have k20 := fun w' hA => refGet_any s fs f.path w' (h.adds hA) (by omega)
    obtain ⟨ao, cap, rfl, hcap, hlo⟩ := h
    have hfs : Lst w (.slice ao fs.length cap) fs := ⟨ao, cap, rfl, hcap, hlo⟩
    simp only [V.val] at k16 k19
    obtain ⟨g, hg⟩ : ∃ g, got f.path fs = g := ⟨_, rfl⟩
    obtain ⟨i, hi⟩ : ∃ i, placeOf f.path fs = i := ⟨_, rfl⟩
    obtain ⟨q, hq⟩ : ∃ q, decide (firstAt f.path fs < fs.length) = q := ⟨_, rfl⟩
    rw [hg, hq] at k19
    rw [hi] at k20
    have HG : Hid _ := hg
    have HI : Hid _ := hi
    have HQ : Hid _ := hq
    clear hg hi hq
    obtain ⟨v, hv⟩ : ∃ v, v = f.val := ⟨_, rfl⟩
    obtain ⟨p, hp⟩ : ∃ p, p = f.path := ⟨_, rfl⟩
    rw [← hp] at hp4
    simp only [← hv, ← hp, V.val] at k16 k17 k18 k19 k20 ⊢
    have HV : Hid _ := hv
    have HP : Hid _ := hp
    clear hv hp
    go_enter Try.func4, Try.ntmps4
    go_wp2_with (first
      | (go_at_call 16; refine (k16 _ (by repeat (first | with_reducible exact Adds.refl _ | with_reducible refine Adds.alloc ?_ _ | with_reducible refine Adds.more ?_ _ _ | with_reducible refine Adds.drew ?_ | with_reducible refine Adds.drewN ?_ _))).mono ?_; rintro e w1 ⟨r1, x1, rfl, ht1, os1, n1, rfl⟩)
      | (go_at_call 17; refine (k17 _ (by repeat (first | with_reducible exact Adds.refl _ | with_reducible refine Adds.alloc ?_ _ | with_reducible refine Adds.more ?_ _ _ | with_reducible refine Adds.drew ?_ | with_reducible refine Adds.drewN ?_ _))).mono ?_; rintro e w2 ⟨r2, x2, rfl, ht2, os2, n2, rfl⟩)
      | (go_at_call 18; refine (k18 _ (by repeat (first | with_reducible exact Adds.refl _ | with_reducible refine Adds.alloc ?_ _ | with_reducible refine Adds.more ?_ _ _ | with_reducible refine Adds.drew ?_ | with_reducible refine Adds.drewN ?_ _))).mono ?_; rintro e w3 ⟨r3, x3, rfl, ht3, os3, n3, rfl⟩)
      | (go_at_call 19; refine (k19 _ (by repeat (first | with_reducible exact Adds.refl _ | with_reducible refine Adds.alloc ?_ _ | with_reducible refine Adds.more ?_ _ _ | with_reducible refine Adds.drew ?_ | with_reducible refine Adds.drewN ?_ _))).mono ?_; rintro e w4 ⟨rfl, os4, n4, rfl⟩)
      | (go_at_call 20; refine (k20 _ (by repeat (first | with_reducible exact Adds.refl _ | with_reducible refine Adds.alloc ?_ _ | with_reducible refine Adds.more ?_ _ _ | with_reducible refine Adds.drew ?_ | with_reducible refine Adds.drewN ?_ _))).mono ?_; rintro e w5 ⟨rfl, hw⟩; subst w5))
    go_cut [7, 8, 9, 10, 11, 12, 15, 79] from 18 (fun r1 e1 r2 e2 r3 e3 iv qv wc => ∃ x1 x2 x3, e1 = .int .i64 x1 ∧ e2 = .int .i64 x2 ∧ e3 = .int .i64 x3 ∧ iv = .int .i64 i ∧ qv = .bool false ∧ SetTold fs f wc r1 x1 ∧ Told (May fs) (dropDoc fs p) wc r2 x2 ∧ Told (May fs) (underDoc fs p) wc r3 x3 ∧ Adds (w.alloc (.cells #[.int .i64 v.kind, .int .i64 v.num, .string v.text, .int .i64 v.re, .int .i64 v.im] 34)) wc)
    case rest =>
      clear ht1 ht2 ht3
      obtain ⟨x1, x2, x3, rfl, rfl, rfl, rfl, rfl, t1, t2, t3, os, n, rfl⟩ := hcut
      have HT1 : Hid _ := t1
      have HT2 : Hid _ := t2
      have HT3 : Hid _ := t3
      clear t1 t2 t3 k16 k17 k18 k19 k20
      by_cases hM : May fs
      · have hr := hM.rises
        have k13y := fun w' hA => refMay_yes _ fs w' (hfs.adds hA) hM
        have k22 := fun w' hA => refDrop_any _ fs p w' (hfs.adds hA) (by omega)
        have k23 := fun w' hA => refUnder_any _ fs p w' (hfs.adds hA) (by omega)
        have k10 := refPath_any f.path f.fits
        have k24 := refCheck_any f.val
        have k25 := fun w' hA => refSet_any _ fs f w' (hfs.adds hA) (by omega)
        rw [putSet_setDoc f hr] at k25
        obtain ⟨hx2, l2⟩ := HT2.out.2 hM
        obtain ⟨hx3, l3⟩ := HT3.out.2 hM
        rw [dropDoc_without p hr] at l2
        have hb9 : (without fs p).length ≤ 1000 := Nat.le_trans (List.length_filter_le _ _) (by omega)
        have hb10 : (underDoc fs p).length ≤ 1000 := Nat.le_trans (List.length_filter_le _ _) (by omega)
        subst hx2 hx3
        have T1 := HT1.out
        have gotE := (firstAt_setDoc fs f).2
        have firstE : decide (firstAt f.path (setDoc fs f) < (setDoc fs f).length) = true := decide_eq_true (firstAt_setDoc fs f).1
        have hset : SetOk fs f ↔ isPath f.path = true ∧ f.val.check = 0 := ⟨fun h => h.2, fun h => ⟨hM, h⟩⟩
        have hH := hasAt_first f.path hr
        have hI := HI.out
        have hmay := fun h1 h2 => setDoc_may (l := fs) (f := f) h1 h2
        have hbl : (setDoc fs f).length ≤ 1000 := by
          rw [setDoc_length]
          split <;> omega
        obtain ⟨L9, hL9⟩ : ∃ L, L = without fs p := ⟨_, rfl⟩
        obtain ⟨L10, hL10⟩ : ∃ L, L = underDoc fs p := ⟨_, rfl⟩
        simp only [← hL9, ← hL10] at k22 k23 l2 l3 hb9 hb10
        have eV := HV.out
        have eP := HP.out
        simp only [← eV, ← eP, V.val] at k10 k22 k23 k24 k25 gotE firstE hset
        clear HT1 HT2 HT3 hL9 hL10 eV eP
        by_cases hO : isPath p = true ∧ v.check = 0
        · have hok : SetOk fs f := hset.2 hO
          rw [hO.1] at k10
          rw [hO.2] at k24
          have hel := run_eql_self v
          by_cases hF : firstAt f.path fs < fs.length
          · have h2 : hasAt f.path fs = true := by rw [hH]; exact decide_eq_true hF
            obtain ⟨hx1, l1⟩ := T1.2.2 hok (.inl h2)
            have hmS := hmay hok (.inl h2)
            have hi0 : i = (firstAt f.path fs : Int) := by rw [← hI, placeOf, if_pos hF]
            have hi1 : ¬ i < 0 := by omega
            subst hx1
            have hb1 := hbl
            generalize setDoc fs f = S at *
            clear T1 hset hmay hH hI hi0 hF h2 hO hok HI HQ HG
            go_wp2_with (first
              | (go_at_call 13; (with_reducible refine (k13y _ (by repeat (first | with_reducible exact Adds.refl _ | with_reducible refine Adds.alloc ?_ _ | with_reducible refine Adds.more ?_ _ _ | with_reducible refine Adds.drew ?_ | with_reducible refine Adds.drewN ?_ _))).mono ?_); rintro e w6 ⟨rfl, os6, n6, rfl⟩)
              | (go_at_call 22; refine (k22 _ (by repeat (first | with_reducible exact Adds.refl _ | with_reducible refine Adds.alloc ?_ _ | with_reducible refine Adds.more ?_ _ _ | with_reducible refine Adds.drew ?_ | with_reducible refine Adds.drewN ?_ _))).mono ?_; rintro e w9 ⟨r9, rfl, l9, os9, n9, rfl⟩)
              | (go_at_call 23; refine (k23 _ (by repeat (first | with_reducible exact Adds.refl _ | with_reducible refine Adds.alloc ?_ _ | with_reducible refine Adds.more ?_ _ _ | with_reducible refine Adds.drew ?_ | with_reducible refine Adds.drewN ?_ _))).mono ?_; rintro e w10 ⟨r10, rfl, l10, os10, n10, rfl⟩)
              | (go_at_call 15; (with_reducible refine (refSame_eq _ _ _ _ (l2.adds (by repeat (first | with_reducible exact Adds.refl _ | with_reducible refine Adds.alloc ?_ _ | with_reducible refine Adds.more ?_ _ _ | with_reducible refine Adds.drew ?_ | with_reducible refine Adds.drewN ?_ _))) l9 hb9).mono ?_); rintro e w11 ⟨rfl, os11, n11, rfl⟩)
              | (go_at_call 15; (with_reducible refine (refSame_eq _ _ _ _ (l3.adds (by repeat (first | with_reducible exact Adds.refl _ | with_reducible refine Adds.alloc ?_ _ | with_reducible refine Adds.more ?_ _ _ | with_reducible refine Adds.drew ?_ | with_reducible refine Adds.drewN ?_ _))) l10 hb10).mono ?_); rintro e w12 ⟨rfl, os12, n12, rfl⟩)
              | (go_at_call 10; refine (k10 _).mono ?_; rintro e w13 ⟨rfl, hw⟩; subst w13)
              | (go_at_call 24; refine (k24 _).mono ?_; rintro e w14 ⟨rfl, os14, n14, rfl⟩)
              | (go_at_call 19; refine (get_any _ _ _ _ (l1.adds (by repeat (first | with_reducible exact Adds.refl _ | with_reducible refine Adds.alloc ?_ _ | with_reducible refine Adds.more ?_ _ _ | with_reducible refine Adds.drew ?_ | with_reducible refine Adds.drewN ?_ _))) hb1).mono ?_; rw [gotE, firstE, V.val]; rintro e w15 ⟨rfl, os15, n15, rfl⟩)
              | (go_at_call 25; refine (k25 _ (by repeat (first | with_reducible exact Adds.refl _ | with_reducible refine Adds.alloc ?_ _ | with_reducible refine Adds.more ?_ _ _ | with_reducible refine Adds.drew ?_ | with_reducible refine Adds.drewN ?_ _))).mono ?_; rintro e w16 ⟨r16, rfl, l16, os16, n16, rfl⟩)
              | (go_at_call 15; (with_reducible refine (refSame_eq _ _ _ _ (l1.adds (by repeat (first | with_reducible exact Adds.refl _ | with_reducible refine Adds.alloc ?_ _ | with_reducible refine Adds.more ?_ _ _ | with_reducible refine Adds.drew ?_ | with_reducible refine Adds.drewN ?_ _))) l16 hb1).mono ?_); rintro e w17 ⟨rfl, os17, n17, rfl⟩)
              | (go_at_call 13; (with_reducible refine (refMay_yes _ _ _ (l1.adds (by repeat (first | with_reducible exact Adds.refl _ | with_reducible refine Adds.alloc ?_ _ | with_reducible refine Adds.more ?_ _ _ | with_reducible refine Adds.drew ?_ | with_reducible refine Adds.drewN ?_ _))) hmS).mono ?_); rintro e w18 ⟨rfl, os18, n18, rfl⟩)
              | (go_at_call 8; refine (awake_any _).mono ?_; rintro e w8 ⟨rfl, os8, n8, rfl⟩))
            all_goals
              go_ret
              refine ⟨rfl, ?_⟩
              repeat (first | with_reducible exact Adds.refl _ | with_reducible refine Adds.alloc ?_ _ | with_reducible refine Adds.more ?_ _ _ | with_reducible refine Adds.drew ?_ | with_reducible refine Adds.drewN ?_ _)
          · have h2 : hasAt f.path fs = false := by rw [hH]; exact decide_eq_false hF
            have hi0 : i = -1 := by rw [← hI, placeOf, if_neg hF]
            by_cases h16 : fs.length = 16
            · obtain ⟨rfl, rfl⟩ := T1.2.1 hok h2 h16
              simp only [h16] at k13y k22 k23
              clear T1 hset hmay hH hI hF h2 hO hok HI HQ HG gotE firstE
              subst hi0
              go_wp2_with (first
                | (go_at_call 13; (with_reducible refine (k13y _ (by repeat (first | with_reducible exact Adds.refl _ | with_reducible refine Adds.alloc ?_ _ | with_reducible refine Adds.more ?_ _ _ | with_reducible refine Adds.drew ?_ | with_reducible refine Adds.drewN ?_ _))).mono ?_); rintro e w6 ⟨rfl, os6, n6, rfl⟩)
                | (go_at_call 22; refine (k22 _ (by repeat (first | with_reducible exact Adds.refl _ | with_reducible refine Adds.alloc ?_ _ | with_reducible refine Adds.more ?_ _ _ | with_reducible refine Adds.drew ?_ | with_reducible refine Adds.drewN ?_ _))).mono ?_; rintro e w9 ⟨r9, rfl, l9, os9, n9, rfl⟩)
                | (go_at_call 23; refine (k23 _ (by repeat (first | with_reducible exact Adds.refl _ | with_reducible refine Adds.alloc ?_ _ | with_reducible refine Adds.more ?_ _ _ | with_reducible refine Adds.drew ?_ | with_reducible refine Adds.drewN ?_ _))).mono ?_; rintro e w10 ⟨r10, rfl, l10, os10, n10, rfl⟩)
                | (go_at_call 15; (with_reducible refine (refSame_eq _ _ _ _ (l2.adds (by repeat (first | with_reducible exact Adds.refl _ | with_reducible refine Adds.alloc ?_ _ | with_reducible refine Adds.more ?_ _ _ | with_reducible refine Adds.drew ?_ | with_reducible refine Adds.drewN ?_ _))) l9 hb9).mono ?_); rintro e w11 ⟨rfl, os11, n11, rfl⟩)
                | (go_at_call 15; (with_reducible refine (refSame_eq _ _ _ _ (l3.adds (by repeat (first | with_reducible exact Adds.refl _ | with_reducible refine Adds.alloc ?_ _ | with_reducible refine Adds.more ?_ _ _ | with_reducible refine Adds.drew ?_ | with_reducible refine Adds.drewN ?_ _))) l10 hb10).mono ?_); rintro e w12 ⟨rfl, os12, n12, rfl⟩)
                | (go_at_call 10; refine (k10 _).mono ?_; rintro e w13 ⟨rfl, hw⟩; subst w13)
                | (go_at_call 24; refine (k24 _).mono ?_; rintro e w14 ⟨rfl, os14, n14, rfl⟩)
                | (go_at_call 21; refine (none_yes _ _).mono ?_; rintro e w7 ⟨rfl, hw⟩; subst w7)
                | (go_at_call 8; refine (awake_any _).mono ?_; rintro e w8 ⟨rfl, os8, n8, rfl⟩))
              all_goals
                go_ret
                refine ⟨rfl, ?_⟩
                repeat (first | with_reducible exact Adds.refl _ | with_reducible refine Adds.alloc ?_ _ | with_reducible refine Adds.more ?_ _ _ | with_reducible refine Adds.drew ?_ | with_reducible refine Adds.drewN ?_ _)
            · have h16' : fs.length < 16 := by have := hM.1; omega
              have h16'' : ((fs.length : Int) == 16) = false := by simp; omega
              obtain ⟨hx1, l1⟩ := T1.2.2 hok (.inr h16')
              have hmS := hmay hok (.inr h16')
              subst hx1
              have hb1 := hbl
              generalize setDoc fs f = S at *
              clear T1 hset hmay hH hI hF h2 hO hok HI HQ HG
              subst hi0
              go_wp2_with (first
                | (go_at_call 13; (with_reducible refine (k13y _ (by repeat (first | with_reducible exact Adds.refl _ | with_reducible refine Adds.alloc ?_ _ | with_reducible refine Adds.more ?_ _ _ | with_reducible refine Adds.drew ?_ | with_reducible refine Adds.drewN ?_ _))).mono ?_); rintro e w6 ⟨rfl, os6, n6, rfl⟩)
                | (go_at_call 22; refine (k22 _ (by repeat (first | with_reducible exact Adds.refl _ | with_reducible refine Adds.alloc ?_ _ | with_reducible refine Adds.more ?_ _ _ | with_reducible refine Adds.drew ?_ | with_reducible refine Adds.drewN ?_ _))).mono ?_; rintro e w9 ⟨r9, rfl, l9, os9, n9, rfl⟩)
                | (go_at_call 23; refine (k23 _ (by repeat (first | with_reducible exact Adds.refl _ | with_reducible refine Adds.alloc ?_ _ | with_reducible refine Adds.more ?_ _ _ | with_reducible refine Adds.drew ?_ | with_reducible refine Adds.drewN ?_ _))).mono ?_; rintro e w10 ⟨r10, rfl, l10, os10, n10, rfl⟩)
                | (go_at_call 15; (with_reducible refine (refSame_eq _ _ _ _ (l2.adds (by repeat (first | with_reducible exact Adds.refl _ | with_reducible refine Adds.alloc ?_ _ | with_reducible refine Adds.more ?_ _ _ | with_reducible refine Adds.drew ?_ | with_reducible refine Adds.drewN ?_ _))) l9 hb9).mono ?_); rintro e w11 ⟨rfl, os11, n11, rfl⟩)
                | (go_at_call 15; (with_reducible refine (refSame_eq _ _ _ _ (l3.adds (by repeat (first | with_reducible exact Adds.refl _ | with_reducible refine Adds.alloc ?_ _ | with_reducible refine Adds.more ?_ _ _ | with_reducible refine Adds.drew ?_ | with_reducible refine Adds.drewN ?_ _))) l10 hb10).mono ?_); rintro e w12 ⟨rfl, os12, n12, rfl⟩)
                | (go_at_call 10; refine (k10 _).mono ?_; rintro e w13 ⟨rfl, hw⟩; subst w13)
                | (go_at_call 24; refine (k24 _).mono ?_; rintro e w14 ⟨rfl, os14, n14, rfl⟩)
                | (go_at_call 19; refine (get_any _ _ _ _ (l1.adds (by repeat (first | with_reducible exact Adds.refl _ | with_reducible refine Adds.alloc ?_ _ | with_reducible refine Adds.more ?_ _ _ | with_reducible refine Adds.drew ?_ | with_reducible refine Adds.drewN ?_ _))) hb1).mono ?_; rw [gotE, firstE, V.val]; rintro e w15 ⟨rfl, os15, n15, rfl⟩)
                | (go_at_call 25; refine (k25 _ (by repeat (first | with_reducible exact Adds.refl _ | with_reducible refine Adds.alloc ?_ _ | with_reducible refine Adds.more ?_ _ _ | with_reducible refine Adds.drew ?_ | with_reducible refine Adds.drewN ?_ _))).mono ?_; rintro e w16 ⟨r16, rfl, l16, os16, n16, rfl⟩)
                | (go_at_call 15; (with_reducible refine (refSame_eq _ _ _ _ (l1.adds (by repeat (first | with_reducible exact Adds.refl _ | with_reducible refine Adds.alloc ?_ _ | with_reducible refine Adds.more ?_ _ _ | with_reducible refine Adds.drew ?_ | with_reducible refine Adds.drewN ?_ _))) l16 hb1).mono ?_); rintro e w17 ⟨rfl, os17, n17, rfl⟩)
                | (go_at_call 13; (with_reducible refine (refMay_yes _ _ _ (l1.adds (by repeat (first | with_reducible exact Adds.refl _ | with_reducible refine Adds.alloc ?_ _ | with_reducible refine Adds.more ?_ _ _ | with_reducible refine Adds.drew ?_ | with_reducible refine Adds.drewN ?_ _))) hmS).mono ?_); rintro e w18 ⟨rfl, os18, n18, rfl⟩)
                | (go_at_call 8; refine (awake_any _).mono ?_; rintro e w8 ⟨rfl, os8, n8, rfl⟩))
              all_goals
                go_ret
                refine ⟨rfl, ?_⟩
                repeat (first | with_reducible exact Adds.refl _ | with_reducible refine Adds.alloc ?_ _ | with_reducible refine Adds.more ?_ _ _ | with_reducible refine Adds.drew ?_ | with_reducible refine Adds.drewN ?_ _)
        · have hno : ¬ SetOk fs f := fun h => hO (hset.1 h)
          obtain ⟨rfl, rfl⟩ := T1.1 hno
          clear T1 hset hmay hH hI hno HI HQ HG gotE firstE
          by_cases hpt : isPath p = true
          · rw [hpt] at k10
            have hck : ¬ v.check = 0 := fun h => hO ⟨hpt, h⟩
            have hck' : (v.check != 0) = true := by simp [hck]
            generalize v.check = z at *
            clear hO hpt
            go_wp2_with (first
              | (go_at_call 13; (with_reducible refine (k13y _ (by repeat (first | with_reducible exact Adds.refl _ | with_reducible refine Adds.alloc ?_ _ | with_reducible refine Adds.more ?_ _ _ | with_reducible refine Adds.drew ?_ | with_reducible refine Adds.drewN ?_ _))).mono ?_); rintro e w6 ⟨rfl, os6, n6, rfl⟩)
              | (go_at_call 22; refine (k22 _ (by repeat (first | with_reducible exact Adds.refl _ | with_reducible refine Adds.alloc ?_ _ | with_reducible refine Adds.more ?_ _ _ | with_reducible refine Adds.drew ?_ | with_reducible refine Adds.drewN ?_ _))).mono ?_; rintro e w9 ⟨r9, rfl, l9, os9, n9, rfl⟩)
              | (go_at_call 23; refine (k23 _ (by repeat (first | with_reducible exact Adds.refl _ | with_reducible refine Adds.alloc ?_ _ | with_reducible refine Adds.more ?_ _ _ | with_reducible refine Adds.drew ?_ | with_reducible refine Adds.drewN ?_ _))).mono ?_; rintro e w10 ⟨r10, rfl, l10, os10, n10, rfl⟩)
              | (go_at_call 15; (with_reducible refine (refSame_eq _ _ _ _ (l2.adds (by repeat (first | with_reducible exact Adds.refl _ | with_reducible refine Adds.alloc ?_ _ | with_reducible refine Adds.more ?_ _ _ | with_reducible refine Adds.drew ?_ | with_reducible refine Adds.drewN ?_ _))) l9 hb9).mono ?_); rintro e w11 ⟨rfl, os11, n11, rfl⟩)
              | (go_at_call 15; (with_reducible refine (refSame_eq _ _ _ _ (l3.adds (by repeat (first | with_reducible exact Adds.refl _ | with_reducible refine Adds.alloc ?_ _ | with_reducible refine Adds.more ?_ _ _ | with_reducible refine Adds.drew ?_ | with_reducible refine Adds.drewN ?_ _))) l10 hb10).mono ?_); rintro e w12 ⟨rfl, os12, n12, rfl⟩)
              | (go_at_call 10; refine (k10 _).mono ?_; rintro e w13 ⟨rfl, hw⟩; subst w13)
              | (go_at_call 24; refine (k24 _).mono ?_; rintro e w14 ⟨rfl, os14, n14, rfl⟩)
              | (go_at_call 21; refine (none_yes _ _).mono ?_; rintro e w7 ⟨rfl, hw⟩; subst w7)
              | (go_at_call 8; refine (awake_any _).mono ?_; rintro e w8 ⟨rfl, os8, n8, rfl⟩))
            all_goals
              go_ret
              refine ⟨rfl, ?_⟩
              repeat (first | with_reducible exact Adds.refl _ | with_reducible refine Adds.alloc ?_ _ | with_reducible refine Adds.more ?_ _ _ | with_reducible refine Adds.drew ?_ | with_reducible refine Adds.drewN ?_ _)
          · have hpt' : isPath p = false := by simpa using hpt
            rw [hpt'] at k10
            clear hO hpt hpt'
            go_wp2_with (first
              | (go_at_call 13; (with_reducible refine (k13y _ (by repeat (first | with_reducible exact Adds.refl _ | with_reducible refine Adds.alloc ?_ _ | with_reducible refine Adds.more ?_ _ _ | with_reducible refine Adds.drew ?_ | with_reducible refine Adds.drewN ?_ _))).mono ?_); rintro e w6 ⟨rfl, os6, n6, rfl⟩)
              | (go_at_call 22; refine (k22 _ (by repeat (first | with_reducible exact Adds.refl _ | with_reducible refine Adds.alloc ?_ _ | with_reducible refine Adds.more ?_ _ _ | with_reducible refine Adds.drew ?_ | with_reducible refine Adds.drewN ?_ _))).mono ?_; rintro e w9 ⟨r9, rfl, l9, os9, n9, rfl⟩)
              | (go_at_call 23; refine (k23 _ (by repeat (first | with_reducible exact Adds.refl _ | with_reducible refine Adds.alloc ?_ _ | with_reducible refine Adds.more ?_ _ _ | with_reducible refine Adds.drew ?_ | with_reducible refine Adds.drewN ?_ _))).mono ?_; rintro e w10 ⟨r10, rfl, l10, os10, n10, rfl⟩)
              | (go_at_call 15; (with_reducible refine (refSame_eq _ _ _ _ (l2.adds (by repeat (first | with_reducible exact Adds.refl _ | with_reducible refine Adds.alloc ?_ _ | with_reducible refine Adds.more ?_ _ _ | with_reducible refine Adds.drew ?_ | with_reducible refine Adds.drewN ?_ _))) l9 hb9).mono ?_); rintro e w11 ⟨rfl, os11, n11, rfl⟩)
              | (go_at_call 15; (with_reducible refine (refSame_eq _ _ _ _ (l3.adds (by repeat (first | with_reducible exact Adds.refl _ | with_reducible refine Adds.alloc ?_ _ | with_reducible refine Adds.more ?_ _ _ | with_reducible refine Adds.drew ?_ | with_reducible refine Adds.drewN ?_ _))) l10 hb10).mono ?_); rintro e w12 ⟨rfl, os12, n12, rfl⟩)
              | (go_at_call 10; refine (k10 _).mono ?_; rintro e w13 ⟨rfl, hw⟩; subst w13)
              | (go_at_call 24; refine (k24 _).mono ?_; rintro e w14 ⟨rfl, os14, n14, rfl⟩)
              | (go_at_call 21; refine (none_yes _ _).mono ?_; rintro e w7 ⟨rfl, hw⟩; subst w7)
              | (go_at_call 8; refine (awake_any _).mono ?_; rintro e w8 ⟨rfl, os8, n8, rfl⟩))
            all_goals
              go_ret
              refine ⟨rfl, ?_⟩
              repeat (first | with_reducible exact Adds.refl _ | with_reducible refine Adds.alloc ?_ _ | with_reducible refine Adds.more ?_ _ _ | with_reducible refine Adds.drew ?_ | with_reducible refine Adds.drewN ?_ _)
      · have hno : ¬ SetOk fs f := fun h => hM h.1
        obtain ⟨rfl, rfl⟩ := HT1.out.1 hno
        obtain ⟨rfl, rfl⟩ := HT2.out.1 hM
        obtain ⟨rfl, rfl⟩ := HT3.out.1 hM
        have k13n := fun w' hA => refMay_no _ fs w' (hfs.adds hA) (by omega) hM
        clear HT1 HT2 HT3 hM hno
        go_wp2_with (first
          | (go_at_call 13; refine (k13n _ (by repeat (first | with_reducible exact Adds.refl _ | with_reducible refine Adds.alloc ?_ _ | with_reducible refine Adds.more ?_ _ _ | with_reducible refine Adds.drew ?_ | with_reducible refine Adds.drewN ?_ _))).mono ?_; rintro e w6 ⟨rfl, os6, n6, rfl⟩)
          | (go_at_call 21; refine (none_yes _ _).mono ?_; rintro e w7 ⟨rfl, hw⟩; subst w7)
          | (go_at_call 8; refine (awake_any _).mono ?_; rintro e w8 ⟨rfl, os8, n8, rfl⟩))
        all_goals
          go_ret
          refine ⟨rfl, ?_⟩
          repeat (first | with_reducible exact Adds.refl _ | with_reducible refine Adds.alloc ?_ _ | with_reducible refine Adds.more ?_ _ _ | with_reducible refine Adds.drew ?_ | with_reducible refine Adds.drewN ?_ _)
    case first =>
      have hI := HI.out
      have hQ := HQ.out
      have hG := HG.out
      by_cases hF : firstAt f.path fs < fs.length
      · rw [decide_eq_true hF] at hQ
        rw [placeOf, if_pos hF] at hI
        rw [got_at hF] at hG
        rcases hlo with rfl | ⟨b, off, rfl, hbb, hl⟩
        · simp at hF
        obtain ⟨c0, c1, c2, c3, c4, c5⟩ := hl (firstAt f.path fs) hF
        rw [hG] at c1 c2 c3 c4 c5
        have hne := run_neq_self g
        clear hG c0
        generalize firstAt f.path fs = m at *
        subst hQ hI
        clear HI HQ HG
        go_quiet (fail)
        go_wp2
        go_meet
        exact ⟨x1, x2, x3, rfl, rfl, rfl, rfl, rfl, ht1.adds (by repeat (first | with_reducible exact Adds.refl _ | with_reducible refine Adds.alloc ?_ _ | with_reducible refine Adds.more ?_ _ _ | with_reducible refine Adds.drew ?_ | with_reducible refine Adds.drewN ?_ _)), ht2.adds (by repeat (first | with_reducible exact Adds.refl _ | with_reducible refine Adds.alloc ?_ _ | with_reducible refine Adds.more ?_ _ _ | with_reducible refine Adds.drew ?_ | with_reducible refine Adds.drewN ?_ _)), ht3.adds (by repeat (first | with_reducible exact Adds.refl _ | with_reducible refine Adds.alloc ?_ _ | with_reducible refine Adds.more ?_ _ _ | with_reducible refine Adds.drew ?_ | with_reducible refine Adds.drewN ?_ _)), by repeat (first | with_reducible exact Adds.refl _ | with_reducible refine Adds.alloc ?_ _ | with_reducible refine Adds.more ?_ _ _ | with_reducible refine Adds.drew ?_ | with_reducible refine Adds.drewN ?_ _)⟩
      · rw [decide_eq_false hF] at hQ
        rw [placeOf, if_neg hF] at hI
        rw [got_none hF] at hG
        subst hQ hI hG
        clear HI HQ HG
        go_quiet (fail)
        go_wp2
        go_meet
        exact ⟨x1, x2, x3, rfl, rfl, rfl, rfl, rfl, ht1.adds (by repeat (first | with_reducible exact Adds.refl _ | with_reducible refine Adds.alloc ?_ _ | with_reducible refine Adds.more ?_ _ _ | with_reducible refine Adds.drew ?_ | with_reducible refine Adds.drewN ?_ _)), ht2.adds (by repeat (first | with_reducible exact Adds.refl _ | with_reducible refine Adds.alloc ?_ _ | with_reducible refine Adds.more ?_ _ _ | with_reducible refine Adds.drew ?_ | with_reducible refine Adds.drewN ?_ _)), ht3.adds (by repeat (first | with_reducible exact Adds.refl _ | with_reducible refine Adds.alloc ?_ _ | with_reducible refine Adds.more ?_ _ _ | with_reducible refine Adds.drew ?_ | with_reducible refine Adds.drewN ?_ _)), by repeat (first | with_reducible exact Adds.refl _ | with_reducible refine Adds.alloc ?_ _ | with_reducible refine Adds.more ?_ _ _ | with_reducible refine Adds.drew ?_ | with_reducible refine Adds.drewN ?_ _)⟩
  · have h' : ¬ ((fs.length : Int) ≤ 40 ∧ (f.path.size : Int) ≤ 1000) := by omega
    obtain ⟨ao, cap, rfl, hcap, hlo⟩ := h
    simp only [V.val]
    generalize f.path = p at *
    generalize f.val = v at *
    go_enter Try.func4, Try.ntmps4
    go_wp2_with (first
      | (go_at_call 8; refine (awake_any _).mono ?_; rintro e w1 ⟨rfl, os5, n5, rfl⟩))
    all_goals first
      | (go_ret
         refine ⟨rfl, ?_⟩
         repeat (first | with_reducible exact Adds.refl _ | with_reducible refine Adds.alloc ?_ _ | with_reducible refine Adds.more ?_ _ _ | with_reducible refine Adds.drew ?_ | with_reducible refine Adds.drewN ?_ _))
      | (exfalso; omega)

end Go.Proofs.Ytcgbhbbljjdejaa
