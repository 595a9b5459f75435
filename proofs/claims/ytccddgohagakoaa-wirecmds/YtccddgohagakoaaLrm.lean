/-
  The reference's many, and its Check, by contracts, of any tree whose numbers may be too great.
-/
import Derived.Test.YtccddgohagakoaaLrc
namespace Go.Proofs.Ytccddgohagakoaa
open Go.RowKit
attribute [local go_sem] cell?_more frozen?_more setCell_more size_more tape_more drew_more drewN_more more_drew more_drewN one_out plus_out plus_end lt_one le_p2 le_p3 le_p4 le_p5 le_p6 le_p7 le_p8 le_p9 le_p10 le_p11 le_p12 le_p13 le_p14 le_p15 le_p16 le_p17 le_p18 le_p19 le_p20 le_p21 le_p22 le_p23 le_p24 le_q0 le_q1 lt_q1 le_q2 lt_q2 le_q3 lt_q3 le_q4 lt_q4 le_q5 lt_q5 le_q6 lt_q6 le_q7 lt_q7 le_q8 lt_q8 le_q9 lt_q9 le_q10 lt_q10 le_q11 lt_q11 le_q12 lt_q12 le_q13 lt_q13 le_q14 lt_q14 le_q15 lt_q15 le_q16 lt_q16 le_q17 lt_q17 le_q18 lt_q18 le_q19 lt_q19 le_q20 lt_q20 le_q21 lt_q21 le_q22 lt_q22 le_q23 lt_q23 le_q24 lt_q24

def ManyOk (d : Nat) : Prop := ∀ (t : T) (s : Value) (c : Nat) (ok : Nat → Prop) (w : World), Tr ok d w s t.list → plT (d + 1) t → c + sizeT (d + 1) t ≤ 4096 →
  Calls Try.prog 43 #[.agg #[.int .i64 t.kind, .int .i64 t.num, .string t.text, s], .int .i64 (c : Int)] w fun e w' => e = .returned (.int .i64 ((c + sizeT (d + 1) t : Nat) : Int)) ∧ Adds w w'

theorem plT_text {lv : Nat} {t : T} (h : plT lv t) : t.text.size ≤ 65536 := by
  cases lv with
  | zero => exact h.elim
  | succ lv =>
    rcases h with ⟨_, h, _⟩ | ⟨_, _, h, _⟩ | ⟨_, _, h, _⟩
    · rw [h]; decide
    · exact h
    · rw [h]; decide

theorem plT_list {d : Nat} {t : T} (h : plT (d + 1) t) : ∀ x ∈ t.list, plT d x := by
  rcases h with ⟨_, _, h⟩ | ⟨_, _, _, h⟩ | ⟨_, _, _, h⟩
  · rw [h]; simp
  · rw [h]; simp
  · exact h

set_option maxRecDepth 20000 in
set_option maxHeartbeats 2000000 in
theorem many_step (d : Nat) (ih : ∀ d', d = d' + 1 → ManyOk d') : ManyOk d := by
  intro t s c ok w ht hok hz
  have HT : Hid _ := ht
  obtain ⟨ao, cap, rfl⟩ := ht.shape
  have HI : Hid _ := ih
  have HOK : Hid (∀ x ∈ t.list, plT d x) := plT_list hok
  have hx6 : ¬ (65536 : Int) < (t.text.size : Int) := by have := plT_text hok; omega
  obtain ⟨k, n, x, ts⟩ := t
  simp only [T.kind, T.num, T.text, T.list] at *
  have hzz : sizeT (d + 1) (.mk k n x ts) = 1 + (ts.map (sizeT d)).sum := rfl
  rw [hzz] at hz ⊢
  have hlen : ts.length ≤ 4096 := by have := len_le_sum d ts; omega
  have HZ : Hid (c + (1 + (ts.map (sizeT d)).sum) ≤ 4096) := hz
  have hc4 : c + 1 ≤ 4096 := by omega
  clear ht ih hok hz hzz
  go_enter Try.func43, Try.ntmps43
  go_wp2
  go_loopw [1, 5] (fun nv iv wr => ∃ i : Nat, i ≤ ts.length ∧ iv = .int .i64 i ∧ nv = .int .i64 ((c + 1 + sumT d ts i : Nat) : Int) ∧ Adds (w.alloc (.cells #[.int .i64 k, .int .i64 n, .string x, .slice ao ts.length cap] 43)) wr) (fun _ iv _ => ts.length - (intOf iv).toNat)
  case atStart => exact ⟨0, by omega, rfl, by go_num, Adds.refl _⟩
  case round =>
    obtain ⟨i, hi, rfl, rfl, os1, n1, rfl⟩ := hrel
    have hsi := sumT_le d ts i
    have hm4 : ((c + 1 + sumT d ts i : Nat) : Int) ≤ 4096 := by have := HZ.out; omega
    by_cases hlt : i < ts.length
    · have hltI : (i : Int) < (ts.length : Int) := by omega
      cases d with
      | zero =>
        obtain ⟨hnil, _⟩ := HT.out
        have hnil : ts = [] := hnil
        rw [hnil] at hlt
        simp at hlt
      | succ d =>
        obtain ⟨ao', cap', he, _, hx⟩ := HT.out
        simp only [Value.slice.injEq] at he
        obtain ⟨rfl, _, rfl⟩ := he
        rcases hx with hx | ⟨b, off, rfl, hb, _, hx⟩
        · have hx : ts = [] := hx
          rw [hx] at hlt
          simp at hlt
        obtain ⟨y, ⟨c0, c1, c2, c3⟩, _, hTy⟩ := hx i hlt
        have hn := sumT_next (d := d + 1) hlt
        have hs := sumT_le (d + 1) ts (i + 1)
        have HN : Hid (c + 1 + sumT (d + 1) ts i + sizeT (d + 1) ts[i] = c + 1 + sumT (d + 1) ts (i + 1)) := by
          show _ = _
          omega
        have HX : Hid (∀ W, Adds w W → Calls Try.prog 43 #[.agg #[.int .i64 ts[i].kind, .int .i64 ts[i].num, .string ts[i].text, y], .int .i64 ((c + 1 + sumT (d + 1) ts i : Nat) : Int)] W fun e w' => e = .returned (.int .i64 ((c + 1 + sumT (d + 1) ts (i + 1) : Nat) : Int)) ∧ Adds W w') := fun W hA => by
          have := HI.out d rfl ts[i] y (c + 1 + sumT (d + 1) ts i) _ W (hTy.adds hA) (HOK.out _ (List.getElem_mem hlt)) (by have := HZ.out; omega)
          rw [HN.out] at this
          exact this
        obtain ⟨yo, yc, rfl⟩ := hTy.shape
        clear hx hTy hn hs hsi
        generalize ts[i] = t at *
        obtain ⟨m2, hm2⟩ : ∃ m2, m2 = c + 1 + sumT (d + 1) ts (i + 1) := ⟨_, rfl⟩
        have HM2 : Hid _ := hm2
        rw [← hm2] at HX
        clear hm2 HN
        generalize c + 1 + sumT (d + 1) ts i = m1 at *
        go_wp2_with (go_at_call 43; refine (HX.out _ (by repeat (first | with_reducible exact Adds.refl _ | with_reducible refine Adds.alloc ?_ _ | with_reducible refine Adds.more ?_ _ _ | with_reducible refine Adds.drew ?_ | with_reducible refine Adds.drewN ?_ _))).mono ?_; rintro e w3 ⟨rfl, os3, n3, rfl⟩)
        go_roundw
        case rel => exact ⟨i + 1, by omega, by go_num, by rw [HM2.out], (by repeat (first | with_reducible exact Adds.refl _ | with_reducible refine Adds.alloc ?_ _ | with_reducible refine Adds.more ?_ _ _ | with_reducible refine Adds.drew ?_ | with_reducible refine Adds.drewN ?_ _))⟩
        case measure => simp [intOf]; omega
    · have hltI : ¬ (i : Int) < (ts.length : Int) := by omega
      have HE : Hid (c + 1 + sumT d ts i = c + (1 + (ts.map (sizeT d)).sum)) := by
        show _ = _
        unfold sumT
        rw [List.take_of_length_le (by omega)]
        omega
      generalize c + 1 + sumT d ts i = m1 at *
      go_wp2
      go_ret
      exact ⟨by rw [HE.out]; rfl, (by repeat (first | with_reducible exact Adds.refl _ | with_reducible refine Adds.alloc ?_ _ | with_reducible refine Adds.more ?_ _ _ | with_reducible refine Adds.drew ?_ | with_reducible refine Adds.drewN ?_ _))⟩

theorem many_ok : ∀ d, ManyOk d := by
  intro d
  induction d with
  | zero => exact many_step 0 (fun d' e => by omega)
  | succ d ih =>
    exact many_step (d + 1) (fun d' e => by
      have e' : d = d' := by omega
      subst e'
      exact ih)

set_option maxRecDepth 20000 in
set_option maxHeartbeats 2000000 in
theorem rcheck_any (d : Nat) (t : T) (s : Value) (ok : Nat → Prop) (w : World) (h : Tr ok d w s t.list) (hok : plT (d + 1) t) (hd : d ≤ 11) (hz : sizeT (d + 1) t ≤ 4096) :
    Calls Try.prog 22 #[.agg #[.int .i64 t.kind, .int .i64 t.num, .string t.text, s]] w fun e w' => e = .returned (.int .i64 (codeO (oddT (d + 1) t))) ∧ Adds w w' := by
  have kD := fun W (hA : Adds w W) => depth_ok d t s 13 ok W (h.adds hA) hz (by omega) (by omega) (by omega)
  have kK := fun W (hA : Adds w W) => kind_ok d t s ok W (h.adds hA) hok hz
  have kM := fun W (hA : Adds w W) => many_ok d t s 0 ok W (h.adds hA) hok (by omega)
  obtain ⟨ao, cap, rfl⟩ := h.shape
  have hz' : ¬ (4096 : Int) < ((0 + sizeT (d + 1) t : Nat) : Int) := by omega
  clear h hok hz
  generalize 0 + sizeT (d + 1) t = z at *
  cases ho : oddT (d + 1) t
  case' true => rw [show codeO true = 1 from rfl]
  case' false => rw [show codeO false = 0 from rfl]
  all_goals
    rw [ho] at kK
    clear ho
    go_enter Try.func22, Try.ntmps22
    go_wp2_with (first
      | (go_at_call 41; refine (kD _ (by repeat (first | with_reducible exact Adds.refl _ | with_reducible refine Adds.alloc ?_ _ | with_reducible refine Adds.more ?_ _ _ | with_reducible refine Adds.drew ?_ | with_reducible refine Adds.drewN ?_ _))).mono ?_; rintro e w3 ⟨⟨q, rfl, hq⟩, os3, n3, rfl⟩; have hq12 : ¬ (12 : Int) < (q : Int) := (by omega))
      | (go_at_call 42; refine (kK _ (by repeat (first | with_reducible exact Adds.refl _ | with_reducible refine Adds.alloc ?_ _ | with_reducible refine Adds.more ?_ _ _ | with_reducible refine Adds.drew ?_ | with_reducible refine Adds.drewN ?_ _))).mono ?_; rintro e w4 ⟨rfl, os4, n4, rfl⟩)
      | (go_at_call 43; refine (kM _ (by repeat (first | with_reducible exact Adds.refl _ | with_reducible refine Adds.alloc ?_ _ | with_reducible refine Adds.more ?_ _ _ | with_reducible refine Adds.drew ?_ | with_reducible refine Adds.drewN ?_ _))).mono ?_; rintro e w5 ⟨rfl, os5, n5, rfl⟩))
    go_ret
    exact ⟨rfl, (by repeat (first | with_reducible exact Adds.refl _ | with_reducible refine Adds.alloc ?_ _ | with_reducible refine Adds.more ?_ _ _ | with_reducible refine Adds.drew ?_ | with_reducible refine Adds.drewN ?_ _))⟩

end Go.Proofs.Ytccddgohagakoaa
