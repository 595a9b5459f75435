/-
  PaperOf: the law's walk.
-/
import Derived.Test.YtcgbhbbljjdejaaRefOf
import Derived.Test.YtcgbhbbljjdejaaDeep
import Derived.Test.YtcgbhbbljjdejaaAwake
namespace Go.Proofs.Ytcgbhbbljjdejaa
open Go.RowKit
attribute [local go_sem] cell?_more frozen?_more setCell_more size_more tape_more drew_more drewN_more more_drew more_drewN one_out plus_out plus_end lt_one le_p2 le_p3 le_p4 le_p5 le_p6 le_p7 le_p8 le_p9 le_p10 le_p11 le_p12 le_p13 le_p14 le_p15 le_p16 le_p17 le_p18 le_p19 le_p20 le_p21 le_p22 le_p23 le_p24 le_q0 le_q1 lt_q1 le_q2 lt_q2 le_q3 lt_q3 le_q4 lt_q4 le_q5 lt_q5 le_q6 lt_q6 le_q7 lt_q7 le_q8 lt_q8 le_q9 lt_q9 le_q10 lt_q10 le_q11 lt_q11 le_q12 lt_q12 le_q13 lt_q13 le_q14 lt_q14 le_q15 lt_q15 le_q16 lt_q16 le_q17 lt_q17 le_q18 lt_q18 le_q19 lt_q19 le_q20 lt_q20 le_q21 lt_q21 le_q22 lt_q22 le_q23 lt_q23 le_q24 lt_q24

theorem vals_of {fs : List F} (h : May fs) : ∀ f ∈ fs, f.val.check = 0 := by
  intro f hf
  obtain ⟨k, hk, rfl⟩ := List.getElem_of_mem hf
  exact (h.2 k hk).2.1

theorem loose_same {c : T} {R : List F} (hm : May R) (hd : docT R = c) : loose c.list = some R := by
  rw [← hd]
  exact loose_doc (vals_of hm)

theorem rd_same {c : T} {R : List F} (hm : May R) (hd : docT R = c) : rd 0 c.list = R := by
  rw [← hd]
  exact rd_doc (vals_of hm) 0 (by have := hm.1; omega)

theorem none_five (w : World) :
    Calls Try.prog 21 #[.slice none 0 0, .int .i64 5, .int .i64 5] w fun e w' => e = .returned (.bool true) ∧ Adds w w' := by
  go_enter Try.func21, Try.ntmps21
  go_wp2
  go_ret
  refine ⟨rfl, ?_⟩
  repeat (first | with_reducible exact Adds.refl _ | with_reducible refine Adds.alloc ?_ _ | with_reducible refine Adds.more ?_ _ _ | with_reducible refine Adds.drew ?_ | with_reducible refine Adds.drewN ?_ _)

set_option maxHeartbeats 4000000 in
set_option maxRecDepth 20000 in
theorem paperOf_of (hRO : ∀ (ok : Nat → Prop) (d : Nat) (c : T) (s : Value) (w : World), Tr ok d w s c.list → c.list.length ≤ 1000 →
      Calls Try.prog 31 #[cellV c s] w fun e w' => ∃ v q, e = .returned (.tuple #[v, .bool q]) ∧ RefTold c w' v q ∧ Adds w w')
    {ok : Nat → Prop} {d : Nat} (c : T) (s : Value) (w : World) (h : Tr ok d w s c.list) (hx : c.text.size ≤ 9223372036854775807) :
    Calls Try.prog 6 #[cellV c s] w fun e w' => e = .returned (.bool true) ∧ Adds w w' := by
  obtain ⟨ao, cap, rfl⟩ := h.shape
  by_cases h40 : c.list.length ≤ 40
  · have kO0 := fun W (hA : Adds w W) => of_any c _ W ((h.adds hA).deeper.deeper) (by omega) hx
    have kR0 := fun W (hA : Adds w W) => hRO ok d c _ W (h.adds hA) (by omega)
    have hloop : Hid (∀ (Q : Prop), ((∃ R : List F, (∀ W, Adds w W → Calls Try.prog 28 #[cellV c (.slice ao c.list.length cap)] W fun e w' => ∃ v, e = .returned (.tuple #[v, .int .i64 0]) ∧ Lst w' v R ∧ Adds W w') ∧ (∀ W, Adds w W → Calls Try.prog 31 #[cellV c (.slice ao c.list.length cap)] W fun e w' => ∃ v, e = .returned (.tuple #[v, .bool true]) ∧ Lst w' v R ∧ Adds W w') ∧ R.length ≤ 16) → Q) →
        ((∀ W, Adds w W → Calls Try.prog 28 #[cellV c (.slice ao c.list.length cap)] W fun e w' => e = .returned (.tuple #[.slice none 0 0, .int .i64 5]) ∧ Adds W w') → (∀ W, Adds w W → Calls Try.prog 31 #[cellV c (.slice ao c.list.length cap)] W fun e w' => e = .returned (.tuple #[.slice none 0 0, .bool false]) ∧ Adds W w') → Q) → Q) := by
      intro Q hy hn
      by_cases hP : May (rd 0 c.list) ∧ docT (rd 0 c.list) = c
      · refine hy ⟨rd 0 c.list, fun W hA => ?_, fun W hA => ?_, hP.1.1⟩
        · refine (kO0 W hA).mono fun e w' ⟨v, x, he, ht, ha⟩ => ?_
          obtain ⟨rfl, hl⟩ := ht.1 hP
          exact ⟨v, he, hl, ha⟩
        · refine (kR0 W hA).mono fun e w' ⟨v, q, he, ht, ha⟩ => ?_
          obtain ⟨rfl, hl⟩ := ht.1 _ (loose_same hP.1 hP.2) hP.1 hP.2
          exact ⟨v, he, hl, ha⟩
      · refine hn (fun W hA => ?_) (fun W hA => ?_)
        · refine (kO0 W hA).mono fun e w' ⟨v, x, he, ht, ha⟩ => ?_
          obtain ⟨rfl, rfl⟩ := ht.2 hP
          exact ⟨he, ha⟩
        · refine (kR0 W hA).mono fun e w' ⟨v, q, he, ht, ha⟩ => ?_
          obtain ⟨rfl, rfl⟩ := ht.2 (fun L _ hL => hP (by rw [rd_same hL.1 hL.2]; exact hL))
          exact ⟨he, ha⟩
    clear kO0 kR0 hRO
    obtain ⟨ck, cn, cx, ts⟩ := c
    simp only [cellV, T.kind, T.num, T.text, T.list] at h h40 hx hloop ⊢
    go_enter Try.func6, Try.ntmps6
    go_wp2
    go_loopw [3] (fun iv wr => ∃ k : Nat, k ≤ ts.length ∧ iv = .int .i64 k ∧ Adds (w.alloc (.cells #[.int .i64 ck, .int .i64 cn, .string cx, .slice ao ts.length cap] 50)) wr) (fun iv _ => ts.length - (intOf iv).toNat)
    case atStart => exact ⟨0, Nat.zero_le _, rfl, Adds.refl _⟩
    case round =>
      obtain ⟨k, hk, rfl, os, m, rfl⟩ := hrel
      by_cases hlt : k < ts.length
      · obtain ⟨e, b1, o1, x, he, rfl, hb1, ⟨c0, c1, c2, c3⟩, htx⟩ := h.elem hlt
        have kD := fun W (hA : Adds w W) => deep_tree 4 e ts[k] x W (htx.adds hA) (by omega)
        obtain ⟨xo, xc, rfl⟩ := htx.shape
        simp only [cellV] at kD
        clear htx he h hloop
        generalize deepT 4 ts[k] = dq at *
        generalize ts[k] = p at *
        by_cases h5 : 5 < p.list.length
        · go_wp2_with (first
            | (go_at_call 8; (with_reducible refine (awake_any _).mono ?_); rintro e w8 ⟨rfl, os8, n8, rfl⟩))
          go_ret
          refine ⟨rfl, ?_⟩
          repeat (first | with_reducible exact Adds.refl _ | with_reducible refine Adds.alloc ?_ _ | with_reducible refine Adds.more ?_ _ _ | with_reducible refine Adds.drew ?_ | with_reducible refine Adds.drewN ?_ _)
        · cases dq
          · go_wp2_with (first
              | (go_at_call 30; refine (kD _ (by repeat (first | with_reducible exact Adds.refl _ | with_reducible refine Adds.alloc ?_ _ | with_reducible refine Adds.more ?_ _ _ | with_reducible refine Adds.drew ?_ | with_reducible refine Adds.drewN ?_ _))).mono ?_; rintro e w1 ⟨rfl, os1, n1, rfl⟩))
            go_roundw
            case rel =>
              refine ⟨k + 1, by omega, by go_num, ?_⟩
              repeat (first | with_reducible exact Adds.refl _ | with_reducible refine Adds.alloc ?_ _ | with_reducible refine Adds.more ?_ _ _ | with_reducible refine Adds.drew ?_ | with_reducible refine Adds.drewN ?_ _)
            case measure => simp [intOf]; omega
          · go_wp2_with (first
              | (go_at_call 30; refine (kD _ (by repeat (first | with_reducible exact Adds.refl _ | with_reducible refine Adds.alloc ?_ _ | with_reducible refine Adds.more ?_ _ _ | with_reducible refine Adds.drew ?_ | with_reducible refine Adds.drewN ?_ _))).mono ?_; rintro e w1 ⟨rfl, os1, n1, rfl⟩)
              | (go_at_call 8; (with_reducible refine (awake_any _).mono ?_); rintro e w8 ⟨rfl, os8, n8, rfl⟩))
            go_ret
            refine ⟨rfl, ?_⟩
            repeat (first | with_reducible exact Adds.refl _ | with_reducible refine Adds.alloc ?_ _ | with_reducible refine Adds.more ?_ _ _ | with_reducible refine Adds.drew ?_ | with_reducible refine Adds.drewN ?_ _)
      · have hk' : k = ts.length := by omega
        subst hk'
        refine hloop.out _ ?_ ?_
        · rintro ⟨R, kO, kR, hR⟩
          go_wp2_with (first
            | (go_at_call 28; (with_reducible refine (kO _ (by repeat (first | with_reducible exact Adds.refl _ | with_reducible refine Adds.alloc ?_ _ | with_reducible refine Adds.more ?_ _ _ | with_reducible refine Adds.drew ?_ | with_reducible refine Adds.drewN ?_ _))).mono ?_); rintro e w1 ⟨v1, rfl, hl1, os1, n1, rfl⟩)
            | (go_at_call 31; (with_reducible refine (kR _ (by repeat (first | with_reducible exact Adds.refl _ | with_reducible refine Adds.alloc ?_ _ | with_reducible refine Adds.more ?_ _ _ | with_reducible refine Adds.drew ?_ | with_reducible refine Adds.drewN ?_ _))).mono ?_); rintro e w2 ⟨v2, rfl, hl2, a2⟩)
            | (go_at_call 15; (with_reducible refine (refSame_any _ _ R R _ (hl1.adds a2) hl2 (by omega) (by omega)).mono ?_); rintro e w3 ⟨rfl, a3⟩)
            | (go_at_call 8; (with_reducible refine (awake_any _).mono ?_); rintro e w8 ⟨rfl, a8⟩))
          go_ret
          refine ⟨by simp, Adds.trans (Adds.trans (Adds.trans ?_ a2) a3) a8⟩
          repeat (first | with_reducible exact Adds.refl _ | with_reducible refine Adds.alloc ?_ _ | with_reducible refine Adds.more ?_ _ _ | with_reducible refine Adds.drew ?_ | with_reducible refine Adds.drewN ?_ _)
        · intro kO kR
          go_wp2_with (first
            | (go_at_call 28; (with_reducible refine (kO _ (by repeat (first | with_reducible exact Adds.refl _ | with_reducible refine Adds.alloc ?_ _ | with_reducible refine Adds.more ?_ _ _ | with_reducible refine Adds.drew ?_ | with_reducible refine Adds.drewN ?_ _))).mono ?_); rintro e w1 ⟨rfl, os1, n1, rfl⟩)
            | (go_at_call 31; (with_reducible refine (kR _ (by repeat (first | with_reducible exact Adds.refl _ | with_reducible refine Adds.alloc ?_ _ | with_reducible refine Adds.more ?_ _ _ | with_reducible refine Adds.drew ?_ | with_reducible refine Adds.drewN ?_ _))).mono ?_); rintro e w2 ⟨rfl, os2, n2, rfl⟩)
            | (go_at_call 21; (with_reducible refine (none_five _).mono ?_); rintro e w3 ⟨rfl, os3, n3, rfl⟩)
            | (go_at_call 8; (with_reducible refine (awake_any _).mono ?_); rintro e w8 ⟨rfl, os8, n8, rfl⟩))
          go_ret
          refine ⟨rfl, ?_⟩
          repeat (first | with_reducible exact Adds.refl _ | with_reducible refine Adds.alloc ?_ _ | with_reducible refine Adds.more ?_ _ _ | with_reducible refine Adds.drew ?_ | with_reducible refine Adds.drewN ?_ _)
  · obtain ⟨ck, cn, cx, ts⟩ := c
    simp only [cellV, T.kind, T.num, T.text, T.list] at h40 ⊢
    go_enter Try.func6, Try.ntmps6
    go_wp2_with (go_at_call 8; (with_reducible refine (awake_any _).mono ?_); rintro e w4 ⟨rfl, os4, n4, rfl⟩)
    go_ret
    refine ⟨rfl, ?_⟩
    repeat (first | with_reducible exact Adds.refl _ | with_reducible refine Adds.alloc ?_ _ | with_reducible refine Adds.more ?_ _ _ | with_reducible refine Adds.drew ?_ | with_reducible refine Adds.drewN ?_ _)

end Go.Proofs.Ytcgbhbbljjdejaa
