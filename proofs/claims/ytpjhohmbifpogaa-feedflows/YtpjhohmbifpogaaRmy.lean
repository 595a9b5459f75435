/-
  The reference's May of feeds, by contract.
-/
import Derived.Test.YtpjhohmbifpogaaChg
import Derived.Test.YtpjhohmbifpogaaMays
import Derived.Test.YtpjhohmbifpogaaRky
namespace Go.Proofs.Ytpjhohmbifpogaa
open Go.RowKit
attribute [local go_sem] cell?_more frozen?_more setCell_more size_more tape_more drew_more drewN_more more_drew more_drewN one_out plus_out plus_end lt_one le_p2 le_p3 le_p4 le_p5 le_p6 le_p7 le_p8 le_p9 le_p10 le_p11 le_p12 le_p13 le_p14 le_p15 le_p16 le_p17 le_p18 le_p19 le_p20 le_p21 le_p22 le_p23 le_p24 le_q0 le_q1 lt_q1 le_q2 lt_q2 le_q3 lt_q3 le_q4 lt_q4 le_q5 lt_q5 le_q6 lt_q6 le_q7 lt_q7 le_q8 lt_q8 le_q9 lt_q9 le_q10 lt_q10 le_q11 lt_q11 le_q12 lt_q12 le_q13 lt_q13 le_q14 lt_q14 le_q15 lt_q15 le_q16 lt_q16 le_q17 lt_q17 le_q18 lt_q18 le_q19 lt_q19 le_q20 lt_q20 le_q21 lt_q21 le_q22 lt_q22 le_q23 lt_q23 le_q24 lt_q24

attribute [local go_sem] cell?_addTo

set_option maxHeartbeats 4000000 in
set_option maxRecDepth 20000 in
theorem refMayF_any (v : Value) (f : Fd) (w : World) (h : LstF w v f) (hc : f.ch.length ≤ 1000) (hd : ∀ k (hk : k < f.ch.length), f.ch[k].doc.length ≤ 1000) :
    Calls Try.prog 12 #[v] w fun e w' => e = .returned (.bool (decide (MayF f))) ∧ Adds w w' := by
  obtain ⟨s, t, rfl, hs, ht⟩ := h
  obtain ⟨base, total, ch, sb⟩ := f
  simp only at *
  obtain ⟨so, sc, rfl, hsc, hsl⟩ := hs
  obtain ⟨to, tc, rfl, htc, htl⟩ := ht
  have hbad : ¬ MayF ⟨base, total, ch, sb⟩ → decide (MayF ⟨base, total, ch, sb⟩) = false := fun h => decide_eq_false h
  by_cases h0 : 0 ≤ base
  rotate_left
  · have HB : Hid (decide (MayF ⟨base, total, ch, sb⟩) = false) := hbad fun h => h0 h.1
    have h0' : base < 0 := by omega
    clear hsl htl hd hbad
    go_enter Try.func12, Try.ntmps12
    go_wp2
    go_ret
    exact ⟨by rw [HB.out]; rfl, (by repeat (first | with_reducible exact Adds.refl _ | with_reducible refine Adds.alloc ?_ _ | with_reducible refine Adds.more ?_ _ _ | with_reducible refine Adds.drew ?_ | with_reducible refine Adds.drewN ?_ _))⟩
  have h0' : ¬ base < 0 := by omega
  by_cases h1 : base ≤ total
  rotate_left
  · have HB : Hid (decide (MayF ⟨base, total, ch, sb⟩) = false) := hbad fun h => h1 h.2.1
    have h1' : total < base := by omega
    clear hsl htl hd hbad
    go_enter Try.func12, Try.ntmps12
    go_wp2
    go_ret
    exact ⟨by rw [HB.out]; rfl, (by repeat (first | with_reducible exact Adds.refl _ | with_reducible refine Adds.alloc ?_ _ | with_reducible refine Adds.more ?_ _ _ | with_reducible refine Adds.drew ?_ | with_reducible refine Adds.drewN ?_ _))⟩
  have h1' : ¬ total < base := by omega
  by_cases h2 : total ≤ 2147483647
  rotate_left
  · have HB : Hid (decide (MayF ⟨base, total, ch, sb⟩) = false) := hbad fun h => h2 h.2.2.1
    have h2' : 2147483647 < total := by omega
    clear hsl htl hd hbad
    go_enter Try.func12, Try.ntmps12
    go_wp2
    go_ret
    exact ⟨by rw [HB.out]; rfl, (by repeat (first | with_reducible exact Adds.refl _ | with_reducible refine Adds.alloc ?_ _ | with_reducible refine Adds.more ?_ _ _ | with_reducible refine Adds.drew ?_ | with_reducible refine Adds.drewN ?_ _))⟩
  have h2' : ¬ 2147483647 < total := by omega
  have hw : IntKind.i64.wrap (total - base) = total - base := by rw [IntKind.wrap_i64]; omega
  by_cases h3 : (ch.length : Int) = total - base
  rotate_left
  · have HB : Hid (decide (MayF ⟨base, total, ch, sb⟩) = false) := hbad fun h => h3 h.2.2.2.1
    have h3' : ((ch.length : Int) != total - base) = true := by simpa using h3
    clear hsl htl hd hbad
    go_enter Try.func12, Try.ntmps12
    go_wp2
    go_ret
    exact ⟨by rw [HB.out]; rfl, (by repeat (first | with_reducible exact Adds.refl _ | with_reducible refine Adds.alloc ?_ _ | with_reducible refine Adds.more ?_ _ _ | with_reducible refine Adds.drew ?_ | with_reducible refine Adds.drewN ?_ _))⟩
  have h3' : ((ch.length : Int) != total - base) = false := by simpa using h3
  by_cases h8 : sb.length ≤ 8
  rotate_left
  · have HB : Hid (decide (MayF ⟨base, total, ch, sb⟩) = false) := hbad fun h => h8 h.2.2.2.2.2.1
    have h8' : (8 : Int) < (sb.length : Int) := by omega
    clear hsl htl hd hbad
    go_enter Try.func12, Try.ntmps12
    go_wp2
    go_ret
    exact ⟨by rw [HB.out]; rfl, (by repeat (first | with_reducible exact Adds.refl _ | with_reducible refine Adds.alloc ?_ _ | with_reducible refine Adds.more ?_ _ _ | with_reducible refine Adds.drew ?_ | with_reducible refine Adds.drewN ?_ _))⟩
  have h8' : ¬ (8 : Int) < (sb.length : Int) := by omega
  have H3 : Hid ((ch.length : Int) = total - base) := h3
  have HF : Hid (¬ Follow ch base → decide (MayF ⟨base, total, ch, sb⟩) = false) := fun h => hbad fun h' => h h'.2.2.2.2.1
  have HS : Hid (¬ Subsc sb base total → decide (MayF ⟨base, total, ch, sb⟩) = false) := fun h => hbad fun h' => h h'.2.2.2.2.2
  have HT : Hid (Follow ch base → Subsc sb base total → decide (MayF ⟨base, total, ch, sb⟩) = true) := fun h h' => decide_eq_true ⟨h0, h1, h2, H3.out, h, h'⟩
  have HD : Hid (∀ k (hk : k < ch.length), ch[k].doc.length ≤ 1000) := hd
  clear h3 hbad hd
  generalize hQ : decide (MayF ⟨base, total, ch, sb⟩) = Qb at *
  clear hQ
  go_enter Try.func12, Try.ntmps12
  go_wp2
  go_loopw [3] (fun i wr => ∃ k : Nat, k ≤ ch.length ∧ i = .int .i64 k ∧ Hid (∀ j (hj : j < ch.length), j < k → GoodH ch base j hj) ∧ Adds (w.alloc (Obj.cells #[.int .i64 base, .int .i64 total, .slice so ch.length sc, .slice to sb.length tc] 25)) wr) (fun i _ => ch.length - (intOf i).toNat)
  case atStart => exact ⟨0, Nat.zero_le _, rfl, fun j _ hj => absurd hj (by omega), Adds.refl _⟩
  case round =>
    obtain ⟨k, hk, rfl, hgood, os, n, rfl⟩ := hrel
    by_cases hlt : k < ch.length
    · rcases hsl with rfl | ⟨b, off, rfl, hb, hl⟩
      · simp at hlt
      obtain ⟨v, c0, c1, c2, c3, hdoc⟩ := hl k hlt
      have hK := fun w' => refKey_any ch[k].key w'
      have hC := fun w' (hA : Adds w w') => refMay_any v ch[k].doc w' (hdoc.adds hA) (HD.out k hlt)
      obtain ⟨vo, vc, rfl, _, _⟩ := hdoc
      have hlt' : (k : Int) < (ch.length : Int) := by omega
      have hw1 : IntKind.i64.wrap (base + k) = base + k := by rw [IntKind.wrap_i64]; omega
      have hw2 : IntKind.i64.wrap (base + k + 1) = base + k + 1 := by rw [IntKind.wrap_i64]; omega
      have BAD : Hid (¬ GoodH ch base k hlt → Qb = false) := fun h => HF.out fun h' => h (h' k hlt)
      clear hl htl
      by_cases g0 : ch[k].pos = base + 1 + k
      rotate_left
      · have HB : Hid (Qb = false) := BAD.out fun h => g0 h.1
        have g0' : (ch[k].pos != base + (k : Int) + 1) = true := by simp; omega
        clear hC hK BAD
        generalize ch[k].key = ky at *
        generalize ch[k].doc.length = nd at *
        generalize ch[k].has = hs at *
        generalize ch[k].pos = ps at *
        go_wp2
        go_ret
        exact ⟨by rw [HB.out]; rfl, (by repeat (first | with_reducible exact Adds.refl _ | with_reducible refine Adds.alloc ?_ _ | with_reducible refine Adds.more ?_ _ _ | with_reducible refine Adds.drew ?_ | with_reducible refine Adds.drewN ?_ _))⟩
      have g0e : ch[k].pos = base + k + 1 := by omega
      by_cases g1 : isKey ch[k].key = true
      rotate_left
      · have HB : Hid (Qb = false) := BAD.out fun h => g1 h.2.1
        rw [show isKey ch[k].key = false by simpa using g1] at hK
        rw [g0e] at c0
        clear hC BAD g1 g0e g0
        generalize ch[k].key = ky at *
        generalize ch[k].doc.length = nd at *
        generalize ch[k].has = hs at *
        go_wp2_with (first | (go_at_call 34; refine (hK _).mono ?_; rintro e w1 ⟨rfl, os1, n1, rfl⟩) | (go_at_call 35; refine (hC _ (by repeat (first | with_reducible exact Adds.refl _ | with_reducible refine Adds.alloc ?_ _ | with_reducible refine Adds.more ?_ _ _ | with_reducible refine Adds.drew ?_ | with_reducible refine Adds.drewN ?_ _))).mono ?_; rintro e w2 ⟨rfl, os2, n2, rfl⟩))
        go_ret
        exact ⟨by rw [HB.out]; rfl, (by repeat (first | with_reducible exact Adds.refl _ | with_reducible refine Adds.alloc ?_ _ | with_reducible refine Adds.more ?_ _ _ | with_reducible refine Adds.drew ?_ | with_reducible refine Adds.drewN ?_ _))⟩
      rw [g1] at hK
      by_cases g2 : May ch[k].doc
      rotate_left
      · have HB : Hid (Qb = false) := BAD.out fun h => g2 h.2.2.1
        rw [decide_eq_false g2] at hC
        rw [g0e] at c0
        clear BAD g1 g2 g0e g0
        generalize ch[k].key = ky at *
        generalize ch[k].doc.length = nd at *
        generalize ch[k].has = hs at *
        go_wp2_with (first | (go_at_call 34; refine (hK _).mono ?_; rintro e w1 ⟨rfl, os1, n1, rfl⟩) | (go_at_call 35; refine (hC _ (by repeat (first | with_reducible exact Adds.refl _ | with_reducible refine Adds.alloc ?_ _ | with_reducible refine Adds.more ?_ _ _ | with_reducible refine Adds.drew ?_ | with_reducible refine Adds.drewN ?_ _))).mono ?_; rintro e w2 ⟨rfl, os2, n2, rfl⟩))
        go_ret
        exact ⟨by rw [HB.out]; rfl, (by repeat (first | with_reducible exact Adds.refl _ | with_reducible refine Adds.alloc ?_ _ | with_reducible refine Adds.more ?_ _ _ | with_reducible refine Adds.drew ?_ | with_reducible refine Adds.drewN ?_ _))⟩
      rw [decide_eq_true g2] at hC
      by_cases g3 : ch[k].doc.length = 0
      · have HG : Hid (GoodH ch base k hlt) := ⟨g0, g1, g2, .inr g3⟩
        rw [g3] at c3 hC
        rw [g0e] at c0
        clear BAD g1 g2 g0e g0 g3
        generalize ch[k].key = ky at *
        generalize ch[k].has = hs at *
        go_wp2_with (first | (go_at_call 34; refine (hK _).mono ?_; rintro e w1 ⟨rfl, os1, n1, rfl⟩) | (go_at_call 35; refine (hC _ (by repeat (first | with_reducible exact Adds.refl _ | with_reducible refine Adds.alloc ?_ _ | with_reducible refine Adds.more ?_ _ _ | with_reducible refine Adds.drew ?_ | with_reducible refine Adds.drewN ?_ _))).mono ?_; rintro e w2 ⟨rfl, os2, n2, rfl⟩))
        go_roundw
        case rel =>
          refine ⟨k + 1, by omega, by go_num, ?_, ?_⟩
          · intro j hj hj2
            by_cases e : j = k
            · subst e
              exact HG.out
            · exact hgood.out j hj (by omega)
          · repeat (first | with_reducible exact Adds.refl _ | with_reducible refine Adds.alloc ?_ _ | with_reducible refine Adds.more ?_ _ _ | with_reducible refine Adds.drew ?_ | with_reducible refine Adds.drewN ?_ _)
        case measure => simp [intOf]; omega
      have g3' : (0 : Int) < (ch[k].doc.length : Int) := by omega
      cases g4 : ch[k].has
      · have HB : Hid (Qb = false) := BAD.out fun h => by
          rcases h.2.2.2 with h | h
          · rw [g4] at h
            cases h
          · exact g3 h
        rw [g4] at c2
        rw [g0e] at c0
        clear BAD g1 g2 g0e g0 g3 g4
        generalize ch[k].key = ky at *
        generalize ch[k].doc.length = nd at *
        go_wp2_with (first | (go_at_call 34; refine (hK _).mono ?_; rintro e w1 ⟨rfl, os1, n1, rfl⟩) | (go_at_call 35; refine (hC _ (by repeat (first | with_reducible exact Adds.refl _ | with_reducible refine Adds.alloc ?_ _ | with_reducible refine Adds.more ?_ _ _ | with_reducible refine Adds.drew ?_ | with_reducible refine Adds.drewN ?_ _))).mono ?_; rintro e w2 ⟨rfl, os2, n2, rfl⟩))
        go_ret
        exact ⟨by rw [HB.out]; rfl, (by repeat (first | with_reducible exact Adds.refl _ | with_reducible refine Adds.alloc ?_ _ | with_reducible refine Adds.more ?_ _ _ | with_reducible refine Adds.drew ?_ | with_reducible refine Adds.drewN ?_ _))⟩
      · have HG : Hid (GoodH ch base k hlt) := ⟨g0, g1, g2, .inl g4⟩
        rw [g4] at c2
        rw [g0e] at c0
        clear BAD g1 g2 g0e g0 g3 g4
        generalize ch[k].key = ky at *
        generalize ch[k].doc.length = nd at *
        go_wp2_with (first | (go_at_call 34; refine (hK _).mono ?_; rintro e w1 ⟨rfl, os1, n1, rfl⟩) | (go_at_call 35; refine (hC _ (by repeat (first | with_reducible exact Adds.refl _ | with_reducible refine Adds.alloc ?_ _ | with_reducible refine Adds.more ?_ _ _ | with_reducible refine Adds.drew ?_ | with_reducible refine Adds.drewN ?_ _))).mono ?_; rintro e w2 ⟨rfl, os2, n2, rfl⟩))
        go_roundw
        case rel =>
          refine ⟨k + 1, by omega, by go_num, ?_, ?_⟩
          · intro j hj hj2
            by_cases e : j = k
            · subst e
              exact HG.out
            · exact hgood.out j hj (by omega)
          · repeat (first | with_reducible exact Adds.refl _ | with_reducible refine Adds.alloc ?_ _ | with_reducible refine Adds.more ?_ _ _ | with_reducible refine Adds.drew ?_ | with_reducible refine Adds.drewN ?_ _)
        case measure => simp [intOf]; omega
    · have hk' : k = ch.length := by omega
      subst hk'
      have HFo : Hid (Follow ch base) := fun j hj => hgood.out j hj hj
      clear hsl HF hgood
      go_wp2
      go_loopw [5] (fun i wr => ∃ k : Nat, k ≤ sb.length ∧ i = .int .i64 k ∧ Hid (∀ j (hj : j < sb.length), j < k → GoodS sb base total j hj) ∧ Adds (w.alloc (Obj.cells #[.int .i64 base, .int .i64 total, .slice so ch.length sc, .slice to sb.length tc] 25)) wr) (fun i _ => sb.length - (intOf i).toNat)
      case atStart => exact ⟨0, Nat.zero_le _, rfl, fun j _ hj => absurd hj (by omega), (by repeat (first | with_reducible exact Adds.refl _ | with_reducible refine Adds.alloc ?_ _ | with_reducible refine Adds.more ?_ _ _ | with_reducible refine Adds.drew ?_ | with_reducible refine Adds.drewN ?_ _))⟩
      case round =>
        obtain ⟨k, hk, rfl, hgood, hA⟩ := hrel
        have HA : Hid (Adds w wr) := ((Adds.refl w).alloc _).trans hA
        have HA1 : Hid (Adds (w.alloc (Obj.cells #[.int .i64 base, .int .i64 total, .slice so ch.length sc, .slice to sb.length tc] 25)) wr) := hA
        have hbx : w.heap.size < wr.heap.size := by
          have := hA.below.size
          simp at this
          omega
        have x0 : wr.cell? ⟨w.heap.size, 0, none⟩ = some (.int .i64 base) := (hA.below.cell (by simp)).trans (by simp)
        have x1 : wr.cell? ⟨w.heap.size, 1, none⟩ = some (.int .i64 total) := (hA.below.cell (by simp)).trans (by simp)
        have x3 : wr.cell? ⟨w.heap.size, 3, none⟩ = some (.slice to sb.length tc) := (hA.below.cell (by simp)).trans (by simp)
        clear hA
        by_cases hlt : k < sb.length
        · rcases htl with rfl | ⟨b, off, rfl, hb, hl0⟩
          · simp at hlt
          have hl := hl0.adds HA.out hb
          have hbl : b < wr.heap.size := Nat.lt_of_lt_of_le hb HA.out.below.size
          clear hl0
          obtain ⟨c0, c1⟩ := hl k hlt
          have hK := fun w' => refKey_any sb[k].name w'
          have hlt' : (k : Int) < (sb.length : Int) := by omega
          have BAD : Hid (¬ GoodS sb base total k hlt → Qb = false) := fun h => HS.out fun h' => h (h'.2 k hlt)
          by_cases h1 : isKey sb[k].name = true
          rotate_left
          · have HB : Hid (Qb = false) := BAD.out fun h => h1 h.1
            rw [show isKey sb[k].name = false by simpa using h1] at hK
            have hK' := fun (W : World) (p : Plus) => Calls.adds_of (hK (addTo W p))
            clear h1 BAD hl hK
            generalize sb[k].name = ky at *
            generalize sb[k].pos = ps at *
            go_wp2
            refine wp_region_adds (by kernel_rfl) (by kernel_rfl) ?_
            repeat (go_big_quiet_step ((go_at_call 34; exact hK' _ _)))
            refine wpQuiet_nil ?_
            rintro _ ⟨pl, rfl⟩
            unfold addTo
            go_wp2
            go_ret
            exact ⟨by rw [HB.out]; rfl, HA.out.trans (by repeat (first | with_reducible exact Adds.refl _ | with_reducible refine Adds.alloc ?_ _ | with_reducible refine Adds.more ?_ _ _ | with_reducible refine Adds.drew ?_ | with_reducible refine Adds.drewN ?_ _))⟩
          rw [h1] at hK
          have hK' := fun (W : World) (p : Plus) => Calls.adds_of (hK (addTo W p))
          clear hK
          by_cases h2 : base ≤ sb[k].pos
          rotate_left
          · have HB : Hid (Qb = false) := BAD.out fun h => h2 h.2.1
            have h2' : sb[k].pos < base := by omega
            clear h1 h2 BAD hl
            generalize sb[k].name = ky at *
            generalize sb[k].pos = ps at *
            go_wp2
            refine wp_region_adds (by kernel_rfl) (by kernel_rfl) ?_
            repeat (go_big_quiet_step ((go_at_call 34; exact hK' _ _)))
            refine wpQuiet_nil ?_
            rintro _ ⟨pl, rfl⟩
            unfold addTo
            go_wp2
            go_ret
            exact ⟨by rw [HB.out]; rfl, HA.out.trans (by repeat (first | with_reducible exact Adds.refl _ | with_reducible refine Adds.alloc ?_ _ | with_reducible refine Adds.more ?_ _ _ | with_reducible refine Adds.drew ?_ | with_reducible refine Adds.drewN ?_ _))⟩
          have h2' : decide (sb[k].pos < base) = false := decide_eq_false (by omega)
          by_cases h3 : sb[k].pos ≤ total
          rotate_left
          · have HB : Hid (Qb = false) := BAD.out fun h => h3 h.2.2.1
            have h3' : total < sb[k].pos := by omega
            clear h1 h2 h3 BAD hl
            generalize sb[k].name = ky at *
            generalize sb[k].pos = ps at *
            go_wp2
            refine wp_region_adds (by kernel_rfl) (by kernel_rfl) ?_
            repeat (go_big_quiet_step ((go_at_call 34; exact hK' _ _)))
            refine wpQuiet_nil ?_
            rintro _ ⟨pl, rfl⟩
            unfold addTo
            go_wp2
            go_ret
            exact ⟨by rw [HB.out]; rfl, HA.out.trans (by repeat (first | with_reducible exact Adds.refl _ | with_reducible refine Adds.alloc ?_ _ | with_reducible refine Adds.more ?_ _ _ | with_reducible refine Adds.drew ?_ | with_reducible refine Adds.drewN ?_ _))⟩
          have h3' : decide (total < sb[k].pos) = false := decide_eq_false (by omega)
          cases k with
          | zero =>
            have HG : Hid (GoodS sb base total 0 hlt) := ⟨h1, h2, h3, fun h => absurd h (by omega)⟩
            clear h1 h2 h3 BAD hl
            simp only [Nat.zero_mul, Nat.add_zero] at c0 c1
            generalize sb[0].name = ky at *
            generalize sb[0].pos = ps at *
            go_wp2
            refine wp_region_adds (by kernel_rfl) (by kernel_rfl) ?_
            repeat (go_big_quiet_step ((go_at_call 34; exact hK' _ _)))
            refine wpQuiet_nil ?_
            rintro _ ⟨pl, rfl⟩
            unfold addTo
            go_wp2
            go_roundw
            case rel =>
              refine ⟨0 + 1, by omega, by go_num, ?_, HA1.out.trans (by repeat (first | with_reducible exact Adds.refl _ | with_reducible refine Adds.alloc ?_ _ | with_reducible refine Adds.more ?_ _ _ | with_reducible refine Adds.drew ?_ | with_reducible refine Adds.drewN ?_ _))⟩
              intro j hj hj2
              by_cases e : j = 0
              · subst e
                exact HG.out
              · exact hgood.out j hj (by omega)
            case measure => simp [intOf]; omega
          | succ m =>
            obtain ⟨d0, _⟩ := hl m (by omega)
            obtain ⟨q, hq⟩ : ∃ q, Op.bytesLess sb[m].name.toList sb[m + 1].name.toList = q := ⟨_, rfl⟩
            have hml : m < sb.length := by omega
            have hw1 : IntKind.i64.wrap (m : Int) = m := by rw [IntKind.wrap_i64]; omega
            have hm1 : ((m + 1 : Nat) : Int) = (m : Int) + 1 := by omega
            have hp1 : (0 : Int) < (m : Int) + 1 := by omega
            cases q
            · have HB : Hid (Qb = false) := BAD.out fun h => by
                have h3 := h.2.2.2 (by omega)
                have e : lessP sb[m].name sb[m + 1].name = false := hq
                simp only [Nat.add_sub_cancel] at h3
                rw [e] at h3
                cases h3
              clear h1 h2 h3 BAD hl
              generalize sb[m + 1].name = ky at *
              generalize sb[m].name = kp at *
              generalize sb[m + 1].pos = ps at *
              go_wp2
              refine wp_region_adds (by kernel_rfl) (by kernel_rfl) ?_
              repeat (go_big_quiet_step ((go_at_call 34; exact hK' _ _)))
              refine wpQuiet_nil ?_
              rintro _ ⟨pl, rfl⟩
              unfold addTo
              go_wp2
              go_ret
              exact ⟨by rw [HB.out]; rfl, HA.out.trans (by repeat (first | with_reducible exact Adds.refl _ | with_reducible refine Adds.alloc ?_ _ | with_reducible refine Adds.more ?_ _ _ | with_reducible refine Adds.drew ?_ | with_reducible refine Adds.drewN ?_ _))⟩
            · have HG : Hid (GoodS sb base total (m + 1) hlt) := ⟨h1, h2, h3, fun _ => hq⟩
              clear h1 h2 h3 BAD hl
              generalize sb[m + 1].name = ky at *
              generalize sb[m].name = kp at *
              generalize sb[m + 1].pos = ps at *
              go_wp2
              refine wp_region_adds (by kernel_rfl) (by kernel_rfl) ?_
              repeat (go_big_quiet_step ((go_at_call 34; exact hK' _ _)))
              refine wpQuiet_nil ?_
              rintro _ ⟨pl, rfl⟩
              unfold addTo
              go_wp2
              go_roundw
              case rel =>
                refine ⟨m + 2, by omega, by go_num, ?_, HA1.out.trans (by repeat (first | with_reducible exact Adds.refl _ | with_reducible refine Adds.alloc ?_ _ | with_reducible refine Adds.more ?_ _ _ | with_reducible refine Adds.drew ?_ | with_reducible refine Adds.drewN ?_ _))⟩
                intro j hj hj2
                by_cases e : j = m + 1
                · subst e
                  exact HG.out
                · exact hgood.out j hj (by omega)
              case measure => simp [intOf]; omega
        · have hk' : k = sb.length := by omega
          subst hk'
          have HB : Hid (Qb = true) := HT.out HFo.out ⟨h8, fun j hj => hgood.out j hj hj⟩
          clear htl hgood
          go_wp2
          go_ret
          exact ⟨by rw [HB.out]; rfl, HA.out.trans (by repeat (first | with_reducible exact Adds.refl _ | with_reducible refine Adds.alloc ?_ _ | with_reducible refine Adds.more ?_ _ _ | with_reducible refine Adds.drew ?_ | with_reducible refine Adds.drewN ?_ _))⟩

end Go.Proofs.Ytpjhohmbifpogaa
