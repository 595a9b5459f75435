/-
  The order of entries, by contracts.
  The order of entries, by contract.
  Which entries may be, by contract.
-/
import Derived.Test.YtiacnmcdfpmcfaaGreatDoorQ05
import Derived.Deep.RegionHeld
namespace Go.Proofs.YtiacnmcdfpmcfaaGreatDoor.Sh
open Go.RowKit
attribute [local go_sem] cell?_more frozen?_more setCell_more size_more tape_more drew_more drewN_more more_drew more_drewN one_out plus_out plus_end lt_one le_p2 le_p3 le_p4 le_p5 le_p6 le_p7 le_p8 le_p9 le_p10 le_p11 le_p12 le_p13 le_p14 le_p15 le_p16 le_p17 le_p18 le_p19 le_p20 le_p21 le_p22 le_p23 le_p24 le_q0 le_q1 lt_q1 le_q2 lt_q2 le_q3 lt_q3 le_q4 lt_q4 le_q5 lt_q5 le_q6 lt_q6 le_q7 lt_q7 le_q8 lt_q8 le_q9 lt_q9 le_q10 lt_q10 le_q11 lt_q11 le_q12 lt_q12 le_q13 lt_q13 le_q14 lt_q14 le_q15 lt_q15 le_q16 lt_q16 le_q17 lt_q17 le_q18 lt_q18 le_q19 lt_q19 le_q20 lt_q20 le_q21 lt_q21 le_q22 lt_q22 le_q23 lt_q23 le_q24 lt_q24


set_option maxHeartbeats 2000000 in
theorem or_any (k : Nat) (x y z : Int) (HZ : Hid (z = if x = 0 then y else x)) (w : World) (hk : k < w.heap.size) (c0 : w.cell? ⟨k, 0, none⟩ = some (.int .i64 x)) (c1 : w.cell? ⟨k, 1, none⟩ = some (.int .i64 y)) :
    Calls Tryz.prog 67 #[.slice (some ⟨k, 0, none⟩) 2 2] w fun e w' => e = .returned (.int .i64 z) ∧ w' = w := by
  go_enter Tryz.func67, Tryz.ntmps67
  go_wp2
  go_loopw [8] (fun iv wr => ∃ j : Nat, j ≤ 2 ∧ iv = .int .i64 j ∧ Hid (1 ≤ j → x = 0) ∧ Hid (2 ≤ j → y = 0) ∧ wr = w) (fun iv _ => 2 - (intOf iv).toNat)
  case atStart => exact ⟨0, by omega, rfl, fun h => by omega, fun h => by omega, rfl⟩
  case round =>
    obtain ⟨j, hj, rfl, HX, HY, rfl⟩ := hrel
    have h3 : j = 0 ∨ j = 1 ∨ j = 2 := by omega
    rcases h3 with rfl | rfl | rfl
    · by_cases hx : x = 0
      · have hxb : (x == 0) = true := by simpa using hx
        have HX1 : Hid (1 ≤ 1 → x = 0) := fun _ => hx
        clear hx
        go_wp2
        go_roundw
        case rel => exact ⟨1, by omega, rfl, HX1, (fun h => by omega), by first | rfl | trivial⟩
        case measure => simp [intOf]
      · have hxb : (x == 0) = false := by simpa using hx
        have HR : Hid (x = z) := by
          show _ = _
          rw [HZ.out, if_neg hx]
        clear HX HY hx
        go_wp2
        go_ret
        exact ⟨congrArg (fun z => Ending.returned (.int .i64 z)) HR.out, rfl⟩
    · have HX0 : Hid (x = 0) := HX.out (by omega)
      by_cases hy : y = 0
      · have hyb : (y == 0) = true := by simpa using hy
        have HY1 : Hid (2 ≤ 2 → y = 0) := fun _ => hy
        have HX1 : Hid (1 ≤ 2 → x = 0) := fun _ => HX0.out
        clear hy HX HY
        go_wp2
        go_roundw
        case rel => exact ⟨2, by omega, rfl, HX1, HY1, by first | rfl | trivial⟩
        case measure => simp [intOf]
      · have hyb : (y == 0) = false := by simpa using hy
        have HR : Hid (y = z) := by
          show _ = _
          rw [HZ.out, if_pos HX0.out]
        clear HX HY hy
        go_wp2
        go_ret
        exact ⟨congrArg (fun z => Ending.returned (.int .i64 z)) HR.out, rfl⟩
    · have HR : Hid ((0 : Int) = z) := by
        show _ = _
        rw [HZ.out, if_pos (HX.out (by omega)), HY.out (by omega)]
      clear HX HY
      go_wp2
      go_ret
      exact ⟨congrArg (fun z => Ending.returned (.int .i64 z)) HR.out, rfl⟩

/-- The order of entries: by Key, then Val. -/
def cmpE (f g : F) : Int := if cmpP f.path g.path = 0 then cmpP f.val g.val else cmpP f.path g.path
def lessE (f g : F) : Bool := lessP f.path g.path || (decide (f.path.toList = g.path.toList) && lessP f.val g.val)

theorem lessE_cmp (f g : F) : lessE f g = decide (cmpE f g < 0) := by
  unfold lessE cmpE
  rw [lessP_cmp, lessP_cmp]
  by_cases h : cmpP f.path g.path = 0
  · rw [if_pos h, h, decide_eq_true ((cmpP_zero _ _).1 h)]
    simp
  · rw [if_neg h, decide_eq_false (fun e => h ((cmpP_zero _ _).2 e))]
    simp


end Go.Proofs.YtiacnmcdfpmcfaaGreatDoor.Sh

namespace Go.Proofs.YtiacnmcdfpmcfaaGreatDoor.Sh
open Go.RowKit
attribute [local go_sem] cell?_more frozen?_more setCell_more size_more tape_more drew_more drewN_more more_drew more_drewN one_out plus_out plus_end lt_one le_p2 le_p3 le_p4 le_p5 le_p6 le_p7 le_p8 le_p9 le_p10 le_p11 le_p12 le_p13 le_p14 le_p15 le_p16 le_p17 le_p18 le_p19 le_p20 le_p21 le_p22 le_p23 le_p24 le_q0 le_q1 lt_q1 le_q2 lt_q2 le_q3 lt_q3 le_q4 lt_q4 le_q5 lt_q5 le_q6 lt_q6 le_q7 lt_q7 le_q8 lt_q8 le_q9 lt_q9 le_q10 lt_q10 le_q11 lt_q11 le_q12 lt_q12 le_q13 lt_q13 le_q14 lt_q14 le_q15 lt_q15 le_q16 lt_q16 le_q17 lt_q17 le_q18 lt_q18 le_q19 lt_q19 le_q20 lt_q20 le_q21 lt_q21 le_q22 lt_q22 le_q23 lt_q23 le_q24 lt_q24

set_option maxHeartbeats 2000000 in
set_option maxRecDepth 20000 in
theorem cmpE_any (f g : F) (w : World) : Calls Tryz.prog 49 #[.agg #[.string f.path, .string f.val], .agg #[.string g.path, .string g.val]] w fun e w' => e = .returned (.int .i64 (cmpE f g)) ∧ Adds w w' := by
  have k1 := compare_any f.path g.path
  have k2 := compare_any f.val g.val
  have kO := fun W k (hk : k < W.heap.size) c0 c1 => or_any k (cmpP f.path g.path) (cmpP f.val g.val) (cmpE f g) rfl W hk c0 c1
  generalize cmpP f.path g.path = x at *
  generalize cmpP f.val g.val = y at *
  generalize cmpE f g = z at *
  obtain ⟨fp, fv⟩ := f
  obtain ⟨gp, gv⟩ := g
  simp only at k1 k2 ⊢
  go_enter Tryz.func49, Tryz.ntmps49
  go_wp2
  go_region_held (fun w' => w'.cell? ⟨w.heap.size, 0, none⟩ = some (.string fp) ∧ w'.cell? ⟨w.heap.size, 1, none⟩ = some (.string fv) ∧ w'.cell? ⟨w.heap.size + 1, 0, none⟩ = some (.string gp) ∧ w'.cell? ⟨w.heap.size + 1, 1, none⟩ = some (.string gv))
    (refine ⟨?_, ?_, ?_, ?_⟩ <;> simp [go_sem, *])
    (first
    | (go_at_call 68; (with_reducible refine (k1 _).mono ?_); rintro e w1 ⟨rfl, hw⟩; subst w1)
    | (go_at_call 68; (with_reducible refine (k2 _).mono ?_); rintro e w1 ⟨rfl, hw⟩; subst w1)
    | (go_at_call 67; refine (kO _ _ (by simp [go_sem]) (by simp [go_sem]) (by simp [go_sem])).mono ?_; rintro e w1 ⟨rfl, hw⟩; subst w1))
  all_goals
    go_wp2
    go_ret
    exact ⟨rfl, by repeat (first | with_reducible exact Adds.refl _ | with_reducible refine Adds.alloc ?_ _ | with_reducible refine Adds.more ?_ _ _ | with_reducible refine Adds.drew ?_ | with_reducible refine Adds.drewN ?_ _)⟩

end Go.Proofs.YtiacnmcdfpmcfaaGreatDoor.Sh

namespace Go.Proofs.YtiacnmcdfpmcfaaGreatDoor.Sh
open Go.RowKit
attribute [local go_sem] cell?_more frozen?_more setCell_more size_more tape_more drew_more drewN_more more_drew more_drewN one_out plus_out plus_end lt_one le_p2 le_p3 le_p4 le_p5 le_p6 le_p7 le_p8 le_p9 le_p10 le_p11 le_p12 le_p13 le_p14 le_p15 le_p16 le_p17 le_p18 le_p19 le_p20 le_p21 le_p22 le_p23 le_p24 le_q0 le_q1 lt_q1 le_q2 lt_q2 le_q3 lt_q3 le_q4 lt_q4 le_q5 lt_q5 le_q6 lt_q6 le_q7 lt_q7 le_q8 lt_q8 le_q9 lt_q9 le_q10 lt_q10 le_q11 lt_q11 le_q12 lt_q12 le_q13 lt_q13 le_q14 lt_q14 le_q15 lt_q15 le_q16 lt_q16 le_q17 lt_q17 le_q18 lt_q18 le_q19 lt_q19 le_q20 lt_q20 le_q21 lt_q21 le_q22 lt_q22 le_q23 lt_q23 le_q24 lt_q24


/-- An entry, and what stands ahead of it. -/
def Good (fs : List F) (k : Nat) (h : k < fs.length) : Prop := 0 < k → lessE fs[k - 1] fs[k] = true

def May (fs : List F) : Prop := ∀ k (h : k < fs.length), Good fs k h

instance (fs : List F) : Decidable (May fs) := by unfold May Good; infer_instance

def errOf (p : Prop) [Decidable p] (e : Int) : Int := if p then 0 else e

theorem may_bad {fs : List F} {k : Nat} {h : k < fs.length} (hb : ¬ Good fs k h) : ¬ May fs := fun hm => hb (hm k h)

theorem err_bad {p : Prop} [Decidable p] (h : ¬ p) (e : Int) : errOf p e = e := if_neg h
theorem err_ok {p : Prop} [Decidable p] (h : p) (e : Int) : errOf p e = 0 := if_pos h

theorem good_zero {fs : List F} (j : Nat) (hj : j < fs.length) (h : j < 1) : Good fs j hj := fun h0 => absurd h0 (by omega)

/-- The keys of entries that may be do not fall. -/
theorem lessE_key {x y : F} (h : lessE x y = true) : lessP y.path x.path = false := by
  unfold lessE at h
  rw [Bool.or_eq_true, Bool.and_eq_true, decide_eq_true_eq] at h
  rcases h with h | ⟨h, _⟩
  · exact lessP_asymm h
  · exact lessP_irrefl _ _ h.symm

theorem le_le {x y z : ByteArray} (h : lessP y x = false) (k : lessP z y = false) : lessP z x = false := by
  by_cases e : lessP z x = true
  · rw [le_lt k e] at h
    cases h
  · simpa using e

theorem May.climbs {fs : List F} (h : May fs) : Climbs fs := by
  have key : ∀ d i (hi : i < fs.length) (hj : i + d + 1 < fs.length), lessP fs[i + d + 1].path fs[i].path = false := by
    intro d
    induction d with
    | zero => intro i hi hj; exact lessE_key (h (i + 1) hj (by omega))
    | succ d ih =>
      intro i hi hj
      exact le_le (ih i hi (by omega)) (lessE_key (h (i + d + 1 + 1) hj (by omega)))
  intro i j hi hj hij
  obtain ⟨d, rfl⟩ : ∃ d, j = i + d + 1 := ⟨j - i - 1, by omega⟩
  exact key d i hi hj

set_option maxHeartbeats 2000000 in
set_option maxRecDepth 20000 in
theorem check_any (s : Value) (fs : List F) (w : World) (h : Lst w s fs) (hl6 : fs.length ≤ 1000) :
    Calls Tryz.prog 29 #[s] w fun e w' => e = .returned (.int .i64 (errOf (May fs) 1)) ∧ Adds w w' := by
  obtain ⟨ao, cap, rfl, hcap, hlo⟩ := h
  go_enter Tryz.func29, Tryz.ntmps29
  go_wp2
  go_loopw [3] (fun i wr => ∃ k : Nat, (k + 1 ≤ fs.length ∨ k = 0) ∧ i = .int .i64 ((k : Int) + 1) ∧ (∀ j (hj : j < fs.length), j < k + 1 → Good fs j hj) ∧ Adds w wr) (fun i _ => fs.length - (intOf i).toNat)
  case atStart => exact ⟨0, .inr rfl, rfl, good_zero, Adds.refl _⟩
  case round =>
    obtain ⟨m, hk, rfl, hgood, os, n, rfl⟩ := hrel
    by_cases hlt : m + 1 < fs.length
    · rcases hlo with rfl | ⟨b, off, rfl, hb, hl⟩
      · simp at hlt
      obtain ⟨c0, c1⟩ := hl (m + 1) hlt
      obtain ⟨d0, d1⟩ := hl m (by omega)
      have hG' : Good fs (m + 1) hlt = (lessE fs[m] fs[m + 1] = true) := by simp [Good]
      have HG' : Hid _ := hG'
      clear hG'
      have hc := cmpE_any fs[m] fs[m + 1]
      have HL : Hid _ := lessE_cmp fs[m] fs[m + 1]
      generalize fs[m] = pm at *
      generalize fs[m + 1] = p at *
      have hlt' : (m : Int) + 1 < (fs.length : Int) := by omega
      have hml : m < fs.length := by omega
      have hw1 : IntKind.i64.wrap (m : Int) = m := by rw [IntKind.wrap_i64]; omega
      have hor : (0 ≤ cmpE pm p ∧ lessE pm p = false) ∨ (¬ 0 ≤ cmpE pm p ∧ lessE pm p = true) := by
        rw [HL.out]
        by_cases h0 : cmpE pm p < 0
        · exact .inr ⟨by omega, decide_eq_true h0⟩
        · exact .inl ⟨by omega, decide_eq_false h0⟩
      generalize cmpE pm p = x at *
      clear HL
      rcases hor with ⟨hneg, hq⟩ | ⟨hneg, hq⟩ <;> have HQ : Hid (lessE pm p = _) := hq <;> clear hq
      · go_wp2
        go_region_with (go_at_call 49; refine (hc _).mono ?_; rintro e w1 ⟨rfl, os1, n1, rfl⟩)
        all_goals
          go_wp2
          go_ret
          refine ⟨by rw [err_bad (may_bad (h := hlt) (by rw [HG'.out, HQ.out]; simp))]; rfl, ?_⟩
          repeat (first | with_reducible exact Adds.refl _ | with_reducible refine Adds.alloc ?_ _ | with_reducible refine Adds.more ?_ _ _ | with_reducible refine Adds.drew ?_ | with_reducible refine Adds.drewN ?_ _)
      · go_wp2
        go_region_with (go_at_call 49; refine (hc _).mono ?_; rintro e w1 ⟨rfl, os1, n1, rfl⟩)
        all_goals
          go_wp2
          go_roundw
          case rel =>
            refine ⟨m + 1, by omega, by go_num, ?_, ?_⟩
            · intro j hj hj2
              by_cases e : j = m + 1
              · subst e
                rw [HG'.out, HQ.out]
              · exact hgood j hj (by omega)
            · repeat (first | with_reducible exact Adds.refl _ | with_reducible refine Adds.alloc ?_ _ | with_reducible refine Adds.more ?_ _ _ | with_reducible refine Adds.drew ?_ | with_reducible refine Adds.drewN ?_ _)
          case measure => simp [intOf]; omega
    · have hlt' : ¬ (m : Int) + 1 < (fs.length : Int) := by omega
      go_wp2
      go_ret
      refine ⟨by rw [err_ok (show May fs from fun j hj => hgood j hj (by omega))]; rfl, ?_⟩
      repeat (first | with_reducible exact Adds.refl _ | with_reducible refine Adds.alloc ?_ _ | with_reducible refine Adds.more ?_ _ _ | with_reducible refine Adds.drew ?_ | with_reducible refine Adds.drewN ?_ _)

end Go.Proofs.YtiacnmcdfpmcfaaGreatDoor.Sh
