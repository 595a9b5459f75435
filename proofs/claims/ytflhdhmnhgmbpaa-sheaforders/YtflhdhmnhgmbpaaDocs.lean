/-
  Sheaves in memory, and which lists are sheaves: the function Check of package sheaf, and the document's own, by contracts.
-/
import Derived.Test.YtflhdhmnhgmbpaaSums
import Derived.Lib.Bytealg
namespace Go.Proofs.Ytflhdhmnhgmbpaa
open Go.RowKit
attribute [local go_sem] cell?_more frozen?_more setCell_more size_more tape_more drew_more drewN_more more_drew more_drewN more_more one_out plus_out plus_end lt_one le_p2 le_p3 le_p4 le_p5 le_p6 le_p7 le_p8 le_p9 le_p10 le_p11 le_p12 le_p13 le_p14 le_p15 le_p16 le_p17 le_p18 le_p19 le_p20 le_p21 le_p22 le_p23 le_p24 le_q0 le_q1 lt_q1 le_q2 lt_q2 le_q3 lt_q3 le_q4 lt_q4 le_q5 lt_q5 le_q6 lt_q6 le_q7 lt_q7 le_q8 lt_q8 le_q9 lt_q9 le_q10 lt_q10 le_q11 lt_q11 le_q12 lt_q12 le_q13 lt_q13 le_q14 lt_q14 le_q15 lt_q15 le_q16 lt_q16 le_q17 lt_q17 le_q18 lt_q18 le_q19 lt_q19 le_q20 lt_q20 le_q21 lt_q21 le_q22 lt_q22 le_q23 lt_q23 le_q24 lt_q24

/-- A pair of a key and what stands there. -/
structure F where
  path : ByteArray
  val : ByteArray

/-- The cells of the pairs fs, from ⟨b, off⟩ on. -/
def Lies (w : World) (b off : Nat) (fs : List F) : Prop := ∀ j (h : j < fs.length),
  w.cell? ⟨b, off + j * 2, none⟩ = some (.string fs[j].path) ∧ w.cell? ⟨b, off + j * 2 + 1, none⟩ = some (.string fs[j].val)

/-- The slice value s reads as the pairs fs. -/
def Lst (w : World) (s : Value) (fs : List F) : Prop :=
  ∃ ao cap, s = .slice ao fs.length cap ∧ fs.length ≤ cap ∧ (fs = [] ∨ ∃ b off, ao = some ⟨b, off, none⟩ ∧ b < w.heap.size ∧ Lies w b off fs)

theorem Lies.below {w w' : World} {B b off : Nat} {fs : List F} (h : Lies w b off fs) (hb : Below B w w') (hB : b < B) : Lies w' b off fs := by
  intro j hj
  obtain ⟨h0, h1⟩ := h j hj
  exact ⟨(hb.cell (by exact hB)).trans h0, (hb.cell (by exact hB)).trans h1⟩

theorem Lst.below {w w' : World} {s : Value} {fs : List F} (h : Lst w s fs) (hb : Below w.heap.size w w') : Lst w' s fs := by
  obtain ⟨ao, cap, rfl, hc, h | ⟨b, off, rfl, hlt, hl⟩⟩ := h
  · exact ⟨ao, cap, rfl, hc, .inl h⟩
  · exact ⟨_, cap, rfl, hc, .inr ⟨b, off, rfl, Nat.lt_of_lt_of_le hlt hb.size, hl.below hb hlt⟩⟩

theorem Lst.adds {w w' : World} {s : Value} {fs : List F} (h : Lst w s fs) (hb : Adds w w') : Lst w' s fs := h.below hb.below

/-- One key ahead of another. -/
def lessP (x y : ByteArray) : Bool := Op.bytesLess x.toList y.toList

/-- A pair, and what stands ahead of it. -/
def Good (fs : List F) (k : Nat) (h : k < fs.length) : Prop := 0 < k → lessP fs[k - 1].path fs[k].path = true

def May (fs : List F) : Prop := ∀ k (h : k < fs.length), Good fs k h

instance (fs : List F) : Decidable (May fs) := by unfold May Good; infer_instance

def errOf (p : Prop) [Decidable p] (e : Int) : Int := if p then 0 else e

theorem may_bad {fs : List F} {k : Nat} {h : k < fs.length} (hb : ¬ Good fs k h) : ¬ May fs := fun hm => hb (hm k h)

theorem err_bad {p : Prop} [Decidable p] (h : ¬ p) (e : Int) : errOf p e = e := if_neg h
theorem err_ok {p : Prop} [Decidable p] (h : p) (e : Int) : errOf p e = 0 := if_pos h

theorem good_zero {fs : List F} (j : Nat) (hj : j < fs.length) (h : j < 1) : Good fs j hj := fun h0 => absurd h0 (by omega)

set_option maxHeartbeats 1000000 in
theorem check_any (s : Value) (fs : List F) (w : World) (h : Lst w s fs) (hl6 : fs.length ≤ 1000) :
    Calls Try.prog 11 #[s] w fun e w' => e = .returned (.int .i64 (errOf (May fs) 1)) ∧ Adds w w' := by
  obtain ⟨ao, cap, rfl, hcap, hlo⟩ := h
  go_enter Try.func11, Try.ntmps11
  go_wp2
  go_loopw [3] (fun i wr => ∃ k : Nat, (k + 1 ≤ fs.length ∨ k = 0) ∧ i = .int .i64 ((k : Int) + 1) ∧ (∀ j (hj : j < fs.length), j < k + 1 → Good fs j hj) ∧ Adds w wr) (fun i _ => fs.length - (intOf i).toNat)
  case atStart => exact ⟨0, .inr rfl, rfl, good_zero, Adds.refl _⟩
  case round =>
    obtain ⟨m, hk, rfl, hgood, os, n, rfl⟩ := hrel
    by_cases hlt : m + 1 < fs.length
    · rcases hlo with rfl | ⟨b, off, rfl, hb, hl⟩
      · simp at hlt
      have c0 := (hl (m + 1) hlt).1
      have d0 := (hl m (by omega)).1
      have hG' : Good fs (m + 1) hlt = (lessP fs[m].path fs[m + 1].path = true) := by simp [Good]
      have HG' : Hid _ := hG'
      clear hG'
      generalize fs[m].path = pm at *
      generalize fs[m + 1].path = p at *
      obtain ⟨q, hq⟩ : ∃ q, Op.bytesLess pm.toList p.toList = q := ⟨_, rfl⟩
      have HQ : Hid (lessP pm p = q) := hq
      have hlt' : (m : Int) + 1 < (fs.length : Int) := by omega
      have hml : m < fs.length := by omega
      have hw1 : IntKind.i64.wrap (m : Int) = m := by rw [IntKind.wrap_i64]; omega
      cases q
      · go_wp2
        go_quiet (fail)
        go_wp2
        go_ret
        refine ⟨by rw [err_bad (may_bad (h := hlt) (by rw [HG'.out, HQ.out]; simp))]; rfl, ?_⟩
        repeat (first | with_reducible exact Adds.refl _ | with_reducible refine Adds.alloc ?_ _ | with_reducible refine Adds.more ?_ _ _ | with_reducible refine Adds.drew ?_ | with_reducible refine Adds.drewN ?_ _)
      · go_wp2
        go_quiet (fail)
        go_wp2
        go_roundw
        case rel =>
          refine ⟨m + 1, by omega, by go_num, ?_, ?_⟩
          · intro j hj hj2
            by_cases e : j = m + 1
            · subst e
              rw [HG'.out, HQ.out]
            · exact hgood j hj (by omega)
          · repeat (first | with_reducible exact Adds.refl _ | with_reducible refine Adds.alloc ?_ _ | with_reducible refine Adds.more ?_ _ _ | with_reducible refine Adds.drew ?_ | with_reducible refine Adds.drewN ?_ _)
        case measure => simp [intOf]; omega
    · have hlt' : ¬ (m : Int) + 1 < (fs.length : Int) := by omega
      go_wp2
      go_ret
      refine ⟨by rw [err_ok (show May fs from fun j hj => hgood j hj (by omega))]; rfl, ?_⟩
      repeat (first | with_reducible exact Adds.refl _ | with_reducible refine Adds.alloc ?_ _ | with_reducible refine Adds.more ?_ _ _ | with_reducible refine Adds.drew ?_ | with_reducible refine Adds.drewN ?_ _)

set_option maxHeartbeats 1000000 in
theorem refMay_any (s : Value) (fs : List F) (w : World) (h : Lst w s fs) (hl6 : fs.length ≤ 1000) :
    Calls Try.prog 10 #[s] w fun e w' => e = .returned (.bool (decide (May fs))) ∧ Adds w w' := by
  obtain ⟨ao, cap, rfl, hcap, hlo⟩ := h
  go_enter Try.func10, Try.ntmps10
  go_wp2
  go_loopw [3] (fun i wr => ∃ k : Nat, (k + 1 ≤ fs.length ∨ k = 0) ∧ i = .int .i64 ((k : Int) + 1) ∧ (∀ j (hj : j < fs.length), j < k + 1 → Good fs j hj) ∧ Adds w wr) (fun i _ => fs.length - (intOf i).toNat)
  case atStart => exact ⟨0, .inr rfl, rfl, good_zero, Adds.refl _⟩
  case round =>
    obtain ⟨m, hk, rfl, hgood, os, n, rfl⟩ := hrel
    by_cases hlt : m + 1 < fs.length
    · rcases hlo with rfl | ⟨b, off, rfl, hb, hl⟩
      · simp at hlt
      have c0 := (hl (m + 1) hlt).1
      have d0 := (hl m (by omega)).1
      have hG' : Good fs (m + 1) hlt = (lessP fs[m].path fs[m + 1].path = true) := by simp [Good]
      have HG' : Hid _ := hG'
      clear hG'
      generalize fs[m].path = pm at *
      generalize fs[m + 1].path = p at *
      obtain ⟨q, hq⟩ : ∃ q, Op.bytesLess pm.toList p.toList = q := ⟨_, rfl⟩
      have HQ : Hid (lessP pm p = q) := hq
      have hlt' : (m : Int) + 1 < (fs.length : Int) := by omega
      have hml : m < fs.length := by omega
      have hw1 : IntKind.i64.wrap (m : Int) = m := by rw [IntKind.wrap_i64]; omega
      cases q
      · go_wp2
        go_quiet (fail)
        go_wp2
        go_ret
        refine ⟨by rw [decide_eq_false (may_bad (h := hlt) (by rw [HG'.out, HQ.out]; simp))]; rfl, ?_⟩
        repeat (first | with_reducible exact Adds.refl _ | with_reducible refine Adds.alloc ?_ _ | with_reducible refine Adds.more ?_ _ _ | with_reducible refine Adds.drew ?_ | with_reducible refine Adds.drewN ?_ _)
      · go_wp2
        go_quiet (fail)
        go_wp2
        go_roundw
        case rel =>
          refine ⟨m + 1, by omega, by go_num, ?_, ?_⟩
          · intro j hj hj2
            by_cases e : j = m + 1
            · subst e
              rw [HG'.out, HQ.out]
            · exact hgood j hj (by omega)
          · repeat (first | with_reducible exact Adds.refl _ | with_reducible refine Adds.alloc ?_ _ | with_reducible refine Adds.more ?_ _ _ | with_reducible refine Adds.drew ?_ | with_reducible refine Adds.drewN ?_ _)
        case measure => simp [intOf]; omega
    · have hlt' : ¬ (m : Int) + 1 < (fs.length : Int) := by omega
      go_wp2
      go_ret
      refine ⟨by rw [decide_eq_true (show May fs from fun j hj => hgood j hj (by omega))]; rfl, ?_⟩
      repeat (first | with_reducible exact Adds.refl _ | with_reducible refine Adds.alloc ?_ _ | with_reducible refine Adds.more ?_ _ _ | with_reducible refine Adds.drew ?_ | with_reducible refine Adds.drewN ?_ _)

end Go.Proofs.Ytflhdhmnhgmbpaa
