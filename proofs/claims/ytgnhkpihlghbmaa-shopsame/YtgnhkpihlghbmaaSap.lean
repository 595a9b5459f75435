/-
  Which documents may be; where a key stands; small answers, by contracts.
-/
import Derived.Test.YtgnhkpihlghbmaaSfd
import Derived.Test.YtgnhkpihlghbmaaCln
import Derived.Test.YtgnhkpihlghbmaaSms
namespace Go.Proofs.Ytgnhkpihlghbmaa
open Go.RowKit
attribute [local go_sem] cell?_more frozen?_more setCell_more size_more tape_more drew_more drewN_more more_drew more_drewN one_out plus_out plus_end lt_one le_p2 le_p3 le_p4 le_p5 le_p6 le_p7 le_p8 le_p9 le_p10 le_p11 le_p12 le_p13 le_p14 le_p15 le_p16 le_p17 le_p18 le_p19 le_p20 le_p21 le_p22 le_p23 le_p24 le_q0 le_q1 lt_q1 le_q2 lt_q2 le_q3 lt_q3 le_q4 lt_q4 le_q5 lt_q5 le_q6 lt_q6 le_q7 lt_q7 le_q8 lt_q8 le_q9 lt_q9 le_q10 lt_q10 le_q11 lt_q11 le_q12 lt_q12 le_q13 lt_q13 le_q14 lt_q14 le_q15 lt_q15 le_q16 lt_q16 le_q17 lt_q17 le_q18 lt_q18 le_q19 lt_q19 le_q20 lt_q20 le_q21 lt_q21 le_q22 lt_q22 le_q23 lt_q23 le_q24 lt_q24

theorem shopCheck_any (s : Value) (ds : List Dn) (w : World) (h : LstD w s ds) (hl6 : ds.length ≤ 1000) :
    Calls Try.prog 20 #[s] w fun e w' => e = .returned (.int .i64 (errOf (ds.length ≤ 24 ∧ MayD ds) 1)) ∧ Adds w w' := by
  have k := fun W (hA : Adds w W) => docs_any s ds W (h.adds hA) hl6
  obtain ⟨ao, cap, rfl, _, _⟩ := h
  by_cases h24 : ds.length ≤ 24
  · have h24' : ¬ (24 : Int) < (ds.length : Int) := by omega
    have HE : Hid (errOf (ds.length ≤ 24 ∧ MayD ds) 1 = errOf (MayD ds) 1) := by
      show _ = _
      unfold errOf
      simp [h24]
    clear h24 hl6
    go_enter Try.func20, Try.ntmps20
    go_wp2_with (go_at_call 39; refine (k _ (by repeat (first | with_reducible exact Adds.refl _ | with_reducible refine Adds.alloc ?_ _ | with_reducible refine Adds.more ?_ _ _ | with_reducible refine Adds.drew ?_ | with_reducible refine Adds.drewN ?_ _))).mono ?_; rintro e w1 ⟨rfl, os1, n1, rfl⟩)
    go_ret
    exact ⟨by rw [HE.out]; rfl, (by repeat (first | with_reducible exact Adds.refl _ | with_reducible refine Adds.alloc ?_ _ | with_reducible refine Adds.more ?_ _ _ | with_reducible refine Adds.drew ?_ | with_reducible refine Adds.drewN ?_ _))⟩
  · have h24' : (24 : Int) < (ds.length : Int) := by omega
    have HE : Hid (errOf (ds.length ≤ 24 ∧ MayD ds) 1 = 1) := by
      show _ = _
      unfold errOf
      simp [h24]
    clear h24 hl6 k
    go_enter Try.func20, Try.ntmps20
    go_wp2
    go_ret
    exact ⟨by rw [HE.out]; rfl, (by repeat (first | with_reducible exact Adds.refl _ | with_reducible refine Adds.alloc ?_ _ | with_reducible refine Adds.more ?_ _ _ | with_reducible refine Adds.drew ?_ | with_reducible refine Adds.drewN ?_ _))⟩

theorem refMay_docs (s : Value) (ds : List Dn) (w : World) (h : LstD w s ds) (hl6 : ds.length ≤ 1000) (hd6 : ∀ d ∈ ds, d.doc.length ≤ 1000) :
    Calls Try.prog 8 #[s] w fun e w' => e = .returned (.bool (decide (ds.length ≤ 24 ∧ MayD ds))) ∧ Adds w w' := by
  have k := fun W (hA : Adds w W) => refDocs_any s ds W (h.adds hA) hl6 hd6
  obtain ⟨ao, cap, rfl, _, _⟩ := h
  by_cases h24 : ds.length ≤ 24
  · have h24' : (ds.length : Int) ≤ 24 := by omega
    have HE : Hid (decide (ds.length ≤ 24 ∧ MayD ds) = decide (MayD ds)) := by
      show _ = _
      simp [h24]
    generalize decide (ds.length ≤ 24 ∧ MayD ds) = q at *
    clear h24 hl6
    go_enter Try.func8, Try.ntmps8
    go_wp2_with (go_at_call 19; refine (k _ (by repeat (first | with_reducible exact Adds.refl _ | with_reducible refine Adds.alloc ?_ _ | with_reducible refine Adds.more ?_ _ _ | with_reducible refine Adds.drew ?_ | with_reducible refine Adds.drewN ?_ _))).mono ?_; rintro e w1 ⟨rfl, os1, n1, rfl⟩)
    go_ret
    exact ⟨by rw [HE.out]; rfl, (by repeat (first | with_reducible exact Adds.refl _ | with_reducible refine Adds.alloc ?_ _ | with_reducible refine Adds.more ?_ _ _ | with_reducible refine Adds.drew ?_ | with_reducible refine Adds.drewN ?_ _))⟩
  · have h24' : ¬ (ds.length : Int) ≤ 24 := by omega
    have HE : Hid (decide (ds.length ≤ 24 ∧ MayD ds) = false) := by
      show _ = _
      simp [h24]
    generalize decide (ds.length ≤ 24 ∧ MayD ds) = q at *
    clear h24 hl6 k
    go_enter Try.func8, Try.ntmps8
    go_wp2
    go_ret
    exact ⟨by rw [HE.out]; rfl, (by repeat (first | with_reducible exact Adds.refl _ | with_reducible refine Adds.alloc ?_ _ | with_reducible refine Adds.more ?_ _ _ | with_reducible refine Adds.drew ?_ | with_reducible refine Adds.drewN ?_ _))⟩

/-- The answer that says why alone. -/
def refV (c : Int) : Value := .agg #[.int .i64 c, .bool false, .slice none 0 0, .slice none 0 0, .slice none 0 0, .int .i64 0, .int .i64 0, .slice none 0 0]

theorem refused_any (c : Int) (w : World) : Calls Try.prog 60 #[.int .i64 c] w fun e w' => e = .returned (refV c) ∧ Adds w w' := by
  go_enter Try.func60, Try.ntmps60
  go_wp2
  refine bodyPost_ret (v := refV c) (by simp [results, Try.results60, go_sem, refV]) rfl ⟨rfl, ?_⟩
  repeat (first | with_reducible exact Adds.refl _ | with_reducible refine Adds.alloc ?_ _ | with_reducible refine Adds.more ?_ _ _ | with_reducible refine Adds.drew ?_ | with_reducible refine Adds.drewN ?_ _)

end Go.Proofs.Ytgnhkpihlghbmaa
