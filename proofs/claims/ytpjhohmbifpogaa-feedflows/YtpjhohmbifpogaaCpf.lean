/-
  copyOf of package feed, by contract; behind, atOnce.
-/
import Derived.Test.YtpjhohmbifpogaaMcpn
import Derived.Test.YtpjhohmbifpogaaCls
namespace Go.Proofs.Ytpjhohmbifpogaa
open Go.RowKit
attribute [local go_sem] cell?_more frozen?_more setCell_more size_more tape_more drew_more drewN_more more_drew more_drewN one_out plus_out plus_end lt_one le_p2 le_p3 le_p4 le_p5 le_p6 le_p7 le_p8 le_p9 le_p10 le_p11 le_p12 le_p13 le_p14 le_p15 le_p16 le_p17 le_p18 le_p19 le_p20 le_p21 le_p22 le_p23 le_p24 le_q0 le_q1 lt_q1 le_q2 lt_q2 le_q3 lt_q3 le_q4 lt_q4 le_q5 lt_q5 le_q6 lt_q6 le_q7 lt_q7 le_q8 lt_q8 le_q9 lt_q9 le_q10 lt_q10 le_q11 lt_q11 le_q12 lt_q12 le_q13 lt_q13 le_q14 lt_q14 le_q15 lt_q15 le_q16 lt_q16 le_q17 lt_q17 le_q18 lt_q18 le_q19 lt_q19 le_q20 lt_q20 le_q21 lt_q21 le_q22 lt_q22 le_q23 lt_q23 le_q24 lt_q24

theorem OwnS.far {B C : Nat} {v : Value} {ss : List Sb} {W0 w w' : World} (h : OwnS B v ss W0 w) (hk : Far B w w') (hC : C ≤ B) : OwnS C v ss w' w' :=
  ⟨row_lower (row_far h.1 hk) hC, Below.refl _ _, Nat.le_trans hC (Nat.le_trans h.2.2 hk.1)⟩

theorem copyNews_row (s : Value) (ds : List Ch) (w : World) (h : LstH w s ds) (hl6 : ds.length ≤ 1000) (hd6 : ∀ d ∈ ds, d.doc.length ≤ 1000) :
    Calls Try.prog 33 #[s] w fun e w' => (∃ vo vc rs, e = .returned (.slice vo ds.length vc) ∧ Hid (OwnH w.heap.size (.slice vo ds.length vc) rs w w' ∧ rs.map (·.1) = ds)) ∧ Adds w w' :=
  (copyNews_any s ds w h hl6 hd6).mono (by
    rintro e w' ⟨v, rfl, rs, ho, rfl⟩
    obtain ⟨ao, cap, rfl, _, _⟩ := ho.lstH
    exact ⟨⟨ao, cap, rs, by simp, by simpa using ho, rfl⟩, Adds.of ho.2.1⟩)

theorem cloneS_row (s : Value) (fs : List Sb) (w : World) (h : LstS w s fs) (hlen : fs.length ≤ 1000) :
    Calls Try.prog 48 #[s] w fun e w' => (∃ vo vc, e = .returned (.slice vo fs.length vc) ∧ Hid (OwnS w.heap.size (.slice vo fs.length vc) fs w w')) ∧ Adds w w' :=
  (cloneS_any s fs w h hlen).mono (by
    rintro e w' ⟨v, rfl, ho⟩
    obtain ⟨ao, cap, rfl, _, _⟩ := ho.lst
    exact ⟨⟨ao, cap, rfl, ho⟩, Adds.of ho.2.1⟩)

theorem atOnce_any (n : Int) (w : World) : Calls Try.prog 45 #[.int .i64 n] w fun e w' => e = .returned (.bool (decide (1 ≤ n ∧ n ≤ 16))) ∧ Adds w w' := by
  by_cases h1 : 1 ≤ n
  · by_cases h2 : n ≤ 16
    · rw [decide_eq_true (⟨h1, h2⟩ : 1 ≤ n ∧ n ≤ 16)]
      go_enter Try.func45, Try.ntmps45
      go_wp2
      go_ret
      exact ⟨rfl, (by repeat (first | with_reducible exact Adds.refl _ | with_reducible refine Adds.alloc ?_ _ | with_reducible refine Adds.more ?_ _ _ | with_reducible refine Adds.drew ?_ | with_reducible refine Adds.drewN ?_ _))⟩
    · rw [decide_eq_false (fun h => h2 h.2 : ¬ (1 ≤ n ∧ n ≤ 16))]
      go_enter Try.func45, Try.ntmps45
      go_wp2
      go_ret
      exact ⟨rfl, (by repeat (first | with_reducible exact Adds.refl _ | with_reducible refine Adds.alloc ?_ _ | with_reducible refine Adds.more ?_ _ _ | with_reducible refine Adds.drew ?_ | with_reducible refine Adds.drewN ?_ _))⟩
  · rw [decide_eq_false (fun h => h1 h.1 : ¬ (1 ≤ n ∧ n ≤ 16))]
    go_enter Try.func45, Try.ntmps45
    go_wp2
    go_ret
    exact ⟨rfl, (by repeat (first | with_reducible exact Adds.refl _ | with_reducible refine Adds.alloc ?_ _ | with_reducible refine Adds.more ?_ _ _ | with_reducible refine Adds.drew ?_ | with_reducible refine Adds.drewN ?_ _))⟩

set_option maxHeartbeats 2000000 in
set_option maxRecDepth 20000 in
theorem copyOf_any (base total : Int) (s t : Value) (ch : List Ch) (sb : List Sb) (w : World) (hs : LstH w s ch) (ht : LstS w t sb) (hl6 : ch.length ≤ 1000) (hd6 : ∀ d ∈ ch, d.doc.length ≤ 1000) (hs6 : sb.length ≤ 1000) :
    Calls Try.prog 31 #[.agg #[.int .i64 base, .int .i64 total, s, t]] w fun e w' => ∃ vo vc uo uc rs, e = .returned (.agg #[.int .i64 base, .int .i64 total, .slice vo ch.length vc, .slice uo sb.length uc]) ∧ OwnH w.heap.size (.slice vo ch.length vc) rs w' w' ∧ rs.map (·.1) = ch ∧ OwnS w.heap.size (.slice uo sb.length uc) sb w' w' ∧ Adds w w' := by
  have kN := fun W' (hA : Adds w W') => copyNews_row s ch W' (hs.adds hA) hl6 hd6
  have kS := fun W' (hA : Adds w W') => cloneS_row t sb W' (ht.adds hA) hs6
  obtain ⟨so, sc, rfl, _, _⟩ := hs
  obtain ⟨to, tc, rfl, _, _⟩ := ht
  clear hd6
  go_enter Try.func31, Try.ntmps31
  go_wp2_with (first
    | (go_at_call 33; refine (kN _ (by repeat (first | with_reducible exact Adds.refl _ | with_reducible refine Adds.alloc ?_ _ | with_reducible refine Adds.more ?_ _ _ | with_reducible refine Adds.drew ?_ | with_reducible refine Adds.drewN ?_ _))).mono ?_; rintro e w1 ⟨⟨v1, c1, rs, rfl, H1⟩, os1, n1, rfl⟩)
    | (go_at_call 48; refine (kS _ (by repeat (first | with_reducible exact Adds.refl _ | with_reducible refine Adds.alloc ?_ _ | with_reducible refine Adds.more ?_ _ _ | with_reducible refine Adds.drew ?_ | with_reducible refine Adds.drewN ?_ _))).mono ?_; rintro e w2 ⟨⟨v2, c2, rfl, H2⟩, os2, n2, rfl⟩))
  refine bodyPost_ret (v := .agg #[.int .i64 base, .int .i64 total, .slice v1 ch.length c1, .slice v2 sb.length c2]) (by simp [results, Try.results31, go_sem]) rfl ⟨v1, c1, v2, c2, rs, rfl, ?_, H1.out.2, ?_, (by repeat (first | with_reducible exact Adds.refl _ | with_reducible refine Adds.alloc ?_ _ | with_reducible refine Adds.more ?_ _ _ | with_reducible refine Adds.drew ?_ | with_reducible refine Adds.drewN ?_ _))⟩
  · refine H1.out.1.far (Far.mono (n := w.heap.size + 2) ?_ (by simp [go_sem])) (by simp [go_sem])
    repeat (first | with_reducible exact Far.refl _ _ | with_reducible refine Far.mores ?_ (by simp [go_sem]) _ _ _ | with_reducible refine Far.allocs ?_ (by simp [go_sem]) _ | with_reducible refine Far.low ?_ (by simp [go_sem]) (by simp [go_sem] <;> omega) _ _ | with_reducible refine Far.more ?_ _ _ | with_reducible refine Far.alloc ?_ _)
  · refine H2.out.far (Far.mono (n := w.heap.size + 2) ?_ (by simp [go_sem])) (by simp [go_sem] <;> omega)
    repeat (first | with_reducible exact Far.refl _ _ | with_reducible refine Far.mores ?_ (by simp [go_sem]) _ _ _ | with_reducible refine Far.allocs ?_ (by simp [go_sem]) _ | with_reducible refine Far.low ?_ (by simp [go_sem]) (by simp [go_sem] <;> omega) _ _ | with_reducible refine Far.more ?_ _ _ | with_reducible refine Far.alloc ?_ _)

end Go.Proofs.Ytpjhohmbifpogaa
