/-
  The reference's Close of the last subscription; where there is none, by contract.
-/
import Derived.Test.YtpjhohmbifpogaaRcl
namespace Go.Proofs.Ytpjhohmbifpogaa
open Go.RowKit
attribute [local go_sem] cell?_more frozen?_more setCell_more size_more tape_more drew_more drewN_more more_drew more_drewN one_out plus_out plus_end lt_one le_p2 le_p3 le_p4 le_p5 le_p6 le_p7 le_p8 le_p9 le_p10 le_p11 le_p12 le_p13 le_p14 le_p15 le_p16 le_p17 le_p18 le_p19 le_p20 le_p21 le_p22 le_p23 le_p24 le_q0 le_q1 lt_q1 le_q2 lt_q2 le_q3 lt_q3 le_q4 lt_q4 le_q5 lt_q5 le_q6 lt_q6 le_q7 lt_q7 le_q8 lt_q8 le_q9 lt_q9 le_q10 lt_q10 le_q11 lt_q11 le_q12 lt_q12 le_q13 lt_q13 le_q14 lt_q14 le_q15 lt_q15 le_q16 lt_q16 le_q17 lt_q17 le_q18 lt_q18 le_q19 lt_q19 le_q20 lt_q20 le_q21 lt_q21 le_q22 lt_q22 le_q23 lt_q23 le_q24 lt_q24

set_option maxHeartbeats 4000000 in
set_option maxRecDepth 20000 in
theorem refClose_last (base total : Int) (s t : Value) (sb : List Sb) (name : ByteArray) (w : World) (hs : ∃ so n sc, s = .slice so n sc) (ht : LstS w t sb) (h8 : sb.length ≤ 1000) (hc : ∀ i j (hi : i < sb.length) (hj : j < sb.length), i < j → lessP sb[i].name sb[j].name = true) (at_ : Nat) (hcc : cutAt name sb = at_) (hlt : at_ + 1 = sb.length) (hn : hasAt name sb = true) :
    Calls Try.prog 24 #[.agg #[.int .i64 base, .int .i64 total, s, t], .string name] w fun e w' => (∃ uo uc, e = .returned (.tuple #[.agg #[.int .i64 base, .int .i64 total, s, .slice uo (sb.length - 1) uc], .int .i64 0]) ∧ Hid (LstS w' (.slice uo (sb.length - 1) uc) (sb.take at_ ++ sb.drop (at_ + 1)))) ∧ Adds w w' := by
  have kA := fun w' (hA : Adds w w') => refAt_any base total s t sb name w' (ht.adds hA) h8 hc
  rw [show atI name sb = (at_ : Int) by simp [atI, hn, hcc]] at kA
  obtain ⟨so, n, sc, rfl⟩ := hs
  have hnil : sb ≠ [] := by rintro rfl; simp at hlt
  obtain ⟨uo, uc, rfl, huc, hul | ⟨b, off, rfl, hb, hl⟩⟩ := ht
  · exact absurd hul hnil
  have hq0 : ¬ (at_ : Int) < 0 := by omega
  have hq1 : (at_ : Int) ≤ (uc : Int) := by omega
  have hq2 : at_ ≤ uc := by omega
  have hw1 : IntKind.i64.wrap ((at_ : Int) + 1) = (at_ : Int) + 1 := by rw [IntKind.wrap_i64]; omega
  have hq3 : (0 : Int) ≤ (at_ : Int) + 1 := by omega
  have htn : ((at_ : Int) + 1).toNat = at_ + 1 := by omega
  have hq4 : (at_ : Int) + 1 ≤ (sb.length : Int) := by omega
  have HT1 : Hid (∀ X, Adds w X → LstS X (.slice (some ⟨b, off, none⟩) at_ uc) (sb.take at_)) := fun X hA => LstS.adds ⟨_, uc, by rw [List.length_take, Nat.min_eq_left (by omega)], by rw [List.length_take]; omega, .inr ⟨b, off, rfl, hb, hl.take at_⟩⟩ hA
  have hl1 : (sb.take at_).length = at_ := by rw [List.length_take]; omega
  have HL1 : Hid ((sb.take at_).length = at_) := hl1
  have HT2 : Hid (∀ X a c, LstS X (.slice a 0 c) (sb.drop (at_ + 1))) := fun X a c => ⟨_, c, by rw [List.length_drop, ← hlt, Nat.sub_self], by rw [List.length_drop, ← hlt]; omega, .inl (List.drop_of_length_le (by omega))⟩
  have HL2 : Hid ((sb.drop (at_ + 1)).length = 0) := by show _ = _; rw [List.length_drop]; omega
  have hne2 : at_ + 1 ≤ uc := by omega
  clear hc hn hcc hnil hl hl1
  generalize sb.length = N at *
  subst hlt
  by_cases hcap : uc = at_ + 1
  · subst hcap
    have hq6 : (at_ : Int) ≤ (at_ : Int) + 1 := by omega
    go_enter Try.func24, Try.ntmps24
    go_wp2_with (first
      | (go_at_call 44; refine (kA _ (by repeat (first | with_reducible exact Adds.refl _ | with_reducible refine Adds.alloc ?_ _ | with_reducible refine Adds.more ?_ _ _ | with_reducible refine Adds.drew ?_ | with_reducible refine Adds.drewN ?_ _))).mono ?_; rintro e w1 ⟨rfl, os1, n1, rfl⟩))
    go_region_law (first
      | (refine rowS_step1 (Y := ((w.alloc (Obj.cells #[.int .i64 base, .int .i64 total, .slice so n sc, .slice (some ⟨b, off, none⟩) (at_ + 1) (at_ + 1)] 25)).alloc (Obj.cells #[.int .i64 0, .int .i64 0, .slice none 0 0, .slice none 0 0] 25))) rfl (.tmp 13) (.tmp 17) rfl (RowS.emptyAt _ _ (by simp [go_sem])) rfl (HT1.out _ (by repeat (first | with_reducible exact Adds.refl _ | with_reducible refine Adds.alloc ?_ _ | with_reducible refine Adds.more ?_ _ _ | with_reducible refine Adds.drew ?_ | with_reducible refine Adds.drewN ?_ _))) HL1.out rfl (by repeat (first | with_reducible exact Adds.refl _ | with_reducible refine Adds.alloc ?_ _ | with_reducible refine Adds.more ?_ _ _ | with_reducible refine Adds.drew ?_ | with_reducible refine Adds.drewN ?_ _)) (by simp [go_sem] <;> omega) (by simp [go_sem] <;> omega) (by omega) ?_; rintro v2 c2 os2 d2 H2)
      | (refine rowS_step2 (Y := ((w.alloc (Obj.cells #[.int .i64 base, .int .i64 total, .slice so n sc, .slice (some ⟨b, off, none⟩) (at_ + 1) (at_ + 1)] 25)).alloc (Obj.cells #[.int .i64 0, .int .i64 0, .slice none 0 0, .slice none 0 0] 25))) rfl (.tmp 18) (.tmp 23) rfl H2.out.1 HL1.out rfl (HT2.out _ _ _) HL2.out rfl (by repeat (first | with_reducible exact Adds.refl _ | with_reducible refine Adds.alloc ?_ _ | with_reducible refine Adds.more ?_ _ _ | with_reducible refine Adds.drew ?_ | with_reducible refine Adds.drewN ?_ _)) (by simp [go_sem] <;> omega) H2.out.2 (by omega) at_ (by omega) ?_; rintro v3 c3 os3 d3 H3))
    all_goals
      go_wp2
      refine bodyPost_ret (v := .tuple #[.agg #[.int .i64 base, .int .i64 total, .slice so n sc, .slice v3 at_ c3], .int .i64 0]) (by simp [results, Try.results24, go_sem]) rfl ⟨⟨v3, c3, rfl, ?_⟩, (by repeat (first | with_reducible exact Adds.refl _ | with_reducible refine Adds.alloc ?_ _ | with_reducible refine Adds.more ?_ _ _ | with_reducible refine Adds.drew ?_ | with_reducible refine Adds.drewN ?_ _))⟩
      exact (RowS.far H3.out.1 (by repeat (first | with_reducible exact Far.refl _ _ | with_reducible refine Far.mores ?_ (by simp [go_sem]) _ _ _ | with_reducible refine Far.allocs ?_ (by simp [go_sem]) _ | with_reducible refine Far.low ?_ (by simp [go_sem]) (by simp [go_sem] <;> omega) _ _ | with_reducible refine Far.more ?_ _ _ | with_reducible refine Far.alloc ?_ _))).lst
  · have hcap2 : ¬ at_ + 1 = uc := by omega
    go_enter Try.func24, Try.ntmps24
    go_wp2_with (first
      | (go_at_call 44; refine (kA _ (by repeat (first | with_reducible exact Adds.refl _ | with_reducible refine Adds.alloc ?_ _ | with_reducible refine Adds.more ?_ _ _ | with_reducible refine Adds.drew ?_ | with_reducible refine Adds.drewN ?_ _))).mono ?_; rintro e w1 ⟨rfl, os1, n1, rfl⟩))
    go_region_law (first
      | (refine rowS_step1 (Y := ((w.alloc (Obj.cells #[.int .i64 base, .int .i64 total, .slice so n sc, .slice (some ⟨b, off, none⟩) (at_ + 1) uc] 25)).alloc (Obj.cells #[.int .i64 0, .int .i64 0, .slice none 0 0, .slice none 0 0] 25))) rfl (.tmp 13) (.tmp 17) rfl (RowS.emptyAt _ _ (by simp [go_sem])) rfl (HT1.out _ (by repeat (first | with_reducible exact Adds.refl _ | with_reducible refine Adds.alloc ?_ _ | with_reducible refine Adds.more ?_ _ _ | with_reducible refine Adds.drew ?_ | with_reducible refine Adds.drewN ?_ _))) HL1.out rfl (by repeat (first | with_reducible exact Adds.refl _ | with_reducible refine Adds.alloc ?_ _ | with_reducible refine Adds.more ?_ _ _ | with_reducible refine Adds.drew ?_ | with_reducible refine Adds.drewN ?_ _)) (by simp [go_sem] <;> omega) (by simp [go_sem] <;> omega) (by omega) ?_; rintro v2 c2 os2 d2 H2)
      | (refine rowS_step2 (Y := ((w.alloc (Obj.cells #[.int .i64 base, .int .i64 total, .slice so n sc, .slice (some ⟨b, off, none⟩) (at_ + 1) uc] 25)).alloc (Obj.cells #[.int .i64 0, .int .i64 0, .slice none 0 0, .slice none 0 0] 25))) rfl (.tmp 18) (.tmp 23) rfl H2.out.1 HL1.out rfl (HT2.out _ _ _) HL2.out rfl (by repeat (first | with_reducible exact Adds.refl _ | with_reducible refine Adds.alloc ?_ _ | with_reducible refine Adds.more ?_ _ _ | with_reducible refine Adds.drew ?_ | with_reducible refine Adds.drewN ?_ _)) (by simp [go_sem] <;> omega) H2.out.2 (by omega) at_ (by omega) ?_; rintro v3 c3 os3 d3 H3))
    all_goals
      go_wp2
      refine bodyPost_ret (v := .tuple #[.agg #[.int .i64 base, .int .i64 total, .slice so n sc, .slice v3 at_ c3], .int .i64 0]) (by simp [results, Try.results24, go_sem]) rfl ⟨⟨v3, c3, rfl, ?_⟩, (by repeat (first | with_reducible exact Adds.refl _ | with_reducible refine Adds.alloc ?_ _ | with_reducible refine Adds.more ?_ _ _ | with_reducible refine Adds.drew ?_ | with_reducible refine Adds.drewN ?_ _))⟩
      exact (RowS.far H3.out.1 (by repeat (first | with_reducible exact Far.refl _ _ | with_reducible refine Far.mores ?_ (by simp [go_sem]) _ _ _ | with_reducible refine Far.allocs ?_ (by simp [go_sem]) _ | with_reducible refine Far.low ?_ (by simp [go_sem]) (by simp [go_sem] <;> omega) _ _ | with_reducible refine Far.more ?_ _ _ | with_reducible refine Far.alloc ?_ _))).lst

set_option maxHeartbeats 2000000 in
set_option maxRecDepth 20000 in
theorem refClose_none (base total : Int) (s t : Value) (sb : List Sb) (name : ByteArray) (w : World) (hs : ∃ so n sc, s = .slice so n sc) (ht : LstS w t sb) (h8 : sb.length ≤ 1000) (hc : ∀ i j (hi : i < sb.length) (hj : j < sb.length), i < j → lessP sb[i].name sb[j].name = true) (hn : hasAt name sb = false) :
    Calls Try.prog 24 #[.agg #[.int .i64 base, .int .i64 total, s, t], .string name] w fun e w' => e = .returned (.tuple #[.agg #[.int .i64 base, .int .i64 total, s, t], .int .i64 4]) ∧ Adds w w' := by
  have kA := fun w' (hA : Adds w w') => refAt_any base total s t sb name w' (ht.adds hA) h8 hc
  rw [show atI name sb = -1 by simp [atI, hn]] at kA
  obtain ⟨so, n, sc, rfl⟩ := hs
  obtain ⟨uo, uc, rfl, _, _⟩ := ht
  clear hc hn
  go_enter Try.func24, Try.ntmps24
  go_wp2_with (first
    | (go_at_call 44; refine (kA _ (by repeat (first | with_reducible exact Adds.refl _ | with_reducible refine Adds.alloc ?_ _ | with_reducible refine Adds.more ?_ _ _ | with_reducible refine Adds.drew ?_ | with_reducible refine Adds.drewN ?_ _))).mono ?_; rintro e w1 ⟨rfl, os1, n1, rfl⟩))
  exact bodyPost_ret (v := .tuple #[.agg #[.int .i64 base, .int .i64 total, .slice so n sc, .slice uo sb.length uc], .int .i64 4]) (by simp [results, Try.results24, go_sem]) rfl ⟨rfl, (by repeat (first | with_reducible exact Adds.refl _ | with_reducible refine Adds.alloc ?_ _ | with_reducible refine Adds.more ?_ _ _ | with_reducible refine Adds.drew ?_ | with_reducible refine Adds.drewN ?_ _))⟩

end Go.Proofs.Ytpjhohmbifpogaa
