/-
  The reference's Add, by contract.
-/
import Derived.Test.YtpjhohmbifpogaaRad
namespace Go.Proofs.Ytpjhohmbifpogaa
open Go.RowKit
attribute [local go_sem] cell?_more frozen?_more setCell_more size_more tape_more drew_more drewN_more more_drew more_drewN one_out plus_out plus_end lt_one le_p2 le_p3 le_p4 le_p5 le_p6 le_p7 le_p8 le_p9 le_p10 le_p11 le_p12 le_p13 le_p14 le_p15 le_p16 le_p17 le_p18 le_p19 le_p20 le_p21 le_p22 le_p23 le_p24 le_q0 le_q1 lt_q1 le_q2 lt_q2 le_q3 lt_q3 le_q4 lt_q4 le_q5 lt_q5 le_q6 lt_q6 le_q7 lt_q7 le_q8 lt_q8 le_q9 lt_q9 le_q10 lt_q10 le_q11 lt_q11 le_q12 lt_q12 le_q13 lt_q13 le_q14 lt_q14 le_q15 lt_q15 le_q16 lt_q16 le_q17 lt_q17 le_q18 lt_q18 le_q19 lt_q19 le_q20 lt_q20 le_q21 lt_q21 le_q22 lt_q22 le_q23 lt_q23 le_q24 lt_q24

set_option maxHeartbeats 2000000 in
set_option maxRecDepth 20000 in
theorem refAdd_long (v : Value) (f : Fd) (x : Value) (l : List Ch) (w : World) (h : LstF w v f) (hx : LstH w x l) (h0 : 0 ≤ f.total) (hT0 : f.total ≤ 2147483647) (hT : 2147483647 < f.total + l.length) :
    Calls Try.prog 15 #[v, x] w fun e w' => e = .returned (.tuple #[v, .bool false]) ∧ Adds w w' := by
  obtain ⟨s, t, rfl, hs, ht⟩ := h
  obtain ⟨xo, xc, rfl, _, _⟩ := hx
  obtain ⟨so, sc, rfl, _, _⟩ := hs
  obtain ⟨uo, uc, rfl, _, _⟩ := ht
  obtain ⟨base, total, ch, sb⟩ := f
  simp only at *
  have hw1 : IntKind.i64.wrap (2147483647 - total) = 2147483647 - total := by rw [IntKind.wrap_i64]; omega
  have hle : 2147483647 - total < (l.length : Int) := by omega
  go_enter Try.func15, Try.ntmps15
  go_wp2
  exact bodyPost_ret (v := .tuple #[.agg #[.int .i64 base, .int .i64 total, .slice so ch.length sc, .slice uo sb.length uc], .bool false]) (by simp [results, Try.results15, go_sem]) rfl ⟨rfl, (by repeat (first | with_reducible exact Adds.refl _ | with_reducible refine Adds.alloc ?_ _ | with_reducible refine Adds.more ?_ _ _ | with_reducible refine Adds.drew ?_ | with_reducible refine Adds.drewN ?_ _))⟩

set_option maxHeartbeats 4000000 in
set_option maxRecDepth 20000 in
theorem refAdd_ok (base total : Int) (s t x : Value) (ch l : List Ch) (sb : List Sb) (w : World) (hs : LstH w s ch) (ht : LstS w t sb) (hx : LstH w x l) (h0 : 0 ≤ total) (hT : total + l.length ≤ 2147483647) (hc : ch.length ≤ 400) (hl : l.length ≤ 400) (hd : ∀ d ∈ ch ++ l, d.doc.length ≤ 1000) (hM : MayF ⟨base, total + l.length, ch ++ l, sb⟩) :
    Calls Try.prog 15 #[.agg #[.int .i64 base, .int .i64 total, s, t], x] w fun e w' => (∃ vo vc uo uc, e = .returned (.tuple #[.agg #[.int .i64 base, .int .i64 (total + l.length), .slice vo (ch.length + l.length) vc, .slice uo sb.length uc], .bool true]) ∧ Hid (LstH w' (.slice vo (ch.length + l.length) vc) (ch ++ l) ∧ LstS w' (.slice uo sb.length uc) sb)) ∧ Adds w w' := by
  have hs0 := hs
  have ht0 := ht
  have hx0 := hx
  obtain ⟨xo, xc, rfl, _, _⟩ := hx
  obtain ⟨so, sc, rfl, _, _⟩ := hs
  obtain ⟨uo, uc, rfl, _, _⟩ := ht
  have hw1 : IntKind.i64.wrap (2147483647 - total) = 2147483647 - total := by rw [IntKind.wrap_i64]; omega
  have hw2 : IntKind.i64.wrap (total + l.length) = total + l.length := by rw [IntKind.wrap_i64]; omega
  have hle : ¬ 2147483647 - total < (l.length : Int) := by omega
  have kM := fun W vo vc (hA : Adds w W) (hL : LstH W (.slice vo (ch.length + l.length) vc) (ch ++ l)) => refMayF_any (.agg #[.int .i64 base, .int .i64 (total + l.length), .slice vo (ch.length + l.length) vc, .slice uo sb.length uc]) ⟨base, total + l.length, ch ++ l, sb⟩ W ⟨_, _, rfl, hL, ht0.adds hA⟩ (by simp; omega) (fun k hk => hd _ (List.getElem_mem hk))
  rw [decide_eq_true hM] at kM
  have HS : Hid (LstS w (.slice uo sb.length uc) sb) := ht0
  have HX : Hid (LstH w (.slice xo l.length xc) l) := hx0
  have HC : Hid (LstH w (.slice so ch.length sc) ch) := hs0
  have hl1 : ch.length ≤ 10000 := by omega
  have hl2 : ch.length + l.length ≤ 10000 := by omega
  clear hs0 ht0 hx0 hd hM
  go_enter Try.func15, Try.ntmps15
  go_wp2_with (first
    | (at_builtin; refine rowG_first (Y := ((w.alloc (Obj.cells #[.int .i64 base, .int .i64 total, .slice so ch.length sc, .slice uo sb.length uc] 25)).alloc (Obj.cells #[.int .i64 0, .int .i64 0, .slice none 0 0, .slice none 0 0] 25)).alloc (Obj.cells #[.int .i64 base, .int .i64 (total + l.length), .slice so ch.length sc, .slice uo sb.length uc] 25)) rfl (.tmp 21) (.tmp 23) rfl (RowG.emptyAt w _ _ (by simp [go_sem])) rfl HC.out rfl (by repeat (first | with_reducible exact Adds.refl _ | with_reducible refine Adds.alloc ?_ _ | with_reducible refine Adds.more ?_ _ _ | with_reducible refine Adds.drew ?_ | with_reducible refine Adds.drewN ?_ _)) (by repeat (first | with_reducible exact Adds.refl _ | with_reducible refine Adds.alloc ?_ _ | with_reducible refine Adds.more ?_ _ _ | with_reducible refine Adds.drew ?_ | with_reducible refine Adds.drewN ?_ _)) (by simp [go_sem]) (by simp [go_sem]) hl1 ?_; rintro v1 c1 os1 d1 q1 H1)
    | (at_builtin; refine rowG_apps (Y := ((w.alloc (Obj.cells #[.int .i64 base, .int .i64 total, .slice so ch.length sc, .slice uo sb.length uc] 25)).alloc (Obj.cells #[.int .i64 0, .int .i64 0, .slice none 0 0, .slice none 0 0] 25)).alloc (Obj.cells #[.int .i64 base, .int .i64 (total + l.length), .slice so ch.length sc, .slice uo sb.length uc] 25)) rfl (.tmp 24) (.tmp 25) rfl H1.out.2.1 (rows_length H1.out.1) rfl HX.out rfl (by repeat (first | with_reducible exact Adds.refl _ | with_reducible refine Adds.alloc ?_ _ | with_reducible refine Adds.more ?_ _ _ | with_reducible refine Adds.drew ?_ | with_reducible refine Adds.drewN ?_ _)) (by repeat (first | with_reducible exact Adds.refl _ | with_reducible refine Adds.alloc ?_ _ | with_reducible refine Adds.more ?_ _ _ | with_reducible refine Adds.drew ?_ | with_reducible refine Adds.drewN ?_ _)) (by simp [go_sem]) H1.out.2.2 hl2 ?_; rintro v2 c2 os2 d2 q2 H2)
    | (go_at_call 12; refine (kM _ _ _ (by repeat (first | with_reducible exact Adds.refl _ | with_reducible refine Adds.alloc ?_ _ | with_reducible refine Adds.more ?_ _ _ | with_reducible refine Adds.drew ?_ | with_reducible refine Adds.drewN ?_ _)) ?_).mono ?_; (have hm : (q1 ++ q2).map (·.1) = ch ++ l := by rw [List.map_append, H1.out.1, H2.out.1]); rw [← hm]; exact RowG.lstH (RowG.far H2.out.2.1 (by repeat (first | with_reducible exact Far.refl _ _ | with_reducible refine Far.mores ?_ (by simp [go_sem]) _ _ _ | with_reducible refine Far.allocs ?_ (by simp [go_sem]) _ | with_reducible refine Far.low ?_ (by simp [go_sem]) (by simp [go_sem] <;> omega) _ _ | with_reducible refine Far.more ?_ _ _ | with_reducible refine Far.alloc ?_ _))) (by repeat (first | with_reducible exact Adds.refl _ | with_reducible refine Adds.alloc ?_ _ | with_reducible refine Adds.more ?_ _ _ | with_reducible refine Adds.drew ?_ | with_reducible refine Adds.drewN ?_ _)); rintro e w3 ⟨rfl, os3, n3, rfl⟩))
  refine bodyPost_ret (v := .tuple #[.agg #[.int .i64 base, .int .i64 (total + l.length), .slice v2 (ch.length + l.length) c2, .slice uo sb.length uc], .bool true]) (by simp [results, Try.results15, go_sem]) rfl ⟨⟨v2, c2, uo, uc, rfl, ?_⟩, (by repeat (first | with_reducible exact Adds.refl _ | with_reducible refine Adds.alloc ?_ _ | with_reducible refine Adds.more ?_ _ _ | with_reducible refine Adds.drew ?_ | with_reducible refine Adds.drewN ?_ _))⟩
  have hm : (q1 ++ q2).map (·.1) = ch ++ l := by rw [List.map_append, H1.out.1, H2.out.1]
  refine ⟨?_, HS.out.adds (by repeat (first | with_reducible exact Adds.refl _ | with_reducible refine Adds.alloc ?_ _ | with_reducible refine Adds.more ?_ _ _ | with_reducible refine Adds.drew ?_ | with_reducible refine Adds.drewN ?_ _))⟩
  rw [← hm]
  exact RowG.lstH (RowG.far H2.out.2.1 (by repeat (first | with_reducible exact Far.refl _ _ | with_reducible refine Far.mores ?_ (by simp [go_sem]) _ _ _ | with_reducible refine Far.allocs ?_ (by simp [go_sem]) _ | with_reducible refine Far.low ?_ (by simp [go_sem]) (by simp [go_sem] <;> omega) _ _ | with_reducible refine Far.more ?_ _ _ | with_reducible refine Far.alloc ?_ _))) (by repeat (first | with_reducible exact Adds.refl _ | with_reducible refine Adds.alloc ?_ _ | with_reducible refine Adds.more ?_ _ _ | with_reducible refine Adds.drew ?_ | with_reducible refine Adds.drewN ?_ _))

set_option maxHeartbeats 4000000 in
set_option maxRecDepth 20000 in
theorem refAdd_no (base total : Int) (s t x : Value) (ch l : List Ch) (sb : List Sb) (w : World) (hs : LstH w s ch) (ht : LstS w t sb) (hx : LstH w x l) (h0 : 0 ≤ total) (hT : total + l.length ≤ 2147483647) (hc : ch.length ≤ 400) (hl : l.length ≤ 400) (hd : ∀ d ∈ ch ++ l, d.doc.length ≤ 1000) (hM : ¬ MayF ⟨base, total + l.length, ch ++ l, sb⟩) :
    Calls Try.prog 15 #[.agg #[.int .i64 base, .int .i64 total, s, t], x] w fun e w' => e = .returned (.tuple #[.agg #[.int .i64 base, .int .i64 total, s, t], .bool false]) ∧ Adds w w' := by
  have hs0 := hs
  have ht0 := ht
  have hx0 := hx
  obtain ⟨xo, xc, rfl, _, _⟩ := hx
  obtain ⟨so, sc, rfl, _, _⟩ := hs
  obtain ⟨uo, uc, rfl, _, _⟩ := ht
  have hw1 : IntKind.i64.wrap (2147483647 - total) = 2147483647 - total := by rw [IntKind.wrap_i64]; omega
  have hw2 : IntKind.i64.wrap (total + l.length) = total + l.length := by rw [IntKind.wrap_i64]; omega
  have hle : ¬ 2147483647 - total < (l.length : Int) := by omega
  have kM := fun W vo vc (hA : Adds w W) (hL : LstH W (.slice vo (ch.length + l.length) vc) (ch ++ l)) => refMayF_any (.agg #[.int .i64 base, .int .i64 (total + l.length), .slice vo (ch.length + l.length) vc, .slice uo sb.length uc]) ⟨base, total + l.length, ch ++ l, sb⟩ W ⟨_, _, rfl, hL, ht0.adds hA⟩ (by simp; omega) (fun k hk => hd _ (List.getElem_mem hk))
  rw [decide_eq_false hM] at kM
  have HS : Hid (LstS w (.slice uo sb.length uc) sb) := ht0
  have HX : Hid (LstH w (.slice xo l.length xc) l) := hx0
  have HC : Hid (LstH w (.slice so ch.length sc) ch) := hs0
  have hl1 : ch.length ≤ 10000 := by omega
  have hl2 : ch.length + l.length ≤ 10000 := by omega
  clear hs0 ht0 hx0 hd hM
  go_enter Try.func15, Try.ntmps15
  go_wp2_with (first
    | (at_builtin; refine rowG_first (Y := ((w.alloc (Obj.cells #[.int .i64 base, .int .i64 total, .slice so ch.length sc, .slice uo sb.length uc] 25)).alloc (Obj.cells #[.int .i64 0, .int .i64 0, .slice none 0 0, .slice none 0 0] 25)).alloc (Obj.cells #[.int .i64 base, .int .i64 (total + l.length), .slice so ch.length sc, .slice uo sb.length uc] 25)) rfl (.tmp 21) (.tmp 23) rfl (RowG.emptyAt w _ _ (by simp [go_sem])) rfl HC.out rfl (by repeat (first | with_reducible exact Adds.refl _ | with_reducible refine Adds.alloc ?_ _ | with_reducible refine Adds.more ?_ _ _ | with_reducible refine Adds.drew ?_ | with_reducible refine Adds.drewN ?_ _)) (by repeat (first | with_reducible exact Adds.refl _ | with_reducible refine Adds.alloc ?_ _ | with_reducible refine Adds.more ?_ _ _ | with_reducible refine Adds.drew ?_ | with_reducible refine Adds.drewN ?_ _)) (by simp [go_sem]) (by simp [go_sem]) hl1 ?_; rintro v1 c1 os1 d1 q1 H1)
    | (at_builtin; refine rowG_apps (Y := ((w.alloc (Obj.cells #[.int .i64 base, .int .i64 total, .slice so ch.length sc, .slice uo sb.length uc] 25)).alloc (Obj.cells #[.int .i64 0, .int .i64 0, .slice none 0 0, .slice none 0 0] 25)).alloc (Obj.cells #[.int .i64 base, .int .i64 (total + l.length), .slice so ch.length sc, .slice uo sb.length uc] 25)) rfl (.tmp 24) (.tmp 25) rfl H1.out.2.1 (rows_length H1.out.1) rfl HX.out rfl (by repeat (first | with_reducible exact Adds.refl _ | with_reducible refine Adds.alloc ?_ _ | with_reducible refine Adds.more ?_ _ _ | with_reducible refine Adds.drew ?_ | with_reducible refine Adds.drewN ?_ _)) (by repeat (first | with_reducible exact Adds.refl _ | with_reducible refine Adds.alloc ?_ _ | with_reducible refine Adds.more ?_ _ _ | with_reducible refine Adds.drew ?_ | with_reducible refine Adds.drewN ?_ _)) (by simp [go_sem]) H1.out.2.2 hl2 ?_; rintro v2 c2 os2 d2 q2 H2)
    | (go_at_call 12; refine (kM _ _ _ (by repeat (first | with_reducible exact Adds.refl _ | with_reducible refine Adds.alloc ?_ _ | with_reducible refine Adds.more ?_ _ _ | with_reducible refine Adds.drew ?_ | with_reducible refine Adds.drewN ?_ _)) ?_).mono ?_; (have hm : (q1 ++ q2).map (·.1) = ch ++ l := by rw [List.map_append, H1.out.1, H2.out.1]); rw [← hm]; exact RowG.lstH (RowG.far H2.out.2.1 (by repeat (first | with_reducible exact Far.refl _ _ | with_reducible refine Far.mores ?_ (by simp [go_sem]) _ _ _ | with_reducible refine Far.allocs ?_ (by simp [go_sem]) _ | with_reducible refine Far.low ?_ (by simp [go_sem]) (by simp [go_sem] <;> omega) _ _ | with_reducible refine Far.more ?_ _ _ | with_reducible refine Far.alloc ?_ _))) (by repeat (first | with_reducible exact Adds.refl _ | with_reducible refine Adds.alloc ?_ _ | with_reducible refine Adds.more ?_ _ _ | with_reducible refine Adds.drew ?_ | with_reducible refine Adds.drewN ?_ _)); rintro e w3 ⟨rfl, os3, n3, rfl⟩))
  exact bodyPost_ret (v := .tuple #[.agg #[.int .i64 base, .int .i64 total, .slice so ch.length sc, .slice uo sb.length uc], .bool false]) (by simp [results, Try.results15, go_sem]) rfl ⟨rfl, (by repeat (first | with_reducible exact Adds.refl _ | with_reducible refine Adds.alloc ?_ _ | with_reducible refine Adds.more ?_ _ _ | with_reducible refine Adds.drew ?_ | with_reducible refine Adds.drewN ?_ _))⟩

end Go.Proofs.Ytpjhohmbifpogaa
