/-
  The law of what is added: FeedAdds returns true, whatever the input.
-/
import Derived.Test.YtpjhohmbifpogaaAlw
namespace Go.Proofs.Ytpjhohmbifpogaa
open Go.RowKit
attribute [local go_sem] cell?_more frozen?_more setCell_more size_more tape_more drew_more drewN_more more_drew more_drewN one_out plus_out plus_end lt_one le_p2 le_p3 le_p4 le_p5 le_p6 le_p7 le_p8 le_p9 le_p10 le_p11 le_p12 le_p13 le_p14 le_p15 le_p16 le_p17 le_p18 le_p19 le_p20 le_p21 le_p22 le_p23 le_p24 le_q0 le_q1 lt_q1 le_q2 lt_q2 le_q3 lt_q3 le_q4 lt_q4 le_q5 lt_q5 le_q6 lt_q6 le_q7 lt_q7 le_q8 lt_q8 le_q9 lt_q9 le_q10 lt_q10 le_q11 lt_q11 le_q12 lt_q12 le_q13 lt_q13 le_q14 lt_q14 le_q15 lt_q15 le_q16 lt_q16 le_q17 lt_q17 le_q18 lt_q18 le_q19 lt_q19 le_q20 lt_q20 le_q21 lt_q21 le_q22 lt_q22 le_q23 lt_q23 le_q24 lt_q24

theorem feedAdds_any (v x : Value) (f : Fd) (l : List Ch) (w : World) (h : LstF w v f) (hx : LstH w x l) :
    Calls Try.prog 3 #[v, x] w fun e w' => e = .returned (.bool true) ∧ Adds w w' := by
  by_cases hL : LightF f ∧ LightC l
  rotate_left
  · exact feedAdds_great v x f l w h hx hL
  obtain ⟨hL, hL2⟩ := hL
  by_cases hM : MayF f
  rotate_left
  · exact feedAdds_bad v x f l w h hx hL hL2 hM
  have hc : f.ch.length ≤ 60 := hL.1.1
  have hl : l.length ≤ 60 := hL2.1
  have hd := lightC_doc hL.1
  have hld := lightC_doc hL2
  have hs6 : f.sb.length ≤ 1000 := Nat.le_trans hM.2.2.2.2.2.1 (by omega)
  have hdl : ∀ d ∈ f.ch ++ l, d.doc.length ≤ 1000 := fun d hm => by
    rcases List.mem_append.1 hm with hm | hm
    · exact hd d hm
    · exact hld d hm
  have ht0 : 0 ≤ f.total := Int.le_trans hM.1 hM.2.1
  obtain ⟨base, total, ch, sb⟩ := f
  obtain ⟨s, t, rfl, hs, ht⟩ := id h
  simp only at hc hd hs6 hdl ht0 hs ht h
  by_cases hO : total + l.length ≤ 2147483647 ∧ Follow l total
  · have hMg := (mayF_add hM).2 hO
    have kD : TellsF 11 #[.agg #[.int .i64 base, .int .i64 total, s, t], x] ⟨base, total + l.length, ch ++ l, sb⟩ (ch.length + l.length) (.int .i64 0) w := by
      intro W hA
      refine (add_ok _ ⟨base, total, ch, sb⟩ x l W (h.adds hA) (hx.adds hA) hM hO.2 hO.1 (by show ch.length ≤ _; omega) hd (by omega) hld).mono ?_
      rintro e w' ⟨⟨vo, vc, uo, uc, rfl, H⟩, hA'⟩
      exact ⟨⟨vo, vc, uo, uc, rfl, ⟨_, _, rfl, H.out.1, H.out.2⟩⟩, hA'⟩
    have kR : TellsF 15 #[.agg #[.int .i64 base, .int .i64 total, s, t], x] ⟨base, total + l.length, ch ++ l, sb⟩ (ch.length + l.length) (.bool true) w := by
      intro W hA
      refine (refAdd_ok base total s t x ch l sb W (hs.adds hA) (ht.adds hA) (hx.adds hA) ht0 hO.1 (by omega) (by omega) hdl hMg).mono ?_
      rintro e w' ⟨⟨vo, vc, uo, uc, rfl, H⟩, hA'⟩
      exact ⟨⟨vo, vc, uo, uc, rfl, ⟨_, _, rfl, H.out.1, H.out.2⟩⟩, hA'⟩
    by_cases hn : l = []
    · subst hn
      refine feedAdds_walk _ x ⟨base, total, ch, sb⟩ [] w h hx hL hL2 hM _ _ 0 true true rfl kD kR (by simp; omega) (by simpa using hd) hs6 ?_ ?_
      · intro W v' hA hv'
        exact fSame_alike _ _ ⟨base, total, ch, sb⟩ W (h.adds hA) (by simpa using hv') (by show ch.length ≤ _; omega) hs6 hd
      · intro W v' hA hv'
        exact rSame_alike _ _ ⟨base, total, ch, sb⟩ W (h.adds hA) (by simpa using hv') (by show ch.length ≤ _; omega) hd hs6
    · have hne : total ≠ total + (l.length : Int) := by
        have : l.length ≠ 0 := fun e => hn (List.eq_nil_of_length_eq_zero e)
        omega
      refine feedAdds_walk _ x ⟨base, total, ch, sb⟩ l w h hx hL hL2 hM _ _ 0 true false rfl kD kR (by simp; omega) hdl hs6 ?_ ?_
      · rintro W v' hA ⟨s', t', rfl, _, _⟩
        exact fSame_unlike base _ _ _ _ _ _ W hne
      · rintro W v' hA ⟨s', t', rfl, _, _⟩
        exact rSame_unlike _ _ _ _ _ _ _ _ W hne
  · have kD : TellsF 11 #[.agg #[.int .i64 base, .int .i64 total, s, t], x] ⟨base, total, ch, sb⟩ ch.length (.int .i64 1) w := by
      intro W hA
      refine (add_arg _ ⟨base, total, ch, sb⟩ x l W (h.adds hA) (hx.adds hA) hM hO (by show ch.length ≤ _; omega) hd (by omega)).mono ?_
      rintro e w' ⟨⟨vo, vc, uo, uc, rfl, H⟩, hA'⟩
      exact ⟨⟨vo, vc, uo, uc, rfl, ⟨_, _, rfl, H.out.1, H.out.2⟩⟩, hA'⟩
    have kR : TellsF 15 #[.agg #[.int .i64 base, .int .i64 total, s, t], x] ⟨base, total, ch, sb⟩ ch.length (.bool false) w := by
      intro W hA
      have hv := h.adds hA
      have key : Calls Try.prog 15 #[.agg #[.int .i64 base, .int .i64 total, s, t], x] W fun e w' => e = .returned (.tuple #[.agg #[.int .i64 base, .int .i64 total, s, t], .bool false]) ∧ Adds W w' := by
        by_cases hT : total + l.length ≤ 2147483647
        · exact refAdd_no base total s t x ch l sb W (hs.adds hA) (ht.adds hA) (hx.adds hA) ht0 hT (by omega) (by omega) hdl (fun hg => hO ((mayF_add hM).1 hg))
        · exact refAdd_long _ ⟨base, total, ch, sb⟩ x l W hv (hx.adds hA) ht0 hM.2.2.1 (by show 2147483647 < total + _; omega)
      refine key.mono ?_
      rintro e w' ⟨rfl, hA'⟩
      obtain ⟨so, sc, rfl, _, _⟩ := hs
      obtain ⟨uo, uc, rfl, _, _⟩ := ht
      exact ⟨⟨so, sc, uo, uc, rfl, hv.adds hA'⟩, hA'⟩
    refine feedAdds_walk _ x ⟨base, total, ch, sb⟩ l w h hx hL hL2 hM _ _ 1 false true rfl kD kR (by show ch.length ≤ _; omega) hd hs6 ?_ ?_
    · intro W v' hA hv'
      exact fSame_alike _ _ ⟨base, total, ch, sb⟩ W (h.adds hA) hv' (by show ch.length ≤ _; omega) hs6 hd
    · intro W v' hA hv'
      exact rSame_alike _ _ ⟨base, total, ch, sb⟩ W (h.adds hA) hv' (by show ch.length ≤ _; omega) hd hs6

end Go.Proofs.Ytpjhohmbifpogaa
