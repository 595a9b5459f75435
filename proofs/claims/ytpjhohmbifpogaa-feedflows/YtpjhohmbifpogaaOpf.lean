/-
  Open of package feed where there is no subscription, by contract.
-/
import Derived.Test.YtpjhohmbifpogaaAwa
import Derived.Test.YtpjhohmbifpogaaFck
import Derived.Test.YtpjhohmbifpogaaMfnd
namespace Go.Proofs.Ytpjhohmbifpogaa
open Go.RowKit
attribute [local go_sem] cell?_more frozen?_more setCell_more size_more tape_more drew_more drewN_more more_drew more_drewN one_out plus_out plus_end lt_one le_p2 le_p3 le_p4 le_p5 le_p6 le_p7 le_p8 le_p9 le_p10 le_p11 le_p12 le_p13 le_p14 le_p15 le_p16 le_p17 le_p18 le_p19 le_p20 le_p21 le_p22 le_p23 le_p24 le_q0 le_q1 lt_q1 le_q2 lt_q2 le_q3 lt_q3 le_q4 lt_q4 le_q5 lt_q5 le_q6 lt_q6 le_q7 lt_q7 le_q8 lt_q8 le_q9 lt_q9 le_q10 lt_q10 le_q11 lt_q11 le_q12 lt_q12 le_q13 lt_q13 le_q14 lt_q14 le_q15 lt_q15 le_q16 lt_q16 le_q17 lt_q17 le_q18 lt_q18 le_q19 lt_q19 le_q20 lt_q20 le_q21 lt_q21 le_q22 lt_q22 le_q23 lt_q23 le_q24 lt_q24

theorem liesS_new (x : Sb) (W : World) (T : TypeId) (b : Nat) (hb : b = W.heap.size) : LiesS (W.alloc (.cells #[.string x.name, .int .i64 x.pos] T)) b 0 [x] := by
  subst hb
  intro j hj
  have : j = 0 := by simpa using hj
  subst this
  simp

set_option maxHeartbeats 2000000 in
set_option maxRecDepth 20000 in
theorem open_first (base total pos : Int) (s : Value) (ch : List Ch) (name : ByteArray) (w : World) (hM : MayF ⟨base, total, ch, []⟩) (hs : LstH w s ch) (hl6 : ch.length ≤ 1000) (hd6 : ∀ d ∈ ch, d.doc.length ≤ 1000) (hk : isKey name = true) (h0 : base ≤ pos) (h1 : pos ≤ total) :
    Calls Try.prog 18 #[.agg #[.int .i64 base, .int .i64 total, s, .slice none 0 0], .string name, .int .i64 pos] w fun e w' => (∃ vo vc uo uc rs, e = .returned (.tuple #[.agg #[.int .i64 base, .int .i64 total, .slice vo ch.length vc, .slice uo 1 uc], .int .i64 0]) ∧ Hid (OwnH w.heap.size (.slice vo ch.length vc) rs w' w' ∧ rs.map (·.1) = ch ∧ OwnS w.heap.size (.slice uo 1 uc) [⟨name, pos⟩] w' w')) ∧ Adds w w' := by
  have kC := fun w' (hA : Adds w w') => checkF_any (.agg #[.int .i64 base, .int .i64 total, s, .slice none 0 0]) ⟨base, total, ch, []⟩ w' ⟨_, _, rfl, hs.adds hA, ⟨_, _, rfl, Nat.le_refl _, .inl rfl⟩⟩ hl6
  rw [err_ok hM] at kC
  obtain ⟨m1, m2, m3, m4, m5, m6⟩ := hM
  simp only at m1 m2 m3 m4
  have kO := fun w' (hA : Adds w w') => copyOf_nil base total s ch w' (hs.adds hA) hl6 hd6
  have kF := fun w' => find_any (.slice none 0 0) [] name w' ⟨_, _, rfl, Nat.le_refl _, .inl rfl⟩ (by simp) (fun i j hi => absurd hi (by simp))
  rw [show hasAt name [] = false by simp [hasAt], show cutAt name [] = 0 from rfl] at kF
  have kK := key_any name
  rw [hk] at kK
  obtain ⟨so, sc, rfl, _, _⟩ := hs
  have h0' : ¬ pos < base := by omega
  have h1' : ¬ total < pos := by omega
  have h2' : ¬ pos < 0 := by omega
  clear hd6 m5 m6
  go_enter Try.func18, Try.ntmps18
  go_wp2_with (first
    | (go_at_call 13; refine (kC _ (by repeat (first | with_reducible exact Adds.refl _ | with_reducible refine Adds.alloc ?_ _ | with_reducible refine Adds.more ?_ _ _ | with_reducible refine Adds.drew ?_ | with_reducible refine Adds.drewN ?_ _))).mono ?_; rintro e w1 ⟨rfl, os1, n1, rfl⟩)
    | (go_at_call 31; refine (kO _ (by repeat (first | with_reducible exact Adds.refl _ | with_reducible refine Adds.alloc ?_ _ | with_reducible refine Adds.more ?_ _ _ | with_reducible refine Adds.drew ?_ | with_reducible refine Adds.drewN ?_ _))).mono ?_; rintro e w2 ⟨⟨v2, c2, rs, rfl, H2⟩, os2, n2, rfl⟩)
    | (go_at_call 40; refine (kF _).mono ?_; rintro e w3 ⟨rfl, os3, n3, rfl⟩)
    | (go_at_call 41; refine (kK _).mono ?_; rintro e w4 ⟨rfl, hw⟩; subst w4)
    | (go_at_call 42; refine (insert_nil ⟨name, pos⟩ _ 0 1 _ (by simp [go_sem]) (liesS_new ⟨name, pos⟩ _ _ _ (by simp [go_sem])) (Nat.le_refl _)).mono ?_; rintro e w5 ⟨⟨v5, c5, rfl, H5⟩, os5, n5, rfl⟩))
  refine bodyPost_ret (v := .tuple #[.agg #[.int .i64 base, .int .i64 total, .slice v2 ch.length c2, .slice v5 1 c5], .int .i64 0]) (by simp [results, Try.results18, go_sem]) rfl ⟨⟨v2, c2, v5, c5, rs, rfl, ?_, H2.out.2, ?_⟩, (by repeat (first | with_reducible exact Adds.refl _ | with_reducible refine Adds.alloc ?_ _ | with_reducible refine Adds.more ?_ _ _ | with_reducible refine Adds.drew ?_ | with_reducible refine Adds.drewN ?_ _))⟩
  · refine H2.out.1.far ?_ (by simp [go_sem] <;> omega)
    repeat (first | with_reducible exact Far.refl _ _ | with_reducible refine Far.mores ?_ (by simp [go_sem]) _ _ _ | with_reducible refine Far.allocs ?_ (by simp [go_sem]) _ | with_reducible refine Far.low ?_ (by simp [go_sem]) (by simp [go_sem] <;> omega) _ _ | with_reducible refine Far.more ?_ _ _ | with_reducible refine Far.alloc ?_ _)
  · refine H5.out.far ?_ (by simp [go_sem] <;> omega)
    repeat (first | with_reducible exact Far.refl _ _ | with_reducible refine Far.mores ?_ (by simp [go_sem]) _ _ _ | with_reducible refine Far.allocs ?_ (by simp [go_sem]) _ | with_reducible refine Far.low ?_ (by simp [go_sem]) (by simp [go_sem] <;> omega) _ _ | with_reducible refine Far.more ?_ _ _ | with_reducible refine Far.alloc ?_ _)

end Go.Proofs.Ytpjhohmbifpogaa
