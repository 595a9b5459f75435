/-
  behind of package feed, by contract.
-/
import Derived.Test.YtpjhohmbifpogaaCpf
namespace Go.Proofs.Ytpjhohmbifpogaa
open Go.RowKit
attribute [local go_sem] cell?_more frozen?_more setCell_more size_more tape_more drew_more drewN_more more_drew more_drewN one_out plus_out plus_end lt_one le_p2 le_p3 le_p4 le_p5 le_p6 le_p7 le_p8 le_p9 le_p10 le_p11 le_p12 le_p13 le_p14 le_p15 le_p16 le_p17 le_p18 le_p19 le_p20 le_p21 le_p22 le_p23 le_p24 le_q0 le_q1 lt_q1 le_q2 lt_q2 le_q3 lt_q3 le_q4 lt_q4 le_q5 lt_q5 le_q6 lt_q6 le_q7 lt_q7 le_q8 lt_q8 le_q9 lt_q9 le_q10 lt_q10 le_q11 lt_q11 le_q12 lt_q12 le_q13 lt_q13 le_q14 lt_q14 le_q15 lt_q15 le_q16 lt_q16 le_q17 lt_q17 le_q18 lt_q18 le_q19 lt_q19 le_q20 lt_q20 le_q21 lt_q21 le_q22 lt_q22 le_q23 lt_q23 le_q24 lt_q24

theorem copyNews_row2 (ao : Option Addr) (n cap : Nat) (ds : List Ch) (w : World) (hn : ds.length = n) (h : LstH w (.slice ao n cap) ds) (hl6 : ds.length ≤ 1000) (hd6 : ∀ d ∈ ds, d.doc.length ≤ 1000) :
    Calls Try.prog 33 #[.slice ao n cap] w fun e w' => (∃ vo vc rs, e = .returned (.slice vo n vc) ∧ Hid (OwnH w.heap.size (.slice vo n vc) rs w w' ∧ rs.map (·.1) = ds)) ∧ Adds w w' := by
  subst hn
  exact copyNews_row _ ds w h hl6 hd6

def cutC (ch : List Ch) (k m : Nat) : List Ch := (ch.drop k).take m

theorem cutC_doc {ch : List Ch} (k m : Nat) (hd : ∀ d ∈ ch, d.doc.length ≤ 1000) : ∀ d ∈ cutC ch k m, d.doc.length ≤ 1000 := fun d hm => hd d (List.mem_of_mem_drop (List.mem_of_mem_take hm))

set_option maxHeartbeats 2000000 in
set_option maxRecDepth 20000 in
theorem behind_any (base total pos : Int) (s t : Value) (ch : List Ch) (k m : Nat) (w : World) (hs : LstH w s ch) (hl6 : ch.length ≤ 1000) (hd6 : ∀ d ∈ ch, d.doc.length ≤ 1000) (hk : pos - base = (k : Int)) (hkl : k ≤ ch.length) (hp : 0 ≤ base) (hp2 : pos ≤ 2147483647) (hm1 : 1 ≤ m) (hm2 : m ≤ 16) :
    Calls Try.prog 46 #[.agg #[.int .i64 base, .int .i64 total, s, t], .int .i64 pos, .int .i64 (m : Int)] w fun e w' => (∃ vo vc rs, e = .returned (.slice vo (cutC ch k m).length vc) ∧ Hid (OwnH w.heap.size (.slice vo (cutC ch k m).length vc) rs w' w' ∧ rs.map (·.1) = cutC ch k m)) ∧ Adds w w' := by
  have hw : IntKind.i64.wrap (pos - base) = k := by rw [IntKind.wrap_i64]; omega
  obtain ⟨ao, cap, rfl, hcap, hlo⟩ := hs
  have HD : Hid (∀ d ∈ cutC ch k m, d.doc.length ≤ 1000) := cutC_doc k m hd6
  clear hd6
  have hkc : (k : Int) ≤ (cap : Int) := by omega
  have fin : ∀ (O : Obj) (vo : Option Addr) (n vc : Nat) (rs : List Rh) (os : Array Obj) (d : Nat), Hid (OwnH (w.alloc O).heap.size (.slice vo n vc) rs (w.alloc O) (more (w.alloc O) os d) ∧ rs.map (·.1) = cutC ch k m) → n = (cutC ch k m).length → ∀ e : Ending, e = .returned (.slice vo n vc) → (∃ vo vc rs, e = .returned (.slice vo (cutC ch k m).length vc) ∧ Hid (OwnH w.heap.size (.slice vo (cutC ch k m).length vc) rs (more (w.alloc O) os d) (more (w.alloc O) os d) ∧ rs.map (·.1) = cutC ch k m)) ∧ Adds w (more (w.alloc O) os d) := by
    rintro O vo n vc rs os d H rfl e rfl
    exact ⟨⟨vo, vc, rs, rfl, H.out.1.far (Far.refl _ _) (by rw [alloc_size]; omega), H.out.2⟩, (by repeat (first | with_reducible exact Adds.refl _ | with_reducible refine Adds.alloc ?_ _ | with_reducible refine Adds.more ?_ _ _ | with_reducible refine Adds.drew ?_ | with_reducible refine Adds.drewN ?_ _))⟩
  by_cases hlt : k < ch.length
  · rcases hlo with rfl | ⟨b, off, rfl, hb, hl⟩
    · simp at hlt
    have hlt' : (k : Int) < (ch.length : Int) := by omega
    have hkc' : k < cap := by omega
    by_cases hm : m < ch.length - k
    · have hn : (cutC ch k m).length = m := by simp [cutC]; omega
      have HN : Hid _ := hn
      have kN := fun W' (hA : Adds w W') => copyNews_row2 (some ⟨b, off + k * 4, none⟩) m (cap - k) (cutC ch k m) W' hn (LstH.adds ⟨_, cap - k, by rw [hn], by omega, .inr ⟨b, off + k * 4, rfl, hb, (hl.drop k).take m⟩⟩ hA) (by omega) HD.out
      clear hn hl
      generalize cutC ch k m = ds at *
      go_enter Try.func46, Try.ntmps46
      go_wp2_with (go_at_call 33; refine (kN _ (by repeat (first | with_reducible exact Adds.refl _ | with_reducible refine Adds.alloc ?_ _ | with_reducible refine Adds.more ?_ _ _ | with_reducible refine Adds.drew ?_ | with_reducible refine Adds.drewN ?_ _))).mono ?_; rintro e w4 ⟨⟨v4, c4, qs, rfl, H4⟩, os4, n4, rfl⟩)
      go_ret
      exact fin _ _ _ _ _ _ _ H4 HN.out.symm _ rfl
    · have hn : (cutC ch k m).length = ch.length - k := by simp [cutC]; omega
      have HN : Hid _ := hn
      have kN := fun W' (hA : Adds w W') => copyNews_row2 (some ⟨b, off + k * 4, none⟩) (ch.length - k) (cap - k) (cutC ch k m) W' hn (LstH.adds ⟨_, cap - k, by rw [hn], by omega, .inr ⟨b, off + k * 4, rfl, hb, (hl.drop k).take m⟩⟩ hA) (by omega) HD.out
      clear hn hl
      generalize cutC ch k m = ds at *
      by_cases hme : m = ch.length - k
      · subst hme
        go_enter Try.func46, Try.ntmps46
        go_wp2_with (go_at_call 33; refine (kN _ (by repeat (first | with_reducible exact Adds.refl _ | with_reducible refine Adds.alloc ?_ _ | with_reducible refine Adds.more ?_ _ _ | with_reducible refine Adds.drew ?_ | with_reducible refine Adds.drewN ?_ _))).mono ?_; rintro e w4 ⟨⟨v4, c4, qs, rfl, H4⟩, os4, n4, rfl⟩)
        go_ret
        exact fin _ _ _ _ _ _ _ H4 HN.out.symm _ rfl
      · have hml : ((ch.length - k : Nat) : Int) < (m : Int) := by omega
        go_enter Try.func46, Try.ntmps46
        go_wp2_with (go_at_call 33; refine (kN _ (by repeat (first | with_reducible exact Adds.refl _ | with_reducible refine Adds.alloc ?_ _ | with_reducible refine Adds.more ?_ _ _ | with_reducible refine Adds.drew ?_ | with_reducible refine Adds.drewN ?_ _))).mono ?_; rintro e w4 ⟨⟨v4, c4, qs, rfl, H4⟩, os4, n4, rfl⟩)
        go_ret
        exact fin _ _ _ _ _ _ _ H4 HN.out.symm _ rfl
  · obtain rfl : k = ch.length := by omega
    have hn : cutC ch ch.length m = [] := by simp [cutC]
    have kN := fun ao' c' W' => copyNews_row2 ao' 0 c' [] W' rfl ⟨_, _, rfl, Nat.zero_le _, .inl rfl⟩ (by simp) (by simp)
    rw [hn] at fin ⊢
    clear hlo HD hn
    have hm0 : (0 : Int) < (m : Int) := by omega
    cases ao with
    | none =>
      by_cases hc : cap = ch.length
      all_goals
        go_enter Try.func46, Try.ntmps46
        go_wp2_with (go_at_call 33; refine (kN _ _ _).mono ?_; rintro e w4 ⟨⟨v4, c4, qs, rfl, H4⟩, os4, n4, rfl⟩)
        go_ret
        exact fin _ _ _ _ _ _ _ H4 rfl _ rfl
    | some a =>
      obtain ⟨b, off, sp⟩ := a
      by_cases hc : cap = ch.length
      · subst hc
        go_enter Try.func46, Try.ntmps46
        go_wp2_with (go_at_call 33; refine (kN _ _ _).mono ?_; rintro e w4 ⟨⟨v4, c4, qs, rfl, H4⟩, os4, n4, rfl⟩)
        go_ret
        exact fin _ _ _ _ _ _ _ H4 rfl _ rfl
      · have hc' : ch.length < cap := by omega
        go_enter Try.func46, Try.ntmps46
        go_wp2_with (go_at_call 33; refine (kN _ _ _).mono ?_; rintro e w4 ⟨⟨v4, c4, qs, rfl, H4⟩, os4, n4, rfl⟩)
        go_ret
        exact fin _ _ _ _ _ _ _ H4 rfl _ rfl

end Go.Proofs.Ytpjhohmbifpogaa
