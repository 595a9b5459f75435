/-
  What Add, Ack and Open hand back lies in memory of its own.
-/
import Derived.Test.YtpjhohmbifpogaaMpur
import Derived.Test.YtpjhohmbifpogaaMfog
namespace Go.Proofs.Ytpjhohmbifpogaa
open Go.RowKit
attribute [local go_sem] cell?_more frozen?_more setCell_more size_more tape_more drew_more drewN_more more_drew more_drewN one_out plus_out plus_end lt_one le_p2 le_p3 le_p4 le_p5 le_p6 le_p7 le_p8 le_p9 le_p10 le_p11 le_p12 le_p13 le_p14 le_p15 le_p16 le_p17 le_p18 le_p19 le_p20 le_p21 le_p22 le_p23 le_p24 le_q0 le_q1 lt_q1 le_q2 lt_q2 le_q3 lt_q3 le_q4 lt_q4 le_q5 lt_q5 le_q6 lt_q6 le_q7 lt_q7 le_q8 lt_q8 le_q9 lt_q9 le_q10 lt_q10 le_q11 lt_q11 le_q12 lt_q12 le_q13 lt_q13 le_q14 lt_q14 le_q15 lt_q15 le_q16 lt_q16 le_q17 lt_q17 le_q18 lt_q18 le_q19 lt_q19 le_q20 lt_q20 le_q21 lt_q21 le_q22 lt_q22 le_q23 lt_q23 le_q24 lt_q24

set_option maxHeartbeats 4000000 in
set_option maxRecDepth 20000 in
theorem add_okO (v : Value) (f : Fd) (x : Value) (l : List Ch) (w : World) (h : LstF w v f) (hx : LstH w x l) (hM : MayF f) (hF : Follow l f.total) (hT : f.total + l.length ≤ 2147483647) (hc : f.ch.length ≤ 1000) (hd : ∀ d ∈ f.ch, d.doc.length ≤ 1000) (hl : l.length ≤ 1000) (hld : ∀ d ∈ l, d.doc.length ≤ 1000) :
    Calls Try.prog 11 #[v, x] w fun e w' => (∃ vo vc uo uc, e = .returned (.tuple #[.agg #[.int .i64 f.base, .int .i64 (f.total + l.length), .slice vo (f.ch.length + l.length) vc, .slice uo f.sb.length uc], .int .i64 0]) ∧ Hid (LstG w.heap.size w' (.slice vo (f.ch.length + l.length) vc) (f.ch ++ l) (.slice uo f.sb.length uc) f.sb)) ∧ Adds w w' := by
  have kC := fun w' (hA : Adds w w') => checkF_any v f w' (h.adds hA) hc
  rw [err_ok hM] at kC
  obtain ⟨s, t, rfl, hs, ht⟩ := h
  obtain ⟨base, total, ch, sb⟩ := f
  simp only at *
  have kO := fun w' (hA : Adds w w') => copyOf_row base total s t ch sb w' (hs.adds hA) (ht.adds hA) hc hd (Nat.le_trans hM.2.2.2.2.2.1 (by omega))
  have hM1 : 0 ≤ base ∧ base ≤ total ∧ total ≤ 2147483647 := ⟨hM.1, hM.2.1, hM.2.2.1⟩
  have kF := fun w' (hA : Adds w w') => follow_any x l total w' (hx.adds hA) hl (by omega) (by omega)
  rw [decide_eq_true hF] at kF
  have kN := fun w' (hA : Adds w w') => copyNews_row x l w' (hx.adds hA) hl hld
  obtain ⟨xo, xc, rfl, _, _⟩ := hx
  have hw1 : IntKind.i64.wrap (2147483647 - total) = 2147483647 - total := by rw [IntKind.wrap_i64]; omega
  have hw2 : IntKind.i64.wrap (total + l.length) = total + l.length := by rw [IntKind.wrap_i64]; omega
  have hle : ¬ 2147483647 - total < (l.length : Int) := by omega
  have hlen : ch.length + l.length ≤ 10000 := by omega
  clear hld hF hd hM hs ht
  go_enter Try.func11, Try.ntmps11
  go_wp2_with (first
    | (go_at_call 13; refine (kC _ (by repeat (first | with_reducible exact Adds.refl _ | with_reducible refine Adds.alloc ?_ _ | with_reducible refine Adds.more ?_ _ _ | with_reducible refine Adds.drew ?_ | with_reducible refine Adds.drewN ?_ _))).mono ?_; rintro e w1 ⟨rfl, os1, n1, rfl⟩)
    | (go_at_call 31; refine (kO _ (by repeat (first | with_reducible exact Adds.refl _ | with_reducible refine Adds.alloc ?_ _ | with_reducible refine Adds.more ?_ _ _ | with_reducible refine Adds.drew ?_ | with_reducible refine Adds.drewN ?_ _))).mono ?_; rintro e w2 ⟨⟨v2, c2, u2, d2, r2, rfl, H2⟩, os2, n2, rfl⟩)
    | (go_at_call 32; refine (kF _ (by repeat (first | with_reducible exact Adds.refl _ | with_reducible refine Adds.alloc ?_ _ | with_reducible refine Adds.more ?_ _ _ | with_reducible refine Adds.drew ?_ | with_reducible refine Adds.drewN ?_ _))).mono ?_; rintro e w3 ⟨rfl, os3, n3, rfl⟩))
  go_region_law (first
    | (refine call_step rfl 33 (.tmp 29) 22 rfl _ rfl (kN _ (by repeat (first | with_reducible exact Adds.refl _ | with_reducible refine Adds.alloc ?_ _ | with_reducible refine Adds.more ?_ _ _ | with_reducible refine Adds.drew ?_ | with_reducible refine Adds.drewN ?_ _))) (by rintro e w' ⟨⟨v5, c5, r5, h, _⟩, _⟩; exact ⟨_, h⟩) (by go_simp) ?_; rintro u5 w5 ⟨⟨v5, c5, r5, he5, HL5⟩, os5, n5, rfl⟩; obtain rfl := Ending.returned.inj he5; clear he5; have HL5q := HL5.out; (try simp only [more_drew] at HL5q); clear HL5; have HL5 : Hid _ := HL5q; clear HL5q)
    | (refine app_own_step (c := #[.int .i64 base, .int .i64 total, .slice v2 ch.length c2, .slice u2 sb.length d2]) rfl (.tmp 28) (.tmp 30) rfl rfl rfl H2.out.1 (by have hq := congrArg List.length H2.out.2.1; simpa using hq) (OwnH.adds HL5.out.1 (Adds.refl _)) (by have hq := congrArg List.length HL5.out.2; simpa using hq) (by repeat (first | with_reducible exact Adds.refl _ | with_reducible refine Adds.alloc ?_ _ | with_reducible refine Adds.more ?_ _ _ | with_reducible refine Adds.drew ?_ | with_reducible refine Adds.drewN ?_ _)) (by simp [go_sem] <;> omega) (by simp [go_sem] <;> omega) H2.out.2.2 hlen ?_; rintro v6 c6 os6 os7 d6 hz6 H6))
  all_goals
    go_wp2
    refine bodyPost_ret (v := .tuple #[.agg #[.int .i64 base, .int .i64 (total + l.length), .slice v6 (ch.length + l.length) c6, .slice u2 sb.length d2], .int .i64 0]) (by simp [results, Try.results11, go_sem]) rfl ⟨⟨v6, c6, u2, d2, rfl, ?_⟩, (by repeat (first | with_reducible exact Adds.refl _ | with_reducible refine Adds.alloc ?_ _ | with_reducible refine Adds.more ?_ _ _ | with_reducible refine Adds.drew ?_ | with_reducible refine Adds.drewN ?_ _))⟩
    have hm : (r2 ++ r5).map (·.1) = ch ++ l := by rw [List.map_append, H2.out.2.1, HL5.out.2]
    rw [← hm]
    have H7 := H6.out #[.int .i64 base, .int .i64 (total + l.length), .slice v6 (ch.length + l.length) c6, .slice u2 sb.length d2]
    exact lstG_own H7.1 rfl H7.2 (by repeat (first | with_reducible exact Far.refl _ _ | with_reducible refine Far.mores ?_ (by simp [go_sem]) _ _ _ | with_reducible refine Far.allocs ?_ (by simp [go_sem]) _ | with_reducible refine Far.low ?_ (by simp [go_sem]) (by simp [go_sem] <;> omega) _ _ | with_reducible refine Far.more ?_ _ _ | with_reducible refine Far.alloc ?_ _)) (by simp [go_sem] <;> omega)

set_option maxHeartbeats 4000000 in
set_option maxRecDepth 20000 in
theorem ack_okO (v : Value) (f : Fd) (name : ByteArray) (pos : Int) (w : World) (h : LstF w v f) (hM : MayF f) (hc : f.ch.length ≤ 1000) (hd : ∀ d ∈ f.ch, d.doc.length ≤ 1000) (hn : hasAt name f.sb = true) (at_ : Nat) (hcc : cutAt name f.sb = at_) (hlt : at_ < f.sb.length) (h1 : pos ≤ f.total) (h2 : f.sb[at_].pos ≤ pos) :
    Calls Try.prog 19 #[v, .string name, .int .i64 pos] w fun e w' => (∃ vo vc uo uc, e = .returned (.tuple #[.agg #[.int .i64 f.base, .int .i64 f.total, .slice vo f.ch.length vc, .slice uo f.sb.length uc], .int .i64 0]) ∧ Hid (LstG w.heap.size w' (.slice vo f.ch.length vc) f.ch (.slice uo f.sb.length uc) (f.sb.set at_ ⟨f.sb[at_].name, pos⟩))) ∧ Adds w w' := by
  have kC := fun w' (hA : Adds w w') => checkF_any v f w' (h.adds hA) hc
  rw [err_ok hM] at kC
  obtain ⟨s, t, rfl, hs, ht⟩ := h
  obtain ⟨base, total, ch, sb⟩ := f
  simp only at *
  have hs6 : sb.length ≤ 1000 := Nat.le_trans hM.2.2.2.2.2.1 (by omega)
  have kO := fun w' (hA : Adds w w') => copyOf_row base total s t ch sb w' (hs.adds hA) (ht.adds hA) hc hd hs6
  have kF := fun u w' (hu : LstS w' u sb) => find_any u sb name w' hu hs6 (subsc_climbs hM.2.2.2.2.2)
  rw [hn, hcc] at kF
  have hp' : ¬ total < pos := by omega
  have hlt' : (at_ : Int) < (sb.length : Int) := Int.ofNat_lt.2 hlt
  have hq' : ¬ pos < sb[at_].pos := Int.not_lt.2 h2
  have HSet : Hid (∀ X os2 n2 B s rs W0 W1 u n uc, OwnH B s rs W0 (more X os2 n2) → OwnS B (.slice u n uc) sb W1 (more X os2 n2) → sb.length = n → X.heap.size ≤ B → ∃ gb os4, u = some ⟨gb, 0, none⟩ ∧ X.heap.size ≤ gb ∧ gb < X.heap.size + os2.size ∧ (more X os2 n2).cell? ⟨gb, at_ * 2 + 1, none⟩ = some (.int .i64 sb[at_].pos) ∧ (more X os2 n2).frozen? ⟨gb, at_ * 2 + 1, none⟩ = false ∧ (more X os2 n2).setCell ⟨gb, at_ * 2 + 1, none⟩ (.int .i64 pos) = more X os4 n2 ∧ os4.size = os2.size ∧ Hid (OwnH B s rs (more X os4 n2) (more X os4 n2) ∧ OwnS B (.slice u n uc) (sb.set at_ ⟨sb[at_].name, pos⟩) (more X os4 n2) (more X os4 n2))) :=
    fun X os2 n2 B s rs W0 W1 u n uc hH hS hn hX => own_store hH hS hn hX at_ hlt pos
  generalize sb[at_].pos = pp at *
  generalize sb.set at_ ⟨sb[at_].name, pos⟩ = ns at *
  clear hcc hd hM hs ht hn h2 h1
  go_enter Try.func19, Try.ntmps19
  go_wp2_with (first
    | (go_at_call 13; refine (kC _ (by repeat (first | with_reducible exact Adds.refl _ | with_reducible refine Adds.alloc ?_ _ | with_reducible refine Adds.more ?_ _ _ | with_reducible refine Adds.drew ?_ | with_reducible refine Adds.drewN ?_ _))).mono ?_; rintro e w1 ⟨rfl, os1, n1, rfl⟩)
    | (go_at_call 31; refine (kO _ (by repeat (first | with_reducible exact Adds.refl _ | with_reducible refine Adds.alloc ?_ _ | with_reducible refine Adds.more ?_ _ _ | with_reducible refine Adds.drew ?_ | with_reducible refine Adds.drewN ?_ _))).mono ?_; rintro e w2 ⟨⟨v2, c2, u2, d2, rs, rfl, H2⟩, os2, n2, rfl⟩; obtain ⟨gb, os4, rfl, hg1, hg2, x1, xf, xs, hz, H4⟩ := HSet.out _ _ _ _ _ _ _ _ _ _ _ H2.out.1 H2.out.2.2 rfl (Nat.le_refl _); (simp only [size_more, alloc_size] at hg1 hg2); (have g1 : gb ≤ w.heap.size + os1.size + os2.size + 1 + 1 := by omega); (have g2 : gb ≤ w.heap.size + os1.size + os2.size + 1 := by omega); (have g3 : ¬ gb = w.heap.size + os1.size + os2.size + 1 + 1 := by omega); (have g4 : ¬ w.heap.size + os1.size + os2.size + 1 + 1 = gb := by omega); clear hg1 hg2)
    | (go_at_call 40; refine (kF _ _ (OwnS.far H2.out.2.2 (by repeat (first | with_reducible exact Far.refl _ _ | with_reducible refine Far.mores ?_ (by simp [go_sem]) _ _ _ | with_reducible refine Far.allocs ?_ (by simp [go_sem]) _ | with_reducible refine Far.low ?_ (by simp [go_sem]) (by simp [go_sem] <;> omega) _ _ | with_reducible refine Far.more ?_ _ _ | with_reducible refine Far.alloc ?_ _)) (Nat.le_refl _)).lst).mono ?_; rintro e w3 ⟨rfl, os3, n3, rfl⟩))
  refine bodyPost_ret (v := .tuple #[.agg #[.int .i64 base, .int .i64 total, .slice v2 ch.length c2, .slice (some ⟨gb, 0, none⟩) sb.length d2], .int .i64 0]) (by simp [results, Try.results19, go_sem]) rfl ⟨⟨v2, c2, some ⟨gb, 0, none⟩, d2, rfl, ?_⟩, (by repeat (first | with_reducible exact Adds.refl _ | with_reducible refine Adds.alloc ?_ _ | with_reducible refine Adds.more ?_ _ _ | with_reducible refine Adds.drew ?_ | with_reducible refine Adds.drewN ?_ _))⟩
  exact lstG_own H4.out.1 H2.out.2.1 H4.out.2 (by repeat (first | with_reducible exact Far.refl _ _ | with_reducible refine Far.mores ?_ (by simp [go_sem]) _ _ _ | with_reducible refine Far.allocs ?_ (by simp [go_sem]) _ | with_reducible refine Far.low ?_ (by simp [go_sem]) (by simp [go_sem] <;> omega) _ _ | with_reducible refine Far.more ?_ _ _ | with_reducible refine Far.alloc ?_ _)) (by simp [go_sem] <;> omega)

set_option maxHeartbeats 4000000 in
set_option maxRecDepth 20000 in
theorem open_okO (v : Value) (f : Fd) (name : ByteArray) (pos : Int) (w : World) (h : LstF w v f) (hM : MayF f) (hc : f.ch.length ≤ 1000) (hd : ∀ d ∈ f.ch, d.doc.length ≤ 1000) (hk : isKey name = true) (hn : hasAt name f.sb = false) (h8 : f.sb.length < 8) (h0 : f.base ≤ pos) (h1 : pos ≤ f.total) :
    Calls Try.prog 18 #[v, .string name, .int .i64 pos] w fun e w' => (∃ vo vc uo uc, e = .returned (.tuple #[.agg #[.int .i64 f.base, .int .i64 f.total, .slice vo f.ch.length vc, .slice uo (f.sb.length + 1) uc], .int .i64 0]) ∧ Hid (LstG w.heap.size w' (.slice vo f.ch.length vc) f.ch (.slice uo (f.sb.length + 1) uc) (insS name pos f.sb))) ∧ Adds w w' := by
  have kC := fun w' (hA : Adds w w') => checkF_any v f w' (h.adds hA) hc
  rw [err_ok hM] at kC
  obtain ⟨s, t, rfl, hs, ht⟩ := h
  obtain ⟨base, total, ch, sb⟩ := f
  simp only at *
  have hs6 : sb.length ≤ 1000 := by omega
  have kO := fun w' (hA : Adds w w') => copyOf_row base total s t ch sb w' (hs.adds hA) (ht.adds hA) hc hd hs6
  have kF := fun u w' (hu : LstS w' u sb) => find_any u sb name w' hu hs6 (subsc_climbs hM.2.2.2.2.2)
  rw [hn] at kF
  have kK := key_any name
  rw [hk] at kK
  have hcut := cutAt_le name sb
  have HI : Hid (insS name pos sb = sb.take (cutAt name sb) ++ ⟨name, pos⟩ :: sb.drop (cutAt name sb)) := rfl
  have h0' : ¬ pos < base := by omega
  have h1' : ¬ total < pos := by omega
  have h2' : ¬ pos < 0 := by have := hM.1; simp only at this; omega
  have h3' : ¬ (sb.length : Int) = 8 := by omega
  have h3'' : ((sb.length : Int) == 8) = false := by simpa using h3'
  generalize insS name pos sb = ns at *
  generalize hcc : cutAt name sb = at_ at *
  clear hcc hd hM hs ht hn
  go_enter Try.func18, Try.ntmps18
  go_wp2_with (first
    | (go_at_call 13; refine (kC _ (by repeat (first | with_reducible exact Adds.refl _ | with_reducible refine Adds.alloc ?_ _ | with_reducible refine Adds.more ?_ _ _ | with_reducible refine Adds.drew ?_ | with_reducible refine Adds.drewN ?_ _))).mono ?_; rintro e w1 ⟨rfl, os1, n1, rfl⟩)
    | (go_at_call 31; refine (kO _ (by repeat (first | with_reducible exact Adds.refl _ | with_reducible refine Adds.alloc ?_ _ | with_reducible refine Adds.more ?_ _ _ | with_reducible refine Adds.drew ?_ | with_reducible refine Adds.drewN ?_ _))).mono ?_; rintro e w2 ⟨⟨v2, c2, u2, d2, rs, rfl, H2⟩, os2, n2, rfl⟩)
    | (go_at_call 40; refine (kF _ _ (OwnS.far H2.out.2.2 (by repeat (first | with_reducible exact Far.refl _ _ | with_reducible refine Far.mores ?_ (by simp [go_sem]) _ _ _ | with_reducible refine Far.allocs ?_ (by simp [go_sem]) _ | with_reducible refine Far.low ?_ (by simp [go_sem]) (by simp [go_sem] <;> omega) _ _ | with_reducible refine Far.more ?_ _ _ | with_reducible refine Far.alloc ?_ _)) (Nat.le_refl _)).lst).mono ?_; rintro e w3 ⟨rfl, os3, n3, rfl⟩)
    | (go_at_call 41; refine (kK _).mono ?_; rintro e w4 ⟨rfl, hw⟩; subst w4)
    | (go_at_call 42; refine (insert_box #[.int .i64 base, .int .i64 total, .slice v2 ch.length c2, .slice u2 sb.length d2] H2.out.1 H2.out.2.2 rfl (by repeat (first | with_reducible exact Adds.refl _ | with_reducible refine Adds.alloc ?_ _ | with_reducible refine Adds.more ?_ _ _ | with_reducible refine Adds.drew ?_ | with_reducible refine Adds.drewN ?_ _)) (by simp [go_sem] <;> omega) ⟨name, pos⟩ _ (at_newH _ _ _ (by simp [go_sem])) (by simp [go_sem] <;> omega) at_ hcut hs6).mono ?_; rintro e w5 ⟨v5, c5, os5, os6, d5, rfl, hz5, H5, rfl⟩))
  refine bodyPost_ret (v := .tuple #[.agg #[.int .i64 base, .int .i64 total, .slice v2 ch.length c2, .slice v5 (sb.length + 1) c5], .int .i64 0]) (by simp [results, Try.results18, go_sem]) rfl ⟨⟨v2, c2, v5, c5, rfl, ?_⟩, (by repeat (first | with_reducible exact Adds.refl _ | with_reducible refine Adds.alloc ?_ _ | with_reducible refine Adds.more ?_ _ _ | with_reducible refine Adds.drew ?_ | with_reducible refine Adds.drewN ?_ _))⟩
  have H7 := H5.out #[.int .i64 base, .int .i64 total, .slice v2 ch.length c2, .slice v5 (sb.length + 1) c5]
  rw [HI.out]
  exact lstG_own H7.1 H2.out.2.1 H7.2 (by repeat (first | with_reducible exact Far.refl _ _ | with_reducible refine Far.mores ?_ (by simp [go_sem]) _ _ _ | with_reducible refine Far.allocs ?_ (by simp [go_sem]) _ | with_reducible refine Far.low ?_ (by simp [go_sem]) (by simp [go_sem] <;> omega) _ _ | with_reducible refine Far.more ?_ _ _ | with_reducible refine Far.alloc ?_ _)) (by simp [go_sem] <;> omega)

end Go.Proofs.Ytpjhohmbifpogaa
