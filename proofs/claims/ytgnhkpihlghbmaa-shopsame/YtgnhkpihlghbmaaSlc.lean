/-
  The reference's Docs, News and Same of answers that read alike.
-/
import Derived.Test.YtgnhkpihlghbmaaChg
import Derived.Test.YtgnhkpihlghbmaaSms
import Derived.Test.YtgnhkpihlghbmaaIxh
namespace Go.Proofs.Ytgnhkpihlghbmaa
open Go.RowKit
attribute [local go_sem] cell?_more frozen?_more setCell_more size_more tape_more drew_more drewN_more more_drew more_drewN one_out plus_out plus_end lt_one le_p2 le_p3 le_p4 le_p5 le_p6 le_p7 le_p8 le_p9 le_p10 le_p11 le_p12 le_p13 le_p14 le_p15 le_p16 le_p17 le_p18 le_p19 le_p20 le_p21 le_p22 le_p23 le_p24 le_q0 le_q1 lt_q1 le_q2 lt_q2 le_q3 lt_q3 le_q4 lt_q4 le_q5 lt_q5 le_q6 lt_q6 le_q7 lt_q7 le_q8 lt_q8 le_q9 lt_q9 le_q10 lt_q10 le_q11 lt_q11 le_q12 lt_q12 le_q13 lt_q13 le_q14 lt_q14 le_q15 lt_q15 le_q16 lt_q16 le_q17 lt_q17 le_q18 lt_q18 le_q19 lt_q19 le_q20 lt_q20 le_q21 lt_q21 le_q22 lt_q22 le_q23 lt_q23 le_q24 lt_q24

attribute [local go_sem] cell?_addTo

set_option maxHeartbeats 2000000 in
set_option maxRecDepth 20000 in
theorem docsS_any (s s' : Value) (ds : List Dn) (w : World) (h : LstD w s ds) (h' : LstD w s' ds) (hc : ds.length ≤ 1000) (hd : ∀ d ∈ ds, d.doc.length ≤ 1000) :
    Calls Try.prog 12 #[s, s'] w fun e w' => e = .returned (.bool true) ∧ Adds w w' := by
  obtain ⟨ao, cap, rfl, hcap, hlo⟩ := h
  obtain ⟨ao', cap', rfl, hcap', hlo'⟩ := h'
  have HD : Hid (∀ d ∈ ds, d.doc.length ≤ 1000) := hd
  clear hd
  go_enter Try.func12, Try.ntmps12
  go_wp2
  go_loopw [5] (fun i wr => ∃ k : Nat, k ≤ ds.length ∧ i = .int .i64 k ∧ Adds w wr) (fun i _ => ds.length - (intOf i).toNat)
  case atStart => exact ⟨0, Nat.zero_le _, rfl, Adds.refl _⟩
  case round =>
    obtain ⟨k, hk, rfl, hA⟩ := hrel
    have HA : Hid (Adds w wr) := hA
    clear hA
    by_cases hlt : k < ds.length
    · rcases hlo with rfl | ⟨b, off, rfl, hb, hl⟩
      · simp at hlt
      rcases hlo' with rfl | ⟨b', off', rfl, hb', hl'⟩
      · simp at hlt
      obtain ⟨v, c0, c1, hdoc⟩ := hl k hlt
      obtain ⟨v', d0, d1, hdoc'⟩ := hl' k hlt
      have q := HA.out.below
      have c0 := (q.cell (by exact hb)).trans c0
      have c1 := (q.cell (by exact hb)).trans c1
      have d0 := (q.cell (by exact hb')).trans d0
      have d1 := (q.cell (by exact hb')).trans d1
      have hdoc := hdoc.adds HA.out
      have hdoc' := hdoc'.adds HA.out
      have hbl : b < wr.heap.size := Nat.lt_of_lt_of_le hb HA.out.below.size
      have hbl' : b' < wr.heap.size := Nat.lt_of_lt_of_le hb' HA.out.below.size
      have hlt' : (k : Int) < (ds.length : Int) := by omega
      have kS := fun W' (hA : Adds wr W') => refSame_any v v' ds[k].doc ds[k].doc W' (hdoc.adds hA) (hdoc'.adds hA) (HD.out _ (List.getElem_mem hlt)) (HD.out _ (List.getElem_mem hlt))
      rw [decide_eq_true rfl] at kS
      have kS' := fun (p : Plus) => Calls.adds_of (kS (addTo wr p) ⟨p.os, p.draws, rfl⟩)
      obtain ⟨vo, vc, rfl, _, _⟩ := hdoc
      obtain ⟨vo', vc', rfl, _, _⟩ := hdoc'
      clear kS q
      clear hl hl'
      generalize ds[k].key = ky at *
      generalize ds[k].doc.length = nd at *
      go_wp2
      refine wp_region_adds (by kernel_rfl) (by kernel_rfl) ?_
      repeat (go_big_quiet_step ((go_at_call 23; exact kS' _)))
      refine wpQuiet_nil ?_
      rintro _ ⟨pl, rfl⟩
      unfold addTo
      go_wp2
      go_roundw
      case rel => exact ⟨k + 1, by omega, by go_num, HA.out.trans (by repeat (first | with_reducible exact Adds.refl _ | with_reducible refine Adds.alloc ?_ _ | with_reducible refine Adds.more ?_ _ _ | with_reducible refine Adds.drew ?_ | with_reducible refine Adds.drewN ?_ _))⟩
      case measure => simp [intOf]; omega
    · have hk' : k = ds.length := by omega
      subst hk'
      clear hlo hlo'
      go_wp2
      go_ret
      exact ⟨rfl, HA.out.trans (by repeat (first | with_reducible exact Adds.refl _ | with_reducible refine Adds.alloc ?_ _ | with_reducible refine Adds.more ?_ _ _ | with_reducible refine Adds.drew ?_ | with_reducible refine Adds.drewN ?_ _))⟩

set_option maxHeartbeats 2000000 in
set_option maxRecDepth 20000 in
theorem news_any (s s' : Value) (ch : List Ch) (w : World) (h : LstH w s ch) (h' : LstH w s' ch) (hc : ch.length ≤ 1000) (hd : ∀ d ∈ ch, d.doc.length ≤ 1000) :
    Calls Try.prog 32 #[s, s'] w fun e w' => e = .returned (.bool true) ∧ Adds w w' := by
  obtain ⟨ao, cap, rfl, hcap, hlo⟩ := h
  obtain ⟨ao', cap', rfl, hcap', hlo'⟩ := h'
  have HD : Hid (∀ d ∈ ch, d.doc.length ≤ 1000) := hd
  clear hd
  go_enter Try.func32, Try.ntmps32
  go_wp2
  go_loopw [5] (fun i wr => ∃ k : Nat, k ≤ ch.length ∧ i = .int .i64 k ∧ Adds w wr) (fun i _ => ch.length - (intOf i).toNat)
  case atStart => exact ⟨0, Nat.zero_le _, rfl, Adds.refl _⟩
  case round =>
    obtain ⟨k, hk, rfl, hA⟩ := hrel
    have HA : Hid (Adds w wr) := hA
    clear hA
    by_cases hlt : k < ch.length
    · rcases hlo with rfl | ⟨b, off, rfl, hb, hl⟩
      · simp at hlt
      rcases hlo' with rfl | ⟨b', off', rfl, hb', hl'⟩
      · simp at hlt
      obtain ⟨v, c0, c1, c2, c3, hdoc⟩ := hl.adds HA.out hb k hlt
      obtain ⟨v', d0, d1, d2, d3, hdoc'⟩ := hl'.adds HA.out hb' k hlt
      have hbl : b < wr.heap.size := Nat.lt_of_lt_of_le hb HA.out.below.size
      have hbl' : b' < wr.heap.size := Nat.lt_of_lt_of_le hb' HA.out.below.size
      have hlt' : (k : Int) < (ch.length : Int) := by omega
      have kS := fun W' (hA : Adds wr W') => refSame_any v v' ch[k].doc ch[k].doc W' (hdoc.adds hA) (hdoc'.adds hA) (HD.out _ (List.getElem_mem hlt)) (HD.out _ (List.getElem_mem hlt))
      rw [decide_eq_true rfl] at kS
      have kS' := fun (p : Plus) => Calls.adds_of (kS (addTo wr p) ⟨p.os, p.draws, rfl⟩)
      obtain ⟨vo, vc, rfl, _, _⟩ := hdoc
      obtain ⟨vo', vc', rfl, _, _⟩ := hdoc'
      clear kS
      clear hl hl'
      generalize ch[k].key = ky at *
      generalize ch[k].doc.length = nd at *
      generalize ch[k].has = hs at *
      generalize ch[k].pos = ps at *
      go_wp2
      refine wp_region_adds (by kernel_rfl) (by kernel_rfl) ?_
      repeat (go_big_quiet_step ((go_at_call 23; exact kS' _)))
      refine wpQuiet_nil ?_
      rintro _ ⟨pl, rfl⟩
      unfold addTo
      go_wp2
      go_roundw
      case rel => exact ⟨k + 1, by omega, by go_num, HA.out.trans (by repeat (first | with_reducible exact Adds.refl _ | with_reducible refine Adds.alloc ?_ _ | with_reducible refine Adds.more ?_ _ _ | with_reducible refine Adds.drew ?_ | with_reducible refine Adds.drewN ?_ _))⟩
      case measure => simp [intOf]; omega
    · have hk' : k = ch.length := by omega
      subst hk'
      clear hlo hlo'
      go_wp2
      go_ret
      exact ⟨rfl, HA.out.trans (by repeat (first | with_reducible exact Adds.refl _ | with_reducible refine Adds.alloc ?_ _ | with_reducible refine Adds.more ?_ _ _ | with_reducible refine Adds.drew ?_ | with_reducible refine Adds.drewN ?_ _))⟩

end Go.Proofs.Ytgnhkpihlghbmaa
