/-
  The reference's Same of feeds and the law's same, by contract. Same of package feed, of feeds that are alike and of feeds of unlike totals, by contract.
-/
import Derived.Test.YtpjhohmbifpogaaNws
namespace Go.Proofs.Ytpjhohmbifpogaa
open Go.RowKit
attribute [local go_sem] cell?_more frozen?_more setCell_more size_more tape_more drew_more drewN_more more_drew more_drewN one_out plus_out plus_end lt_one le_p2 le_p3 le_p4 le_p5 le_p6 le_p7 le_p8 le_p9 le_p10 le_p11 le_p12 le_p13 le_p14 le_p15 le_p16 le_p17 le_p18 le_p19 le_p20 le_p21 le_p22 le_p23 le_p24 le_q0 le_q1 lt_q1 le_q2 lt_q2 le_q3 lt_q3 le_q4 lt_q4 le_q5 lt_q5 le_q6 lt_q6 le_q7 lt_q7 le_q8 lt_q8 le_q9 lt_q9 le_q10 lt_q10 le_q11 lt_q11 le_q12 lt_q12 le_q13 lt_q13 le_q14 lt_q14 le_q15 lt_q15 le_q16 lt_q16 le_q17 lt_q17 le_q18 lt_q18 le_q19 lt_q19 le_q20 lt_q20 le_q21 lt_q21 le_q22 lt_q22 le_q23 lt_q23 le_q24 lt_q24

theorem run_neq43 (ap : ByteArray) (an : Int) (w : World) : (binOp .neq 43 (.agg #[.string ap, .int .i64 an]) (.agg #[.string ap, .int .i64 an])).run Try.prog w = .ok (.bool false) w := by
  go_simp

set_option maxHeartbeats 4000000 in
set_option maxRecDepth 20000 in
theorem rSame_alike (v v' : Value) (f : Fd) (w : World) (h : LstF w v f) (h' : LstF w v' f) (hc : f.ch.length ≤ 1000) (hd : ∀ d ∈ f.ch, d.doc.length ≤ 1000) (hs6 : f.sb.length ≤ 1000) :
    Calls Try.prog 17 #[v, v'] w fun e w' => e = .returned (.bool true) ∧ Adds w w' := by
  obtain ⟨s, t, rfl, hs, ht⟩ := h
  obtain ⟨s', t', rfl, hs', ht'⟩ := h'
  obtain ⟨base, total, ch, sb⟩ := f
  simp only at *
  have kN := fun W (hA : Adds w W) => news_any s s' ch W (hs.adds hA) (hs'.adds hA) hc hd
  obtain ⟨to, tc, rfl, htc, hlo⟩ := ht
  obtain ⟨to', tc', rfl, htc', hlo'⟩ := ht'
  clear hs hs' hd
  have hne := run_neq43
  go_enter Try.func17, Try.ntmps17
  go_wp2_with (go_at_call 30; refine (kN _ (by repeat (first | with_reducible exact Adds.refl _ | with_reducible refine Adds.alloc ?_ _ | with_reducible refine Adds.more ?_ _ _ | with_reducible refine Adds.drew ?_ | with_reducible refine Adds.drewN ?_ _))).mono ?_; rintro e w1 ⟨rfl, os1, n1, rfl⟩)
  go_loopw [5] (fun i wr => ∃ k : Nat, k ≤ sb.length ∧ i = .int .i64 k ∧ Adds ((w.alloc (Obj.cells #[.int .i64 base, .int .i64 total, s, .slice to sb.length tc] 25)).alloc (Obj.cells #[.int .i64 base, .int .i64 total, s', .slice to' sb.length tc'] 25)) wr) (fun i _ => sb.length - (intOf i).toNat)
  case atStart => exact ⟨0, Nat.zero_le _, rfl, (by repeat (first | with_reducible exact Adds.refl _ | with_reducible refine Adds.alloc ?_ _ | with_reducible refine Adds.more ?_ _ _ | with_reducible refine Adds.drew ?_ | with_reducible refine Adds.drewN ?_ _))⟩
  case round =>
    obtain ⟨k, hk, rfl, os, n, rfl⟩ := hrel
    by_cases hlt : k < sb.length
    · rcases hlo with rfl | ⟨b, off, rfl, hb, hl⟩
      · simp at hlt
      rcases hlo' with rfl | ⟨b', off', rfl, hb', hl'⟩
      · simp at hlt
      obtain ⟨c0, c1⟩ := hl k hlt
      obtain ⟨d0, d1⟩ := hl' k hlt
      have hlt' : (k : Int) < (sb.length : Int) := by omega
      clear hl hl'
      generalize sb[k].name = nm at *
      generalize sb[k].pos = ps at *
      go_wp2
      try go_quiet (fail)
      go_wp2
      go_roundw
      case rel => exact ⟨k + 1, by omega, by go_num, (by repeat (first | with_reducible exact Adds.refl _ | with_reducible refine Adds.alloc ?_ _ | with_reducible refine Adds.more ?_ _ _ | with_reducible refine Adds.drew ?_ | with_reducible refine Adds.drewN ?_ _))⟩
      case measure => simp [intOf]; omega
    · have hk' : k = sb.length := by omega
      subst hk'
      clear hlo hlo'
      go_wp2
      try go_quiet (fail)
      go_wp2
      go_ret
      exact ⟨rfl, (by repeat (first | with_reducible exact Adds.refl _ | with_reducible refine Adds.alloc ?_ _ | with_reducible refine Adds.more ?_ _ _ | with_reducible refine Adds.drew ?_ | with_reducible refine Adds.drewN ?_ _))⟩

set_option maxHeartbeats 2000000 in
set_option maxRecDepth 20000 in
theorem rSame_unlike (b t b' t' : Int) (s x s' x' : Value) (w : World) (h : t ≠ t') :
    Calls Try.prog 17 #[.agg #[.int .i64 b, .int .i64 t, s, x], .agg #[.int .i64 b', .int .i64 t', s', x']] w fun e w' => e = .returned (.bool false) ∧ Adds w w' := by
  have h2 : (t != t') = true := by simpa using h
  by_cases hb : b = b'
  · subst hb
    clear h
    go_enter Try.func17, Try.ntmps17
    go_wp2
    try go_quiet (fail)
    go_wp2
    go_ret
    exact ⟨rfl, (by repeat (first | with_reducible exact Adds.refl _ | with_reducible refine Adds.alloc ?_ _ | with_reducible refine Adds.more ?_ _ _ | with_reducible refine Adds.drew ?_ | with_reducible refine Adds.drewN ?_ _))⟩
  · have hb2 : (b != b') = true := by simpa using hb
    clear h hb
    go_enter Try.func17, Try.ntmps17
    go_wp2
    try go_quiet (fail)
    go_wp2
    go_ret
    exact ⟨rfl, (by repeat (first | with_reducible exact Adds.refl _ | with_reducible refine Adds.alloc ?_ _ | with_reducible refine Adds.more ?_ _ _ | with_reducible refine Adds.drew ?_ | with_reducible refine Adds.drewN ?_ _))⟩

set_option maxHeartbeats 2000000 in
theorem same14 (v v' : Value) (f : Fd) (c : Int) (w : World) (h : LstF w v f) (h' : LstF w v' f) (hc : f.ch.length ≤ 1000) (hd : ∀ d ∈ f.ch, d.doc.length ≤ 1000) (hs6 : f.sb.length ≤ 1000) :
    Calls Try.prog 14 #[v, .int .i64 c, v', .int .i64 c] w fun e w' => e = .returned (.bool true) ∧ Adds w w' := by
  have kS := fun W (hA : Adds w W) => rSame_alike v v' f W (h.adds hA) (h'.adds hA) hc hd hs6
  obtain ⟨s, t, rfl, _, _⟩ := h
  obtain ⟨s', t', rfl, _, _⟩ := h'
  clear hd
  go_enter Try.func14, Try.ntmps14
  go_wp2_with (go_at_call 17; refine (kS _ (by repeat (first | with_reducible exact Adds.refl _ | with_reducible refine Adds.alloc ?_ _ | with_reducible refine Adds.more ?_ _ _ | with_reducible refine Adds.drew ?_ | with_reducible refine Adds.drewN ?_ _))).mono ?_; rintro e w1 ⟨rfl, os1, n1, rfl⟩)
  go_ret
  exact ⟨rfl, (by repeat (first | with_reducible exact Adds.refl _ | with_reducible refine Adds.alloc ?_ _ | with_reducible refine Adds.more ?_ _ _ | with_reducible refine Adds.drew ?_ | with_reducible refine Adds.drewN ?_ _))⟩

end Go.Proofs.Ytpjhohmbifpogaa

namespace Go.Proofs.Ytpjhohmbifpogaa
open Go.RowKit
attribute [local go_sem] cell?_more frozen?_more setCell_more size_more tape_more drew_more drewN_more more_drew more_drewN one_out plus_out plus_end lt_one le_p2 le_p3 le_p4 le_p5 le_p6 le_p7 le_p8 le_p9 le_p10 le_p11 le_p12 le_p13 le_p14 le_p15 le_p16 le_p17 le_p18 le_p19 le_p20 le_p21 le_p22 le_p23 le_p24 le_q0 le_q1 lt_q1 le_q2 lt_q2 le_q3 lt_q3 le_q4 lt_q4 le_q5 lt_q5 le_q6 lt_q6 le_q7 lt_q7 le_q8 lt_q8 le_q9 lt_q9 le_q10 lt_q10 le_q11 lt_q11 le_q12 lt_q12 le_q13 lt_q13 le_q14 lt_q14 le_q15 lt_q15 le_q16 lt_q16 le_q17 lt_q17 le_q18 lt_q18 le_q19 lt_q19 le_q20 lt_q20 le_q21 lt_q21 le_q22 lt_q22 le_q23 lt_q23 le_q24 lt_q24

set_option maxHeartbeats 2000000 in
set_option maxRecDepth 20000 in
theorem sameCh_alike (d : Ch) (v v' : Value) (w : World) (h : Lst w v d.doc) (h' : Lst w v' d.doc) (hd : d.doc.length ≤ 1000) :
    Calls Try.prog 38 #[.agg #[.int .i64 d.pos, .string d.key, .bool d.has, v], .agg #[.int .i64 d.pos, .string d.key, .bool d.has, v']] w fun e w' => e = .returned (.bool true) ∧ Adds w w' := by
  have kS := fun W (hA : Adds w W) => same_any v v' d.doc d.doc W (h.adds hA) (h'.adds hA) hd hd
  rw [decide_eq_true rfl] at kS
  obtain ⟨vo, vc, rfl, _, _⟩ := h
  obtain ⟨vo', vc', rfl, _, _⟩ := h'
  obtain ⟨ps, ky, hs, dc⟩ := d
  simp only at *
  generalize dc.length = nd at *
  cases hs
  all_goals
    go_enter Try.func38, Try.ntmps38
    go_wp2_with (go_at_call 53; refine (kS _ (by repeat (first | with_reducible exact Adds.refl _ | with_reducible refine Adds.alloc ?_ _ | with_reducible refine Adds.more ?_ _ _ | with_reducible refine Adds.drew ?_ | with_reducible refine Adds.drewN ?_ _))).mono ?_; rintro e w1 ⟨rfl, os1, n1, rfl⟩)
    go_ret
    exact ⟨rfl, (by repeat (first | with_reducible exact Adds.refl _ | with_reducible refine Adds.alloc ?_ _ | with_reducible refine Adds.more ?_ _ _ | with_reducible refine Adds.drew ?_ | with_reducible refine Adds.drewN ?_ _))⟩

set_option maxHeartbeats 2000000 in
set_option maxRecDepth 20000 in
theorem equalF_alike (s s' : Value) (ch : List Ch) (w : World) (h : LstH w s ch) (h' : LstH w s' ch) (hc : ch.length ≤ 1000) (hd : ∀ d ∈ ch, d.doc.length ≤ 1000) :
    Calls Try.prog 37 #[s, s', .func (.func 38) #[] #[]] w fun e w' => e = .returned (.bool true) ∧ Adds w w' := by
  obtain ⟨ao, cap, rfl, hcap, hlo⟩ := h
  obtain ⟨ao', cap', rfl, hcap', hlo'⟩ := h'
  have HD : Hid (∀ d ∈ ch, d.doc.length ≤ 1000) := hd
  clear hd
  go_enter Try.func37, Try.ntmps37
  go_wp2
  go_loopw [17] (fun i wr => ∃ k : Nat, k ≤ ch.length ∧ i = .int .i64 k ∧ Adds w wr) (fun i _ => ch.length - (intOf i).toNat)
  case atStart => exact ⟨0, Nat.zero_le _, rfl, Adds.refl _⟩
  case round =>
    obtain ⟨k, hk, rfl, hA⟩ := hrel
    have HA : Hid (Adds w wr) := hA
    clear hA
    by_cases hlt : k < ch.length
    · rcases hlo with rfl | ⟨b, off, rfl, hb, hl⟩
      · simp at hlt
      rcases hlo' with rfl | ⟨b', off', rfl, hb', hl'⟩
      · simp at hlt
      obtain ⟨v, c0, c1, c2, c3, hdoc⟩ := hl.adds HA.out hb k hlt
      obtain ⟨v', d0, d1, d2, d3, hdoc'⟩ := hl'.adds HA.out hb' k hlt
      have hbl : b < wr.heap.size := Nat.lt_of_lt_of_le hb HA.out.below.size
      have hbl' : b' < wr.heap.size := Nat.lt_of_lt_of_le hb' HA.out.below.size
      have hlt' : (k : Int) < (ch.length : Int) := by omega
      have kS := fun W' (hA : Adds wr W') => sameCh_alike ch[k] v v' W' (hdoc.adds hA) (hdoc'.adds hA) (HD.out _ (List.getElem_mem hlt))
      obtain ⟨vo, vc, rfl, _, _⟩ := hdoc
      obtain ⟨vo', vc', rfl, _, _⟩ := hdoc'
      clear hl hl'
      generalize ch[k].key = ky at *
      generalize ch[k].doc.length = nd at *
      generalize ch[k].has = hs at *
      generalize ch[k].pos = ps at *
      go_wp2_with (go_at_call 38; refine (kS _ (by repeat (first | with_reducible exact Adds.refl _ | with_reducible refine Adds.alloc ?_ _ | with_reducible refine Adds.more ?_ _ _ | with_reducible refine Adds.drew ?_ | with_reducible refine Adds.drewN ?_ _))).mono ?_; rintro e w1 ⟨rfl, os1, n1, rfl⟩)
      go_roundw
      case rel => exact ⟨k + 1, by omega, by go_num, HA.out.trans (by repeat (first | with_reducible exact Adds.refl _ | with_reducible refine Adds.alloc ?_ _ | with_reducible refine Adds.more ?_ _ _ | with_reducible refine Adds.drew ?_ | with_reducible refine Adds.drewN ?_ _))⟩
      case measure => simp [intOf]; omega
    · have hk' : k = ch.length := by omega
      subst hk'
      clear hlo hlo'
      go_wp2
      go_ret
      exact ⟨rfl, HA.out.trans (by repeat (first | with_reducible exact Adds.refl _ | with_reducible refine Adds.alloc ?_ _ | with_reducible refine Adds.more ?_ _ _ | with_reducible refine Adds.drew ?_ | with_reducible refine Adds.drewN ?_ _))⟩

set_option maxHeartbeats 2000000 in
set_option maxRecDepth 20000 in
theorem equalS_alike (s s' : Value) (sb : List Sb) (w : World) (h : LstS w s sb) (h' : LstS w s' sb) (hc : sb.length ≤ 1000) :
    Calls Try.prog 39 #[s, s'] w fun e w' => e = .returned (.bool true) ∧ Adds w w' := by
  obtain ⟨ao, cap, rfl, hcap, hlo⟩ := h
  obtain ⟨ao', cap', rfl, hcap', hlo'⟩ := h'
  have hne := run_neq43
  go_enter Try.func39, Try.ntmps39
  go_wp2
  go_loopw [13] (fun i wr => ∃ k : Nat, k ≤ sb.length ∧ i = .int .i64 k ∧ Adds w wr) (fun i _ => sb.length - (intOf i).toNat)
  case atStart => exact ⟨0, Nat.zero_le _, rfl, Adds.refl _⟩
  case round =>
    obtain ⟨k, hk, rfl, os, n, rfl⟩ := hrel
    by_cases hlt : k < sb.length
    · rcases hlo with rfl | ⟨b, off, rfl, hb, hl⟩
      · simp at hlt
      rcases hlo' with rfl | ⟨b', off', rfl, hb', hl'⟩
      · simp at hlt
      obtain ⟨c0, c1⟩ := hl k hlt
      obtain ⟨d0, d1⟩ := hl' k hlt
      have hlt' : (k : Int) < (sb.length : Int) := by omega
      clear hl hl'
      generalize sb[k].name = nm at *
      generalize sb[k].pos = ps at *
      go_wp2
      try go_quiet (fail)
      go_wp2
      go_roundw
      case rel => exact ⟨k + 1, by omega, by go_num, (by repeat (first | with_reducible exact Adds.refl _ | with_reducible refine Adds.alloc ?_ _ | with_reducible refine Adds.more ?_ _ _ | with_reducible refine Adds.drew ?_ | with_reducible refine Adds.drewN ?_ _))⟩
      case measure => simp [intOf]; omega
    · have hk' : k = sb.length := by omega
      subst hk'
      clear hlo hlo'
      go_wp2
      try go_quiet (fail)
      go_wp2
      go_ret
      exact ⟨rfl, (by repeat (first | with_reducible exact Adds.refl _ | with_reducible refine Adds.alloc ?_ _ | with_reducible refine Adds.more ?_ _ _ | with_reducible refine Adds.drew ?_ | with_reducible refine Adds.drewN ?_ _))⟩

set_option maxHeartbeats 2000000 in
set_option maxRecDepth 20000 in
theorem fSame_alike (v v' : Value) (f : Fd) (w : World) (h : LstF w v f) (h' : LstF w v' f) (hc : f.ch.length ≤ 1000) (hs6 : f.sb.length ≤ 1000) (hd : ∀ d ∈ f.ch, d.doc.length ≤ 1000) :
    Calls Try.prog 16 #[v, v'] w fun e w' => e = .returned (.bool true) ∧ Adds w w' := by
  obtain ⟨s, t, rfl, hs, ht⟩ := h
  obtain ⟨s', t', rfl, hs', ht'⟩ := h'
  obtain ⟨base, total, ch, sb⟩ := f
  simp only at *
  have kE := fun W (hA : Adds w W) => equalF_alike s s' ch W (hs.adds hA) (hs'.adds hA) hc hd
  have kS := fun W (hA : Adds w W) => equalS_alike t t' sb W (ht.adds hA) (ht'.adds hA) hs6
  clear hs hs' hd ht ht'
  go_enter Try.func16, Try.ntmps16
  go_wp2_with (first
    | (go_at_call 37; refine (kE _ (by repeat (first | with_reducible exact Adds.refl _ | with_reducible refine Adds.alloc ?_ _ | with_reducible refine Adds.more ?_ _ _ | with_reducible refine Adds.drew ?_ | with_reducible refine Adds.drewN ?_ _))).mono ?_; rintro e w1 ⟨rfl, os1, n1, rfl⟩)
    | (go_at_call 39; refine (kS _ (by repeat (first | with_reducible exact Adds.refl _ | with_reducible refine Adds.alloc ?_ _ | with_reducible refine Adds.more ?_ _ _ | with_reducible refine Adds.drew ?_ | with_reducible refine Adds.drewN ?_ _))).mono ?_; rintro e w2 ⟨rfl, os2, n2, rfl⟩))
  go_ret
  exact ⟨rfl, (by repeat (first | with_reducible exact Adds.refl _ | with_reducible refine Adds.alloc ?_ _ | with_reducible refine Adds.more ?_ _ _ | with_reducible refine Adds.drew ?_ | with_reducible refine Adds.drewN ?_ _))⟩

set_option maxHeartbeats 2000000 in
set_option maxRecDepth 20000 in
theorem fSame_unlike (b t t' : Int) (s x s' x' : Value) (w : World) (h : t ≠ t') :
    Calls Try.prog 16 #[.agg #[.int .i64 b, .int .i64 t, s, x], .agg #[.int .i64 b, .int .i64 t', s', x']] w fun e w' => e = .returned (.bool false) ∧ Adds w w' := by
  have h2 : (t == t') = false := by simpa using h
  clear h
  go_enter Try.func16, Try.ntmps16
  go_wp2
  try go_quiet (fail)
  go_wp2
  go_ret
  exact ⟨rfl, (by repeat (first | with_reducible exact Adds.refl _ | with_reducible refine Adds.alloc ?_ _ | with_reducible refine Adds.more ?_ _ _ | with_reducible refine Adds.drew ?_ | with_reducible refine Adds.drewN ?_ _))⟩

end Go.Proofs.Ytpjhohmbifpogaa
