/-
  Lists of documents and of changes alike, by contracts: the program's and the reference's. The reference's Docs and News of any lists, by contracts.
-/
import Derived.Test.YtgnhkpihlghbmaaMsmg
import Derived.Test.YtgnhkpihlghbmaaChg
import Derived.Test.YtgnhkpihlghbmaaIxh
import Derived.Test.YtgnhkpihlghbmaaSlc
namespace Go.Proofs.Ytgnhkpihlghbmaa
open Go.RowKit
attribute [local go_sem] cell?_more frozen?_more setCell_more size_more tape_more drew_more drewN_more more_drew more_drewN one_out plus_out plus_end lt_one le_p2 le_p3 le_p4 le_p5 le_p6 le_p7 le_p8 le_p9 le_p10 le_p11 le_p12 le_p13 le_p14 le_p15 le_p16 le_p17 le_p18 le_p19 le_p20 le_p21 le_p22 le_p23 le_p24 le_q0 le_q1 lt_q1 le_q2 lt_q2 le_q3 lt_q3 le_q4 lt_q4 le_q5 lt_q5 le_q6 lt_q6 le_q7 lt_q7 le_q8 lt_q8 le_q9 lt_q9 le_q10 lt_q10 le_q11 lt_q11 le_q12 lt_q12 le_q13 lt_q13 le_q14 lt_q14 le_q15 lt_q15 le_q16 lt_q16 le_q17 lt_q17 le_q18 lt_q18 le_q19 lt_q19 le_q20 lt_q20 le_q21 lt_q21 le_q22 lt_q22 le_q23 lt_q23 le_q24 lt_q24

attribute [local go_sem] cell?_addTo

theorem Dn.eq_iff (a b : Dn) : a = b ↔ a.key.toList = b.key.toList ∧ a.doc = b.doc := by
  obtain ⟨ak, ad⟩ := a
  obtain ⟨bk, bd⟩ := b
  simp only [Dn.mk.injEq]
  exact ⟨fun h => ⟨by rw [h.1], h.2⟩, fun h => ⟨toList_inj h.1, h.2⟩⟩

instance : DecidableEq Dn := fun a b => decidable_of_iff _ (Dn.eq_iff a b).symm

theorem Ch.eq_iff (a b : Ch) : a = b ↔ a.pos = b.pos ∧ a.key.toList = b.key.toList ∧ a.has = b.has ∧ a.doc = b.doc := by
  obtain ⟨ap, ak, ah, ad⟩ := a
  obtain ⟨bp, bk, bh, bd⟩ := b
  simp only [Ch.mk.injEq]
  exact ⟨fun h => ⟨h.1, by rw [h.2.1], h.2.2.1, h.2.2.2⟩, fun h => ⟨h.1, toList_inj h.2.1, h.2.2.1, h.2.2.2⟩⟩

instance : DecidableEq Ch := fun a b => decidable_of_iff _ (Ch.eq_iff a b).symm

theorem takeD_next {α : Type} {l t : List α} {k : Nat} (hk : k < l.length) (ht : k < t.length) (hp : l.take k = t.take k) (he : l[k] = t[k]) : l.take (k + 1) = t.take (k + 1) := by
  rw [List.take_succ_eq_append_getElem hk, List.take_succ_eq_append_getElem ht, hp, he]

theorem differD {α : Type} [DecidableEq α] {l t : List α} {k : Nat} (hk : k < l.length) (ht : k < t.length) (h : l[k] ≠ t[k]) : decide (l = t) = false := decide_eq_false (fun e => by subst e; exact h rfl)

set_option maxRecDepth 20000 in
set_option maxHeartbeats 2000000 in
theorem sameNamed_any (x y : Dn) (xv yv : Value) (w : World) (hx : Lst w xv x.doc) (hy : Lst w yv y.doc) (h1 : x.doc.length ≤ 9223372036854775807) (h2 : y.doc.length ≤ 9223372036854775807) :
    Calls Try.prog 28 #[.agg #[.string x.key, xv], .agg #[.string y.key, yv]] w fun e w' => e = .returned (.bool (decide (x = y))) ∧ Adds w w' := by
  have kS := fun W (hA : Adds w W) => sameG xv yv x.doc y.doc W (hx.adds hA) (hy.adds hA) h1 h2
  have hE : decide (x = y) = (decide (x.key.toList = y.key.toList) && decide (x.doc = y.doc)) := by
    by_cases h : x = y
    · subst h; simp
    · rw [decide_eq_false h]
      cases h3 : decide (x.key.toList = y.key.toList) with
      | false => rfl
      | true =>
        have : ¬ x.doc = y.doc := fun e => h ((Dn.eq_iff x y).2 ⟨by simpa using h3, e⟩)
        simp [this]
  rw [hE]
  clear hE h1 h2
  obtain ⟨ao, cap, rfl, _, _⟩ := hx
  obtain ⟨ao', cap', rfl, _, _⟩ := hy
  generalize decide (x.doc = y.doc) = bd at *
  generalize x.doc.length = n at *
  generalize y.doc.length = m at *
  by_cases h : x.key.toList = y.key.toList
  · have hb : (x.key.toList == y.key.toList) = true := by simpa using h
    rw [decide_eq_true h, Bool.true_and]
    clear h
    go_enter Try.func28, Try.ntmps28
    go_wp2_with (go_at_call 26; refine (kS _ (by repeat (first | with_reducible exact Adds.refl _ | with_reducible refine Adds.alloc ?_ _ | with_reducible refine Adds.more ?_ _ _ | with_reducible refine Adds.drew ?_ | with_reducible refine Adds.drewN ?_ _))).mono ?_; rintro e w1 ⟨rfl, os1, n1, rfl⟩)
    go_ret
    exact ⟨rfl, (by repeat (first | with_reducible exact Adds.refl _ | with_reducible refine Adds.alloc ?_ _ | with_reducible refine Adds.more ?_ _ _ | with_reducible refine Adds.drew ?_ | with_reducible refine Adds.drewN ?_ _))⟩
  · have hb : (x.key.toList == y.key.toList) = false := by simpa using h
    rw [decide_eq_false h, Bool.false_and]
    clear kS
    go_enter Try.func28, Try.ntmps28
    go_wp2
    go_ret
    exact ⟨rfl, (by repeat (first | with_reducible exact Adds.refl _ | with_reducible refine Adds.alloc ?_ _ | with_reducible refine Adds.more ?_ _ _ | with_reducible refine Adds.drew ?_ | with_reducible refine Adds.drewN ?_ _))⟩

set_option maxRecDepth 20000 in
set_option maxHeartbeats 4000000 in
theorem sameChange_any (x y : Ch) (xv yv : Value) (w : World) (hx : Lst w xv x.doc) (hy : Lst w yv y.doc) (h1 : x.doc.length ≤ 9223372036854775807) (h2 : y.doc.length ≤ 9223372036854775807) :
    Calls Try.prog 30 #[.agg #[.int .i64 x.pos, .string x.key, .bool x.has, xv], .agg #[.int .i64 y.pos, .string y.key, .bool y.has, yv]] w fun e w' => e = .returned (.bool (decide (x = y))) ∧ Adds w w' := by
  have kS := fun W (hA : Adds w W) => sameG xv yv x.doc y.doc W (hx.adds hA) (hy.adds hA) h1 h2
  have hE : decide (x = y) = (decide (x.pos = y.pos) && (decide (x.key.toList = y.key.toList) && (decide (x.has = y.has) && decide (x.doc = y.doc)))) := by
    rw [← Bool.decide_and, ← Bool.decide_and, ← Bool.decide_and]
    exact decide_eq_decide.2 (Ch.eq_iff x y)
  rw [hE]
  clear hE h1 h2
  obtain ⟨ao, cap, rfl, _, _⟩ := hx
  obtain ⟨ao', cap', rfl, _, _⟩ := hy
  generalize decide (x.doc = y.doc) = bd at *
  generalize x.doc.length = n at *
  generalize y.doc.length = m at *
  generalize x.has = hx at *
  generalize y.has = hy at *
  generalize x.pos = px at *
  generalize y.pos = py at *
  by_cases h0 : px = py
  · subst h0
    by_cases h : x.key.toList = y.key.toList
    · have hb : (x.key.toList == y.key.toList) = true := by simpa using h
      rw [decide_eq_true h, Bool.true_and, decide_eq_true rfl, Bool.true_and]
      clear h
      cases hx <;> cases hy
      all_goals
        go_enter Try.func30, Try.ntmps30
        go_wp2_with (go_at_call 26; refine (kS _ (by repeat (first | with_reducible exact Adds.refl _ | with_reducible refine Adds.alloc ?_ _ | with_reducible refine Adds.more ?_ _ _ | with_reducible refine Adds.drew ?_ | with_reducible refine Adds.drewN ?_ _))).mono ?_; rintro e w1 ⟨rfl, os1, n1, rfl⟩)
        go_ret
        exact ⟨by simp, (by repeat (first | with_reducible exact Adds.refl _ | with_reducible refine Adds.alloc ?_ _ | with_reducible refine Adds.more ?_ _ _ | with_reducible refine Adds.drew ?_ | with_reducible refine Adds.drewN ?_ _))⟩
    · have hb : (x.key.toList == y.key.toList) = false := by simpa using h
      rw [decide_eq_false h, Bool.false_and, Bool.and_false]
      clear kS
      go_enter Try.func30, Try.ntmps30
      go_wp2
      go_ret
      exact ⟨rfl, (by repeat (first | with_reducible exact Adds.refl _ | with_reducible refine Adds.alloc ?_ _ | with_reducible refine Adds.more ?_ _ _ | with_reducible refine Adds.drew ?_ | with_reducible refine Adds.drewN ?_ _))⟩
  · have h0' : (px == py) = false := by simpa using h0
    rw [decide_eq_false h0, Bool.false_and]
    clear kS
    go_enter Try.func30, Try.ntmps30
    go_wp2
    go_ret
    exact ⟨rfl, (by repeat (first | with_reducible exact Adds.refl _ | with_reducible refine Adds.alloc ?_ _ | with_reducible refine Adds.more ?_ _ _ | with_reducible refine Adds.drew ?_ | with_reducible refine Adds.drewN ?_ _))⟩

set_option maxRecDepth 20000 in
set_option maxHeartbeats 4000000 in
theorem docsEq_any (s s' : Value) (l t : List Dn) (w : World) (hl : LstD w s l) (ht : LstD w s' t) (hl6 : l.length ≤ 1000) (h1 : ∀ d ∈ l, d.doc.length ≤ 9223372036854775807) (h2 : ∀ d ∈ t, d.doc.length ≤ 9223372036854775807) :
    Calls Try.prog 27 #[s, s', .func (.func 28) #[] #[]] w fun e w' => e = .returned (.bool (decide (l = t))) ∧ Adds w w' := by
  obtain ⟨ao, cap, rfl, hcap, hlo⟩ := hl
  obtain ⟨bo, cap', rfl, hcap', hto⟩ := ht
  have H1 : Hid (∀ d ∈ l, d.doc.length ≤ 9223372036854775807) := h1
  have H2 : Hid (∀ d ∈ t, d.doc.length ≤ 9223372036854775807) := h2
  clear h1 h2
  by_cases hlen : l.length = t.length
  · have HLEN : Hid (l.length = t.length) := hlen
    rw [← hlen]
    clear hlen
    go_enter Try.func27, Try.ntmps27
    go_wp2
    go_loopw [17] (fun i wr => ∃ k : Nat, k ≤ l.length ∧ i = .int .i64 k ∧ Hid (l.take k = t.take k) ∧ Adds w wr) (fun i _ => l.length - (intOf i).toNat)
    case atStart => exact ⟨0, Nat.zero_le _, rfl, by show _ = _; simp, Adds.refl _⟩
    case round =>
      obtain ⟨k, hk, rfl, hp, hA⟩ := hrel
      have HA : Hid (Adds w wr) := hA
      clear hA
      by_cases hlt : k < l.length
      · have hlt' : k < t.length := by have := HLEN.out; omega
        rcases hlo with rfl | ⟨b, off, rfl, hb, hll⟩
        · simp at hlt
        rcases hto with rfl | ⟨b', off', rfl, hb', hlt2⟩
        · simp at hlt'
        obtain ⟨v, c0, c1, hdoc⟩ := hll.adds HA.out hb k hlt
        obtain ⟨v', d0, d1, hdoc'⟩ := hlt2.adds HA.out hb' k hlt'
        have hbl : b < wr.heap.size := Nat.lt_of_lt_of_le hb HA.out.below.size
        have hbl' : b' < wr.heap.size := Nat.lt_of_lt_of_le hb' HA.out.below.size
        have hd : Hid (l[k] ≠ t[k] → decide (l = t) = false) := differD hlt hlt'
        have hn : Hid (l[k] = t[k] → l.take (k + 1) = t.take (k + 1)) := takeD_next hlt hlt' hp.out
        have kS := fun W (hA : Adds wr W) => sameNamed_any l[k] t[k] v v' W (hdoc.adds hA) (hdoc'.adds hA) (H1.out _ (List.getElem_mem hlt)) (H2.out _ (List.getElem_mem hlt'))
        obtain ⟨vo, vc, rfl, _, _⟩ := hdoc
        obtain ⟨vo', vc', rfl, _, _⟩ := hdoc'
        clear hll hlt2
        have hltI : (k : Int) < (l.length : Int) := by omega
        generalize l[k] = x at *
        generalize t[k] = y at *
        generalize x.doc.length = nx at *
        generalize y.doc.length = ny at *
        by_cases hE : x = y
        · rw [decide_eq_true hE] at kS
          have HN : Hid (l.take (k + 1) = t.take (k + 1)) := hn.out hE
          clear hE hd hn
          go_wp2_with (go_at_call 28; refine (kS _ (by repeat (first | with_reducible exact Adds.refl _ | with_reducible refine Adds.alloc ?_ _ | with_reducible refine Adds.more ?_ _ _ | with_reducible refine Adds.drew ?_ | with_reducible refine Adds.drewN ?_ _))).mono ?_; rintro e w2 ⟨rfl, os2, n2, rfl⟩)
          go_roundw
          case rel => exact ⟨k + 1, by omega, by go_num, HN, HA.out.trans (by repeat (first | with_reducible exact Adds.refl _ | with_reducible refine Adds.alloc ?_ _ | with_reducible refine Adds.more ?_ _ _ | with_reducible refine Adds.drew ?_ | with_reducible refine Adds.drewN ?_ _))⟩
          case measure => simp [intOf]; omega
        · rw [decide_eq_false hE] at kS
          have HD : Hid (decide (l = t) = false) := hd.out hE
          clear hE hd hn
          go_wp2_with (go_at_call 28; refine (kS _ (by repeat (first | with_reducible exact Adds.refl _ | with_reducible refine Adds.alloc ?_ _ | with_reducible refine Adds.more ?_ _ _ | with_reducible refine Adds.drew ?_ | with_reducible refine Adds.drewN ?_ _))).mono ?_; rintro e w2 ⟨rfl, os2, n2, rfl⟩)
          go_ret
          exact ⟨by rw [HD.out]; rfl, HA.out.trans (by repeat (first | with_reducible exact Adds.refl _ | with_reducible refine Adds.alloc ?_ _ | with_reducible refine Adds.more ?_ _ _ | with_reducible refine Adds.drew ?_ | with_reducible refine Adds.drewN ?_ _))⟩
      · have hk' : k = l.length := by omega
        subst hk'
        have hE : l = t := by
          have hp := hp.out
          rw [List.take_length, HLEN.out, List.take_length] at hp
          exact hp
        have hltI : ¬ (l.length : Int) < (l.length : Int) := by omega
        have HD : Hid (decide (l = t) = true) := decide_eq_true hE
        clear hp hlo hto hE
        go_wp2
        go_ret
        exact ⟨by rw [HD.out]; rfl, HA.out.trans (by repeat (first | with_reducible exact Adds.refl _ | with_reducible refine Adds.alloc ?_ _ | with_reducible refine Adds.more ?_ _ _ | with_reducible refine Adds.drew ?_ | with_reducible refine Adds.drewN ?_ _))⟩
  · have hne : decide (l = t) = false := decide_eq_false (fun e => hlen (by rw [e]))
    have hlen2 : ((l.length : Int) != (t.length : Int)) = true := by simp; omega
    rw [hne]
    go_enter Try.func27, Try.ntmps27
    go_wp2
    go_ret
    exact ⟨rfl, Adds.refl _⟩

set_option maxRecDepth 20000 in
set_option maxHeartbeats 4000000 in
theorem newsEq_any (s s' : Value) (l t : List Ch) (w : World) (hl : LstH w s l) (ht : LstH w s' t) (hl6 : l.length ≤ 1000) (h1 : ∀ d ∈ l, d.doc.length ≤ 9223372036854775807) (h2 : ∀ d ∈ t, d.doc.length ≤ 9223372036854775807) :
    Calls Try.prog 29 #[s, s', .func (.func 30) #[] #[]] w fun e w' => e = .returned (.bool (decide (l = t))) ∧ Adds w w' := by
  obtain ⟨ao, cap, rfl, hcap, hlo⟩ := hl
  obtain ⟨bo, cap', rfl, hcap', hto⟩ := ht
  have H1 : Hid (∀ d ∈ l, d.doc.length ≤ 9223372036854775807) := h1
  have H2 : Hid (∀ d ∈ t, d.doc.length ≤ 9223372036854775807) := h2
  clear h1 h2
  by_cases hlen : l.length = t.length
  · have HLEN : Hid (l.length = t.length) := hlen
    rw [← hlen]
    clear hlen
    go_enter Try.func29, Try.ntmps29
    go_wp2
    go_loopw [17] (fun i wr => ∃ k : Nat, k ≤ l.length ∧ i = .int .i64 k ∧ Hid (l.take k = t.take k) ∧ Adds w wr) (fun i _ => l.length - (intOf i).toNat)
    case atStart => exact ⟨0, Nat.zero_le _, rfl, by show _ = _; simp, Adds.refl _⟩
    case round =>
      obtain ⟨k, hk, rfl, hp, hA⟩ := hrel
      have HA : Hid (Adds w wr) := hA
      clear hA
      by_cases hlt : k < l.length
      · have hlt' : k < t.length := by have := HLEN.out; omega
        rcases hlo with rfl | ⟨b, off, rfl, hb, hll⟩
        · simp at hlt
        rcases hto with rfl | ⟨b', off', rfl, hb', hlt2⟩
        · simp at hlt'
        obtain ⟨v, c0, c1, c2, c3, hdoc⟩ := hll.adds HA.out hb k hlt
        obtain ⟨v', d0, d1, d2, d3, hdoc'⟩ := hlt2.adds HA.out hb' k hlt'
        have hbl : b < wr.heap.size := Nat.lt_of_lt_of_le hb HA.out.below.size
        have hbl' : b' < wr.heap.size := Nat.lt_of_lt_of_le hb' HA.out.below.size
        have hd : Hid (l[k] ≠ t[k] → decide (l = t) = false) := differD hlt hlt'
        have hn : Hid (l[k] = t[k] → l.take (k + 1) = t.take (k + 1)) := takeD_next hlt hlt' hp.out
        have kS := fun W (hA : Adds wr W) => sameChange_any l[k] t[k] v v' W (hdoc.adds hA) (hdoc'.adds hA) (H1.out _ (List.getElem_mem hlt)) (H2.out _ (List.getElem_mem hlt'))
        obtain ⟨vo, vc, rfl, _, _⟩ := hdoc
        obtain ⟨vo', vc', rfl, _, _⟩ := hdoc'
        clear hll hlt2
        have hltI : (k : Int) < (l.length : Int) := by omega
        generalize l[k] = x at *
        generalize t[k] = y at *
        generalize x.doc.length = nx at *
        generalize y.doc.length = ny at *
        by_cases hE : x = y
        · rw [decide_eq_true hE] at kS
          have HN : Hid (l.take (k + 1) = t.take (k + 1)) := hn.out hE
          clear hE hd hn
          go_wp2_with (go_at_call 30; refine (kS _ (by repeat (first | with_reducible exact Adds.refl _ | with_reducible refine Adds.alloc ?_ _ | with_reducible refine Adds.more ?_ _ _ | with_reducible refine Adds.drew ?_ | with_reducible refine Adds.drewN ?_ _))).mono ?_; rintro e w2 ⟨rfl, os2, n2, rfl⟩)
          go_roundw
          case rel => exact ⟨k + 1, by omega, by go_num, HN, HA.out.trans (by repeat (first | with_reducible exact Adds.refl _ | with_reducible refine Adds.alloc ?_ _ | with_reducible refine Adds.more ?_ _ _ | with_reducible refine Adds.drew ?_ | with_reducible refine Adds.drewN ?_ _))⟩
          case measure => simp [intOf]; omega
        · rw [decide_eq_false hE] at kS
          have HD : Hid (decide (l = t) = false) := hd.out hE
          clear hE hd hn
          go_wp2_with (go_at_call 30; refine (kS _ (by repeat (first | with_reducible exact Adds.refl _ | with_reducible refine Adds.alloc ?_ _ | with_reducible refine Adds.more ?_ _ _ | with_reducible refine Adds.drew ?_ | with_reducible refine Adds.drewN ?_ _))).mono ?_; rintro e w2 ⟨rfl, os2, n2, rfl⟩)
          go_ret
          exact ⟨by rw [HD.out]; rfl, HA.out.trans (by repeat (first | with_reducible exact Adds.refl _ | with_reducible refine Adds.alloc ?_ _ | with_reducible refine Adds.more ?_ _ _ | with_reducible refine Adds.drew ?_ | with_reducible refine Adds.drewN ?_ _))⟩
      · have hk' : k = l.length := by omega
        subst hk'
        have hE : l = t := by
          have hp := hp.out
          rw [List.take_length, HLEN.out, List.take_length] at hp
          exact hp
        have hltI : ¬ (l.length : Int) < (l.length : Int) := by omega
        have HD : Hid (decide (l = t) = true) := decide_eq_true hE
        clear hp hlo hto hE
        go_wp2
        go_ret
        exact ⟨by rw [HD.out]; rfl, HA.out.trans (by repeat (first | with_reducible exact Adds.refl _ | with_reducible refine Adds.alloc ?_ _ | with_reducible refine Adds.more ?_ _ _ | with_reducible refine Adds.drew ?_ | with_reducible refine Adds.drewN ?_ _))⟩
  · have hne : decide (l = t) = false := decide_eq_false (fun e => hlen (by rw [e]))
    have hlen2 : ((l.length : Int) != (t.length : Int)) = true := by simp; omega
    rw [hne]
    go_enter Try.func29, Try.ntmps29
    go_wp2
    go_ret
    exact ⟨rfl, Adds.refl _⟩

end Go.Proofs.Ytgnhkpihlghbmaa

namespace Go.Proofs.Ytgnhkpihlghbmaa
open Go.RowKit
attribute [local go_sem] cell?_more frozen?_more setCell_more size_more tape_more drew_more drewN_more more_drew more_drewN one_out plus_out plus_end lt_one le_p2 le_p3 le_p4 le_p5 le_p6 le_p7 le_p8 le_p9 le_p10 le_p11 le_p12 le_p13 le_p14 le_p15 le_p16 le_p17 le_p18 le_p19 le_p20 le_p21 le_p22 le_p23 le_p24 le_q0 le_q1 lt_q1 le_q2 lt_q2 le_q3 lt_q3 le_q4 lt_q4 le_q5 lt_q5 le_q6 lt_q6 le_q7 lt_q7 le_q8 lt_q8 le_q9 lt_q9 le_q10 lt_q10 le_q11 lt_q11 le_q12 lt_q12 le_q13 lt_q13 le_q14 lt_q14 le_q15 lt_q15 le_q16 lt_q16 le_q17 lt_q17 le_q18 lt_q18 le_q19 lt_q19 le_q20 lt_q20 le_q21 lt_q21 le_q22 lt_q22 le_q23 lt_q23 le_q24 lt_q24

attribute [local go_sem] cell?_addTo

theorem dn_key {x y : Dn} (h : ¬ x.key.toList = y.key.toList) : x ≠ y := fun e => h (by rw [e])
theorem dn_doc {x y : Dn} (h : ¬ x.doc = y.doc) : x ≠ y := fun e => h (by rw [e])
theorem ch_pos {x y : Ch} (h : ¬ x.pos = y.pos) : x ≠ y := fun e => h (by rw [e])
theorem ch_key {x y : Ch} (h : ¬ x.key.toList = y.key.toList) : x ≠ y := fun e => h (by rw [e])
theorem ch_has {x y : Ch} (h : ¬ x.has = y.has) : x ≠ y := fun e => h (by rw [e])
theorem ch_doc {x y : Ch} (h : ¬ x.doc = y.doc) : x ≠ y := fun e => h (by rw [e])

set_option maxHeartbeats 4000000 in
set_option maxRecDepth 20000 in
theorem docsR_any (s s' : Value) (l t : List Dn) (w : World) (h : LstD w s l) (h' : LstD w s' t) (hc : l.length ≤ 1000) (h1 : ∀ d ∈ l, d.doc.length ≤ 9223372036854775807) (h2 : ∀ d ∈ t, d.doc.length ≤ 9223372036854775807) :
    Calls Try.prog 12 #[s, s'] w fun e w' => e = .returned (.bool (decide (l = t))) ∧ Adds w w' := by
  obtain ⟨ao, cap, rfl, hcap, hlo⟩ := h
  obtain ⟨ao', cap', rfl, hcap', hlo'⟩ := h'
  have H1 : Hid (∀ d ∈ l, d.doc.length ≤ 9223372036854775807) := h1
  have H2 : Hid (∀ d ∈ t, d.doc.length ≤ 9223372036854775807) := h2
  clear h1 h2
  by_cases hlen : l.length = t.length
  · have HLEN : Hid (l.length = t.length) := hlen
    rw [← hlen]
    clear hlen
    go_enter Try.func12, Try.ntmps12
    go_wp2
    go_loopw [5] (fun i wr => ∃ k : Nat, k ≤ l.length ∧ i = .int .i64 k ∧ Hid (l.take k = t.take k) ∧ Adds w wr) (fun i _ => l.length - (intOf i).toNat)
    case atStart => exact ⟨0, Nat.zero_le _, rfl, by show _ = _; simp, Adds.refl _⟩
    case round =>
      obtain ⟨k, hk, rfl, hp, hA⟩ := hrel
      have HA : Hid (Adds w wr) := hA
      clear hA
      by_cases hlt : k < l.length
      · have hlt' : k < t.length := by have := HLEN.out; omega
        rcases hlo with rfl | ⟨b, off, rfl, hb, hl⟩
        · simp at hlt
        rcases hlo' with rfl | ⟨b', off', rfl, hb', hl'⟩
        · simp at hlt'
        obtain ⟨v, c0, c1, hdoc⟩ := hl.adds HA.out hb k hlt
        obtain ⟨v', d0, d1, hdoc'⟩ := hl'.adds HA.out hb' k hlt'
        have hbl : b < wr.heap.size := Nat.lt_of_lt_of_le hb HA.out.below.size
        have hbl' : b' < wr.heap.size := Nat.lt_of_lt_of_le hb' HA.out.below.size
        have hd : Hid (l[k] ≠ t[k] → decide (l = t) = false) := differD hlt hlt'
        have hn : Hid (l[k] = t[k] → l.take (k + 1) = t.take (k + 1)) := takeD_next hlt hlt' hp.out
        have hltI : (k : Int) < (l.length : Int) := by omega
        have kS := fun W' (hA : Adds wr W') => refSameG v v' l[k].doc t[k].doc W' (hdoc.adds hA) (hdoc'.adds hA) (H1.out _ (List.getElem_mem hlt)) (H2.out _ (List.getElem_mem hlt'))
        have kS' := fun (p : Plus) => Calls.adds_of (kS (addTo wr p) ⟨p.os, p.draws, rfl⟩)
        obtain ⟨vo, vc, rfl, _, _⟩ := hdoc
        obtain ⟨vo', vc', rfl, _, _⟩ := hdoc'
        clear kS hl hl'
        generalize l[k] = x at *
        generalize t[k] = y at *
        have hde := @dn_doc x y
        have hke := @dn_key x y
        have hee := fun a b => (Dn.eq_iff x y).2 ⟨a, b⟩
        generalize x.doc.length = nx at *
        generalize y.doc.length = ny at *
        by_cases hk0 : x.key.toList = y.key.toList
        · have hkb : (x.key.toList == y.key.toList) = true := by simpa using hk0
          by_cases hd0 : x.doc = y.doc
          · rw [decide_eq_true hd0] at kS'
            have HN : Hid (l.take (k + 1) = t.take (k + 1)) := hn.out (hee hk0 hd0)
            clear hd hn hde hke hee hk0 hd0
            go_wp2
            refine wp_region_adds (by kernel_rfl) (by kernel_rfl) ?_
            repeat (go_big_quiet_step ((go_at_call 23; exact kS' _)))
            refine wpQuiet_nil ?_
            rintro _ ⟨pl, rfl⟩
            unfold addTo
            go_wp2
            go_roundw
            case rel => exact ⟨k + 1, by omega, by go_num, HN, HA.out.trans (by repeat (first | with_reducible exact Adds.refl _ | with_reducible refine Adds.alloc ?_ _ | with_reducible refine Adds.more ?_ _ _ | with_reducible refine Adds.drew ?_ | with_reducible refine Adds.drewN ?_ _))⟩
            case measure => simp [intOf]; omega
          · rw [decide_eq_false hd0] at kS'
            have HD : Hid (decide (l = t) = false) := hd.out (hde hd0)
            clear hd hn hde hke hee hk0 hd0
            go_wp2
            refine wp_region_adds (by kernel_rfl) (by kernel_rfl) ?_
            repeat (go_big_quiet_step ((go_at_call 23; exact kS' _)))
            refine wpQuiet_nil ?_
            rintro _ ⟨pl, rfl⟩
            unfold addTo
            go_wp2
            go_ret
            exact ⟨by rw [HD.out]; rfl, HA.out.trans (by repeat (first | with_reducible exact Adds.refl _ | with_reducible refine Adds.alloc ?_ _ | with_reducible refine Adds.more ?_ _ _ | with_reducible refine Adds.drew ?_ | with_reducible refine Adds.drewN ?_ _))⟩
        · have hkb : (x.key.toList == y.key.toList) = false := by simpa using hk0
          have HD : Hid (decide (l = t) = false) := hd.out (hke hk0)
          clear hd hn hde hke hee hk0 kS'
          go_wp2
          refine wp_region_adds (by kernel_rfl) (by kernel_rfl) ?_
          repeat (go_big_quiet_step (fail))
          refine wpQuiet_nil ?_
          rintro _ ⟨pl, rfl⟩
          unfold addTo
          go_wp2
          go_ret
          exact ⟨by rw [HD.out]; rfl, HA.out.trans (by repeat (first | with_reducible exact Adds.refl _ | with_reducible refine Adds.alloc ?_ _ | with_reducible refine Adds.more ?_ _ _ | with_reducible refine Adds.drew ?_ | with_reducible refine Adds.drewN ?_ _))⟩
      · have hk' : k = l.length := by omega
        subst hk'
        have hE : l = t := by
          have hp := hp.out
          rw [List.take_length, HLEN.out, List.take_length] at hp
          exact hp
        have hltI : ¬ (l.length : Int) < (l.length : Int) := by omega
        have HD : Hid (decide (l = t) = true) := decide_eq_true hE
        clear hp hlo hlo' hE
        go_wp2
        go_ret
        exact ⟨by rw [HD.out]; rfl, HA.out.trans (by repeat (first | with_reducible exact Adds.refl _ | with_reducible refine Adds.alloc ?_ _ | with_reducible refine Adds.more ?_ _ _ | with_reducible refine Adds.drew ?_ | with_reducible refine Adds.drewN ?_ _))⟩
  · have hne : decide (l = t) = false := decide_eq_false (fun e => hlen (by rw [e]))
    have hlen2 : ((l.length : Int) != (t.length : Int)) = true := by simp; omega
    rw [hne]
    go_enter Try.func12, Try.ntmps12
    go_wp2
    go_ret
    exact ⟨rfl, Adds.refl _⟩

set_option maxHeartbeats 8000000 in
set_option maxRecDepth 20000 in
theorem newsR_any (s s' : Value) (l t : List Ch) (w : World) (h : LstH w s l) (h' : LstH w s' t) (hc : l.length ≤ 1000) (h1 : ∀ d ∈ l, d.doc.length ≤ 9223372036854775807) (h2 : ∀ d ∈ t, d.doc.length ≤ 9223372036854775807) :
    Calls Try.prog 32 #[s, s'] w fun e w' => e = .returned (.bool (decide (l = t))) ∧ Adds w w' := by
  obtain ⟨ao, cap, rfl, hcap, hlo⟩ := h
  obtain ⟨ao', cap', rfl, hcap', hlo'⟩ := h'
  have H1 : Hid (∀ d ∈ l, d.doc.length ≤ 9223372036854775807) := h1
  have H2 : Hid (∀ d ∈ t, d.doc.length ≤ 9223372036854775807) := h2
  clear h1 h2
  by_cases hlen : l.length = t.length
  · have HLEN : Hid (l.length = t.length) := hlen
    rw [← hlen]
    clear hlen
    go_enter Try.func32, Try.ntmps32
    go_wp2
    go_loopw [5] (fun i wr => ∃ k : Nat, k ≤ l.length ∧ i = .int .i64 k ∧ Hid (l.take k = t.take k) ∧ Adds w wr) (fun i _ => l.length - (intOf i).toNat)
    case atStart => exact ⟨0, Nat.zero_le _, rfl, by show _ = _; simp, Adds.refl _⟩
    case round =>
      obtain ⟨k, hk, rfl, hp, hA⟩ := hrel
      have HA : Hid (Adds w wr) := hA
      clear hA
      by_cases hlt : k < l.length
      · have hlt' : k < t.length := by have := HLEN.out; omega
        rcases hlo with rfl | ⟨b, off, rfl, hb, hl⟩
        · simp at hlt
        rcases hlo' with rfl | ⟨b', off', rfl, hb', hl'⟩
        · simp at hlt'
        obtain ⟨v, c0, c1, c2, c3, hdoc⟩ := hl.adds HA.out hb k hlt
        obtain ⟨v', d0, d1, d2, d3, hdoc'⟩ := hl'.adds HA.out hb' k hlt'
        have hbl : b < wr.heap.size := Nat.lt_of_lt_of_le hb HA.out.below.size
        have hbl' : b' < wr.heap.size := Nat.lt_of_lt_of_le hb' HA.out.below.size
        have hd : Hid (l[k] ≠ t[k] → decide (l = t) = false) := differD hlt hlt'
        have hn : Hid (l[k] = t[k] → l.take (k + 1) = t.take (k + 1)) := takeD_next hlt hlt' hp.out
        have hltI : (k : Int) < (l.length : Int) := by omega
        have kS := fun W' (hA : Adds wr W') => refSameG v v' l[k].doc t[k].doc W' (hdoc.adds hA) (hdoc'.adds hA) (H1.out _ (List.getElem_mem hlt)) (H2.out _ (List.getElem_mem hlt'))
        have kS' := fun (p : Plus) => Calls.adds_of (kS (addTo wr p) ⟨p.os, p.draws, rfl⟩)
        obtain ⟨vo, vc, rfl, _, _⟩ := hdoc
        obtain ⟨vo', vc', rfl, _, _⟩ := hdoc'
        clear kS hl hl'
        generalize l[k] = x at *
        generalize t[k] = y at *
        have hpe := @ch_pos x y
        have hde := @ch_doc x y
        have hke := @ch_key x y
        have hhe := @ch_has x y
        have hee := fun a b c d => (Ch.eq_iff x y).2 ⟨a, b, c, d⟩
        generalize x.doc.length = nx at *
        generalize y.doc.length = ny at *
        generalize x.pos = px at *
        generalize y.pos = py at *
        generalize x.has = hx at *
        generalize y.has = hy at *
        by_cases hp0 : px = py
        · by_cases hk0 : x.key.toList = y.key.toList
          · have hpb : (px == py) = true := by simpa using hp0
            have hpb' : (px != py) = false := by simpa using hp0
            have hkb : (x.key.toList == y.key.toList) = true := by simpa using hk0
            by_cases hh0 : hx = hy
            · have hhb : (hx == hy) = true := by simpa using hh0
              have hhb' : (hx != hy) = false := by simpa using hh0
              by_cases hd0 : x.doc = y.doc
              · rw [decide_eq_true hd0] at kS'
                have HN : Hid (l.take (k + 1) = t.take (k + 1)) := hn.out (hee hp0 hk0 hh0 hd0)
                clear hd hn hpe hde hke hhe hee hk0 hd0 hp0 hh0
                go_wp2
                refine wp_region_adds (by kernel_rfl) (by kernel_rfl) ?_
                repeat (go_big_quiet_step ((go_at_call 23; exact kS' _)))
                refine wpQuiet_nil ?_
                rintro _ ⟨pl, rfl⟩
                unfold addTo
                go_wp2
                go_roundw
                case rel => exact ⟨k + 1, by omega, by go_num, HN, HA.out.trans (by repeat (first | with_reducible exact Adds.refl _ | with_reducible refine Adds.alloc ?_ _ | with_reducible refine Adds.more ?_ _ _ | with_reducible refine Adds.drew ?_ | with_reducible refine Adds.drewN ?_ _))⟩
                case measure => simp [intOf]; omega
              · rw [decide_eq_false hd0] at kS'
                have HD : Hid (decide (l = t) = false) := hd.out (hde hd0)
                clear hd hn hpe hde hke hhe hee hk0 hd0 hp0 hh0
                go_wp2
                refine wp_region_adds (by kernel_rfl) (by kernel_rfl) ?_
                repeat (go_big_quiet_step ((go_at_call 23; exact kS' _)))
                refine wpQuiet_nil ?_
                rintro _ ⟨pl, rfl⟩
                unfold addTo
                go_wp2
                go_ret
                exact ⟨by rw [HD.out]; rfl, HA.out.trans (by repeat (first | with_reducible exact Adds.refl _ | with_reducible refine Adds.alloc ?_ _ | with_reducible refine Adds.more ?_ _ _ | with_reducible refine Adds.drew ?_ | with_reducible refine Adds.drewN ?_ _))⟩
            · have hhb : (hx == hy) = false := by simpa using hh0
              have hhb' : (hx != hy) = true := by simpa using hh0
              have HD : Hid (decide (l = t) = false) := hd.out (hhe hh0)
              clear hd hn hpe hde hke hhe hee hk0 hp0 hh0 kS'
              go_wp2
              refine wp_region_adds (by kernel_rfl) (by kernel_rfl) ?_
              repeat (go_big_quiet_step (fail))
              refine wpQuiet_nil ?_
              rintro _ ⟨pl, rfl⟩
              unfold addTo
              go_wp2
              go_ret
              exact ⟨by rw [HD.out]; rfl, HA.out.trans (by repeat (first | with_reducible exact Adds.refl _ | with_reducible refine Adds.alloc ?_ _ | with_reducible refine Adds.more ?_ _ _ | with_reducible refine Adds.drew ?_ | with_reducible refine Adds.drewN ?_ _))⟩
          · have hpb : (px == py) = true := by simpa using hp0
            have hpb' : (px != py) = false := by simpa using hp0
            have hkb : (x.key.toList == y.key.toList) = false := by simpa using hk0
            have HD : Hid (decide (l = t) = false) := hd.out (hke hk0)
            clear hd hn hpe hde hke hhe hee hk0 hp0 kS'
            go_wp2
            refine wp_region_adds (by kernel_rfl) (by kernel_rfl) ?_
            repeat (go_big_quiet_step (fail))
            refine wpQuiet_nil ?_
            rintro _ ⟨pl, rfl⟩
            unfold addTo
            go_wp2
            go_ret
            exact ⟨by rw [HD.out]; rfl, HA.out.trans (by repeat (first | with_reducible exact Adds.refl _ | with_reducible refine Adds.alloc ?_ _ | with_reducible refine Adds.more ?_ _ _ | with_reducible refine Adds.drew ?_ | with_reducible refine Adds.drewN ?_ _))⟩
        · have hpb : (px == py) = false := by simpa using hp0
          have hpb' : (px != py) = true := by simpa using hp0
          have HD : Hid (decide (l = t) = false) := hd.out (hpe hp0)
          clear hd hn hpe hde hke hhe hee hp0 kS'
          go_wp2
          refine wp_region_adds (by kernel_rfl) (by kernel_rfl) ?_
          repeat (go_big_quiet_step (fail))
          refine wpQuiet_nil ?_
          rintro _ ⟨pl, rfl⟩
          unfold addTo
          go_wp2
          go_ret
          exact ⟨by rw [HD.out]; rfl, HA.out.trans (by repeat (first | with_reducible exact Adds.refl _ | with_reducible refine Adds.alloc ?_ _ | with_reducible refine Adds.more ?_ _ _ | with_reducible refine Adds.drew ?_ | with_reducible refine Adds.drewN ?_ _))⟩
      · have hk' : k = l.length := by omega
        subst hk'
        have hE : l = t := by
          have hp := hp.out
          rw [List.take_length, HLEN.out, List.take_length] at hp
          exact hp
        have hltI : ¬ (l.length : Int) < (l.length : Int) := by omega
        have HD : Hid (decide (l = t) = true) := decide_eq_true hE
        clear hp hlo hlo' hE
        go_wp2
        go_ret
        exact ⟨by rw [HD.out]; rfl, HA.out.trans (by repeat (first | with_reducible exact Adds.refl _ | with_reducible refine Adds.alloc ?_ _ | with_reducible refine Adds.more ?_ _ _ | with_reducible refine Adds.drew ?_ | with_reducible refine Adds.drewN ?_ _))⟩
  · have hne : decide (l = t) = false := decide_eq_false (fun e => hlen (by rw [e]))
    have hlen2 : ((l.length : Int) != (t.length : Int)) = true := by simp; omega
    rw [hne]
    go_enter Try.func32, Try.ntmps32
    go_wp2
    go_ret
    exact ⟨rfl, Adds.refl _⟩

end Go.Proofs.Ytgnhkpihlghbmaa
