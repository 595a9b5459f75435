/-
  Documents alike, by contracts.
-/
import Derived.Test.YtgnhkpihlghbmaaDocs
namespace Go.Proofs.Ytgnhkpihlghbmaa
open Go.RowKit
attribute [local go_sem] cell?_more frozen?_more setCell_more size_more tape_more drew_more drewN_more more_drew more_drewN one_out plus_out plus_end lt_one le_p2 le_p3 le_p4 le_p5 le_p6 le_p7 le_p8 le_p9 le_p10 le_p11 le_p12 le_p13 le_p14 le_p15 le_p16 le_p17 le_p18 le_p19 le_p20 le_p21 le_p22 le_p23 le_p24 le_q0 le_q1 lt_q1 le_q2 lt_q2 le_q3 lt_q3 le_q4 lt_q4 le_q5 lt_q5 le_q6 lt_q6 le_q7 lt_q7 le_q8 lt_q8 le_q9 lt_q9 le_q10 lt_q10 le_q11 lt_q11 le_q12 lt_q12 le_q13 lt_q13 le_q14 lt_q14 le_q15 lt_q15 le_q16 lt_q16 le_q17 lt_q17 le_q18 lt_q18 le_q19 lt_q19 le_q20 lt_q20 le_q21 lt_q21 le_q22 lt_q22 le_q23 lt_q23 le_q24 lt_q24

theorem V.eqv_self (v : V) : v.eqv v = true := (V.eqv_iff _ _).2 rfl

instance : DecidableEq V := fun a b => decidable_of_iff (a.eqv b = true) (V.eqv_iff a b)

theorem V.eqv_decide (a b : V) : a.eqv b = decide (a = b) := by
  by_cases h : a = b
  · simp [h, V.eqv_self]
  · have : a.eqv b ≠ true := fun e => h ((V.eqv_iff a b).1 e)
    simp [h, this]

theorem F.eq_iff (a b : F) : a = b ↔ a.path.toList = b.path.toList ∧ a.val = b.val := by
  obtain ⟨ap, av, ah⟩ := a
  obtain ⟨bp, bv, bh⟩ := b
  simp only [F.mk.injEq]
  exact ⟨fun h => ⟨by rw [h.1], h.2⟩, fun h => ⟨toList_inj h.1, h.2⟩⟩

instance : DecidableEq F := fun a b => decidable_of_iff _ (F.eq_iff a b).symm

theorem run_neq59 (ap : ByteArray) (ak an : Int) (ax : ByteArray) (ar ai : Int) (bp : ByteArray) (bk bn : Int) (bx : ByteArray) (br bi : Int) (w : World) :
    (binOp .neq 54 (.agg #[.string ap, .int .i64 ak, .int .i64 an, .string ax, .int .i64 ar, .int .i64 ai]) (.agg #[.string bp, .int .i64 bk, .int .i64 bn, .string bx, .int .i64 br, .int .i64 bi])).run Try.prog w
      = .ok (.bool (!decide (ap.toList = bp.toList ∧ V.eqv ⟨ak, an, ax, ar, ai⟩ ⟨bk, bn, bx, br, bi⟩ = true))) w := by
  go_simp
  simp only [V.eqv]
  by_cases h0 : ap.toList = bp.toList <;> by_cases h1 : ak = bk <;> by_cases h2 : an = bn <;> by_cases h3 : ax.toList = bx.toList <;> by_cases h4 : ar = br <;> by_cases h5 : ai = bi <;> simp [h0, h1, h2, h3, h4, h5]

theorem take_next {l t : List F} {k : Nat} (hk : k < l.length) (ht : k < t.length) (hp : l.take k = t.take k) (he : l[k] = t[k]) : l.take (k + 1) = t.take (k + 1) := by
  rw [List.take_succ_eq_append_getElem hk, List.take_succ_eq_append_getElem ht, hp, he]

theorem differ {l t : List F} {k : Nat} (hk : k < l.length) (ht : k < t.length) (h : l[k] ≠ t[k]) : decide (l = t) = false := decide_eq_false (fun e => by subst e; exact h rfl)

set_option maxHeartbeats 2000000 in
theorem equal_any (s s' : Value) (l t : List F) (w : World) (hl : Lst w s l) (ht : Lst w s' t) (hl6 : l.length ≤ 1000) (ht6 : t.length ≤ 1000) :
    Calls Try.prog 49 #[s, s'] w fun e w' => e = .returned (.bool (decide (l = t))) ∧ Adds w w' := by
  obtain ⟨ao, cap, rfl, hcap, hlo⟩ := hl
  obtain ⟨bo, cap', rfl, hcap', hto⟩ := ht
  by_cases hlen : l.length = t.length
  · have hlen' : (l.length : Int) = (t.length : Int) := by omega
    rw [← hlen]
    go_enter Try.func49, Try.ntmps49
    go_wp2
    go_loopw [13] (fun i wr => ∃ k : Nat, k ≤ l.length ∧ i = .int .i64 k ∧ l.take k = t.take k ∧ Adds w wr) (fun i _ => l.length - (intOf i).toNat)
    case atStart => exact ⟨0, Nat.zero_le _, rfl, by simp, Adds.refl _⟩
    case round =>
      obtain ⟨k, hk, rfl, hp, os, n, rfl⟩ := hrel
      by_cases hlt : k < l.length
      · have hlt' : k < t.length := by omega
        rcases hlo with rfl | ⟨b, off, rfl, hb, hll⟩
        · simp at hlt
        rcases hto with rfl | ⟨b', off', rfl, hb', hlt2⟩
        · simp at hlt'
        obtain ⟨c0, c1, c2, c3, c4, c5⟩ := hll k hlt
        obtain ⟨d0, d1, d2, d3, d4, d5⟩ := hlt2 k hlt'
        have hd := differ hlt hlt'
        have hn := take_next hlt hlt' hp
        generalize l[k] = x at *
        generalize t[k] = y at *
        have he := run_neq59 x.path x.val.kind x.val.num x.val.text x.val.re x.val.im y.path y.val.kind y.val.num y.val.text y.val.re y.val.im
        have hxy : decide (x.path.toList = y.path.toList ∧ V.eqv x.val y.val = true) = decide (x = y) := decide_eq_decide.2 (by rw [F.eq_iff, V.eqv_iff])
        rw [show V.eqv ⟨x.val.kind, x.val.num, x.val.text, x.val.re, x.val.im⟩ ⟨y.val.kind, y.val.num, y.val.text, y.val.re, y.val.im⟩ = V.eqv x.val y.val from rfl, hxy] at he
        clear hxy
        by_cases hE : x = y
        · have HN : Hid _ := hn hE
          rw [decide_eq_true hE, Bool.not_true] at he
          clear hd hn hE hp
          go_wp2
          go_quiet (fail)
          go_wp2
          go_roundw
          case rel =>
            refine ⟨k + 1, by omega, by go_num, HN.out, ?_⟩
            repeat (first | with_reducible exact Adds.refl _ | with_reducible refine Adds.alloc ?_ _ | with_reducible refine Adds.more ?_ _ _ | with_reducible refine Adds.drew ?_ | with_reducible refine Adds.drewN ?_ _)
          case measure => simp [intOf]; omega
        · have HD : Hid _ := hd hE
          rw [decide_eq_false hE, Bool.not_false] at he
          clear hd hn hp
          go_wp2
          go_quiet (fail)
          go_wp2
          go_ret
          refine ⟨by rw [HD.out]; rfl, ?_⟩
          repeat (first | with_reducible exact Adds.refl _ | with_reducible refine Adds.alloc ?_ _ | with_reducible refine Adds.more ?_ _ _ | with_reducible refine Adds.drew ?_ | with_reducible refine Adds.drewN ?_ _)
      · have hk' : k = l.length := by omega
        subst hk'
        have hE : l = t := by
          rw [List.take_length, hlen, List.take_length] at hp
          exact hp
        subst hE
        clear hp
        go_wp2
        go_ret
        refine ⟨by simp, ?_⟩
        repeat (first | with_reducible exact Adds.refl _ | with_reducible refine Adds.alloc ?_ _ | with_reducible refine Adds.more ?_ _ _ | with_reducible refine Adds.drew ?_ | with_reducible refine Adds.drewN ?_ _)
  · have hne : decide (l = t) = false := decide_eq_false (fun e => hlen (by rw [e]))
    have hlen' : ¬ (l.length : Int) = (t.length : Int) := by omega
    have hlen2 : ((l.length : Int) != (t.length : Int)) = true := by simp; omega
    rw [hne]
    go_enter Try.func49, Try.ntmps49
    go_wp2
    go_ret
    exact ⟨rfl, Adds.refl _⟩

theorem same_any (s s' : Value) (l t : List F) (w : World) (hl : Lst w s l) (ht : Lst w s' t) (hl6 : l.length ≤ 1000) (ht6 : t.length ≤ 1000) :
    Calls Try.prog 26 #[s, s'] w fun e w' => e = .returned (.bool (decide (l = t))) ∧ Adds w w' := by
  have h := equal_any s s' l t w hl ht hl6 ht6
  go_enter Try.func26, Try.ntmps26
  go_wp2_with (go_at_call 49; refine h.mono ?_; rintro e w1 ⟨rfl, os, k, rfl⟩)
  go_ret
  exact ⟨rfl, ⟨_, _, rfl⟩⟩

set_option maxHeartbeats 2000000 in
theorem refSame_any (s s' : Value) (l t : List F) (w : World) (hl : Lst w s l) (ht : Lst w s' t) (hl6 : l.length ≤ 1000) (ht6 : t.length ≤ 1000) :
    Calls Try.prog 23 #[s, s'] w fun e w' => e = .returned (.bool (decide (l = t))) ∧ Adds w w' := by
  obtain ⟨ao, cap, rfl, hcap, hlo⟩ := hl
  obtain ⟨bo, cap', rfl, hcap', hto⟩ := ht
  by_cases hlen : l.length = t.length
  · have hlen' : (l.length : Int) = (t.length : Int) := by omega
    rw [← hlen]
    go_enter Try.func23, Try.ntmps23
    go_wp2
    go_loopw [5] (fun i wr => ∃ k : Nat, k ≤ l.length ∧ i = .int .i64 k ∧ l.take k = t.take k ∧ Adds w wr) (fun i _ => l.length - (intOf i).toNat)
    case atStart => exact ⟨0, Nat.zero_le _, rfl, by simp, Adds.refl _⟩
    case round =>
      obtain ⟨k, hk, rfl, hp, os, n, rfl⟩ := hrel
      by_cases hlt : k < l.length
      · have hlt' : k < t.length := by omega
        rcases hlo with rfl | ⟨b, off, rfl, hb, hll⟩
        · simp at hlt
        rcases hto with rfl | ⟨b', off', rfl, hb', hlt2⟩
        · simp at hlt'
        obtain ⟨c0, c1, c2, c3, c4, c5⟩ := hll k hlt
        obtain ⟨d0, d1, d2, d3, d4, d5⟩ := hlt2 k hlt'
        have hd := differ hlt hlt'
        have hn := take_next hlt hlt' hp
        generalize l[k] = x at *
        generalize t[k] = y at *
        have he := run_neq59 x.path x.val.kind x.val.num x.val.text x.val.re x.val.im y.path y.val.kind y.val.num y.val.text y.val.re y.val.im
        have hxy : decide (x.path.toList = y.path.toList ∧ V.eqv x.val y.val = true) = decide (x = y) := decide_eq_decide.2 (by rw [F.eq_iff, V.eqv_iff])
        rw [show V.eqv ⟨x.val.kind, x.val.num, x.val.text, x.val.re, x.val.im⟩ ⟨y.val.kind, y.val.num, y.val.text, y.val.re, y.val.im⟩ = V.eqv x.val y.val from rfl, hxy] at he
        clear hxy
        by_cases hE : x = y
        · have HN : Hid _ := hn hE
          rw [decide_eq_true hE, Bool.not_true] at he
          clear hd hn hE hp
          go_wp2
          go_quiet (fail)
          go_wp2
          go_roundw
          case rel =>
            refine ⟨k + 1, by omega, by go_num, HN.out, ?_⟩
            repeat (first | with_reducible exact Adds.refl _ | with_reducible refine Adds.alloc ?_ _ | with_reducible refine Adds.more ?_ _ _ | with_reducible refine Adds.drew ?_ | with_reducible refine Adds.drewN ?_ _)
          case measure => simp [intOf]; omega
        · have HD : Hid _ := hd hE
          rw [decide_eq_false hE, Bool.not_false] at he
          clear hd hn hp
          go_wp2
          go_quiet (fail)
          go_wp2
          go_ret
          refine ⟨by rw [HD.out]; rfl, ?_⟩
          repeat (first | with_reducible exact Adds.refl _ | with_reducible refine Adds.alloc ?_ _ | with_reducible refine Adds.more ?_ _ _ | with_reducible refine Adds.drew ?_ | with_reducible refine Adds.drewN ?_ _)
      · have hk' : k = l.length := by omega
        subst hk'
        have hE : l = t := by
          rw [List.take_length, hlen, List.take_length] at hp
          exact hp
        subst hE
        clear hp
        go_wp2
        go_ret
        refine ⟨by simp, ?_⟩
        repeat (first | with_reducible exact Adds.refl _ | with_reducible refine Adds.alloc ?_ _ | with_reducible refine Adds.more ?_ _ _ | with_reducible refine Adds.drew ?_ | with_reducible refine Adds.drewN ?_ _)
  · have hne : decide (l = t) = false := decide_eq_false (fun e => hlen (by rw [e]))
    have hlen2 : ((l.length : Int) != (t.length : Int)) = true := by simp; omega
    rw [hne]
    go_enter Try.func23, Try.ntmps23
    go_wp2
    go_ret
    exact ⟨rfl, Adds.refl _⟩

end Go.Proofs.Ytgnhkpihlghbmaa
