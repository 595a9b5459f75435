/-
  SealBursts: the law's walk.
-/
import Derived.Test.YtmbnpglnanfdoaaBurst
import Derived.Test.YtmbnpglnanfdoaaRecord
import Derived.Laws.Rows
namespace Go.Proofs.Ytmbnpglnanfdoaa
open Go.RowKit
attribute [local go_sem] cell?_more frozen?_more setCell_more size_more tape_more drew_more drewN_more more_drew more_drewN more_more one_out plus_out plus_end lt_one le_p2 le_p3 le_p4 le_p5 le_p6 le_p7 le_p8 le_p9 le_p10 le_p11 le_p12 le_p13 le_p14 le_p15 le_p16 le_p17 le_p18 le_p19 le_p20 le_p21 le_p22 le_p23 le_p24 le_q0 le_q1 lt_q1 le_q2 lt_q2 le_q3 lt_q3 le_q4 lt_q4 le_q5 lt_q5 le_q6 lt_q6 le_q7 lt_q7 le_q8 lt_q8 le_q9 lt_q9 le_q10 lt_q10 le_q11 lt_q11 le_q12 lt_q12 le_q13 lt_q13 le_q14 lt_q14 le_q15 lt_q15 le_q16 lt_q16 le_q17 lt_q17 le_q18 lt_q18 le_q19 lt_q19 le_q20 lt_q20 le_q21 lt_q21 le_q22 lt_q22 le_q23 lt_q23 le_q24 lt_q24

theorem OwnV.set {B : Nat} {e : TypeId} {g n cap : Nat} {xs : List Value} {W0 w : World} (h : OwnV B e (.slice (some ⟨g, 0, none⟩) n cap) xs W0 w) (i : Nat) (v : Value) :
    OwnV B e (.slice (some ⟨g, 0, none⟩) n cap) (xs.set i v) W0 (w.setCell ⟨g, i, none⟩ v) := by
  obtain ⟨⟨hx, ho⟩, hb, hB⟩ := h
  rcases ho with ⟨e, _⟩ | ⟨g', cap', cur, e, hbg, hg, hnc, hcm, hcs, htk⟩
  · cases e
  · simp only [Value.slice.injEq, Option.some.injEq, Addr.mk.injEq] at e
    obtain ⟨⟨rfl, _, _⟩, rfl, rfl⟩ := e
    refine ⟨⟨by simp, .inr ⟨g, cap, cur.setIfInBounds i v, by simp, hbg, ?_, by simpa using hnc, hcm, by simp [hcs], ?_⟩⟩, ⟨hb.os, hb.tape, hb.output, by simpa using hb.size, fun k hk => ?_⟩, by simpa using hB⟩
    · exact heap_setCell_same w g i cur e v hg
    · have htk' : cur.toList.take xs.length = xs := by simpa using htk
      rw [List.length_set, Nat.mul_one, Array.toList_setIfInBounds, List.take_set, htk']
    · rw [heap_setCell_other _ _ _ _ (by simp; omega)]
      exact hb.block k hk

theorem xor8 (a b : Nat) (ha : a < 256) (hb : b < 256) : bits .xor .u8 (a : Int) (b : Int) = ((a ^^^ b : Nat) : Int) := by
  show IntKind.u8.wrap ((BitVec.ofInt 8 (a : Int) ^^^ BitVec.ofInt 8 (b : Int)).toNat : Int) = _
  have h := Nat.xor_lt_two_pow (n := 8) ha hb
  have e : (BitVec.ofInt 8 (a : Int) ^^^ BitVec.ofInt 8 (b : Int)).toNat = a ^^^ b := by
    rw [BitVec.toNat_xor, BitVec.ofInt_natCast, BitVec.ofInt_natCast, BitVec.toNat_ofNat, BitVec.toNat_ofNat, Nat.mod_eq_of_lt ha, Nat.mod_eq_of_lt hb]
  rw [e, IntKind.wrap_u8]
  omega

theorem OwnV.form {B : Nat} {e : TypeId} {v : Value} {xs : List Value} {W0 w : World} (h : OwnV B e v xs W0 w) (hn : xs ≠ []) : ∃ g cap, v = .slice (some ⟨g, 0, none⟩) xs.length cap ∧ B ≤ g ∧ g < w.heap.size := by
  rcases h.1.2 with ⟨_, h0⟩ | ⟨g, cap, cur, rfl, hb, hg, _⟩
  · exact absurd (List.eq_nil_of_length_eq_zero h0) hn
  · exact ⟨g, cap, rfl, hb, (h.1.lt g rfl).2⟩

theorem OwnV.frozen {B : Nat} {e : TypeId} {g n cap : Nat} {xs : List Value} {W0 w : World} (h : OwnV B e (.slice (some ⟨g, 0, none⟩) n cap) xs W0 w) (i : Nat) : w.frozen? ⟨g, i, none⟩ = false := by
  rcases h.1.2 with ⟨e, _⟩ | ⟨g', cap', cur, e, _, hg, _⟩
  · cases e
  · simp only [Value.slice.injEq, Option.some.injEq, Addr.mk.injEq] at e
    obtain ⟨⟨rfl, _, _⟩, _, _⟩ := e
    unfold World.frozen?
    rw [hg]
    simp

theorem OwnV.cell {B : Nat} {e : TypeId} {g n cap : Nat} {xs : List Value} {W0 w : World} (h : OwnV B e (.slice (some ⟨g, 0, none⟩) n cap) xs W0 w) (i : Nat) (hi : i < xs.length) : w.cell? ⟨g, i, none⟩ = some xs[i] := by
  have := h.1.cells (g := g) rfl i xs[i] (by simp [hi])
  rw [add_at, Nat.zero_add] at this
  exact this

/-- Whether one of the pattern's first bits is set. -/
def tb (Pt : Nat) : Nat → Bool
  | 0 => false
  | j + 1 => tb Pt j || Pt.testBit j

theorem tb_true {Pt j : Nat} (h : tb Pt j = true) : ∃ q, q < j ∧ Pt.testBit q = true := by
  induction j with
  | zero => simp [tb] at h
  | succ j ih =>
    simp only [tb, Bool.or_eq_true] at h
    rcases h with h | h
    · obtain ⟨q, h1, h2⟩ := ih h
      exact ⟨q, by omega, h2⟩
    · exact ⟨j, by omega, h⟩

theorem cellsB_set (M : List UInt8) (q : Nat) (c : UInt8) : cellsB (M.set q c) = (cellsB M).set q (.int .u8 (c.toNat : Int)) := by
  unfold cellsB
  rw [List.map_set]

theorem flip_stored (M : List UInt8) {m : Nat} (hq : m / 8 < M.length) : bits .xor .u8 (M[m / 8].toNat : Int) ((2 : Int) ^ (7 - m % 8) % 256) = ((flip (M.getD (m / 8) 0) (7 - m % 8)).toNat : Int) := by
  have hg : M.getD (m / 8) 0 = M[m / 8] := by simp [List.getD, hq]
  have h2 : 2 ^ (7 - m % 8) < 2 ^ 8 := Nat.pow_lt_pow_right (by decide) (by omega)
  have e : ((2 : Int) ^ (7 - m % 8) % 256) = ((2 ^ (7 - m % 8) : Nat) : Int) := by
    have e1 : ((2 ^ (7 - m % 8) : Nat) : Int) = (2 : Int) ^ (7 - m % 8) := by push_cast; rfl
    have h3 : 2 ^ (7 - m % 8) < 256 := h2
    rw [← e1]
    exact Int.emod_eq_of_lt (Int.natCast_nonneg _) (Int.ofNat_lt.2 h3)
  rw [hg, flip_toNat _ _ (by omega), e]
  exact xor8 _ _ M[m / 8].toNat_lt h2

theorem sealBursts_awake (v : Value) (l : List UInt8) (A Pt : Nat) (w : World) (h : Byt w v l) (hl : 3000 < l.length) :
    Calls Try.prog 6 #[v, .int .u16 A, .int .u32 Pt] w fun e w' => e = .returned (.bool true) ∧ Adds w w' := by
  obtain ⟨ao, cap, rfl, hcap, ho⟩ := h.open
  go_enter Try.func6, Try.ntmps6
  go_wp2_with (go_at_call 8; refine (awake_any _).mono ?_; rintro e w1 ⟨rfl, os1, n1, rfl⟩)
  go_ret
  refine ⟨rfl, ?_⟩
  repeat (first | with_reducible exact Adds.refl _ | with_reducible refine Adds.alloc ?_ _ | with_reducible refine Adds.more ?_ _ _ | with_reducible refine Adds.drew ?_ | with_reducible refine Adds.drewN ?_ _)

theorem sealBursts_even (v : Value) (l : List UInt8) (A Pt : Nat) (w : World) (h : Byt w v l) (hl : l.length ≤ 3000) (hA : A < 65536) (he : A % 2 = 0) :
    Calls Try.prog 6 #[v, .int .u16 A, .int .u32 Pt] w fun e w' => e = .returned (.bool true) ∧ Adds w w' := by
  have h' := h
  obtain ⟨ao, cap, rfl, hcap, ho⟩ := h.open
  have hlr := record_length l
  have hne : cellsB (record l) ≠ [] := by
    intro e
    have := congrArg List.length e
    rw [cellsB_length, hlr] at this
    simp at this
  have ht : ((A : Int).tmod 2 == 1) = false := by
    rw [Int.tmod_eq_emod_of_nonneg (by omega)]
    simp
    omega
  go_enter Try.func6, Try.ntmps6
  go_wp2_with (first
    | (go_at_call 9; (with_reducible refine (record_any _ _ _ h' (by omega)).mono ?_); rintro e w1 ⟨s, rfl, h1⟩; obtain ⟨g, sc, hsv, hg1, hg2⟩ := h1.form hne; rw [cellsB_length, hlr] at hsv; subst hsv))
  obtain ⟨k, hk⟩ : ∃ k : Nat, ((A : Int) / 2 % 48) = (k : Int) := ⟨A / 2 % 48, by omega⟩
  have hk48 : k < 48 := by omega
  have hAm : ((A : Int) % 2 == 1) = false := by simp; omega
  rw [hk, hAm]
  clear hk
  go_loopw [12, 13] (fun t i W => ∃ (j : Nat) (M : List UInt8), j ≤ 24 ∧ i = .int .i64 j ∧ t = .bool (tb Pt j) ∧ k + j ≤ 48 ∧ Turned (record l) M k j Pt ∧ OwnV w.heap.size 5 (.slice (some ⟨g, 0, none⟩) (l.length + 9) sc) (cellsB M) w W) (fun _ i _ => (24 - intOf i).toNat)
  case atStart => exact ⟨0, record l, by omega, rfl, rfl, by omega, turned_none _ _ _, h1⟩
  case round =>
    obtain ⟨j, M, hj, rfl, rfl, hkj, hT, hown⟩ := hrel
    have hMl := hT.1
    by_cases hin : j < 24 ∧ k + j < 48
    · have hq : (k + j) / 8 < M.length := by omega
      have hc := hown.cell ((k + j) / 8) (by rw [cellsB_length]; exact hq)
      have hz := hown.frozen ((k + j) / 8)
      have hcb : (cellsB M)[(k + j) / 8]'(by rw [cellsB_length]; exact hq) = .int .u8 (M[(k + j) / 8].toNat : Int) := by simp [cellsB]
      rw [hcb] at hc
      cases hb : Pt.testBit j
      · have hbit : ((Pt : Int) / 2 ^ j).tmod 2 = 0 := by
          rw [cast_bit]
          rw [Nat.testBit_eq_decide_div_mod_eq] at hb
          simp at hb
          omega
        go_wp2
        go_roundw
        case rel => exact ⟨j + 1, M, by omega, by go_num, by simp [tb, hb], by omega, turned_skip hT hb, hown⟩
        case measure => simp [intOf]; omega
      · have hbit : ((Pt : Int) / 2 ^ j).tmod 2 = 1 := by
          rw [cast_bit]
          rw [Nat.testBit_eq_decide_div_mod_eq] at hb
          simp at hb
          omega
        go_wp2
        go_roundw
        case rel =>
          refine ⟨j + 1, M.set ((k + j) / 8) (flip (M.getD ((k + j) / 8) 0) (7 - (k + j) % 8)), by omega, by go_num, by simp [tb, hb], by omega, turned_hit hT hb (by omega), ?_⟩
          have hset := hown.set ((k + j) / 8) (.int .u8 ((flip (M.getD ((k + j) / 8) 0) (7 - (k + j) % 8)).toNat : Int))
          rw [flip_stored M hq, cellsB_set]
          exact hset
        case measure => simp [intOf]; omega
    · have hx : tb Pt j = true → (first M).2.2 ≠ 0 := fun ht => burst_first l M k j Pt (by omega) hT hj (tb_true ht) (.inl hkj)
      have k1 := first_any _ M wr hown.byt (by omega)
      have hMs : (24 : Int) ≤ (j : Int) ∨ (48 : Int) ≤ (k : Int) + (j : Int) := by omega
      generalize first M = F at *
      obtain ⟨F1, F2, F3⟩ := F
      simp only at k1 hx
      cases hb : tb Pt j
      · clear hx
        rcases hMs with hMs | hMs
        · go_wp2_with (first
            | (go_at_call 10; (with_reducible refine k1.mono ?_); rintro e w3 ⟨r3, rfl, h3, a3⟩)
            | (go_at_call 8; (with_reducible refine (awake_any _).mono ?_); rintro e w8 ⟨rfl, a8⟩))
          go_ret
          exact ⟨rfl, (hown.added.trans a3).trans a8⟩
        · by_cases h24 : (j : Int) < 24
          · go_wp2_with (first
              | (go_at_call 10; (with_reducible refine k1.mono ?_); rintro e w3 ⟨r3, rfl, h3, a3⟩)
              | (go_at_call 8; (with_reducible refine (awake_any _).mono ?_); rintro e w8 ⟨rfl, a8⟩))
            go_ret
            exact ⟨rfl, (hown.added.trans a3).trans a8⟩
          · go_wp2_with (first
              | (go_at_call 10; (with_reducible refine k1.mono ?_); rintro e w3 ⟨r3, rfl, h3, a3⟩)
              | (go_at_call 8; (with_reducible refine (awake_any _).mono ?_); rintro e w8 ⟨rfl, a8⟩))
            go_ret
            exact ⟨rfl, (hown.added.trans a3).trans a8⟩
      · have hx0 : (F3 != 0) = true := by simpa using hx hb
        clear hx
        by_cases h24 : (j : Int) < 24
        · have hMs' : (48 : Int) ≤ (k : Int) + (j : Int) := by omega
          go_wp2_with (first
            | (go_at_call 10; (with_reducible refine k1.mono ?_); rintro e w3 ⟨r3, rfl, h3, a3⟩)
            | (go_at_call 8; (with_reducible refine (awake_any _).mono ?_); rintro e w8 ⟨rfl, a8⟩))
          go_ret
          exact ⟨rfl, (hown.added.trans a3).trans a8⟩
        · go_wp2_with (first
            | (go_at_call 10; (with_reducible refine k1.mono ?_); rintro e w3 ⟨r3, rfl, h3, a3⟩)
            | (go_at_call 8; (with_reducible refine (awake_any _).mono ?_); rintro e w8 ⟨rfl, a8⟩))
          go_ret
          exact ⟨rfl, (hown.added.trans a3).trans a8⟩

theorem sealBursts_odd (v : Value) (l : List UInt8) (A Pt : Nat) (w : World) (h : Byt w v l) (hl : l.length ≤ 3000) (hA : A < 65536) (he : A % 2 = 1) :
    Calls Try.prog 6 #[v, .int .u16 A, .int .u32 Pt] w fun e w' => e = .returned (.bool true) ∧ Adds w w' := by
  have h' := h
  obtain ⟨ao, cap, rfl, hcap, ho⟩ := h.open
  have hlr := record_length l
  have hne : cellsB (record l) ≠ [] := by
    intro e
    have := congrArg List.length e
    rw [cellsB_length, hlr] at this
    simp at this
  have ht : ((A : Int).tmod 2 == 1) = true := by
    rw [Int.tmod_eq_emod_of_nonneg (by omega)]
    simp
    omega
  obtain ⟨R, hR⟩ : ∃ R : Nat, (A : Int) / 2 % (8 * ((l.length : Int) + 9) - 48) = (R : Int) := ⟨A / 2 % (8 * l.length + 24), by
    rw [show 8 * ((l.length : Int) + 9) - 48 = ((8 * l.length + 24 : Nat) : Int) by omega, Int.natCast_emod]
    rfl⟩
  have hRb : R < 8 * l.length + 24 := by
    have h1 := Int.emod_lt_of_pos ((A : Int) / 2) (show 0 < 8 * ((l.length : Int) + 9) - 48 by omega)
    rw [hR] at h1
    omega
  go_enter Try.func6, Try.ntmps6
  go_wp2_with (first
    | (go_at_call 9; (with_reducible refine (record_any _ _ _ h' (by omega)).mono ?_); rintro e w1 ⟨s, rfl, h1⟩; obtain ⟨g, sc, hsv, hg1, hg2⟩ := h1.form hne; rw [cellsB_length, hlr] at hsv; subst hsv))
  have hAm : ((A : Int) % 2 == 1) = true := by simp; omega
  rw [hAm]
  obtain ⟨k, hk⟩ : ∃ k : Nat, 48 + (R : Int) = (k : Int) := ⟨48 + R, by omega⟩
  have hk48 : 48 ≤ k ∧ k < 8 * (l.length + 9) := by omega
  rw [hk]
  clear hk hR
  go_loopw [12, 13] (fun t i W => ∃ (j : Nat) (M : List UInt8), j ≤ 24 ∧ i = .int .i64 j ∧ t = .bool (tb Pt j) ∧ k + j ≤ 8 * (l.length + 9) ∧ Turned (record l) M k j Pt ∧ OwnV w.heap.size 5 (.slice (some ⟨g, 0, none⟩) (l.length + 9) sc) (cellsB M) w W) (fun _ i _ => (24 - intOf i).toNat)
  case atStart => exact ⟨0, record l, by omega, rfl, rfl, by omega, turned_none _ _ _, h1⟩
  case round =>
    obtain ⟨j, M, hj, rfl, rfl, hkj, hT, hown⟩ := hrel
    have hMl := hT.1
    by_cases hin : j < 24 ∧ k + j < 8 * (l.length + 9)
    · have hq : (k + j) / 8 < M.length := by omega
      have hc := hown.cell ((k + j) / 8) (by rw [cellsB_length]; exact hq)
      have hz := hown.frozen ((k + j) / 8)
      have hcb : (cellsB M)[(k + j) / 8]'(by rw [cellsB_length]; exact hq) = .int .u8 (M[(k + j) / 8].toNat : Int) := by simp [cellsB]
      rw [hcb] at hc
      cases hb : Pt.testBit j
      · have hbit : ((Pt : Int) / 2 ^ j).tmod 2 = 0 := by
          rw [cast_bit]
          rw [Nat.testBit_eq_decide_div_mod_eq] at hb
          simp at hb
          omega
        go_wp2
        go_roundw
        case rel => exact ⟨j + 1, M, by omega, by go_num, by simp [tb, hb], by omega, turned_skip hT hb, hown⟩
        case measure => simp [intOf]; omega
      · have hbit : ((Pt : Int) / 2 ^ j).tmod 2 = 1 := by
          rw [cast_bit]
          rw [Nat.testBit_eq_decide_div_mod_eq] at hb
          simp at hb
          omega
        go_wp2
        go_roundw
        case rel =>
          refine ⟨j + 1, M.set ((k + j) / 8) (flip (M.getD ((k + j) / 8) 0) (7 - (k + j) % 8)), by omega, by go_num, by simp [tb, hb], by omega, turned_hit hT hb (by omega), ?_⟩
          have hset := hown.set ((k + j) / 8) (.int .u8 ((flip (M.getD ((k + j) / 8) 0) (7 - (k + j) % 8)).toNat : Int))
          rw [flip_stored M hq, cellsB_set]
          exact hset
        case measure => simp [intOf]; omega
    · have hx : tb Pt j = true → (first M).2.2 ≠ 0 := fun ht => burst_first l M k j Pt (by omega) hT hj (tb_true ht) (.inr ⟨hk48.1, by rw [hlr]; exact hkj⟩)
      have k1 := first_any _ M wr hown.byt (by omega)
      have hMs : (24 : Int) ≤ (j : Int) ∨ 8 * ((l.length : Int) + 9) ≤ (k : Int) + (j : Int) := by omega
      generalize first M = F at *
      obtain ⟨F1, F2, F3⟩ := F
      simp only at k1 hx
      cases hb : tb Pt j
      · clear hx
        rcases hMs with hMs | hMs
        · go_wp2_with (first
            | (go_at_call 10; (with_reducible refine k1.mono ?_); rintro e w3 ⟨r3, rfl, h3, a3⟩)
            | (go_at_call 8; (with_reducible refine (awake_any _).mono ?_); rintro e w8 ⟨rfl, a8⟩))
          go_ret
          exact ⟨rfl, (hown.added.trans a3).trans a8⟩
        · by_cases h24 : (j : Int) < 24
          · go_wp2_with (first
              | (go_at_call 10; (with_reducible refine k1.mono ?_); rintro e w3 ⟨r3, rfl, h3, a3⟩)
              | (go_at_call 8; (with_reducible refine (awake_any _).mono ?_); rintro e w8 ⟨rfl, a8⟩))
            go_ret
            exact ⟨rfl, (hown.added.trans a3).trans a8⟩
          · go_wp2_with (first
              | (go_at_call 10; (with_reducible refine k1.mono ?_); rintro e w3 ⟨r3, rfl, h3, a3⟩)
              | (go_at_call 8; (with_reducible refine (awake_any _).mono ?_); rintro e w8 ⟨rfl, a8⟩))
            go_ret
            exact ⟨rfl, (hown.added.trans a3).trans a8⟩
      · have hx0 : (F3 != 0) = true := by simpa using hx hb
        clear hx
        by_cases h24 : (j : Int) < 24
        · have hMs' : 8 * ((l.length : Int) + 9) ≤ (k : Int) + (j : Int) := by omega
          go_wp2_with (first
            | (go_at_call 10; (with_reducible refine k1.mono ?_); rintro e w3 ⟨r3, rfl, h3, a3⟩)
            | (go_at_call 8; (with_reducible refine (awake_any _).mono ?_); rintro e w8 ⟨rfl, a8⟩))
          go_ret
          exact ⟨rfl, (hown.added.trans a3).trans a8⟩
        · go_wp2_with (first
            | (go_at_call 10; (with_reducible refine k1.mono ?_); rintro e w3 ⟨r3, rfl, h3, a3⟩)
            | (go_at_call 8; (with_reducible refine (awake_any _).mono ?_); rintro e w8 ⟨rfl, a8⟩))
          go_ret
          exact ⟨rfl, (hown.added.trans a3).trans a8⟩

end Go.Proofs.Ytmbnpglnanfdoaa
