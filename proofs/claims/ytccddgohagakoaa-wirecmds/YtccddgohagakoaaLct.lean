/-
  The reader's count, and its text, by contracts.
-/
import Derived.Test.YtccddgohagakoaaLrd
import Derived.Test.YtccddgohagakoaaLpu
import Derived.Laws.BitsLemmas
import Derived.Laws.Rows
namespace Go.Proofs.Ytccddgohagakoaa
open Go.RowKit
attribute [local go_sem] cell?_more frozen?_more setCell_more size_more tape_more drew_more drewN_more more_drew more_drewN one_out plus_out plus_end lt_one le_p2 le_p3 le_p4 le_p5 le_p6 le_p7 le_p8 le_p9 le_p10 le_p11 le_p12 le_p13 le_p14 le_p15 le_p16 le_p17 le_p18 le_p19 le_p20 le_p21 le_p22 le_p23 le_p24 le_q0 le_q1 lt_q1 le_q2 lt_q2 le_q3 lt_q3 le_q4 lt_q4 le_q5 lt_q5 le_q6 lt_q6 le_q7 lt_q7 le_q8 lt_q8 le_q9 lt_q9 le_q10 lt_q10 le_q11 lt_q11 le_q12 lt_q12 le_q13 lt_q13 le_q14 lt_q14 le_q15 lt_q15 le_q16 lt_q16 le_q17 lt_q17 le_q18 lt_q18 le_q19 lt_q19 le_q20 lt_q20 le_q21 lt_q21 le_q22 lt_q22 le_q23 lt_q23 le_q24 lt_q24

attribute [local go_sem] more_more

theorem numOf_any (n : Nat) (w : World) (hn : n ≤ 9223372036854775807) : Calls Try.prog 56 #[.int .i64 n] w fun e w' => e = .returned (.int .i64 (unzig n)) ∧ w' = w := by
  by_cases h : n % 2 = 1
  · have h1 : ((n : Int).tmod 2 == 1) = true := by
      rw [Int.tmod_eq_emod_of_nonneg (by omega)]
      simp
      omega
    go_enter Try.func56, Try.ntmps56
    go_wp2
    all_goals first
      | (go_ret
         refine ⟨?_, rfl⟩
         simp only [unzig, h, if_true]
         rfl)
      | (exfalso; simp at *; omega)
  · have h1 : ((n : Int).tmod 2 == 1) = false := by
      rw [Int.tmod_eq_emod_of_nonneg (by omega)]
      simp
      omega
    go_enter Try.func56, Try.ntmps56
    go_wp2
    all_goals first
      | (go_ret
         refine ⟨?_, rfl⟩
         simp only [unzig, h, if_false]
         rfl)
      | (exfalso; simp at *; omega)

/-- The reader at block P: its bytes, and how many cells it has read. -/
def Rd (P : Nat) (w : World) (l : List UInt8) (c : Nat) : Prop := ∃ v, w.heap[P]? = some (.cells #[v, .int .i64 (c : Int)] 88 (0, 0)) ∧ Byt w v l

/-- What is read so far, and what is behind it. -/
def join (A k : Nat) (o : Option (Nat × List UInt8)) : Option (Nat × List UInt8) := match o with
  | none => none
  | some (m, r) => some (A + 128 ^ k * m, r)

theorem drop_at {l : List UInt8} {k : Nat} (hk : k < l.length) : l.drop k = l[k] :: l.drop (k + 1) := List.drop_eq_getElem_cons hk

theorem cnt_zero {l : List UInt8} {k A : Nat} (hk : k < l.length) (h8 : k < 8) (h0 : 0 < k) (hx : l[k].toNat = 0) : join A k (cntR (8 - k) (decide (k = 0)) (l.drop k)) = none := by
  obtain ⟨f, hf⟩ : ∃ f, 8 - k = f + 1 := ⟨7 - k, by omega⟩
  have hd : decide (k = 0) = false := by simp; omega
  rw [drop_at hk, hf, hd]
  unfold cntR
  rw [if_pos ⟨rfl, hx⟩]
  rfl

theorem cnt_last {l : List UInt8} {k A : Nat} (hk : k < l.length) (h8 : k < 8) (hz : ¬ (0 < k ∧ l[k].toNat = 0)) (hx : l[k].toNat < 128) : join A k (cntR (8 - k) (decide (k = 0)) (l.drop k)) = some (A + l[k].toNat * 128 ^ k, l.drop (k + 1)) := by
  obtain ⟨f, hf⟩ : ∃ f, 8 - k = f + 1 := ⟨7 - k, by omega⟩
  rw [drop_at hk, hf]
  unfold cntR
  rw [if_neg (by simp; omega), if_pos hx]
  simp [join, Nat.mul_comm]

theorem cnt_more {l : List UInt8} {k A : Nat} (hk : k < l.length) (h8 : k < 8) (hx : ¬ l[k].toNat < 128) : join A k (cntR (8 - k) (decide (k = 0)) (l.drop k)) = join (A + l[k].toNat % 128 * 128 ^ k) (k + 1) (cntR (8 - (k + 1)) (decide (k + 1 = 0)) (l.drop (k + 1))) := by
  obtain ⟨f, hf⟩ : ∃ f, 8 - k = f + 1 := ⟨7 - k, by omega⟩
  have hf' : 8 - (k + 1) = f := by omega
  have hd : decide (k + 1 = 0) = false := by simp
  have hb := l[k].toNat_lt
  have hm : l[k].toNat % 128 = l[k].toNat - 128 := by omega
  rw [drop_at hk, hf, hf', hd, hm]
  conv => lhs; unfold cntR
  rw [if_neg (by omega), if_neg hx]
  cases cntR f false (l.drop (k + 1)) with
  | none => rfl
  | some q =>
    obtain ⟨m, r⟩ := q
    simp only [join, Option.some.injEq, Prod.mk.injEq, and_true]
    rw [Nat.pow_succ, Nat.mul_add, Nat.mul_comm (128 ^ k) (l[k].toNat - 128), Nat.mul_assoc, Nat.add_assoc]

theorem cnt_end {l : List UInt8} {k A : Nat} (h : ¬ (k < l.length ∧ k < 8)) : join A k (cntR (8 - k) (decide (k = 0)) (l.drop k)) = none := by
  by_cases hk : k < l.length
  · have : 8 - k = 0 := by omega
    rw [this]
    rfl
  · rw [List.drop_of_length_le (by omega)]
    cases 8 - k <;> rfl

theorem pow_seven (k : Nat) : 2 ^ (7 * k) = 128 ^ k := by rw [Nat.pow_mul]

theorem or_count (A x k : Nat) (hA : A < 128 ^ k) (hx : x < 256) (hk : k < 8) :
    bits .or .i64 (A : Int) (wrap64 (wrap64 (bits .and .u8 (x : Int) 127) * 2 ^ (7 * k))) = ((A + x % 128 * 128 ^ k : Nat) : Int) := by
  have h1 : bits .and .u8 (x : Int) 127 = ((x % 128 : Nat) : Int) := by
    have := (bits_nat .u8 8 (by decide) wraps_u8 x 127 (by omega) (by decide)).1
    have e := Nat.and_two_pow_sub_one_eq_mod x 7
    simp at e
    rw [e] at this
    exact this
  have hp : 128 ^ k ≤ 128 ^ 7 := Nat.pow_le_pow_right (by decide) (by omega)
  have hm : x % 128 * 128 ^ k ≤ 127 * 128 ^ k := Nat.mul_le_mul_right _ (by omega)
  have h7 : (128 : Nat) ^ 7 = 562949953421312 := by decide
  have e2 : ((2 : Int) ^ (7 * k)) = ((128 ^ k : Nat) : Int) := by rw [← pow_seven]; push_cast; rfl
  have hw1 : wrap64 ((x % 128 : Nat) : Int) = ((x % 128 : Nat) : Int) := by unfold wrap64; omega
  have e3 : ((x % 128 : Nat) : Int) * ((128 ^ k : Nat) : Int) = ((x % 128 * 128 ^ k : Nat) : Int) := by push_cast; rfl
  have hw2 : wrap64 ((x % 128 * 128 ^ k : Nat) : Int) = ((x % 128 * 128 ^ k : Nat) : Int) := by unfold wrap64; omega
  rw [h1, hw1, e2, e3, hw2]
  have hor := (bits_nat .i64 62 (by decide) (fun n h0 h1 => by rw [IntKind.wrap_i64]; omega) A (x % 128 * 128 ^ k) (by omega) (by omega)).2
  rw [hor]
  congr 1
  rw [Nat.or_comm, ← pow_seven, Nat.mul_comm, ← Nat.two_pow_add_eq_or_of_lt (by rw [pow_seven]; exact hA), Nat.add_comm]

theorem box_not {w : World} {P : Nat} {v : Value} {c : Int} {T : TypeId} {b off : Nat} {l : List UInt8} (hP : w.heap[P]? = some (.cells #[v, .int .i64 c] T (0, 0))) (hv : ∀ n, v ≠ .int .u8 n) (hl : LiesB w b off l) (hn : 0 < l.length) : b ≠ P := by
  rintro rfl
  have h := hl 0 hn
  rw [Nat.add_zero] at h
  simp only [World.cell?, hP] at h
  match off, h with
  | 0, h => simp at h; exact hv _ h
  | 1, h => simp at h
  | (n + 2), h => simp at h

theorem lies_set {w : World} {P i : Nat} {u : Value} {b off : Nat} {l : List UInt8} (hl : LiesB w b off l) (hne : b ≠ P) : LiesB (w.setCell ⟨P, i, none⟩ u) b off l := by
  intro j hj
  rw [World.cell?_of_block (w := w) (a := ⟨b, off + j, none⟩) (heap_setCell_other w ⟨P, i, none⟩ b u hne)]
  exact hl j hj

theorem byt_make {w : World} {ao : Option Addr} {n cap : Nat} {l : List UInt8} (hn : n = l.length) (hc : l.length ≤ cap) (h : l = [] ∨ ∃ b off, ao = some ⟨b, off, none⟩ ∧ b < w.heap.size ∧ LiesB w b off l) : Byt w (.slice ao n cap) l := by
  subst hn
  refine ⟨ao, cap, by rw [cellsB_length], by rw [cellsB_length]; exact hc, ?_⟩
  rcases h with rfl | ⟨b, off, rfl, hb, hl⟩
  · exact .inl rfl
  · refine .inr ⟨b, off, rfl, hb, fun j hj => ?_⟩
    rw [cellsB_length] at hj
    rw [hl j hj]
    simp [cellsB]

/-- The reader behind a store of its rest. -/
theorem Rd.rest {P : Nat} {w : World} {l : List UInt8} {c k cap b off : Nat} (hP : w.heap[P]? = some (.cells #[.slice (some ⟨b, off, none⟩) l.length cap, .int .i64 (c : Int)] 88 (0, 0))) (hb : b < w.heap.size) (hl : LiesB w b off l) (hn : 0 < l.length) (hk : k ≤ l.length) (hc : l.length ≤ cap) (ao : Option Addr)
    (hao : k < l.length → ao = some ⟨b, off + k, none⟩) : Rd P (w.setCell ⟨P, 0, none⟩ (.slice ao (l.length - k) (cap - k))) (l.drop k) c ∧ w.grownBy (w.setCell ⟨P, 0, none⟩ (.slice ao (l.length - k) (cap - k))) (some P) := by
  have hne := box_not hP (fun n => by simp) hl hn
  refine ⟨⟨.slice ao (l.length - k) (cap - k), ?_, ?_⟩, ⟨rfl, rfl, rfl, by simp, fun j _ hj => heap_setCell_other w ⟨P, 0, none⟩ j _ (fun e => hj (by rw [e]))⟩⟩
  · rw [heap_setCell_same w P 0 _ 88 _ hP]
    simp
  · refine byt_make (by simp) (by simp; omega) ?_
    by_cases hkl : k < l.length
    · refine .inr ⟨b, off + k, hao hkl, by simpa using hb, lies_set (fun j hj => ?_) hne⟩
      simp only [List.length_drop] at hj
      have := hl (k + j) (by omega)
      rw [Nat.add_assoc, this]
      simp
    · exact .inl (List.drop_of_length_le (by omega))

def CountTold (P : Nat) (l : List UInt8) (c : Nat) (w : World) (e : Ending) (w' : World) : Prop :=
  (∀ n r, cntR 8 true l = some (n, r) → e = .returned (.tuple #[.int .i64 (n : Int), .bool true]) ∧ Rd P w' r c ∧ w.grownBy w' (some P)) ∧ (cntR 8 true l = none → e = .returned (.tuple #[.int .i64 0, .bool false]) ∧ w' = w)

theorem told_none {P : Nat} {l : List UInt8} {c : Nat} {w : World} (h : cntR 8 true l = none) : CountTold P l c w (.returned (.tuple #[.int .i64 0, .bool false])) w := by
  refine ⟨fun n r he => ?_, fun _ => ⟨rfl, rfl⟩⟩
  rw [h] at he
  cases he

theorem told_some {P : Nat} {l : List UInt8} {c n : Nat} {r : List UInt8} {w w' : World} (h : cntR 8 true l = some (n, r)) (hr : Rd P w' r c) (hg : w.grownBy w' (some P)) : CountTold P l c w (.returned (.tuple #[.int .i64 (n : Int), .bool true])) w' := by
  refine ⟨fun n' r' he => ?_, fun he => ?_⟩
  · rw [h] at he
    cases he
    exact ⟨rfl, hr, hg⟩
  · rw [h] at he
    cases he

set_option maxRecDepth 20000 in
set_option maxHeartbeats 1000000 in
theorem count_any (P : Nat) (l : List UInt8) (c : Nat) (w : World) (h : Rd P w l c) (hlen : l.length ≤ 65536) :
    Calls Try.prog 55 #[.pointer (some ⟨P, 0, none⟩)] w fun e w' => CountTold P l c w e w' := by
  obtain ⟨v, hP, hB⟩ := h
  obtain ⟨ao, cap, rfl, hcap, ho⟩ := hB.open
  have q0 : w.cell? ⟨P, 0, none⟩ = some (.slice ao l.length cap) := by simp [World.cell?, hP]
  have q1 : w.cell? ⟨P, 1, none⟩ = some (.int .i64 (c : Int)) := by simp [World.cell?, hP]
  have f0 : w.frozen? ⟨P, 0, none⟩ = false := by simp [World.frozen?, hP]
  go_enter Try.func55, Try.ntmps55
  go_wp2
  go_loopw [4, 5] (fun nv i wr => ∃ (k A : Nat), k ≤ 8 ∧ k ≤ l.length ∧ i = .int .i64 k ∧ nv = .int .i64 A ∧ A < 128 ^ k ∧ cntR 8 true l = join A k (cntR (8 - k) (decide (k = 0)) (l.drop k)) ∧ wr = w) (fun _ i _ => (9 - intOf i).toNat)
  case atStart =>
    refine ⟨0, 0, by omega, by omega, rfl, rfl, by simp, ?_, rfl⟩
    simp only [Nat.sub_zero, List.drop_zero, decide_true]
    cases cntR 8 true l with
    | none => rfl
    | some q => simp [join]
  case round =>
    obtain ⟨k, A, hk8, hkl, rfl, rfl, hA, hrd, rfl⟩ := hrel
    by_cases hin : k < l.length ∧ k < 8
    · rcases ho with rfl | ⟨b, off, rfl, hb, hl⟩
      · simp at hin
      have hc := hl k hin.1
      have hx := l[k].toNat_lt
      have hor := or_count A l[k].toNat k hA hx hin.2
      have hk0 := hin.2
      have hk1 := hin.1
      by_cases hz : 0 < k ∧ l[k].toNat = 0
      · have HE : Hid (cntR 8 true l = none) := by
          show _ = none
          rw [hrd, cnt_zero hin.1 hin.2 hz.1 hz.2]
        have hz0 : (0 : Int) < (k : Int) := by omega
        rw [hz.2] at hc
        clear hrd hor hz
        go_wp2
        all_goals
          go_ret2
          exact told_none HE.out
      · by_cases hx2 : l[k].toNat < 128
        · have HE : Hid (cntR 8 true l = some (A + l[k].toNat * 128 ^ k, l.drop (k + 1))) := by
            show _ = some _
            rw [hrd, cnt_last hin.1 hin.2 hz hx2]
          have hm : l[k].toNat % 128 = l[k].toNat := by omega
          rw [hm] at hor
          have hxne : 0 < k → l[k].toNat ≠ 0 := fun h e => hz ⟨h, e⟩
          have hzz : (decide ((0 : Int) < (k : Int)) && (((l[k].toNat : Nat) : Int) == 0)) = false := by
            by_cases hk00 : 0 < k
            · have : ¬ l[k].toNat = 0 := fun e => hz ⟨hk00, e⟩
              have h2 : (((l[k].toNat : Nat) : Int) == 0) = false := by simp; omega
              rw [h2]; simp
            · have : decide ((0 : Int) < (k : Int)) = false := by simp; omega
              rw [this]; simp
          have hdone := fun (ao : Option Addr) (hao : k + 1 < l.length → ao = some ⟨b, off + (k + 1), none⟩) => Rd.rest (k := k + 1) hP hb hl (by omega) (by omega) hcap ao hao
          obtain ⟨M, hM⟩ : ∃ M, M = A + l[k].toNat * 128 ^ k := ⟨_, rfl⟩
          rw [← hM] at hor
          have HE' : Hid (cntR 8 true l = some (M, l.drop (k + 1))) := by
            show _ = _
            rw [hM]
            exact HE.out
          clear hrd hm hz hM HE
          generalize l[k].toNat = x at *
          by_cases hck : cap = k + 1
          · have hd := hdone (some ⟨b, off, none⟩) (fun h => absurd h (by omega))
            rw [show cap - (k + 1) = 0 by omega] at hd
            have HD : Hid _ := hd
            clear hdone hd
            by_cases hk00 : 0 < k
            · have hx0 : ((x : Int) == 0) = false := by
                have := hxne hk00
                simp
                omega
              clear hzz hxne
              go_wp2
              go_ret2
              exact told_some HE'.out HD.out.1 HD.out.2
            · clear hzz hxne
              go_wp2
              go_ret2
              exact told_some HE'.out HD.out.1 HD.out.2
          · have hd := hdone (some ⟨b, off + (k + 1), none⟩) (fun _ => rfl)
            have HD : Hid _ := hd
            clear hdone hd
            by_cases hk00 : 0 < k
            · have hx0 : ((x : Int) == 0) = false := by
                have := hxne hk00
                simp
                omega
              clear hzz hxne
              go_wp2
              go_ret2
              exact told_some HE'.out HD.out.1 HD.out.2
            · clear hzz hxne
              go_wp2
              go_ret2
              exact told_some HE'.out HD.out.1 HD.out.2
        · have HE : Hid (cntR 8 true l = join (A + l[k].toNat % 128 * 128 ^ k) (k + 1) (cntR (8 - (k + 1)) (decide (k + 1 = 0)) (l.drop (k + 1)))) := by
            show _ = join _ _ _
            rw [hrd, cnt_more hin.1 hin.2 hx2]
          have hA2 : A + l[k].toNat % 128 * 128 ^ k < 128 ^ (k + 1) := by
            have : l[k].toNat % 128 * 128 ^ k ≤ 127 * 128 ^ k := Nat.mul_le_mul_right _ (by omega)
            rw [Nat.pow_succ]
            omega
          have hx0 : ((((l[k].toNat : Nat) : Int)) == 0) = false := by simp; omega
          obtain ⟨M, hM⟩ : ∃ M, M = A + l[k].toNat % 128 * 128 ^ k := ⟨_, rfl⟩
          rw [← hM] at hor hA2
          have HE' : Hid (cntR 8 true l = join M (k + 1) (cntR (8 - (k + 1)) (decide (k + 1 = 0)) (l.drop (k + 1)))) := by
            show _ = _
            rw [hM]
            exact HE.out
          have HA : Hid _ := hA2
          clear hrd hz hM HE hA2
          generalize l[k].toNat = x at *
          go_wp2
          all_goals
            go_roundw
            case rel => exact ⟨k + 1, M, by omega, by omega, by go_num, by rfl, HA.out, HE'.out, by trivial⟩
            case measure => simp [intOf]; omega
    · have HE : Hid (cntR 8 true l = none) := by
        show _ = none
        rw [hrd, cnt_end hin]
      clear hrd
      by_cases hkl2 : k < l.length
      · have hk' : ¬ (k : Int) < 8 := by omega
        go_wp2
        all_goals first
          | (go_ret2
             exact told_none HE.out)
          | (exfalso; omega)
      · go_wp2
        all_goals first
          | (go_ret2
             exact told_none HE.out)
          | (exfalso; omega)

abbrev cellU (kind num : Int) (s : ByteArray) (l : Value) : Value := .agg #[.int .i64 kind, .int .i64 num, .string s, l]

theorem countOf_max (w : World) : Calls Try.prog 53 #[.int .i64 9007199254740992] w fun e w' => e = .returned (.int .i64 18014398509481984) ∧ w' = w := by
  go_enter Try.func53, Try.ntmps53
  go_wp2
  go_ret
  exact ⟨rfl, rfl⟩

theorem countOf_minus (w : World) : Calls Try.prog 53 #[.int .i64 (-1)] w fun e w' => e = .returned (.int .i64 1) ∧ w' = w := by
  go_enter Try.func53, Try.ntmps53
  go_wp2
  go_ret
  exact ⟨rfl, rfl⟩

theorem Rd.adds {P : Nat} {w w' : World} {l : List UInt8} {c : Nat} (h : Rd P w l c) (hP : P < w.heap.size) (ha : Adds w w') : Rd P w' l c := by
  obtain ⟨v, h1, h2⟩ := h
  exact ⟨v, by rw [ha.below.block P hP]; exact h1, h2.adds ha⟩

/-- The reader behind a store of its rest, whatever its bytes. -/
theorem Rd.rests {P : Nat} {w w' : World} {l : List UInt8} {c k cap : Nat} {ao : Option Addr} (hPl : P < w.heap.size) (hP : w.heap[P]? = some (.cells #[.slice ao l.length cap, .int .i64 (c : Int)] 88 (0, 0))) (ho : l = [] ∨ ∃ b off, ao = some ⟨b, off, none⟩ ∧ b < w.heap.size ∧ LiesB w b off l) (hk : k ≤ l.length) (hc : l.length ≤ cap) (ao' : Option Addr)
    (hao : k < l.length → ao' = ao.map (·.add k)) (ha : Adds (w.setCell ⟨P, 0, none⟩ (.slice ao' (l.length - k) (cap - k))) w') : Rd P w' (l.drop k) c ∧ w.grownBy w' (some P) := by
  have hg : w.grownBy (w.setCell ⟨P, 0, none⟩ (.slice ao' (l.length - k) (cap - k))) (some P) := ⟨rfl, rfl, rfl, by simp, fun j _ hj => heap_setCell_other w ⟨P, 0, none⟩ j _ (fun e => hj (by rw [e]))⟩
  refine ⟨Rd.adds ⟨.slice ao' (l.length - k) (cap - k), ?_, ?_⟩ (by simpa using hPl) ha, grownBy_adds hg ha⟩
  · rw [heap_setCell_same w P 0 _ 88 _ hP]
    simp
  · refine byt_make (by simp) (by simp; omega) ?_
    by_cases hkl : k < l.length
    · rcases ho with rfl | ⟨b, off, rfl, hb, hl⟩
      · simp at hkl
      have hne := box_not hP (fun n => by simp) hl (by omega)
      refine .inr ⟨b, off + k, by rw [hao hkl]; simp [Addr.add], by simpa using hb, lies_set (fun j hj => ?_) hne⟩
      simp only [List.length_drop] at hj
      have := hl (k + j) (by omega)
      rw [Nat.add_assoc, this]
      simp
    · exact .inl (List.drop_of_length_le (by omega))

def TextTold (P : Nat) (l : List UInt8) (c n : Nat) (w : World) (e : Ending) (w' : World) : Prop :=
  (n ≤ l.length → e = .returned (.tuple #[cellU 2 0 ⟨(l.take n).toArray⟩ (.slice none 0 0), .bool true]) ∧ Rd P w' (l.drop n) c ∧ w.grownBy w' (some P)) ∧ (l.length < n → e = .returned (.tuple #[cellU 0 0 ⟨#[]⟩ (.slice none 0 0), .bool false]) ∧ w.grownBy w' (some P))

set_option maxRecDepth 20000 in
set_option maxHeartbeats 1000000 in
theorem text_any (P : Nat) (l : List UInt8) (c n : Nat) (w : World) (h : Rd P w l c) (hPl : P < w.heap.size) (hn : n ≤ 9223372036854775807) :
    Calls Try.prog 57 #[.pointer (some ⟨P, 0, none⟩), .int .i64 (n : Int)] w fun e w' => TextTold P l c n w e w' := by
  obtain ⟨v, hP, hB⟩ := h
  obtain ⟨ao, cap, rfl, hcap, ho⟩ := hB.open
  have q0 : w.cell? ⟨P, 0, none⟩ = some (.slice ao l.length cap) := by simp [World.cell?, hP]
  have f0 : w.frozen? ⟨P, 0, none⟩ = false := by simp [World.frozen?, hP]
  by_cases hin : n ≤ l.length
  · have hs := fun o => ((hB.take hin).adds ((Adds.refl w).alloc o)).str
    have hr := fun ao' w' hao ha => Rd.rests (k := n) (w' := w') hPl hP ho hin hcap ao' hao ha
    by_cases hck : cap = n
    · have HR : Hid (∀ w', Adds (w.setCell ⟨P, 0, none⟩ (.slice ao (l.length - n) (cap - n))) w' → Rd P w' (l.drop n) c ∧ w.grownBy w' (some P)) := fun w' ha => hr ao w' (fun h => absurd h (by omega)) ha
      subst hck
      rw [Nat.sub_self, show l.length - cap = 0 by omega] at HR
      clear hr ho hP hB
      cases ao with
      | none =>
        go_enter Try.func57, Try.ntmps57
        go_wp2_with (go_at_call 20; refine (cellText_any _ _).mono ?_; rintro e w1 ⟨rfl, os1, n1, rfl⟩)
        refine bodyPost_ret (v := .tuple #[.agg #[.int .i64 2, .int .i64 0, .string ⟨(l.take cap).toArray⟩, .slice none 0 0], .bool true]) (by simp [results, Try.results57, go_sem]) rfl ⟨fun _ => ⟨rfl, HR.out _ (by repeat (first | with_reducible exact Adds.refl _ | with_reducible refine Adds.alloc ?_ _ | with_reducible refine Adds.more ?_ _ _ | with_reducible refine Adds.drew ?_ | with_reducible refine Adds.drewN ?_ _))⟩, fun h => absurd h (by omega)⟩
      | some ad =>
        go_enter Try.func57, Try.ntmps57
        go_wp2_with (go_at_call 20; refine (cellText_any _ _).mono ?_; rintro e w1 ⟨rfl, os1, n1, rfl⟩)
        refine bodyPost_ret (v := .tuple #[.agg #[.int .i64 2, .int .i64 0, .string ⟨(l.take cap).toArray⟩, .slice none 0 0], .bool true]) (by simp [results, Try.results57, go_sem]) rfl ⟨fun _ => ⟨rfl, HR.out _ (by repeat (first | with_reducible exact Adds.refl _ | with_reducible refine Adds.alloc ?_ _ | with_reducible refine Adds.more ?_ _ _ | with_reducible refine Adds.drew ?_ | with_reducible refine Adds.drewN ?_ _))⟩, fun h => absurd h (by omega)⟩
    · have HR : Hid (∀ w', Adds (w.setCell ⟨P, 0, none⟩ (.slice (ao.map (·.add n)) (l.length - n) (cap - n))) w' → Rd P w' (l.drop n) c ∧ w.grownBy w' (some P)) := fun w' ha => hr _ w' (fun _ => rfl) ha
      clear hr ho hP hB
      cases ao with
      | none =>
        simp only [Option.map_none] at HR
        go_enter Try.func57, Try.ntmps57
        go_wp2_with (go_at_call 20; refine (cellText_any _ _).mono ?_; rintro e w1 ⟨rfl, os1, n1, rfl⟩)
        refine bodyPost_ret (v := .tuple #[.agg #[.int .i64 2, .int .i64 0, .string ⟨(l.take n).toArray⟩, .slice none 0 0], .bool true]) (by simp [results, Try.results57, go_sem]) rfl ⟨fun _ => ⟨rfl, HR.out _ (by repeat (first | with_reducible exact Adds.refl _ | with_reducible refine Adds.alloc ?_ _ | with_reducible refine Adds.more ?_ _ _ | with_reducible refine Adds.drew ?_ | with_reducible refine Adds.drewN ?_ _))⟩, fun h => absurd h (by omega)⟩
      | some ad =>
        simp only [Option.map_some] at HR
        go_enter Try.func57, Try.ntmps57
        go_wp2_with (go_at_call 20; refine (cellText_any _ _).mono ?_; rintro e w1 ⟨rfl, os1, n1, rfl⟩)
        refine bodyPost_ret (v := .tuple #[.agg #[.int .i64 2, .int .i64 0, .string ⟨(l.take n).toArray⟩, .slice none 0 0], .bool true]) (by simp [results, Try.results57, go_sem]) rfl ⟨fun _ => ⟨rfl, HR.out _ (by repeat (first | with_reducible exact Adds.refl _ | with_reducible refine Adds.alloc ?_ _ | with_reducible refine Adds.more ?_ _ _ | with_reducible refine Adds.drew ?_ | with_reducible refine Adds.drewN ?_ _))⟩, fun h => absurd h (by omega)⟩
  · go_enter Try.func57, Try.ntmps57
    go_wp2
    refine bodyPost_ret (v := .tuple #[.agg #[.int .i64 0, .int .i64 0, .string ⟨#[]⟩, .slice none 0 0], .bool false]) (by simp [results, Try.results57, go_sem]) rfl ?_
    exact ⟨fun h => absurd h hin, fun _ => ⟨rfl, World.grownBy_alloc _ _ _⟩⟩

end Go.Proofs.Ytccddgohagakoaa
