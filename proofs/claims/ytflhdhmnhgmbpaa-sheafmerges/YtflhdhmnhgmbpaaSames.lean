/-
  Sheaves alike, and where a key is: slices.Equal, the function Same of package sheaf, the document's own Same and At, by contracts.
-/
import Derived.Test.YtflhdhmnhgmbpaaDocs
namespace Go.Proofs.Ytflhdhmnhgmbpaa
open Go.RowKit
attribute [local go_sem] cell?_more frozen?_more setCell_more size_more tape_more drew_more drewN_more more_drew more_drewN more_more one_out plus_out plus_end lt_one le_p2 le_p3 le_p4 le_p5 le_p6 le_p7 le_p8 le_p9 le_p10 le_p11 le_p12 le_p13 le_p14 le_p15 le_p16 le_p17 le_p18 le_p19 le_p20 le_p21 le_p22 le_p23 le_p24 le_q0 le_q1 lt_q1 le_q2 lt_q2 le_q3 lt_q3 le_q4 lt_q4 le_q5 lt_q5 le_q6 lt_q6 le_q7 lt_q7 le_q8 lt_q8 le_q9 lt_q9 le_q10 lt_q10 le_q11 lt_q11 le_q12 lt_q12 le_q13 lt_q13 le_q14 lt_q14 le_q15 lt_q15 le_q16 lt_q16 le_q17 lt_q17 le_q18 lt_q18 le_q19 lt_q19 le_q20 lt_q20 le_q21 lt_q21 le_q22 lt_q22 le_q23 lt_q23 le_q24 lt_q24

theorem toList_inj {a b : ByteArray} (h : a.toList = b.toList) : a = b := by
  rw [ByteArray.toList_eq, ByteArray.toList_eq] at h
  obtain ⟨x⟩ := a
  obtain ⟨y⟩ := b
  congr 1
  exact Array.toList_inj.1 h

theorem F.eq_iff (a b : F) : a = b ↔ a.path.toList = b.path.toList ∧ a.val.toList = b.val.toList := by
  obtain ⟨ap, av⟩ := a
  obtain ⟨bp, bv⟩ := b
  simp only [F.mk.injEq]
  exact ⟨fun h => ⟨by rw [h.1], by rw [h.2]⟩, fun h => ⟨toList_inj h.1, toList_inj h.2⟩⟩

instance : DecidableEq F := fun a b => decidable_of_iff _ (F.eq_iff a b).symm

theorem run_neq35 (ap av bp bv : ByteArray) (w : World) :
    (binOp .neq 35 (.agg #[.string ap, .string av]) (.agg #[.string bp, .string bv])).run Try.prog w
      = .ok (.bool (!decide (ap.toList = bp.toList ∧ av.toList = bv.toList))) w := by
  go_simp
  by_cases h0 : ap.toList = bp.toList <;> by_cases h1 : av.toList = bv.toList <;> simp [h0, h1]

theorem take_next {l t : List F} {k : Nat} (hk : k < l.length) (ht : k < t.length) (hp : l.take k = t.take k) (he : l[k] = t[k]) : l.take (k + 1) = t.take (k + 1) := by
  rw [List.take_succ_eq_append_getElem hk, List.take_succ_eq_append_getElem ht, hp, he]

theorem differ {l t : List F} {k : Nat} (hk : k < l.length) (ht : k < t.length) (h : l[k] ≠ t[k]) : decide (l = t) = false := decide_eq_false (fun e => by subst e; exact h rfl)

set_option maxHeartbeats 2000000 in
theorem equal_any (s s' : Value) (l t : List F) (w : World) (hl : Lst w s l) (ht : Lst w s' t) (hl6 : l.length ≤ 1000) (ht6 : t.length ≤ 1000) :
    Calls Try.prog 26 #[s, s'] w fun e w' => e = .returned (.bool (decide (l = t))) ∧ Adds w w' := by
  obtain ⟨ao, cap, rfl, hcap, hlo⟩ := hl
  obtain ⟨bo, cap', rfl, hcap', hto⟩ := ht
  by_cases hlen : l.length = t.length
  · have hlen' : (l.length : Int) = (t.length : Int) := by omega
    rw [← hlen]
    go_enter Try.func26, Try.ntmps26
    go_wp2
    go_loopw [13] (fun i wr => ∃ k : Nat, k ≤ l.length ∧ i = .int .i64 k ∧ l.take k = t.take k ∧ Adds w wr) (fun i _ => l.length - (intOf i).toNat)
    case atStart => exact ⟨0, Nat.zero_le _, rfl, by simp, Adds.refl _⟩
    case round =>
      obtain ⟨k, hk, rfl, hp, os, n, rfl⟩ := hrel
      by_cases hlt : k < l.length
      · have hlt' : k < t.length := by omega
        rcases hlo with rfl | ⟨b, off, rfl, hb, hll⟩
        · simp at hlt
        rcases hto with rfl | ⟨b', off', rfl, hb', hlt2⟩
        · simp at hlt'
        obtain ⟨c0, c1⟩ := hll k hlt
        obtain ⟨d0, d1⟩ := hlt2 k hlt'
        have hd := differ hlt hlt'
        have hn := take_next hlt hlt' hp
        generalize l[k] = x at *
        generalize t[k] = y at *
        have he := run_neq35 x.path x.val y.path y.val
        have hxy : decide (x.path.toList = y.path.toList ∧ x.val.toList = y.val.toList) = decide (x = y) := decide_eq_decide.2 (by rw [F.eq_iff])
        rw [hxy] at he
        clear hxy
        by_cases hE : x = y
        · have HN : Hid _ := hn hE
          rw [decide_eq_true hE, Bool.not_true] at he
          clear hd hn hE hp
          go_wp2
          go_quiet (fail)
          go_wp2
          go_roundw
          case rel =>
            refine ⟨k + 1, by omega, by go_num, HN.out, ?_⟩
            repeat (first | with_reducible exact Adds.refl _ | with_reducible refine Adds.alloc ?_ _ | with_reducible refine Adds.more ?_ _ _ | with_reducible refine Adds.drew ?_ | with_reducible refine Adds.drewN ?_ _)
          case measure => simp [intOf]; omega
        · have HD : Hid _ := hd hE
          rw [decide_eq_false hE, Bool.not_false] at he
          clear hd hn hp
          go_wp2
          go_quiet (fail)
          go_wp2
          go_ret
          refine ⟨by rw [HD.out]; rfl, ?_⟩
          repeat (first | with_reducible exact Adds.refl _ | with_reducible refine Adds.alloc ?_ _ | with_reducible refine Adds.more ?_ _ _ | with_reducible refine Adds.drew ?_ | with_reducible refine Adds.drewN ?_ _)
      · have hk' : k = l.length := by omega
        subst hk'
        have hE : l = t := by
          rw [List.take_length, hlen, List.take_length] at hp
          exact hp
        subst hE
        clear hp
        go_wp2
        go_ret
        refine ⟨by simp, ?_⟩
        repeat (first | with_reducible exact Adds.refl _ | with_reducible refine Adds.alloc ?_ _ | with_reducible refine Adds.more ?_ _ _ | with_reducible refine Adds.drew ?_ | with_reducible refine Adds.drewN ?_ _)
  · have hne : decide (l = t) = false := decide_eq_false (fun e => hlen (by rw [e]))
    have hlen' : ¬ (l.length : Int) = (t.length : Int) := by omega
    have hlen2 : ((l.length : Int) != (t.length : Int)) = true := by simp; omega
    rw [hne]
    go_enter Try.func26, Try.ntmps26
    go_wp2
    go_ret
    exact ⟨rfl, Adds.refl _⟩

theorem same_any (s s' : Value) (l t : List F) (w : World) (hl : Lst w s l) (ht : Lst w s' t) (hl6 : l.length ≤ 1000) (ht6 : t.length ≤ 1000) :
    Calls Try.prog 18 #[s, s'] w fun e w' => e = .returned (.bool (decide (l = t))) ∧ Adds w w' := by
  have h := equal_any s s' l t w hl ht hl6 ht6
  go_enter Try.func18, Try.ntmps18
  go_wp2_with (go_at_call 26; refine h.mono ?_; rintro e w1 ⟨rfl, os, k, rfl⟩)
  go_ret
  exact ⟨rfl, ⟨_, _, rfl⟩⟩

set_option maxHeartbeats 2000000 in
theorem refSame_any (s s' : Value) (l t : List F) (w : World) (hl : Lst w s l) (ht : Lst w s' t) (hl6 : l.length ≤ 1000) (ht6 : t.length ≤ 1000) :
    Calls Try.prog 15 #[s, s'] w fun e w' => e = .returned (.bool (decide (l = t))) ∧ Adds w w' := by
  obtain ⟨ao, cap, rfl, hcap, hlo⟩ := hl
  obtain ⟨bo, cap', rfl, hcap', hto⟩ := ht
  by_cases hlen : l.length = t.length
  · have hlen' : (l.length : Int) = (t.length : Int) := by omega
    rw [← hlen]
    go_enter Try.func15, Try.ntmps15
    go_wp2
    go_loopw [5] (fun i wr => ∃ k : Nat, k ≤ l.length ∧ i = .int .i64 k ∧ l.take k = t.take k ∧ Adds w wr) (fun i _ => l.length - (intOf i).toNat)
    case atStart => exact ⟨0, Nat.zero_le _, rfl, by simp, Adds.refl _⟩
    case round =>
      obtain ⟨k, hk, rfl, hp, os, n, rfl⟩ := hrel
      by_cases hlt : k < l.length
      · have hlt' : k < t.length := by omega
        rcases hlo with rfl | ⟨b, off, rfl, hb, hll⟩
        · simp at hlt
        rcases hto with rfl | ⟨b', off', rfl, hb', hlt2⟩
        · simp at hlt'
        obtain ⟨c0, c1⟩ := hll k hlt
        obtain ⟨d0, d1⟩ := hlt2 k hlt'
        have hd := differ hlt hlt'
        have hn := take_next hlt hlt' hp
        generalize l[k] = x at *
        generalize t[k] = y at *
        have he := run_neq35 x.path x.val y.path y.val
        have hxy : decide (x.path.toList = y.path.toList ∧ x.val.toList = y.val.toList) = decide (x = y) := decide_eq_decide.2 (by rw [F.eq_iff])
        rw [hxy] at he
        clear hxy
        by_cases hE : x = y
        · have HN : Hid _ := hn hE
          rw [decide_eq_true hE, Bool.not_true] at he
          clear hd hn hE hp
          go_wp2
          go_quiet (fail)
          go_wp2
          go_roundw
          case rel =>
            refine ⟨k + 1, by omega, by go_num, HN.out, ?_⟩
            repeat (first | with_reducible exact Adds.refl _ | with_reducible refine Adds.alloc ?_ _ | with_reducible refine Adds.more ?_ _ _ | with_reducible refine Adds.drew ?_ | with_reducible refine Adds.drewN ?_ _)
          case measure => simp [intOf]; omega
        · have HD : Hid _ := hd hE
          rw [decide_eq_false hE, Bool.not_false] at he
          clear hd hn hp
          go_wp2
          go_quiet (fail)
          go_wp2
          go_ret
          refine ⟨by rw [HD.out]; rfl, ?_⟩
          repeat (first | with_reducible exact Adds.refl _ | with_reducible refine Adds.alloc ?_ _ | with_reducible refine Adds.more ?_ _ _ | with_reducible refine Adds.drew ?_ | with_reducible refine Adds.drewN ?_ _)
      · have hk' : k = l.length := by omega
        subst hk'
        have hE : l = t := by
          rw [List.take_length, hlen, List.take_length] at hp
          exact hp
        subst hE
        clear hp
        go_wp2
        go_ret
        refine ⟨by simp, ?_⟩
        repeat (first | with_reducible exact Adds.refl _ | with_reducible refine Adds.alloc ?_ _ | with_reducible refine Adds.more ?_ _ _ | with_reducible refine Adds.drew ?_ | with_reducible refine Adds.drewN ?_ _)
  · have hne : decide (l = t) = false := decide_eq_false (fun e => hlen (by rw [e]))
    have hlen2 : ((l.length : Int) != (t.length : Int)) = true := by simp; omega
    rw [hne]
    go_enter Try.func15, Try.ntmps15
    go_wp2
    go_ret
    exact ⟨rfl, Adds.refl _⟩

/-- Where a key is first: its place, or the length. -/
def firstAt (p : ByteArray) : List F → Nat
  | [] => 0
  | f :: r => if f.path.toList = p.toList then 0 else firstAt p r + 1

theorem firstAt_le (p : ByteArray) (l : List F) : firstAt p l ≤ l.length := by
  induction l with
  | nil => simp [firstAt]
  | cons f r ih => simp only [firstAt]; split <;> simp <;> omega

theorem firstAt_eq {p : ByteArray} {l : List F} {k : Nat} (hk : k < l.length) (hb : ∀ j (hj : j < l.length), j < k → ¬ l[j].path.toList = p.toList) (he : l[k].path.toList = p.toList) : firstAt p l = k := by
  induction l generalizing k with
  | nil => simp at hk
  | cons f r ih =>
    cases k with
    | zero => simp [firstAt]; simpa using he
    | succ k =>
      have h0 := hb 0 (by simp) (by omega)
      simp at h0
      simp only [firstAt, h0, if_false]
      rw [ih (k := k) (by simpa using hk) (fun j hj hjk => by have := hb (j + 1) (by simpa using hj) (by omega); simpa using this) (by simpa using he)]

theorem firstAt_none {p : ByteArray} {l : List F} (hb : ∀ j (hj : j < l.length), ¬ l[j].path.toList = p.toList) : firstAt p l = l.length := by
  induction l with
  | nil => rfl
  | cons f r ih =>
    have h0 := hb 0 (by simp)
    simp at h0
    simp only [firstAt, h0, if_false, List.length_cons]
    rw [ih (fun j hj => by have := hb (j + 1) (by simpa using hj); simpa using this)]

theorem firstAt_at {p : ByteArray} {l : List F} (h : firstAt p l < l.length) : l[firstAt p l].path.toList = p.toList := by
  induction l with
  | nil => simp at h
  | cons f r ih =>
    by_cases h0 : f.path.toList = p.toList
    · simp [firstAt, h0]
    · simp only [firstAt, h0, if_false, List.length_cons] at h
      have := ih (by omega)
      simpa [firstAt, h0] using this

/-- The place that the document's own At tells. -/
def placeOf (p : ByteArray) (l : List F) : Int := if firstAt p l < l.length then firstAt p l else -1

theorem refAt_any (s : Value) (l : List F) (p : ByteArray) (w : World) (hl : Lst w s l) (hl6 : l.length ≤ 1000) :
    Calls Try.prog 14 #[s, .string p] w fun e w' => e = .returned (.int .i64 (placeOf p l)) ∧ w' = w := by
  obtain ⟨ao, cap, rfl, hcap, hlo⟩ := hl
  go_enter Try.func14, Try.ntmps14
  go_wp2
  go_loopw [5] (fun i wr => ∃ k : Nat, k ≤ l.length ∧ i = .int .i64 k ∧ (∀ j (hj : j < l.length), j < k → ¬ l[j].path.toList = p.toList) ∧ wr = w) (fun i _ => l.length - (intOf i).toNat)
  case atStart => exact ⟨0, Nat.zero_le _, rfl, fun j _ hj => absurd hj (by omega), rfl⟩
  case round =>
    obtain ⟨k, hk, rfl, hb, rfl⟩ := hrel
    by_cases hlt : k < l.length
    · rcases hlo with rfl | ⟨b, off, rfl, hbb, hll⟩
      · simp at hlt
      have c0 := (hll k hlt).1
      have hf := firstAt_eq (p := p) hlt hb
      have hn : ¬ l[k].path.toList = p.toList → (∀ j (hj : j < l.length), j < k + 1 → ¬ l[j].path.toList = p.toList) := by
        intro h j hj hjk
        by_cases e : j = k
        · subst e; exact h
        · exact hb j hj (by omega)
      generalize l[k].path = x at *
      by_cases hE : x.toList = p.toList
      · have HP : Hid (placeOf p l = (k : Int)) := by
          show placeOf p l = (k : Int)
          rw [placeOf, hf hE, if_pos hlt]
        clear hf hn hb
        go_wp2
        go_ret
        exact ⟨by rw [HP.out]; rfl, rfl⟩
      · have HN : Hid _ := hn hE
        have hE' : (x.toList == p.toList) = false := by simpa using hE
        clear hf hn hb
        go_wp2
        go_roundw
        case rel => exact ⟨k + 1, by omega, by go_num, HN.out, trivial⟩
        case measure => simp [intOf]; omega
    · have hk' : k = l.length := by omega
      subst hk'
      have HP : Hid (placeOf p l = -1) := by
        show placeOf p l = -1
        rw [placeOf, firstAt_none (fun j hj => hb j hj hj), if_neg (by omega)]
      clear hb
      go_wp2
      go_ret
      exact ⟨by rw [HP.out]; rfl, rfl⟩

end Go.Proofs.Ytflhdhmnhgmbpaa
