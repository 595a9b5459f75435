/-
  Get of package paper, and the document's own, by contracts.
-/
import Derived.Test.YtdlkpkldlljhcaaDoorDocs
namespace Go.Proofs.YtdlkpkldlljhcaaDoor
open Go.RowKit
attribute [local go_sem] cell?_more frozen?_more setCell_more size_more tape_more drew_more drewN_more more_drew more_drewN more_more one_out plus_out plus_end lt_one le_p2 le_p3 le_p4 le_p5 le_p6 le_p7 le_p8 le_p9 le_p10 le_p11 le_p12 le_p13 le_p14 le_p15 le_p16 le_p17 le_p18 le_p19 le_p20 le_p21 le_p22 le_p23 le_p24 le_q0 le_q1 lt_q1 le_q2 lt_q2 le_q3 lt_q3 le_q4 lt_q4 le_q5 lt_q5 le_q6 lt_q6 le_q7 lt_q7 le_q8 lt_q8 le_q9 lt_q9 le_q10 lt_q10 le_q11 lt_q11 le_q12 lt_q12 le_q13 lt_q13 le_q14 lt_q14 le_q15 lt_q15 le_q16 lt_q16 le_q17 lt_q17 le_q18 lt_q18 le_q19 lt_q19 le_q20 lt_q20 le_q21 lt_q21 le_q22 lt_q22 le_q23 lt_q23 le_q24 lt_q24

/-- Where a path is first: its place, or the length. -/
def firstAt (p : ByteArray) : List F → Nat
  | [] => 0
  | f :: r => if f.path.toList = p.toList then 0 else firstAt p r + 1

theorem firstAt_le (p : ByteArray) (l : List F) : firstAt p l ≤ l.length := by
  induction l with
  | nil => simp [firstAt]
  | cons f r ih => simp only [firstAt]; split <;> simp <;> omega

theorem firstAt_eq {p : ByteArray} {l : List F} {k : Nat} (hk : k < l.length) (hb : ∀ j (hj : j < l.length), j < k → ¬ l[j].path.toList = p.toList) (he : l[k].path.toList = p.toList) : firstAt p l = k := by
  induction l generalizing k with
  | nil => simp at hk
  | cons f r ih =>
    cases k with
    | zero => simp [firstAt]; simpa using he
    | succ k =>
      have h0 := hb 0 (by simp) (by omega)
      simp at h0
      simp only [firstAt, h0, if_false]
      rw [ih (k := k) (by simpa using hk) (fun j hj hjk => by have := hb (j + 1) (by simpa using hj) (by omega); simpa using this) (by simpa using he)]

theorem firstAt_none {p : ByteArray} {l : List F} (hb : ∀ j (hj : j < l.length), ¬ l[j].path.toList = p.toList) : firstAt p l = l.length := by
  induction l with
  | nil => rfl
  | cons f r ih =>
    have h0 := hb 0 (by simp)
    simp at h0
    simp only [firstAt, h0, if_false, List.length_cons]
    rw [ih (fun j hj => by have := hb (j + 1) (by simpa using hj); simpa using this)]

theorem firstAt_at {p : ByteArray} {l : List F} (h : firstAt p l < l.length) : l[firstAt p l].path.toList = p.toList := by
  induction l with
  | nil => simp at h
  | cons f r ih =>
    by_cases h0 : f.path.toList = p.toList
    · simp [firstAt, h0]
    · simp only [firstAt, h0, if_false, List.length_cons] at h
      have := ih (by omega)
      simpa [firstAt, h0] using this

/-- The place that the document's own Get tells. -/
def placeOf (p : ByteArray) (l : List F) : Int := if firstAt p l < l.length then firstAt p l else -1

/-- What Get tells: the first value of a path, or the empty value. -/
def got (p : ByteArray) (l : List F) : V := if h : firstAt p l < l.length then l[firstAt p l].val else ⟨0, 0, ⟨#[]⟩, 0, 0⟩

set_option maxHeartbeats 1000000 in
theorem get_any (s : Value) (l : List F) (p : ByteArray) (w : World) (hl : Lst w s l) (hl6 : l.length ≤ 1000) :
    Calls Tryd.prog 43 #[s, .string p] w fun e w' => e = .returned (.tuple #[(got p l).val, .bool (decide (firstAt p l < l.length))]) ∧ Adds w w' := by
  obtain ⟨ao, cap, rfl, hcap, hlo⟩ := hl
  go_enter Tryd.func43, Tryd.ntmps43
  go_wp2
  go_loopw [10] (fun i wr => ∃ k : Nat, k ≤ l.length ∧ i = .int .i64 k ∧ (∀ j (hj : j < l.length), j < k → ¬ l[j].path.toList = p.toList) ∧ Adds (w.alloc (.cells #[.int .i64 0, .int .i64 0, .string ⟨#[]⟩, .int .i64 0, .int .i64 0] 40)) wr) (fun i _ => l.length - (intOf i).toNat)
  case atStart => exact ⟨0, Nat.zero_le _, rfl, fun j _ hj => absurd hj (by omega), Adds.refl _⟩
  case round =>
    obtain ⟨k, hk, rfl, hb, os, n, rfl⟩ := hrel
    by_cases hlt : k < l.length
    · rcases hlo with rfl | ⟨b, off, rfl, hbb, hll⟩
      · simp at hlt
      obtain ⟨c0, c1, c2, c3, c4, c5⟩ := hll k hlt
      have hf := firstAt_eq (p := p) hlt hb
      have hn : ¬ l[k].path.toList = p.toList → (∀ j (hj : j < l.length), j < k + 1 → ¬ l[j].path.toList = p.toList) := by
        intro h j hj hjk
        by_cases e : j = k
        · subst e; exact h
        · exact hb j hj (by omega)
      have hg : l[k].path.toList = p.toList → got p l = l[k].val := by
        intro h
        have := hf h
        simp only [got, this, hlt, dif_pos]
      have hdl : decide (firstAt p l < l.length) = decide (firstAt p l < l.length) := rfl
      generalize l[k] = x at *
      by_cases hE : x.path.toList = p.toList
      · have HP : Hid (got p l = x.val) := hg hE
        have HD : Hid (decide (firstAt p l < l.length) = true) := by
          show decide (firstAt p l < l.length) = true
          rw [hf hE]; simp [hlt]
        clear hf hn hb hg hdl
        go_wp2
        refine bodyPost_ret (v := .tuple #[x.val.val, .bool true]) (by simp [results, Tryd.results43, go_sem, V.val]) rfl ⟨by rw [HP.out, HD.out], ?_⟩
        repeat (first | with_reducible exact Adds.refl _ | with_reducible refine Adds.alloc ?_ _ | with_reducible refine Adds.more ?_ _ _ | with_reducible refine Adds.drew ?_ | with_reducible refine Adds.drewN ?_ _)
      · have HN : Hid _ := hn hE
        have hE' : (x.path.toList == p.toList) = false := by simpa using hE
        clear hf hn hb hg hdl
        go_wp2
        go_roundw
        case rel =>
          refine ⟨k + 1, by omega, by go_num, HN.out, ?_⟩
          repeat (first | with_reducible exact Adds.refl _ | with_reducible refine Adds.alloc ?_ _ | with_reducible refine Adds.more ?_ _ _ | with_reducible refine Adds.drew ?_ | with_reducible refine Adds.drewN ?_ _)
        case measure => simp [intOf]; omega
    · have hk' : k = l.length := by omega
      subst hk'
      have hn := firstAt_none (fun j hj => hb j hj hj)
      have HD : Hid (decide (firstAt p l < l.length) = false) := by
        show decide (firstAt p l < l.length) = false
        rw [hn]; simp
      have HP : Hid (got p l = ⟨0, 0, ⟨#[]⟩, 0, 0⟩) := by
        show got p l = _
        rw [got, dif_neg (by omega)]
      clear hb hn
      go_wp2
      refine bodyPost_ret (v := .tuple #[V.val ⟨0, 0, ⟨#[]⟩, 0, 0⟩, .bool false]) (by simp [results, Tryd.results43, go_sem, V.val]) rfl ⟨by rw [HP.out, HD.out], ?_⟩
      repeat (first | with_reducible exact Adds.refl _ | with_reducible refine Adds.alloc ?_ _ | with_reducible refine Adds.more ?_ _ _ | with_reducible refine Adds.drew ?_ | with_reducible refine Adds.drewN ?_ _)

end Go.Proofs.YtdlkpkldlljhcaaDoor
