/-
  Where a key stands in documents, and what stands there, by contracts.
-/
import Derived.Test.YtgnhkpihlghbmaaMcpy
namespace Go.Proofs.Ytgnhkpihlghbmaa
open Go.RowKit
attribute [local go_sem] cell?_more frozen?_more setCell_more size_more tape_more drew_more drewN_more more_drew more_drewN one_out plus_out plus_end lt_one le_p2 le_p3 le_p4 le_p5 le_p6 le_p7 le_p8 le_p9 le_p10 le_p11 le_p12 le_p13 le_p14 le_p15 le_p16 le_p17 le_p18 le_p19 le_p20 le_p21 le_p22 le_p23 le_p24 le_q0 le_q1 lt_q1 le_q2 lt_q2 le_q3 lt_q3 le_q4 lt_q4 le_q5 lt_q5 le_q6 lt_q6 le_q7 lt_q7 le_q8 lt_q8 le_q9 lt_q9 le_q10 lt_q10 le_q11 lt_q11 le_q12 lt_q12 le_q13 lt_q13 le_q14 lt_q14 le_q15 lt_q15 le_q16 lt_q16 le_q17 lt_q17 le_q18 lt_q18 le_q19 lt_q19 le_q20 lt_q20 le_q21 lt_q21 le_q22 lt_q22 le_q23 lt_q23 le_q24 lt_q24

/-- Where a key is first: its place, or the length. -/
def firstAt (p : ByteArray) : List Dn → Nat
  | [] => 0
  | f :: r => if f.key.toList = p.toList then 0 else firstAt p r + 1

theorem firstAt_le (p : ByteArray) (l : List Dn) : firstAt p l ≤ l.length := by
  induction l with
  | nil => simp [firstAt]
  | cons f r ih => simp only [firstAt]; split <;> simp <;> omega

theorem firstAt_eq {p : ByteArray} {l : List Dn} {k : Nat} (hk : k < l.length) (hb : ∀ j (hj : j < l.length), j < k → ¬ l[j].key.toList = p.toList) (he : l[k].key.toList = p.toList) : firstAt p l = k := by
  induction l generalizing k with
  | nil => simp at hk
  | cons f r ih =>
    cases k with
    | zero => simp [firstAt]; simpa using he
    | succ k =>
      have h0 := hb 0 (by simp) (by omega)
      simp at h0
      simp only [firstAt, h0, if_false]
      rw [ih (k := k) (by simpa using hk) (fun j hj hjk => by have := hb (j + 1) (by simpa using hj) (by omega); simpa using this) (by simpa using he)]

theorem firstAt_none {p : ByteArray} {l : List Dn} (hb : ∀ j (hj : j < l.length), ¬ l[j].key.toList = p.toList) : firstAt p l = l.length := by
  induction l with
  | nil => rfl
  | cons f r ih =>
    have h0 := hb 0 (by simp)
    simp at h0
    simp only [firstAt, h0, if_false, List.length_cons]
    rw [ih (fun j hj => by have := hb (j + 1) (by simpa using hj); simpa using this)]

theorem firstAt_at {p : ByteArray} {l : List Dn} (h : firstAt p l < l.length) : l[firstAt p l].key.toList = p.toList := by
  induction l with
  | nil => simp at h
  | cons f r ih =>
    by_cases h0 : f.key.toList = p.toList
    · simp [firstAt, h0]
    · simp only [firstAt, h0, if_false, List.length_cons] at h
      have := ih (by omega)
      simpa [firstAt, h0] using this

/-- The place that the reference's At tells. -/
def placeOf (p : ByteArray) (l : List Dn) : Int := if firstAt p l < l.length then firstAt p l else -1

/-- What stands at a key, as an answer tells it. -/
def standV (v : Value) : Value := .agg #[.int .i64 0, .bool true, v, .slice none 0 0, .slice none 0 0, .int .i64 0, .int .i64 0, .slice none 0 0]

set_option maxHeartbeats 1000000 in
set_option maxRecDepth 20000 in
theorem standing_none (s : Value) (ds : List Dn) (p : ByteArray) (w : World) (hl : LstD w s ds) (hl6 : ds.length ≤ 1000) (hr : Risen ds) (hh : hasAt p ds = false) :
    Calls Try.prog 61 #[s, .string p] w fun e w' => e = .returned (refV 0) ∧ Adds w w' := by
  have k := fun W (hA : Adds w W) => find_any s ds p W (hl.adds hA) hl6 hr
  rw [hh] at k
  generalize cutAt p ds = c at *
  clear hl hr hl6 hh
  go_enter Try.func61, Try.ntmps61
  go_wp2_with (go_at_call 24; refine (k _ (by repeat (first | with_reducible exact Adds.refl _ | with_reducible refine Adds.alloc ?_ _ | with_reducible refine Adds.more ?_ _ _ | with_reducible refine Adds.drew ?_ | with_reducible refine Adds.drewN ?_ _))).mono ?_; rintro e w1 ⟨rfl, os1, n1, rfl⟩)
  refine bodyPost_ret (v := refV 0) (by simp [results, Try.results61, go_sem, refV]) rfl ⟨rfl, ?_⟩
  repeat (first | with_reducible exact Adds.refl _ | with_reducible refine Adds.alloc ?_ _ | with_reducible refine Adds.more ?_ _ _ | with_reducible refine Adds.drew ?_ | with_reducible refine Adds.drewN ?_ _)

theorem box_row {w : World} {o o' : Obj} {os1 os2 : Array Obj} {n1 n2 : Nat} {x : Value} {n : Nat} {xs : List Value} (h : (more (more (w.alloc o) os1 n1) os2 n2).ownsRow (w.heap.size + 1) 54 6 x n xs) : (more (more (w.alloc o') os1 n1) os2 n2).ownsRow w.heap.size 54 6 x n xs := by
  have hg : (more (more (w.alloc o) os1 n1) os2 n2).grownBy (more (more (w.alloc o') os1 n1) os2 n2) (some w.heap.size) := by
    refine ⟨rfl, rfl, rfl, ?_, fun k hk hne => ?_⟩
    · simp [size_more]
    · have hne' : k ≠ w.heap.size := fun e => hne (by rw [e])
      simp only [more, World.alloc, Array.getElem?_append, Array.size_append, Array.size_push, Array.getElem?_push]
      simp [hne']
  refine row_low (h.kept hg ?_) (by omega)
  cases e : x.ownBlock with
  | none => exact .inl rfl
  | some k =>
    refine .inr fun e' => ?_
    have := (h.lt k e).1
    rw [Option.some.inj e'] at this
    omega

set_option maxHeartbeats 1000000 in
set_option maxRecDepth 20000 in
theorem standing_some (s : Value) (ds : List Dn) (p : ByteArray) (w : World) (hl : LstD w s ds) (hl6 : ds.length ≤ 1000) (hr : Risen ds) (hd6 : ∀ d ∈ ds, d.doc.length ≤ 1000) (hc : cutAt p ds < ds.length) (hh : hasAt p ds = true) :
    Calls Try.prog 61 #[s, .string p] w fun e w' => (∃ vo vc, e = .returned (standV (.slice vo ds[cutAt p ds].doc.length vc)) ∧ Hid (w'.ownsRow w.heap.size 54 6 (.slice vo ds[cutAt p ds].doc.length vc) ds[cutAt p ds].doc.length (cellsF ds[cutAt p ds].doc))) ∧ Adds w w' := by
  have k := fun W (hA : Adds w W) => find_any s ds p W (hl.adds hA) hl6 hr
  rw [hh] at k
  obtain ⟨ao, cap, rfl, hcap, hlo⟩ := hl
  rcases hlo with rfl | ⟨b, off, rfl, hb, hll⟩
  · simp at hc
  obtain ⟨v, c0, c1, hdoc⟩ := hll (cutAt p ds) hc
  have kC := fun W' (hA : Adds w W') (hz : w.heap.size + 1 ≤ W'.heap.size) => (clone_row v ds[cutAt p ds].doc W' (hdoc.adds hA) (hd6 _ (List.getElem_mem hc))).mono (R' := fun e w' => (∃ vo vc, e = .returned (.slice vo ds[cutAt p ds].doc.length vc) ∧ Hid (w'.ownsRow (w.heap.size + 1) 54 6 (.slice vo ds[cutAt p ds].doc.length vc) ds[cutAt p ds].doc.length (cellsF ds[cutAt p ds].doc))) ∧ Adds W' w') (by
    rintro e w' ⟨⟨vo, vc, rfl, h⟩, hA'⟩
    exact ⟨⟨vo, vc, rfl, row_low h.out hz⟩, hA'⟩)
  obtain ⟨uo, uc, rfl, _, _⟩ := hdoc
  generalize ds[cutAt p ds].doc = dc at *
  generalize ds[cutAt p ds].key = ky at *
  have hc' : ((cutAt p ds : Nat) : Int) < (ds.length : Int) := by omega
  clear hr hl6 hh hll hd6
  generalize cutAt p ds = c at *
  go_enter Try.func61, Try.ntmps61
  go_wp2_with (first
    | (go_at_call 24; refine (k _ (by repeat (first | with_reducible exact Adds.refl _ | with_reducible refine Adds.alloc ?_ _ | with_reducible refine Adds.more ?_ _ _ | with_reducible refine Adds.drew ?_ | with_reducible refine Adds.drewN ?_ _))).mono ?_; rintro e w1 ⟨rfl, os1, n1, rfl⟩)
    | (go_at_call 44; refine (kC _ (by repeat (first | with_reducible exact Adds.refl _ | with_reducible refine Adds.alloc ?_ _ | with_reducible refine Adds.more ?_ _ _ | with_reducible refine Adds.drew ?_ | with_reducible refine Adds.drewN ?_ _)) (by simp [go_sem])).mono ?_; rintro e w2 ⟨⟨vo, vc, rfl, HL⟩, os2, n2, rfl⟩))
  refine bodyPost_ret (v := standV (.slice vo dc.length vc)) (by simp [results, Try.results61, go_sem, standV]) rfl ⟨⟨vo, vc, rfl, box_row HL.out⟩, ?_⟩
  repeat (first | with_reducible exact Adds.refl _ | with_reducible refine Adds.alloc ?_ _ | with_reducible refine Adds.more ?_ _ _ | with_reducible refine Adds.drew ?_ | with_reducible refine Adds.drewN ?_ _)

end Go.Proofs.Ytgnhkpihlghbmaa
