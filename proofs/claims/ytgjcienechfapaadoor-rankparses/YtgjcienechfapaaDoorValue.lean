/-
  The reader's value, by a contract: the value that a key begins with, or that there is none.
-/
import Derived.Test.YtgjcienechfapaaDoorText
namespace Go.Proofs.YtgjcienechfapaaDoor
open Go.RowKit

/-- What stands behind a kind's byte, loosely. -/
def raw (c : UInt8) (r : List UInt8) : Option (V × List UInt8) :=
  if c = 1 then (if 8 ≤ r.length then some (V.mkNum (unlift (beNat (r.take 8))), r.drop 8) else none)
  else if c = 2 then (match decT [] r with | some (t, rest) => some (V.mkText ⟨t.toArray⟩, rest) | none => none)
  else if c = 3 then (if 16 ≤ r.length then some (V.mkPoint (unlift (beNat (r.take 8))) (unlift (beNat ((r.drop 8).take 8))), r.drop 16) else none)
  else none

def Says (o : Option (V × List UInt8)) (rb : Nat) (e : Ending) (w' : World) : Prop :=
  match o with
  | some (v, rest) => e = .returned (.tuple #[v.val, .bool true]) ∧ ∃ q, Rd w' rb q ∧ q.toList = rest
  | none => ∃ v : V, e = .returned (.tuple #[v.val, .bool false])

theorem raw_num (rb : Nat) (s : ByteArray) (w : World) (h : Rd w rb s) :
    Calls Tryd.prog 29 #[.pointer (some ⟨rb, 0, none⟩)] w fun e w' => Says (raw 1 s.toList) rb e w' ∧ w.grownBy w' (some rb) := by
  by_cases h8 : 8 ≤ s.size
  · refine (rnum_yes rb s w h h8).mono ?_
    rintro e w' ⟨rfl, hr, hm⟩
    have : raw 1 s.toList = some (V.mkNum (unlift (beNat (s.toList.take 8))), s.toList.drop 8) := by simp [raw, toList_length, h8]
    rw [this]
    exact ⟨⟨rfl, _, hr, by rw [extract_back]⟩, hm⟩
  · refine (rnum_no rb s w h (by omega)).mono ?_
    rintro e w' ⟨⟨v, rfl⟩, hm⟩
    have : raw 1 s.toList = none := by simp [raw, toList_length, h8]
    rw [this]
    exact ⟨⟨v, rfl⟩, hm⟩

theorem raw_text (rb : Nat) (s : ByteArray) (w : World) (h : Rd w rb s) :
    Calls Tryd.prog 30 #[.pointer (some ⟨rb, 0, none⟩)] w fun e w' => Says (raw 2 s.toList) rb e w' ∧ w.grownBy w' (some rb) := by
  refine (rtext_any rb s w h).mono ?_
  rintro e w' ⟨hs, hm⟩
  refine ⟨?_, hm⟩
  unfold TextSays at hs
  have hr : raw 2 s.toList = (match decT [] s.toList with | some (t, rest) => some (V.mkText ⟨t.toArray⟩, rest) | none => none) := by simp [raw]
  rw [hr]
  cases hd : decT [] s.toList with
  | none => rw [hd] at hs; exact hs
  | some p => rw [hd] at hs; exact hs

theorem raw_point (rb : Nat) (s : ByteArray) (w : World) (h : Rd w rb s) :
    Calls Tryd.prog 31 #[.pointer (some ⟨rb, 0, none⟩)] w fun e w' => Says (raw 3 s.toList) rb e w' ∧ w.grownBy w' (some rb) := by
  by_cases h16 : 16 ≤ s.size
  · refine (rpoint_yes rb s w h h16).mono ?_
    rintro e w' ⟨rfl, hr, hm⟩
    have : raw 3 s.toList = some (V.mkPoint (unlift (beNat (s.toList.take 8))) (unlift (beNat ((s.toList.drop 8).take 8))), s.toList.drop 16) := by simp [raw, toList_length, h16]
    rw [this]
    exact ⟨⟨rfl, _, hr, by rw [extract_back, extract_back, List.drop_drop]⟩, hm⟩
  · have hn : raw 3 s.toList = none := by simp [raw, toList_length, h16]
    rw [hn]
    by_cases h8 : 8 ≤ s.size
    · refine (rpoint_half rb s w h h8 (by omega)).mono ?_
      rintro e w' ⟨⟨v, rfl⟩, hm⟩
      exact ⟨⟨v, rfl⟩, hm⟩
    · refine (rpoint_no rb s w h (by omega)).mono ?_
      rintro e w' ⟨⟨v, rfl⟩, hm⟩
      exact ⟨⟨v, rfl⟩, hm⟩

/-- The value that a key begins with. -/
def decV : List UInt8 → Option (V × List UInt8)
  | [] => none
  | c :: r => match raw c r with
    | some (v, rest) => if v.check = 0 then some (v, rest) else none
    | none => none

theorem five_block {w : World} {k : Nat} {a b c d e : Value} {t : TypeId} (h : w.heap[k]? = some (Obj.cells #[a, b, c, d, e] t (0, 0))) (x0 x1 x2 x3 x4 : Value) :
    (((((w.setCell ⟨k, 0, none⟩ x0).setCell ⟨k, 1, none⟩ x1).setCell ⟨k, 2, none⟩ x2).setCell ⟨k, 3, none⟩ x3).setCell ⟨k, 4, none⟩ x4).heap[k]? = some (Obj.cells #[x0, x1, x2, x3, x4] t (0, 0)) := by
  simp [World.setCell, Array.getElem?_modify, h]

theorem five_other {w : World} {k k' : Nat} (hk : k' ≠ k) (x0 x1 x2 x3 x4 : Value) :
    (((((w.setCell ⟨k, 0, none⟩ x0).setCell ⟨k, 1, none⟩ x1).setCell ⟨k, 2, none⟩ x2).setCell ⟨k, 3, none⟩ x3).setCell ⟨k, 4, none⟩ x4).heap[k']? = w.heap[k']? := by
  rw [Below.heap_setCell _ _ _ _ hk, Below.heap_setCell _ _ _ _ hk, Below.heap_setCell _ _ _ _ hk, Below.heap_setCell _ _ _ _ hk, Below.heap_setCell _ _ _ _ hk]

theorem rvalue_none (rb : Nat) (s : ByteArray) (w : World) (h : Rd w rb s) (hs : 0 < s.size) (hc1 : (s[0]'hs) ≠ 1) (hc2 : (s[0]'hs) ≠ 2) (hc3 : (s[0]'hs) ≠ 3) :
    Calls Tryd.prog 19 #[.pointer (some ⟨rb, 0, none⟩)] w fun e w' => (∃ v : V, e = .returned (.tuple #[v.val, .bool false])) ∧ w.grownBy w' (some rb) := by
  have hlt := h.lt
  have hc := h.cell
  have hf := h.frozen
  obtain ⟨c, hcs⟩ : ∃ c, s[0]'hs = c := ⟨_, rfl⟩
  rw [hcs] at hc1 hc2 hc3
  have hcb : c.toNat < 256 := c.toNat_lt
  have i1 : (c.toNat : Int) ≠ 1 := fun e => hc1 (UInt8.toNat_inj.1 (by simpa using (by omega : c.toNat = 1)))
  have i2 : (c.toNat : Int) ≠ 2 := fun e => hc2 (UInt8.toNat_inj.1 (by simpa using (by omega : c.toNat = 2)))
  have i3 : (c.toNat : Int) ≠ 3 := fun e => hc3 (UInt8.toNat_inj.1 (by simpa using (by omega : c.toNat = 3)))
  have hsz : (0 : Int) < (s.size : Int) := by omega
  go_enter Tryd.func19, Tryd.ntmps19
  go_wp2
  exact bodyPost_ret (v := .tuple #[(⟨0, 0, ⟨#[]⟩, 0, 0⟩ : V).val, .bool false]) (by simp [results, Tryd.results19, go_sem, V.val]) rfl ⟨⟨_, rfl⟩, mv_alloc (mv_alloc (mv_set (mv_refl _ _) (p := ⟨rb, 0, none⟩) (.inr rfl) _) _) _⟩

/-- What value() wants of the world behind the reading of what stands behind the kind. -/
theorem value_mid {w w2 : World} {rb : Nat} {r : ByteArray} (hlt : rb < w.heap.size)
    (hm : (((w.setCell ⟨rb, 0, none⟩ (.string r)).alloc (.cells #[.int .i64 0, .int .i64 0, .string ⟨#[]⟩, .int .i64 0, .int .i64 0] 31)).alloc (.cells #[.int .i64 0, .int .i64 0, .string ⟨#[]⟩, .int .i64 0, .int .i64 0] 31)).grownBy w2 (some rb)) :
    w2.heap[w.heap.size]? = some (Obj.cells #[.int .i64 0, .int .i64 0, .string ⟨#[]⟩, .int .i64 0, .int .i64 0] 31 (0, 0)) ∧ w2.heap[w.heap.size + 1]? = some (Obj.cells #[.int .i64 0, .int .i64 0, .string ⟨#[]⟩, .int .i64 0, .int .i64 0] 31 (0, 0)) ∧
    w.grownBy w2 (some rb) ∧ w.heap.size + 2 ≤ w2.heap.size := by
  have e0 : (w.setCell ⟨rb, 0, none⟩ (.string r)).heap.size = w.heap.size := size_setCell _ _ _
  have b0 := block_at (w.setCell ⟨rb, 0, none⟩ (.string r)) (.cells #[.int .i64 0, .int .i64 0, .string ⟨#[]⟩, .int .i64 0, .int .i64 0] 31)
  have b1 := block_at ((w.setCell ⟨rb, 0, none⟩ (.string r)).alloc (.cells #[.int .i64 0, .int .i64 0, .string ⟨#[]⟩, .int .i64 0, .int .i64 0] 31)) (.cells #[.int .i64 0, .int .i64 0, .string ⟨#[]⟩, .int .i64 0, .int .i64 0] 31)
  have e1 : ((w.setCell ⟨rb, 0, none⟩ (.string r)).alloc (.cells #[.int .i64 0, .int .i64 0, .string ⟨#[]⟩, .int .i64 0, .int .i64 0] 31)).heap.size = w.heap.size + 1 := by simp
  have e2 : (((w.setCell ⟨rb, 0, none⟩ (.string r)).alloc (.cells #[.int .i64 0, .int .i64 0, .string ⟨#[]⟩, .int .i64 0, .int .i64 0] 31)).alloc (.cells #[.int .i64 0, .int .i64 0, .string ⟨#[]⟩, .int .i64 0, .int .i64 0] 31)).heap.size = w.heap.size + 2 := by simp
  rw [e0] at b0
  rw [e1] at b1
  have hs := hm.size
  rw [e2] at hs
  refine ⟨?_, ?_, ?_, hs⟩
  · rw [hm.block w.heap.size (by rw [e2]; omega) (by simp; omega)]
    exact block_old b0 _
  · rw [hm.block (w.heap.size + 1) (by rw [e2]; omega) (by simp; omega)]
    exact b1
  · exact mv_trans (mv_alloc (mv_alloc (mv_set (mv_refl _ _) (p := ⟨rb, 0, none⟩) (.inr rfl) _) _) _) hm

theorem later_block {w w' : World} {k : Nat} {o' : Obj} (h : w.heap[k]? = some o') (hb : Below w.heap.size w w') : w'.heap[k]? = some o' := by
  have hlt : k < w.heap.size := by
    by_cases hlt : k < w.heap.size
    · exact hlt
    · rw [Array.getElem?_eq_none (by omega)] at h
      cases h
  rw [hb.block k hlt]
  exact h

set_option maxHeartbeats 4000000 in
theorem rvalue_1 (rb : Nat) (s : ByteArray) (w : World) (h : Rd w rb s) (hs : 0 < s.size) (hcs : (s[0]'hs) = 1) :
    Calls Tryd.prog 19 #[.pointer (some ⟨rb, 0, none⟩)] w fun e w' => Says (match raw 1 (s.toList.drop 1) with | some (v, rest) => if v.check = 0 then some (v, rest) else none | none => none) rb e w' ∧ w.grownBy w' (some rb) := by
  have hlt := h.lt
  have hc := h.cell
  have hf := h.frozen
  have hsz : (0 : Int) < (s.size : Int) := by omega
  have hR := fun o1 o2 => ((h.set (s.extract 1 s.size)).alloc o1).alloc o2
  have hcall := fun o1 o2 => raw_num rb _ _ (hR o1 o2)
  rw [extract_back] at hcall
  clear hR
  generalize raw 1 (s.toList.drop 1) = o at *
  obtain ⟨r, hr⟩ : ∃ r, r = s.extract 1 s.size := ⟨_, rfl⟩
  rw [← hr] at hcall
  cases o with
  | none =>
    simp only [Says] at *
    go_enter Tryd.func19, Tryd.ntmps19
    go_wp2_with (go_at_call 29; rw [← hr]; refine (hcall _ _).mono ?_; rintro e w2 ⟨⟨⟨vk, vn, vt, vr, vi⟩, rfl⟩, hm2⟩; obtain ⟨o0, o1, m2, s2⟩ := value_mid hlt hm2; obtain ⟨⟨x0, x1, x2, x3, x4⟩, ⟨z0, z1, z2, z3, z4⟩⟩ := cells_frozen5 o0; obtain ⟨⟨y0, y1, y2, y3, y4⟩, ⟨t0, t1, t2, t3, t4⟩⟩ := cells_frozen5 o1; simp only [V.val])
    have o1' := five_block o1 (.int .i64 vk) (.int .i64 vn) (.string vt) (.int .i64 vr) (.int .i64 vi)
    have o0' := (five_other (w := w2) (k := w.heap.size + 1) (k' := w.heap.size) (by omega) (.int .i64 vk) (.int .i64 vn) (.string vt) (.int .i64 vr) (.int .i64 vi)).trans o0
    have m3 := mv_five m2 (k := w.heap.size + 1) (by omega) (.int .i64 vk) (.int .i64 vn) (.string vt) (.int .i64 vr) (.int .i64 vi)
    clear x0 x1 x2 x3 x4 z0 z1 z2 z3 z4 y0 y1 y2 y3 y4 t0 t1 t2 t3 t4 m2 hm2 o0 o1
    generalize (((((w2.setCell ⟨w.heap.size + 1, 0, none⟩ (.int .i64 vk)).setCell ⟨w.heap.size + 1, 1, none⟩ (.int .i64 vn)).setCell ⟨w.heap.size + 1, 2, none⟩ (.string vt)).setCell ⟨w.heap.size + 1, 3, none⟩ (.int .i64 vr)).setCell ⟨w.heap.size + 1, 4, none⟩ (.int .i64 vi)) = w3 at *
    obtain ⟨⟨x0, x1, x2, x3, x4⟩, ⟨z0, z1, z2, z3, z4⟩⟩ := cells_frozen5 o0'
    obtain ⟨⟨y0, y1, y2, y3, y4⟩, ⟨t0, t1, t2, t3, t4⟩⟩ := cells_frozen5 o1'
    go_region
    all_goals go_wp2
    all_goals exact bodyPost_ret (v := .tuple #[(⟨vk, vn, vt, vr, vi⟩ : V).val, .bool false]) (by simp [results, Tryd.results19, go_sem, V.val, x0, x1, x2, x3, x4]) rfl ⟨⟨_, rfl⟩, mv_drewN (mv_five m3 (Nat.le_refl _) _ _ _ _ _) 1⟩
  | some p =>
    obtain ⟨⟨vk, vn, vt, vr, vi⟩, rest⟩ := p
    have hchk := check_any ⟨vk, vn, vt, vr, vi⟩
    obtain ⟨q, hq⟩ : ∃ q, V.check ⟨vk, vn, vt, vr, vi⟩ = q := ⟨_, rfl⟩
    rw [hq] at hchk
    have HQ : Hid (V.check ⟨vk, vn, vt, vr, vi⟩ = q) := hq
    clear hq
    simp only [Says] at hcall
    simp only [V.val] at hcall hchk
    go_enter Tryd.func19, Tryd.ntmps19
    go_wp2_with (go_at_call 29; rw [← hr]; refine (hcall _ _).mono ?_; rintro e w2 ⟨⟨rfl, q2, hrd2, hq2⟩, hm2⟩; obtain ⟨o0, o1, m2, s2⟩ := value_mid hlt hm2; obtain ⟨⟨x0, x1, x2, x3, x4⟩, ⟨z0, z1, z2, z3, z4⟩⟩ := cells_frozen5 o0; obtain ⟨⟨y0, y1, y2, y3, y4⟩, ⟨t0, t1, t2, t3, t4⟩⟩ := cells_frozen5 o1)
    have o1' := five_block o1 (.int .i64 vk) (.int .i64 vn) (.string vt) (.int .i64 vr) (.int .i64 vi)
    have o0' := (five_other (w := w2) (k := w.heap.size + 1) (k' := w.heap.size) (by omega) (.int .i64 vk) (.int .i64 vn) (.string vt) (.int .i64 vr) (.int .i64 vi)).trans o0
    have m3 := mv_five m2 (k := w.heap.size + 1) (by omega) (.int .i64 vk) (.int .i64 vn) (.string vt) (.int .i64 vr) (.int .i64 vi)
    have rd3 := hrd2.five (k := w.heap.size + 1) (by omega) (.int .i64 vk) (.int .i64 vn) (.string vt) (.int .i64 vr) (.int .i64 vi)
    clear x0 x1 x2 x3 x4 z0 z1 z2 z3 z4 y0 y1 y2 y3 y4 t0 t1 t2 t3 t4 m2 hm2 o0 o1
    generalize (((((w2.setCell ⟨w.heap.size + 1, 0, none⟩ (.int .i64 vk)).setCell ⟨w.heap.size + 1, 1, none⟩ (.int .i64 vn)).setCell ⟨w.heap.size + 1, 2, none⟩ (.string vt)).setCell ⟨w.heap.size + 1, 3, none⟩ (.int .i64 vr)).setCell ⟨w.heap.size + 1, 4, none⟩ (.int .i64 vi)) = w3 at *
    obtain ⟨⟨x0, x1, x2, x3, x4⟩, ⟨z0, z1, z2, z3, z4⟩⟩ := cells_frozen5 o0'
    obtain ⟨⟨y0, y1, y2, y3, y4⟩, ⟨t0, t1, t2, t3, t4⟩⟩ := cells_frozen5 o1'
    go_region_with (go_at_call 8; refine (hchk _).mono ?_; rintro e w4 ⟨rfl, hb4⟩; obtain ⟨⟨u0, u1, u2, u3, u4⟩, ⟨g0, g1, g2, g3, g4⟩⟩ := cells_frozen5 (later_block (w := w3.drew) o0' hb4); obtain ⟨⟨d0, d1, d2, d3, d4⟩, -⟩ := cells_frozen5 (later_block (w := w3.drew) o1' hb4))
    all_goals go_wp2
    all_goals first
      | (have hq0 : V.check ⟨vk, vn, vt, vr, vi⟩ = 0 := by assumption
         rw [HQ.out] at hq0
         subst hq0
         have rd4 : Rd w4 rb q2 := Rd.later (w := w3.drew) rd3 hb4
         exact bodyPost_ret (v := .tuple #[(⟨vk, vn, vt, vr, vi⟩ : V).val, .bool true]) (by simp [results, Tryd.results19, go_sem, V.val, u0, u1, u2, u3, u4]) rfl ⟨⟨rfl, q2, rd4.five (by omega) _ _ _ _ _, hq2⟩, mv_five (mv_trans (mv_drewN m3 1) (mv_below (a := w3.drew) hb4 _)) (Nat.le_refl _) _ _ _ _ _⟩)
      | (have hq0 : ¬ V.check ⟨vk, vn, vt, vr, vi⟩ = 0 := by assumption
         rw [HQ.out] at hq0
         exact bodyPost_ret (v := .tuple #[(⟨vk, vn, vt, vr, vi⟩ : V).val, .bool false]) (by simp [results, Tryd.results19, go_sem, V.val, u0, u1, u2, u3, u4, hq0]) rfl ⟨⟨_, rfl⟩, mv_five (mv_trans (mv_drewN m3 1) (mv_below (a := w3.drew) hb4 _)) (Nat.le_refl _) _ _ _ _ _⟩)

set_option maxHeartbeats 4000000 in
theorem rvalue_2 (rb : Nat) (s : ByteArray) (w : World) (h : Rd w rb s) (hs : 0 < s.size) (hcs : (s[0]'hs) = 2) :
    Calls Tryd.prog 19 #[.pointer (some ⟨rb, 0, none⟩)] w fun e w' => Says (match raw 2 (s.toList.drop 1) with | some (v, rest) => if v.check = 0 then some (v, rest) else none | none => none) rb e w' ∧ w.grownBy w' (some rb) := by
  have hlt := h.lt
  have hc := h.cell
  have hf := h.frozen
  have hsz : (0 : Int) < (s.size : Int) := by omega
  have hR := fun o1 o2 => ((h.set (s.extract 1 s.size)).alloc o1).alloc o2
  have hcall := fun o1 o2 => raw_text rb _ _ (hR o1 o2)
  rw [extract_back] at hcall
  clear hR
  generalize raw 2 (s.toList.drop 1) = o at *
  obtain ⟨r, hr⟩ : ∃ r, r = s.extract 1 s.size := ⟨_, rfl⟩
  rw [← hr] at hcall
  cases o with
  | none =>
    simp only [Says] at *
    go_enter Tryd.func19, Tryd.ntmps19
    go_wp2_with (go_at_call 30; rw [← hr]; refine (hcall _ _).mono ?_; rintro e w2 ⟨⟨⟨vk, vn, vt, vr, vi⟩, rfl⟩, hm2⟩; obtain ⟨o0, o1, m2, s2⟩ := value_mid hlt hm2; obtain ⟨⟨x0, x1, x2, x3, x4⟩, ⟨z0, z1, z2, z3, z4⟩⟩ := cells_frozen5 o0; obtain ⟨⟨y0, y1, y2, y3, y4⟩, ⟨t0, t1, t2, t3, t4⟩⟩ := cells_frozen5 o1; simp only [V.val])
    have o1' := five_block o1 (.int .i64 vk) (.int .i64 vn) (.string vt) (.int .i64 vr) (.int .i64 vi)
    have o0' := (five_other (w := w2) (k := w.heap.size + 1) (k' := w.heap.size) (by omega) (.int .i64 vk) (.int .i64 vn) (.string vt) (.int .i64 vr) (.int .i64 vi)).trans o0
    have m3 := mv_five m2 (k := w.heap.size + 1) (by omega) (.int .i64 vk) (.int .i64 vn) (.string vt) (.int .i64 vr) (.int .i64 vi)
    clear x0 x1 x2 x3 x4 z0 z1 z2 z3 z4 y0 y1 y2 y3 y4 t0 t1 t2 t3 t4 m2 hm2 o0 o1
    generalize (((((w2.setCell ⟨w.heap.size + 1, 0, none⟩ (.int .i64 vk)).setCell ⟨w.heap.size + 1, 1, none⟩ (.int .i64 vn)).setCell ⟨w.heap.size + 1, 2, none⟩ (.string vt)).setCell ⟨w.heap.size + 1, 3, none⟩ (.int .i64 vr)).setCell ⟨w.heap.size + 1, 4, none⟩ (.int .i64 vi)) = w3 at *
    obtain ⟨⟨x0, x1, x2, x3, x4⟩, ⟨z0, z1, z2, z3, z4⟩⟩ := cells_frozen5 o0'
    obtain ⟨⟨y0, y1, y2, y3, y4⟩, ⟨t0, t1, t2, t3, t4⟩⟩ := cells_frozen5 o1'
    go_region
    all_goals go_wp2
    all_goals exact bodyPost_ret (v := .tuple #[(⟨vk, vn, vt, vr, vi⟩ : V).val, .bool false]) (by simp [results, Tryd.results19, go_sem, V.val, x0, x1, x2, x3, x4]) rfl ⟨⟨_, rfl⟩, mv_drewN (mv_five m3 (Nat.le_refl _) _ _ _ _ _) 1⟩
  | some p =>
    obtain ⟨⟨vk, vn, vt, vr, vi⟩, rest⟩ := p
    have hchk := check_any ⟨vk, vn, vt, vr, vi⟩
    obtain ⟨q, hq⟩ : ∃ q, V.check ⟨vk, vn, vt, vr, vi⟩ = q := ⟨_, rfl⟩
    rw [hq] at hchk
    have HQ : Hid (V.check ⟨vk, vn, vt, vr, vi⟩ = q) := hq
    clear hq
    simp only [Says] at hcall
    simp only [V.val] at hcall hchk
    go_enter Tryd.func19, Tryd.ntmps19
    go_wp2_with (go_at_call 30; rw [← hr]; refine (hcall _ _).mono ?_; rintro e w2 ⟨⟨rfl, q2, hrd2, hq2⟩, hm2⟩; obtain ⟨o0, o1, m2, s2⟩ := value_mid hlt hm2; obtain ⟨⟨x0, x1, x2, x3, x4⟩, ⟨z0, z1, z2, z3, z4⟩⟩ := cells_frozen5 o0; obtain ⟨⟨y0, y1, y2, y3, y4⟩, ⟨t0, t1, t2, t3, t4⟩⟩ := cells_frozen5 o1)
    have o1' := five_block o1 (.int .i64 vk) (.int .i64 vn) (.string vt) (.int .i64 vr) (.int .i64 vi)
    have o0' := (five_other (w := w2) (k := w.heap.size + 1) (k' := w.heap.size) (by omega) (.int .i64 vk) (.int .i64 vn) (.string vt) (.int .i64 vr) (.int .i64 vi)).trans o0
    have m3 := mv_five m2 (k := w.heap.size + 1) (by omega) (.int .i64 vk) (.int .i64 vn) (.string vt) (.int .i64 vr) (.int .i64 vi)
    have rd3 := hrd2.five (k := w.heap.size + 1) (by omega) (.int .i64 vk) (.int .i64 vn) (.string vt) (.int .i64 vr) (.int .i64 vi)
    clear x0 x1 x2 x3 x4 z0 z1 z2 z3 z4 y0 y1 y2 y3 y4 t0 t1 t2 t3 t4 m2 hm2 o0 o1
    generalize (((((w2.setCell ⟨w.heap.size + 1, 0, none⟩ (.int .i64 vk)).setCell ⟨w.heap.size + 1, 1, none⟩ (.int .i64 vn)).setCell ⟨w.heap.size + 1, 2, none⟩ (.string vt)).setCell ⟨w.heap.size + 1, 3, none⟩ (.int .i64 vr)).setCell ⟨w.heap.size + 1, 4, none⟩ (.int .i64 vi)) = w3 at *
    obtain ⟨⟨x0, x1, x2, x3, x4⟩, ⟨z0, z1, z2, z3, z4⟩⟩ := cells_frozen5 o0'
    obtain ⟨⟨y0, y1, y2, y3, y4⟩, ⟨t0, t1, t2, t3, t4⟩⟩ := cells_frozen5 o1'
    go_region_with (go_at_call 8; refine (hchk _).mono ?_; rintro e w4 ⟨rfl, hb4⟩; obtain ⟨⟨u0, u1, u2, u3, u4⟩, ⟨g0, g1, g2, g3, g4⟩⟩ := cells_frozen5 (later_block (w := w3.drew) o0' hb4); obtain ⟨⟨d0, d1, d2, d3, d4⟩, -⟩ := cells_frozen5 (later_block (w := w3.drew) o1' hb4))
    all_goals go_wp2
    all_goals first
      | (have hq0 : V.check ⟨vk, vn, vt, vr, vi⟩ = 0 := by assumption
         rw [HQ.out] at hq0
         subst hq0
         have rd4 : Rd w4 rb q2 := Rd.later (w := w3.drew) rd3 hb4
         exact bodyPost_ret (v := .tuple #[(⟨vk, vn, vt, vr, vi⟩ : V).val, .bool true]) (by simp [results, Tryd.results19, go_sem, V.val, u0, u1, u2, u3, u4]) rfl ⟨⟨rfl, q2, rd4.five (by omega) _ _ _ _ _, hq2⟩, mv_five (mv_trans (mv_drewN m3 1) (mv_below (a := w3.drew) hb4 _)) (Nat.le_refl _) _ _ _ _ _⟩)
      | (have hq0 : ¬ V.check ⟨vk, vn, vt, vr, vi⟩ = 0 := by assumption
         rw [HQ.out] at hq0
         exact bodyPost_ret (v := .tuple #[(⟨vk, vn, vt, vr, vi⟩ : V).val, .bool false]) (by simp [results, Tryd.results19, go_sem, V.val, u0, u1, u2, u3, u4, hq0]) rfl ⟨⟨_, rfl⟩, mv_five (mv_trans (mv_drewN m3 1) (mv_below (a := w3.drew) hb4 _)) (Nat.le_refl _) _ _ _ _ _⟩)

set_option maxHeartbeats 4000000 in
theorem rvalue_3 (rb : Nat) (s : ByteArray) (w : World) (h : Rd w rb s) (hs : 0 < s.size) (hcs : (s[0]'hs) = 3) :
    Calls Tryd.prog 19 #[.pointer (some ⟨rb, 0, none⟩)] w fun e w' => Says (match raw 3 (s.toList.drop 1) with | some (v, rest) => if v.check = 0 then some (v, rest) else none | none => none) rb e w' ∧ w.grownBy w' (some rb) := by
  have hlt := h.lt
  have hc := h.cell
  have hf := h.frozen
  have hsz : (0 : Int) < (s.size : Int) := by omega
  have hR := fun o1 o2 => ((h.set (s.extract 1 s.size)).alloc o1).alloc o2
  have hcall := fun o1 o2 => raw_point rb _ _ (hR o1 o2)
  rw [extract_back] at hcall
  clear hR
  generalize raw 3 (s.toList.drop 1) = o at *
  obtain ⟨r, hr⟩ : ∃ r, r = s.extract 1 s.size := ⟨_, rfl⟩
  rw [← hr] at hcall
  cases o with
  | none =>
    simp only [Says] at *
    go_enter Tryd.func19, Tryd.ntmps19
    go_wp2_with (go_at_call 31; rw [← hr]; refine (hcall _ _).mono ?_; rintro e w2 ⟨⟨⟨vk, vn, vt, vr, vi⟩, rfl⟩, hm2⟩; obtain ⟨o0, o1, m2, s2⟩ := value_mid hlt hm2; obtain ⟨⟨x0, x1, x2, x3, x4⟩, ⟨z0, z1, z2, z3, z4⟩⟩ := cells_frozen5 o0; obtain ⟨⟨y0, y1, y2, y3, y4⟩, ⟨t0, t1, t2, t3, t4⟩⟩ := cells_frozen5 o1; simp only [V.val])
    have o1' := five_block o1 (.int .i64 vk) (.int .i64 vn) (.string vt) (.int .i64 vr) (.int .i64 vi)
    have o0' := (five_other (w := w2) (k := w.heap.size + 1) (k' := w.heap.size) (by omega) (.int .i64 vk) (.int .i64 vn) (.string vt) (.int .i64 vr) (.int .i64 vi)).trans o0
    have m3 := mv_five m2 (k := w.heap.size + 1) (by omega) (.int .i64 vk) (.int .i64 vn) (.string vt) (.int .i64 vr) (.int .i64 vi)
    clear x0 x1 x2 x3 x4 z0 z1 z2 z3 z4 y0 y1 y2 y3 y4 t0 t1 t2 t3 t4 m2 hm2 o0 o1
    generalize (((((w2.setCell ⟨w.heap.size + 1, 0, none⟩ (.int .i64 vk)).setCell ⟨w.heap.size + 1, 1, none⟩ (.int .i64 vn)).setCell ⟨w.heap.size + 1, 2, none⟩ (.string vt)).setCell ⟨w.heap.size + 1, 3, none⟩ (.int .i64 vr)).setCell ⟨w.heap.size + 1, 4, none⟩ (.int .i64 vi)) = w3 at *
    obtain ⟨⟨x0, x1, x2, x3, x4⟩, ⟨z0, z1, z2, z3, z4⟩⟩ := cells_frozen5 o0'
    obtain ⟨⟨y0, y1, y2, y3, y4⟩, ⟨t0, t1, t2, t3, t4⟩⟩ := cells_frozen5 o1'
    go_region
    all_goals go_wp2
    all_goals exact bodyPost_ret (v := .tuple #[(⟨vk, vn, vt, vr, vi⟩ : V).val, .bool false]) (by simp [results, Tryd.results19, go_sem, V.val, x0, x1, x2, x3, x4]) rfl ⟨⟨_, rfl⟩, mv_drewN (mv_five m3 (Nat.le_refl _) _ _ _ _ _) 1⟩
  | some p =>
    obtain ⟨⟨vk, vn, vt, vr, vi⟩, rest⟩ := p
    have hchk := check_any ⟨vk, vn, vt, vr, vi⟩
    obtain ⟨q, hq⟩ : ∃ q, V.check ⟨vk, vn, vt, vr, vi⟩ = q := ⟨_, rfl⟩
    rw [hq] at hchk
    have HQ : Hid (V.check ⟨vk, vn, vt, vr, vi⟩ = q) := hq
    clear hq
    simp only [Says] at hcall
    simp only [V.val] at hcall hchk
    go_enter Tryd.func19, Tryd.ntmps19
    go_wp2_with (go_at_call 31; rw [← hr]; refine (hcall _ _).mono ?_; rintro e w2 ⟨⟨rfl, q2, hrd2, hq2⟩, hm2⟩; obtain ⟨o0, o1, m2, s2⟩ := value_mid hlt hm2; obtain ⟨⟨x0, x1, x2, x3, x4⟩, ⟨z0, z1, z2, z3, z4⟩⟩ := cells_frozen5 o0; obtain ⟨⟨y0, y1, y2, y3, y4⟩, ⟨t0, t1, t2, t3, t4⟩⟩ := cells_frozen5 o1)
    have o1' := five_block o1 (.int .i64 vk) (.int .i64 vn) (.string vt) (.int .i64 vr) (.int .i64 vi)
    have o0' := (five_other (w := w2) (k := w.heap.size + 1) (k' := w.heap.size) (by omega) (.int .i64 vk) (.int .i64 vn) (.string vt) (.int .i64 vr) (.int .i64 vi)).trans o0
    have m3 := mv_five m2 (k := w.heap.size + 1) (by omega) (.int .i64 vk) (.int .i64 vn) (.string vt) (.int .i64 vr) (.int .i64 vi)
    have rd3 := hrd2.five (k := w.heap.size + 1) (by omega) (.int .i64 vk) (.int .i64 vn) (.string vt) (.int .i64 vr) (.int .i64 vi)
    clear x0 x1 x2 x3 x4 z0 z1 z2 z3 z4 y0 y1 y2 y3 y4 t0 t1 t2 t3 t4 m2 hm2 o0 o1
    generalize (((((w2.setCell ⟨w.heap.size + 1, 0, none⟩ (.int .i64 vk)).setCell ⟨w.heap.size + 1, 1, none⟩ (.int .i64 vn)).setCell ⟨w.heap.size + 1, 2, none⟩ (.string vt)).setCell ⟨w.heap.size + 1, 3, none⟩ (.int .i64 vr)).setCell ⟨w.heap.size + 1, 4, none⟩ (.int .i64 vi)) = w3 at *
    obtain ⟨⟨x0, x1, x2, x3, x4⟩, ⟨z0, z1, z2, z3, z4⟩⟩ := cells_frozen5 o0'
    obtain ⟨⟨y0, y1, y2, y3, y4⟩, ⟨t0, t1, t2, t3, t4⟩⟩ := cells_frozen5 o1'
    go_region_with (go_at_call 8; refine (hchk _).mono ?_; rintro e w4 ⟨rfl, hb4⟩; obtain ⟨⟨u0, u1, u2, u3, u4⟩, ⟨g0, g1, g2, g3, g4⟩⟩ := cells_frozen5 (later_block (w := w3.drew) o0' hb4); obtain ⟨⟨d0, d1, d2, d3, d4⟩, -⟩ := cells_frozen5 (later_block (w := w3.drew) o1' hb4))
    all_goals go_wp2
    all_goals first
      | (have hq0 : V.check ⟨vk, vn, vt, vr, vi⟩ = 0 := by assumption
         rw [HQ.out] at hq0
         subst hq0
         have rd4 : Rd w4 rb q2 := Rd.later (w := w3.drew) rd3 hb4
         exact bodyPost_ret (v := .tuple #[(⟨vk, vn, vt, vr, vi⟩ : V).val, .bool true]) (by simp [results, Tryd.results19, go_sem, V.val, u0, u1, u2, u3, u4]) rfl ⟨⟨rfl, q2, rd4.five (by omega) _ _ _ _ _, hq2⟩, mv_five (mv_trans (mv_drewN m3 1) (mv_below (a := w3.drew) hb4 _)) (Nat.le_refl _) _ _ _ _ _⟩)
      | (have hq0 : ¬ V.check ⟨vk, vn, vt, vr, vi⟩ = 0 := by assumption
         rw [HQ.out] at hq0
         exact bodyPost_ret (v := .tuple #[(⟨vk, vn, vt, vr, vi⟩ : V).val, .bool false]) (by simp [results, Tryd.results19, go_sem, V.val, u0, u1, u2, u3, u4, hq0]) rfl ⟨⟨_, rfl⟩, mv_five (mv_trans (mv_drewN m3 1) (mv_below (a := w3.drew) hb4 _)) (Nat.le_refl _) _ _ _ _ _⟩)

theorem rvalue_any (rb : Nat) (s : ByteArray) (w : World) (h : Rd w rb s) (hs : 0 < s.size) :
    Calls Tryd.prog 19 #[.pointer (some ⟨rb, 0, none⟩)] w fun e w' => Says (decV s.toList) rb e w' ∧ w.grownBy w' (some rb) := by
  have hne : 0 < s.toList.length := by rw [toList_length]; exact hs
  have hl : s.toList = s[0]'hs :: s.toList.drop 1 := by
    have h0 := toList_get s 0 hne
    rw [← h0]
    have := List.drop_eq_getElem_cons hne
    rwa [List.drop_zero] at this
  have hd : decV s.toList = (match raw (s[0]'hs) (s.toList.drop 1) with | some (v, rest) => if v.check = 0 then some (v, rest) else none | none => none) := by
    rw [hl]
    rfl
  rw [hd]
  by_cases h1 : s[0]'hs = 1
  · rw [h1]; exact rvalue_1 rb s w h hs h1
  by_cases h2 : s[0]'hs = 2
  · rw [h2]; exact rvalue_2 rb s w h hs h2
  by_cases h3 : s[0]'hs = 3
  · rw [h3]; exact rvalue_3 rb s w h hs h3
  have hn : raw (s[0]'hs) (s.toList.drop 1) = none := by simp [raw, h1, h2, h3]
  rw [hn]
  exact rvalue_none rb s w h hs h1 h2 h3

end Go.Proofs.YtgjcienechfapaaDoor
