/-
  The walk of the statement RankSorts: it returns true, whatever values are handed in, and leaves all that was there as it was.
-/
import Derived.Test.YtgjcienechfapaaMakes
namespace Go.Proofs.Ytgjcienechfapaa
open Go.RowKit

theorem cells_at5 {w : World} {k : Nat} {a b c d e : Value} {t : TypeId} {fr : Nat × Nat} (h : w.heap[k]? = some (Obj.cells #[a, b, c, d, e] t fr)) :
    w.cell? ⟨k, 0, none⟩ = some a ∧ w.cell? ⟨k, 1, none⟩ = some b ∧ w.cell? ⟨k, 2, none⟩ = some c ∧ w.cell? ⟨k, 3, none⟩ = some d ∧ w.cell? ⟨k, 4, none⟩ = some e := by
  simp [World.cell?, h]

theorem new_block (w : World) (o : Obj) : (w.alloc o).heap[w.heap.size]? = some o := by
  show (w.heap.push o)[w.heap.size]? = _
  simp

theorem old_block {w : World} {k : Nat} {o' : Obj} (h : w.heap[k]? = some o') (o : Obj) : (w.alloc o).heap[k]? = some o' := by
  have hlt : k < w.heap.size := by
    by_cases hlt : k < w.heap.size
    · exact hlt
    · rw [Array.getElem?_eq_none (by omega)] at h
      cases h
  rw [Below.heap_alloc w o k hlt]
  exact h

theorem later_block {w w' : World} {k : Nat} {o' : Obj} (h : w.heap[k]? = some o') (hb : Below w.heap.size w w') : w'.heap[k]? = some o' := by
  have hlt : k < w.heap.size := by
    by_cases hlt : k < w.heap.size
    · exact hlt
    · rw [Array.getElem?_eq_none (by omega)] at h
      cases h
  rw [hb.block k hlt]
  exact h

theorem V.eqv_cmp (a b : V) : V.eqv a b = decide (a.cmp b = 0) := by
  by_cases h : a = b
  · rw [(V.cmp_zero a b).2 h, h, V.eqv_self]; rfl
  · have h1 : a.cmp b ≠ 0 := fun e => h ((V.cmp_zero a b).1 e)
    have h2 : a.eqv b = false := by
      rw [Bool.eq_false_iff]
      exact fun e => h ((V.eqv_iff a b).1 e)
    rw [h2]
    simp [h1]

/-- The three boxes of RankSorts. -/
def Box3 (B : Nat) (a b c : V) (w : World) : Prop :=
  (w.cell? ⟨B, 0, none⟩ = some (.int .i64 a.kind) ∧ w.cell? ⟨B, 1, none⟩ = some (.int .i64 a.num) ∧ w.cell? ⟨B, 2, none⟩ = some (.string a.text) ∧ w.cell? ⟨B, 3, none⟩ = some (.int .i64 a.re) ∧ w.cell? ⟨B, 4, none⟩ = some (.int .i64 a.im)) ∧
  (w.cell? ⟨B + 1, 0, none⟩ = some (.int .i64 b.kind) ∧ w.cell? ⟨B + 1, 1, none⟩ = some (.int .i64 b.num) ∧ w.cell? ⟨B + 1, 2, none⟩ = some (.string b.text) ∧ w.cell? ⟨B + 1, 3, none⟩ = some (.int .i64 b.re) ∧ w.cell? ⟨B + 1, 4, none⟩ = some (.int .i64 b.im)) ∧
  (w.cell? ⟨B + 2, 0, none⟩ = some (.int .i64 c.kind) ∧ w.cell? ⟨B + 2, 1, none⟩ = some (.int .i64 c.num) ∧ w.cell? ⟨B + 2, 2, none⟩ = some (.string c.text) ∧ w.cell? ⟨B + 2, 3, none⟩ = some (.int .i64 c.re) ∧ w.cell? ⟨B + 2, 4, none⟩ = some (.int .i64 c.im))

theorem box3 {w w' : World} (a b c : V) (h : Below (((w.alloc (.cells a.val.cells 33)).alloc (.cells b.val.cells 33)).alloc (.cells c.val.cells 33)).heap.size (((w.alloc (.cells a.val.cells 33)).alloc (.cells b.val.cells 33)).alloc (.cells c.val.cells 33)) w') :
    Box3 w.heap.size a b c w' := by
  have h1 := new_block w (.cells a.val.cells 33)
  have h2 := new_block (w.alloc (.cells a.val.cells 33)) (.cells b.val.cells 33)
  have h3 := new_block ((w.alloc (.cells a.val.cells 33)).alloc (.cells b.val.cells 33)) (.cells c.val.cells 33)
  have e2 : (w.alloc (.cells a.val.cells 33)).heap.size = w.heap.size + 1 := by simp
  have e3 : ((w.alloc (.cells a.val.cells 33)).alloc (.cells b.val.cells 33)).heap.size = w.heap.size + 2 := by simp
  rw [e2] at h2
  rw [e3] at h3
  exact ⟨cells_at5 (later_block (old_block (old_block h1 _) _) h), cells_at5 (later_block (old_block h2 _) h), cells_at5 (later_block h3 h)⟩

set_option maxHeartbeats 2000000 in
theorem rankSorts_any (a b c : V) (w : World) :
    Calls Try.prog 6 #[a.val, b.val, c.val] w fun e w' => e = .returned (.bool true) ∧ Below w.heap.size w w' := by
  have hbox := fun w' => box3 (w := w) (w' := w') a b c
  have ca := check_any a
  have cb := check_any b
  have cc := check_any c
  generalize a.check = qa at ca
  generalize b.check = qb at cb
  generalize c.check = qc at cc
  have kab := compare_any a b
  have kba := compare_any b a
  have kbc := compare_any b c
  have kac := compare_any a c
  have htr := V.cmp_trans a b c
  rw [V.cmp_swap a b] at kba
  have he := run_eql33 a.kind a.num a.text a.re a.im b.kind b.num b.text b.re b.im
  rw [V.eqv_cmp] at he
  have hr := V.cmp_range a b
  generalize a.cmp b = x at *
  generalize b.cmp c = y at *
  generalize a.cmp c = z at *
  have HT : Hid (x ≤ 0 → y ≤ 0 → z ≤ 0) := htr
  clear htr
  obtain ⟨ak, an, ax, ar, ai⟩ := a
  obtain ⟨bk, bn, bx, br, bi⟩ := b
  obtain ⟨ck, cn, cx, cr, ci⟩ := c
  simp only [V.val, Value.cells] at *
  have hL := Below.refl (((w.alloc (.cells #[.int .i64 ak, .int .i64 an, .string ax, .int .i64 ar, .int .i64 ai] 33)).alloc (.cells #[.int .i64 bk, .int .i64 bn, .string bx, .int .i64 br, .int .i64 bi] 33)).alloc (.cells #[.int .i64 ck, .int .i64 cn, .string cx, .int .i64 cr, .int .i64 ci] 33)).heap.size
    (((w.alloc (.cells #[.int .i64 ak, .int .i64 an, .string ax, .int .i64 ar, .int .i64 ai] 33)).alloc (.cells #[.int .i64 bk, .int .i64 bn, .string bx, .int .i64 br, .int .i64 bi] 33)).alloc (.cells #[.int .i64 ck, .int .i64 cn, .string cx, .int .i64 cr, .int .i64 ci] 33))
  go_enter Try.func6, Try.ntmps6
  go_wp2_with (first
    | (go_at_call 17; (first | (with_reducible refine (ca _).mono ?_) | (with_reducible refine (cb _).mono ?_) | (with_reducible refine (cc _).mono ?_)); rintro e w' ⟨rfl, hb⟩; replace hL := since_on hL hb; clear hb; obtain ⟨⟨a0, a1, a2, a3, a4⟩, ⟨b0, b1, b2, b3, b4⟩, ⟨c0, c1, c2, c3, c4⟩⟩ := hbox _ hL)
    | (go_at_call 7; refine (awake_any _).mono ?_; rintro e w' ⟨rfl, hb⟩; replace hL := since_on hL hb; clear hb))
  all_goals first
    | (go_ret; exact ⟨rfl, since_on (since_on (since_on (since_new _ _) (since_new _ _)) (since_new _ _)) hL⟩)
    | skip
  have hbp := fun p : Later w' => hbox _ (since_on hL p.below)
  have f0 := fun p => (hbp p).1.1
  have f1 := fun p => (hbp p).1.2.1
  have f2 := fun p => (hbp p).1.2.2.1
  have f3 := fun p => (hbp p).1.2.2.2.1
  have f4 := fun p => (hbp p).1.2.2.2.2
  have g0 := fun p => (hbp p).2.1.1
  have g1 := fun p => (hbp p).2.1.2.1
  have g2 := fun p => (hbp p).2.1.2.2.1
  have g3 := fun p => (hbp p).2.1.2.2.2.1
  have g4 := fun p => (hbp p).2.1.2.2.2.2
  clear hbp
  rcases hr with rfl | rfl | rfl
  all_goals
    try simp only [Int.neg_neg, Int.neg_zero, Int.reduceNeg] at kba
    refine wp_region_quiet_later (by kernel_rfl) (by kernel_rfl) ?_
    repeat (go_big_quiet_step ((go_at_call 12; (first | (with_reducible exact Calls.later_of (kab _)) | (with_reducible exact Calls.later_of (kba _))))))
    refine wpQuiet_nil ?_
    rintro _ ⟨p, rfl⟩
    replace hL := since_on hL p.below
    obtain ⟨⟨a0, a1, a2, a3, a4⟩, ⟨b0, b1, b2, b3, b4⟩, ⟨c0, c1, c2, c3, c4⟩⟩ := hbox _ hL
    generalize p.world = wp at *
    clear f0 f1 f2 f3 f4 g0 g1 g2 g3 g4
    go_wp2_with (first
      | (go_at_call 12; (first | (with_reducible refine (kab _).mono ?_) | (with_reducible refine (kbc _).mono ?_) | (with_reducible refine (kac _).mono ?_)); rintro e w' ⟨rfl, hb⟩; replace hL := since_on hL hb; clear hb; obtain ⟨⟨a0, a1, a2, a3, a4⟩, ⟨b0, b1, b2, b3, b4⟩, ⟨c0, c1, c2, c3, c4⟩⟩ := hbox _ hL)
      | (go_at_call 7; refine (awake_any _).mono ?_; rintro e w' ⟨rfl, hb⟩; replace hL := since_on hL hb; clear hb))
    all_goals first
      | (exfalso; have := HT.out; omega)
      | (go_ret; exact ⟨rfl, since_on (since_on (since_on (since_new _ _) (since_new _ _)) (since_new _ _)) hL⟩)
      | (have hyz : 0 < y ∨ z ≤ 0 := by assumption
         go_ret
         exact ⟨by simp [hyz], since_on (since_on (since_on (since_new _ _) (since_new _ _)) (since_new _ _)) hL⟩)

end Go.Proofs.Ytgjcienechfapaa
