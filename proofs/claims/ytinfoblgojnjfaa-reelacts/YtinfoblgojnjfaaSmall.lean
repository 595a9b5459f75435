/-
  The small methods of a reel by contracts: given, settle, Pending, Left, Gone, Sync, Arm.
-/
import Derived.Test.YtinfoblgojnjfaaMem
namespace Go.Proofs.Ytinfoblgojnjfaa
open Go.RowKit Go.Maps

abbrev ptr (p : Nat) : Value := .pointer (some ⟨p, 0, none⟩)

theorem neq_map (m : Nat) (w : World) : (binOp .neq 52 (.map (some m)) (.map none)).run Try.prog w = .ok (.bool true) w := by kernel_rfl
theorem neq_map_none (w : World) : (binOp .neq 52 (.map none) (.map none)).run Try.prog w = .ok (.bool false) w := by kernel_rfl

theorem given_at {w : World} {p m : Nat} (c2 : w.cell? ⟨p, 2, none⟩ = some (.map (some m))) : Calls Try.prog 30 #[ptr p] w fun e w' => e = .returned (.bool true) ∧ w' = w := by
  have hb := neq_map m w
  go_enter Try.func30, Try.ntmps30
  go_wp2
  go_ret
  exact ⟨rfl, rfl⟩

theorem given_any {w : World} {B : Nat} {R : Rw} (h : Mem w B R) : Calls Try.prog 30 #[ptr R.p] w fun e w' => e = .returned (.bool true) ∧ w' = w := given_at (h.cell 2)

theorem grown_set (w : World) (p i : Nat) (v : Value) : w.grownBy (w.setCell ⟨p, i, none⟩ v) (some p) := by
  refine ⟨rfl, rfl, rfl, by simp [World.setCell], fun k _ hk => ?_⟩
  have : p ≠ k := fun e => hk (by rw [e])
  unfold World.setCell
  simp only [Array.getElem?_modify, this, if_false]

theorem grown_drew {w w' : World} {r : Option Nat} (h : w.grownBy w' r) : w.grownBy w'.drew r := ⟨h.os, h.tape, h.output, h.size, h.block⟩
theorem grown_drewN {w w' : World} {r : Option Nat} (h : w.grownBy w' r) (n : Nat) : w.grownBy (w'.drewN n) r := ⟨h.os, h.tape, h.output, h.size, h.block⟩
theorem grown_refl (w : World) (r : Option Nat) : w.grownBy w r := ⟨rfl, rfl, rfl, Nat.le_refl _, fun _ _ _ => rfl⟩

/-- The deeds are let go, and the struct's other cells set. -/
theorem Mem.reset {w w' : World} {B : Nat} {R : Rw} (h : Mem w B R) (a : Bool) (l : Int) (g : Bool) (ha : a = true → 0 ≤ l) (hl : (Lit.int .i64 l).wf = true)
    (hg : w.grownBy w' (some R.p)) (hp : w'.heap[R.p]? = some (.cells #[.int .i64 (R.room : Int), .int .i64 (total R.fs : Int), .map (some R.m), .slice none 0 0, .int .i64 0, .bool a, .int .i64 l, .bool g] 55 (0, 0))) :
    Mem w' B { R with dn := .slice none 0 0, ds := [], dead := [], count := 0, armed := a, left := l, gone := g } ∧ Moves w R w' { R with dn := .slice none 0 0, ds := [], dead := [], count := 0, armed := a, left := l, gone := g } := by
  have hne : ∀ i, i ≠ R.p → i < w.heap.size → w'.heap[i]? = w.heap[i]? := fun i hi hlt => hg.block i hlt (fun e => hi (by simpa using e))
  have hmp : R.m ≠ R.p := by
    intro e
    obtain ⟨es, clock, hb, _⟩ := h.hm
    rw [e, h.hp] at hb
    cases hb
  have hrp : ∀ x ∈ R.rows, ∀ i, x.1.ownBlock = some i → i ≠ R.p := by
    intro x hx i hi e
    obtain ⟨C, hC⟩ := row_block (h.hr x hx) hi
    rw [e, h.hp] at hC
    simp at hC
  have hsub : ∀ x, x ∈ ({ R with dn := .slice none 0 0, ds := [], dead := [], count := 0, armed := a, left := l, gone := g } : Rw).rows → x ∈ R.rows := by
    intro x hx
    simp only [Rw.rows, List.map_nil, List.append_nil] at hx
    exact List.mem_append.2 (.inl hx)
  refine ⟨⟨hp, map_keep h.hm (hne _ hmp h.hm.lt), World.ownsRow_nil _ _ _ _, ?_, ?_, h.bp, h.bm, h.srt, h.keys, by simp, h.room, ha, hl⟩, ⟨hg.os, hg.tape, hg.output, hg.size, ?_⟩⟩
  · intro x hx
    have hx' := hsub x hx
    exact row_keep (h.hr x hx') (fun i hi => hne i (hrp x hx' i hi) ((h.hr x hx').lt i hi).2)
  · have := h.nd
    simp only [Rw.rows, blocks, List.filterMap_append] at this
    simp only [Rw.rows, List.map_nil, List.append_nil, blocks]
    exact (List.nodup_append.1 this).1
  · intro i hi hn
    refine ⟨hne i (fun e => hn (.inl e)) hi, ?_⟩
    rintro (rfl | rfl | hf | hf)
    · exact hn (.inl rfl)
    · exact hn (.inr (.inl rfl))
    · cases hf
    · obtain ⟨x, hx, he⟩ := mem_blocks.1 hf
      exact hn (.inr (.inr (.inr (mem_blocks.2 ⟨x, hsub x hx, he⟩))))

/-- Cells that hang on nothing else. -/
theorem Mem.turn {w w' : World} {B : Nat} {R : Rw} (h : Mem w B R) (c : Nat) (a : Bool) (l : Int) (g : Bool) (ha : a = true → 0 ≤ l) (hl : (Lit.int .i64 l).wf = true)
    (hg : w.grownBy w' (some R.p)) (hp : w'.heap[R.p]? = some (.cells #[.int .i64 (R.room : Int), .int .i64 (total R.fs : Int), .map (some R.m), R.dn, .int .i64 (c : Int), .bool a, .int .i64 l, .bool g] 55 (0, 0))) :
    Mem w' B { R with count := c, armed := a, left := l, gone := g } ∧ Moves w R w' { R with count := c, armed := a, left := l, gone := g } := by
  have hne : ∀ i, i ≠ R.p → i < w.heap.size → w'.heap[i]? = w.heap[i]? := fun i hi hlt => hg.block i hlt (fun e => hi (by simpa using e))
  have hmp : R.m ≠ R.p := by
    intro e
    obtain ⟨es, clock, hb, _⟩ := h.hm
    rw [e, h.hp] at hb
    cases hb
  refine ⟨⟨hp, map_keep h.hm (hne _ hmp h.hm.lt), row_keep h.hd ?_, ?_, h.nd, h.bp, h.bm, h.srt, h.keys, h.files, h.room, ha, hl⟩, ⟨hg.os, hg.tape, hg.output, hg.size, ?_⟩⟩
  · intro i hi
    refine hne i (fun e => ?_) (h.hd.lt i hi).2
    obtain ⟨C, hC⟩ := row_block h.hd hi
    rw [e, h.hp] at hC
    simp at hC
  · intro x hx
    refine row_keep (h.hr x hx) (fun i hi => hne i (fun e => ?_) ((h.hr x hx).lt i hi).2)
    obtain ⟨C, hC⟩ := row_block (h.hr x hx) hi
    rw [e, h.hp] at hC
    simp at hC
  · intro i hi hn
    exact ⟨hne i (fun e => hn (.inl e)) hi, hn⟩

def Rw.settled (R : Rw) : Rw := { R with dn := .slice none 0 0, ds := [], dead := [], count := 0 }

theorem settle_any {w : World} {B : Nat} {R : Rw} (h : Mem w B R) : Calls Try.prog 32 #[ptr R.p] w fun e w' => e = .returned (.tuple #[]) ∧ Mem w' B R.settled ∧ Moves w R w' R.settled := by
  obtain ⟨c0, c1, c2, c3, c4, c5, c6, c7⟩ := h.cells8
  have hf := h.thaw
  have h3 := heap_setCell_at (i := 3) (.slice none 0 0) h.hp (by simp [Rw.cells])
  have h4 := heap_setCell_at (i := 4) (.int .i64 0) h3 (by simp [Rw.cells])
  have hm := h.reset R.armed R.left R.gone h.arm h.wfl ((grown_set w R.p 3 (.slice none 0 0)).trans (grown_set _ R.p 4 (.int .i64 0))) (by rw [h4]; rfl)
  go_enter Try.func32, Try.ntmps32
  go_wp2
  go_end0
  exact ⟨rfl, hm⟩

theorem pending_any {w : World} {B : Nat} {R : Rw} (h : Mem w B R) : Calls Try.prog 19 #[ptr R.p] w fun e w' => e = .returned (.int .i64 (R.count : Int)) ∧ w' = w := by
  obtain ⟨c0, c1, c2, c3, c4, c5, c6, c7⟩ := h.cells8
  go_enter Try.func19, Try.ntmps19
  go_wp2_with (go_at_call 30; refine (given_any h).mono ?_; rintro e w1 ⟨rfl, rfl⟩)
  go_ret
  exact ⟨rfl, rfl⟩

theorem gone_any {w : World} {B : Nat} {R : Rw} (h : Mem w B R) : Calls Try.prog 21 #[ptr R.p] w fun e w' => e = .returned (.bool R.gone) ∧ w' = w := by
  obtain ⟨c0, c1, c2, c3, c4, c5, c6, c7⟩ := h.cells8
  go_enter Try.func21, Try.ntmps21
  go_wp2_with (go_at_call 30; refine (given_any h).mono ?_; rintro e w1 ⟨rfl, rfl⟩)
  go_ret
  exact ⟨rfl, rfl⟩

theorem Rw.total_le (R : Rw) : total R.fs ≤ R.bulk := by
  unfold Rw.bulk Rw.rows size total
  simp only [List.map_append, List.sum_append, List.map_map, Function.comp_def]
  omega

theorem left_any {w : World} {B : Nat} {R : Rw} (h : Mem w B R) (hb : R.bulk ≤ 1099511627776) : Calls Try.prog 20 #[ptr R.p] w fun e w' => e = .returned (.int .i64 ((R.room : Int) - (total R.fs : Int))) ∧ Adds w w' := by
  obtain ⟨c0, c1, c2, c3, c4, c5, c6, c7⟩ := h.cells8
  have hr := h.room
  have ht := R.total_le
  go_enter Try.func20, Try.ntmps20
  go_wp2_with (go_at_call 30; refine (given_any h).mono ?_; rintro e w1 ⟨rfl, rfl⟩)
  go_quiet (fail)
  go_wp2
  go_ret
  exact ⟨rfl, (Adds.refl _).drewN _⟩

theorem sync_any {w : World} {B : Nat} {R : Rw} (h : Mem w B R) : Calls Try.prog 14 #[ptr R.p] w fun e w' => e = .returned (.tuple #[]) ∧ Mem w' B (if R.gone then R else R.settled) ∧ Moves w R w' (if R.gone then R else R.settled) := by
  obtain ⟨c0, c1, c2, c3, c4, c5, c6, c7⟩ := h.cells8
  cases hgn : R.gone
  · rw [hgn] at c7
    go_enter Try.func14, Try.ntmps14
    go_wp2_with (first
      | (go_at_call 30; refine (given_any h).mono ?_; rintro e w1 ⟨rfl, rfl⟩)
      | (go_at_call 32; refine (settle_any h).mono ?_; rintro e w2 ⟨rfl, hm⟩))
    go_end0
    exact ⟨rfl, hm⟩
  · rw [hgn] at c7
    have H : Hid (Mem w B R) := h
    go_enter Try.func14, Try.ntmps14
    go_wp2_with (first
      | (go_at_call 30; refine (given_any h).mono ?_; rintro e w1 ⟨rfl, rfl⟩))
    go_end0
    exact ⟨rfl, H.out, Moves.refl _ _⟩

def Rw.arming (R : Rw) (n : Int) : Rw := if R.gone then R else { R with armed := decide (0 ≤ n), left := n }

theorem arm_any {w : World} {B : Nat} {R : Rw} (h : Mem w B R) (n : Int) (hn : (Lit.int .i64 n).wf = true) : Calls Try.prog 17 #[ptr R.p, .int .i64 n] w fun e w' => e = .returned (.tuple #[]) ∧ Mem w' B (R.arming n) ∧ Moves w R w' (R.arming n) := by
  obtain ⟨c0, c1, c2, c3, c4, c5, c6, c7⟩ := h.cells8
  have hf := h.thaw
  unfold Rw.arming
  cases hgn : R.gone
  · have h5 := heap_setCell_at (i := 5) (.bool (decide (0 ≤ n))) h.hp (by simp [Rw.cells])
    have h6 := heap_setCell_at (i := 6) (.int .i64 n) h5 (by simp [Rw.cells])
    have hm := h.turn R.count (decide (0 ≤ n)) n R.gone (by simp) hn ((grown_set w R.p 5 (.bool (decide (0 ≤ n)))).trans (grown_set _ R.p 6 (.int .i64 n))) (by rw [h6]; rfl)
    rw [hgn] at c7 hm
    go_enter Try.func17, Try.ntmps17
    go_wp2_with (first
      | (go_at_call 30; refine (given_any h).mono ?_; rintro e w1 ⟨rfl, rfl⟩))
    go_end0
    exact ⟨rfl, hm⟩
  · rw [hgn] at c7
    have H : Hid (Mem w B R) := h
    go_enter Try.func17, Try.ntmps17
    go_wp2_with (first
      | (go_at_call 30; refine (given_any h).mono ?_; rintro e w1 ⟨rfl, rfl⟩))
    go_end0
    exact ⟨rfl, H.out, Moves.refl _ _⟩

end Go.Proofs.Ytinfoblgojnjfaa
