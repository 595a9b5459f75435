/-
  The method note by contract: the walk.
-/
import Derived.Test.YtinfoblgojnjfaaNote
namespace Go.Proofs.Ytinfoblgojnjfaa
open Go.RowKit Go.Maps

def Rw.noted (R : Rw) (d : Dd) (v dn : Value) : Rw :=
  if R.gone then R.more d v dn
  else if R.armed then { R.more d v dn with left := R.left - min (d.units : Int) R.left, gone := decide (min (d.units : Int) R.left < (d.units : Int)), count := R.count + (min (d.units : Int) R.left).toNat }
  else { R.more d v dn with count := R.count + d.units }

theorem cells_new {X : World} {l : List Value} {T : TypeId} {k : Nat} (hk : k = X.heap.size) : ∀ j u, l[j]? = some u → (X.alloc (.cells l.toArray T)).cell? ((⟨k, 0, none⟩ : Addr).add j) = some u := by
  intro j u hu
  subst hk
  rw [add_at, Nat.zero_add, cell_of_row _ _ _ _ _ _ (new_block X _)]
  simpa using hu

theorem Adds.at {w W : World} (h : Adds w W) {i : Nat} {o : Obj} (hi : w.heap[i]? = some o) : W.heap[i]? = some o := (h.below.block i (Array.getElem?_eq_some_iff.1 hi).1).trans hi

/-- What the store behind the append wants. -/
theorem more_pre {w W w1 : World} {B : Nat} {R : Rw} (h : Mem w B R) (ha : Adds w W) (hg : W.grownBy w1 R.dn.ownBlock) : w1.cell? ⟨R.p, 3, none⟩ = some R.dn ∧ w1.frozen? ⟨R.p, 3, none⟩ = false := by
  have hW := h.adds ha
  have hpd : R.dn.ownBlock ≠ some R.p := by
    intro e
    obtain ⟨C, hC⟩ := row_block hW.hd e
    rw [hW.hp] at hC
    simp at hC
  have hp1 : w1.heap[R.p]? = some (.cells R.cells 55 (0, 0)) := (hg.block R.p (Array.getElem?_eq_some_iff.1 hW.hp).1 (fun e => hpd e.symm)).trans hW.hp
  exact ⟨cell_of_row w1 R.p 3 _ _ _ hp1, frozen_of hp1⟩

/-- The deed's own box stays. -/
theorem more_box {w W w1 : World} {B : Nat} {R : Rw} (h : Mem w B R) (hg : W.grownBy w1 R.dn.ownBlock) {o : Obj} (ho : W.heap[w.heap.size]? = some o) (x : Value) : (w1.setCell ⟨R.p, 3, none⟩ x).heap[w.heap.size]? = some o ∧ w.heap.size < (w1.setCell ⟨R.p, 3, none⟩ x).heap.size := by
  have hlt := (Array.getElem?_eq_some_iff.1 ho).1
  have h1 := hg.size
  have h2 := (grown_set w1 R.p 3 x).size
  have hp := (h.lt (.inl rfl)).2
  refine ⟨?_, by omega⟩
  rw [(grown_set w1 R.p 3 x).block _ (by omega) (fun e => by simp at e; omega), hg.block _ hlt (fun e => ?_)]
  · exact ho
  · have := (h.lt (.inr (.inr (.inl e.symm)))).2
    omega

theorem wf64 {x : Int} : (Lit.int .i64 x).wf = true ↔ -9223372036854775808 ≤ x ∧ x ≤ 9223372036854775807 := by
  simp only [Lit.wf, Bool.and_eq_true, decide_eq_true_eq]
  have h3 : IntKind.i64.min = -9223372036854775808 := by decide
  have h4 : IntKind.i64.max = 9223372036854775807 := by decide
  rw [h3, h4]

theorem row_slice {w : World} {B : Nat} {e : TypeId} {n k : Nat} {v : Value} {xs : List Value} (h : w.ownsRow B e n v k xs) : ∃ ao l c, v = .slice ao l c := by
  rcases h.2 with ⟨rfl, _⟩ | ⟨g, cap, cur, rfl, _⟩
  · exact ⟨_, _, _, rfl⟩
  · exact ⟨_, _, _, rfl⟩

theorem Near.turn {w w1 w2 : World} {B : Nat} {R R1 R2 : Rw} {v : Value} {l : List UInt8} (h : Near w R v w1 R1) (hm : Mem w1 B R1) (hv : (v, l) ∈ R1.rows) (hg : w1.grownBy w2 (some R1.p)) (k : Moves w1 R1 w2 R2) : Near w R v w2 R2 := by
  refine h.then k (fun i hi => ?_)
  refine hg.block i ((hm.hr _ hv).lt i hi).2 (fun e => ?_)
  have e' : i = R1.p := by simpa using e
  obtain ⟨C, hC⟩ := row_block (hm.hr _ hv) hi
  rw [e', hm.hp] at hC
  simp at hC

theorem note_any {w : World} {B : Nat} {R : Rw} (h : Mem w B R) (hdead : R.dead = []) (d : Dd) (v : Value) (hf : 0 ≤ d.file ∧ d.file ≤ 1048576)
    (hv : w.ownsRow B 5 1 v d.lost.length (cellsB d.lost)) (hvn : ∀ i, v.ownBlock = some i → i ∉ blocks R.rows) (hvc : v.oneCell' = true) (hb : R.bulk ≤ 549755813888) (hB : B ≤ w.heap.size) (hu : d.units ≤ 1048576) :
    Calls Try.prog 31 #[ptr R.p, .agg #[.int .i64 d.file, .int .i64 (d.units : Int), .bool d.fresh, .bool d.drop, v]] w fun e w' => e = .returned (.tuple #[]) ∧ ∃ dn, Mem w' B (R.noted d v dn) ∧ Near w R v w' (R.noted d v dn) := by
  obtain ⟨c0, c1, c2, c3, c4, c5, c6, c7⟩ := h.cells8
  have hlt := (Array.getElem?_eq_some_iff.1 h.hp).1
  have hds : R.ds.length ≤ 549755813888 := by unfold Rw.bulk at hb; omega
  have H : Hid (Mem w B R) := h
  have hd0 : ∀ W, Adds w W → W.ownsRow B 68 5 R.dn R.ds.length (cellsD R.ds) := fun W hW => by
    have := (h.adds hW).hd
    rwa [hdead, List.append_nil] at this
  have hB0 : ∀ W, Adds w W → B ≤ W.heap.size := fun W hW => Nat.le_trans hB hW.below.size
  go_enter Try.func31, Try.ntmps31
  go_wp2
  go_cut [3] from 5 (fun q wc => q = ptr w.heap.size ∧ ∃ dn, Mem wc B (R.more d v dn) ∧ Near w R v wc (R.more d v dn) ∧ wc.heap[w.heap.size]? = some (.cells (d.cells v).toArray 68 (0, 0)) ∧ w.heap.size < wc.heap.size)
  case first =>
    go_region_law (refine deed_step rfl (.tmp 9) (.tmp 11) rfl (hd0 _ (by repeat (first | with_reducible exact Adds.refl _ | with_reducible refine Adds.alloc ?_ _ | with_reducible refine Adds.more ?_ _ _ | with_reducible refine Adds.drew ?_ | with_reducible refine Adds.drewN ?_ _))) (hB0 _ (by repeat (first | with_reducible exact Adds.refl _ | with_reducible refine Adds.alloc ?_ _ | with_reducible refine Adds.more ?_ _ _ | with_reducible refine Adds.drew ?_ | with_reducible refine Adds.drewN ?_ _))) rfl d v hvc _ _ rfl (cells_new (l := [.int .i64 d.file, .int .i64 (d.units : Int), .bool d.fresh, .bool d.drop, v]) (by simp)) (by omega) ?_; intro dn1 w1 h1 g1 l1; obtain ⟨ao1, n1, cp1, e1⟩ := row_slice h1; subst e1; obtain ⟨x3, y3⟩ := more_pre H.out (by repeat (first | with_reducible exact Adds.refl _ | with_reducible refine Adds.alloc ?_ _ | with_reducible refine Adds.more ?_ _ _ | with_reducible refine Adds.drew ?_ | with_reducible refine Adds.drewN ?_ _)) g1; have HM : Hid _ := mem_more H.out hdead (by repeat (first | with_reducible exact Adds.refl _ | with_reducible refine Adds.alloc ?_ _ | with_reducible refine Adds.more ?_ _ _ | with_reducible refine Adds.drew ?_ | with_reducible refine Adds.drewN ?_ _)) d v _ hf hv hvn h1 g1 l1; have HX : Hid _ := more_box H.out g1 (o := .cells (d.cells v).toArray 68 (0, 0)) (Adds.at (w := w.alloc (.cells #[.int .i64 d.file, .int .i64 (d.units : Int), .bool d.fresh, .bool d.drop, v] 68)) (by repeat (first | with_reducible exact Adds.refl _ | with_reducible refine Adds.alloc ?_ _ | with_reducible refine Adds.more ?_ _ _ | with_reducible refine Adds.drew ?_ | with_reducible refine Adds.drewN ?_ _)) (new_block _ _)) (.slice ao1 n1 cp1))
    all_goals
      go_wp2
      go_meet
      case rel =>
        obtain ⟨hm1, hm2⟩ := HM.out
        obtain ⟨hx1, hx2⟩ := HX.out
        exact ⟨rfl, _, hm1, hm2, hx1, hx2⟩
  case rest =>
    obtain ⟨rfl, dn, hm, hn, hq, hql⟩ := hcut
    have k4 : wc.cell? ⟨R.p, 4, none⟩ = some (.int .i64 (R.count : Int)) := hm.cell 4
    have k5 : wc.cell? ⟨R.p, 5, none⟩ = some (.bool R.armed) := hm.cell 5
    have k6 : wc.cell? ⟨R.p, 6, none⟩ = some (.int .i64 R.left) := hm.cell 6
    have k7 : wc.cell? ⟨R.p, 7, none⟩ = some (.bool R.gone) := hm.cell 7
    have q1 : wc.cell? ⟨w.heap.size, 1, none⟩ = some (.int .i64 (d.units : Int)) := cell_of_row wc w.heap.size 1 _ _ _ hq
    have hfz : ∀ i, wc.frozen? ⟨R.p, i, none⟩ = false := hm.thaw
    have hpq : R.p ≠ w.heap.size := by omega
    have hcn : R.count ≤ 549755813888 := by unfold Rw.bulk at hb; omega
    have hrow : (v, d.lost) ∈ (R.more d v dn).rows := by rw [rows_more]; simp
    clear c0 c1 c2 c3 c4 c5 c6 c7 hd0 hB0 hq
    cases hgn : R.gone
    · rw [hgn] at k7
      cases har : R.armed
      · rw [har] at k5
        have h4 := heap_setCell_at (i := 4) (.int .i64 ((R.count : Int) + (d.units : Int))) hm.hp (by simp [Rw.cells])
        have hg := grown_set wc R.p 4 (.int .i64 ((R.count : Int) + (d.units : Int)))
        obtain ⟨m1, m2⟩ := hm.turn (R.count + d.units) R.armed R.left R.gone h.arm h.wfl hg (by rw [Int.natCast_add]; exact h4)
        have n2 := hn.turn hm hrow hg m2
        have HM : Hid (Mem (wc.setCell ⟨R.p, 4, none⟩ (.int .i64 ((R.count : Int) + (d.units : Int)))) B (R.noted d v dn) ∧ Near w R v (wc.setCell ⟨R.p, 4, none⟩ (.int .i64 ((R.count : Int) + (d.units : Int)))) (R.noted d v dn)) := by
          show _ ∧ _
          simp only [Rw.noted, hgn, har, Bool.false_eq_true, if_false]
          exact ⟨m1, n2⟩
        clear m1 m2 n2 h4 hg
        go_wp2
        go_end0
        exact ⟨rfl, dn, HM.out⟩
      · rw [har] at k5
        have hl := h.arm har
        have hwl := h.wfl
        obtain ⟨n, hn'⟩ : ∃ n : Int, n = min (d.units : Int) R.left := ⟨_, rfl⟩
        have hn0 : 0 ≤ n := by omega
        have hn1 : n ≤ R.left := by omega
        have hn2 : n ≤ d.units := by omega
        have h6 := heap_setCell_at (i := 6) (.int .i64 (R.left - n)) hm.hp (by simp [Rw.cells])
        have h7 := heap_setCell_at (i := 7) (.bool (decide (n < (d.units : Int)))) h6 (by simp [Rw.cells])
        have h4 := heap_setCell_at (i := 4) (.int .i64 ((R.count : Int) + n)) h7 (by simp [Rw.cells])
        have hg := ((grown_set wc R.p 6 (.int .i64 (R.left - n))).trans (grown_set _ R.p 7 (.bool (decide (n < (d.units : Int)))))).trans (grown_set _ R.p 4 (.int .i64 ((R.count : Int) + n)))
        obtain ⟨m1, m2⟩ := hm.turn (R.count + n.toNat) R.armed (R.left - n) (decide (n < (d.units : Int))) (fun _ => by omega) (wf64.2 (by have := wf64.1 hwl; omega)) hg (by rw [show ((R.count + n.toNat : Nat) : Int) = (R.count : Int) + n by omega]; exact h4)
        have n2 := hn.turn hm hrow hg m2
        have HM : Hid (Mem (((wc.setCell ⟨R.p, 6, none⟩ (.int .i64 (R.left - n))).setCell ⟨R.p, 7, none⟩ (.bool (decide (n < (d.units : Int))))).setCell ⟨R.p, 4, none⟩ (.int .i64 ((R.count : Int) + n))) B (R.noted d v dn) ∧ Near w R v (((wc.setCell ⟨R.p, 6, none⟩ (.int .i64 (R.left - n))).setCell ⟨R.p, 7, none⟩ (.bool (decide (n < (d.units : Int))))).setCell ⟨R.p, 4, none⟩ (.int .i64 ((R.count : Int) + n))) (R.noted d v dn)) := by
          show _ ∧ _
          simp only [Rw.noted, hgn, har, Bool.false_eq_true, if_false, if_true, ← hn']
          exact ⟨m1, n2⟩
        clear m1 m2 n2 h4 hg h6 h7
        have hwl' := wf64.1 hwl
        have hk : (if (d.units : Int) ≤ R.left then (d.units : Int) else R.left) = n := by rw [hn']; rfl
        have HM' := HM.out
        have HN : Hid _ := HM'
        clear HM HM'
        go_wp2
        · go_end0
          have HM := HN.out
          rw [show R.left - n = 0 by omega, show decide (n < (d.units : Int)) = true by simp; omega, show (R.count : Int) + n = R.count + R.left by omega] at HM
          exact ⟨rfl, dn, HM⟩
        · go_end0
          have HM := HN.out
          rw [show R.left - n = R.left - d.units by omega, show decide (n < (d.units : Int)) = false by simp; omega, show (R.count : Int) + n = R.count + d.units by omega] at HM
          exact ⟨rfl, dn, HM⟩
    · rw [hgn] at k7
      have HM : Hid (Mem wc B (R.noted d v dn) ∧ Near w R v wc (R.noted d v dn)) := by
        show _ ∧ _
        simp only [Rw.noted, hgn, if_true]
        exact ⟨hm, hn⟩
      go_wp2
      exact bodyPost_ret (results_none rfl _ _ _) rfl ⟨rfl, dn, HM.out⟩

end Go.Proofs.Ytinfoblgojnjfaa
