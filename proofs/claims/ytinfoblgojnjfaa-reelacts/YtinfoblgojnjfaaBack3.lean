/-
  The method takeBack by contract: where bytes were appended.
-/
import Derived.Test.YtinfoblgojnjfaaBack2
namespace Go.Proofs.Ytinfoblgojnjfaa
open Go.RowKit Go.Maps

theorem mem_step {w W X w2 : World} {B : Nat} {R : Rw} (h : Mem w B R) (ha : Adds w W) (hX : W.grownBy X (some R.p)) {ds : List (Dd × Value)} {d : Dd} {v : Value} (he : R.ds = ds ++ [(d, v)]) (fs : List Fl)
    (hpX : X.heap[R.p]? = some (.cells #[.int .i64 (R.room : Int), .int .i64 (total fs : Int), .map (some R.m), R.dn, .int .i64 (R.count : Int), .bool R.armed, .int .i64 R.left, .bool R.gone] 55 (0, 0)))
    (t2 : X.mapTurned w2 R.m) {n : Nat} (hm2 : w2.ownsMap Try.prog 3 raw R.m n (dOf fs)) (srt : Srt fs) (keys : ∀ x ∈ fs, 0 ≤ x.1 ∧ x.1 ≤ 1048576)
    (hrows : ∀ x ∈ (R.back fs ds d v).rows, w.ownsRow B 5 1 x.1 x.2.length (cellsB x.2)) (nd : (blocks (R.back fs ds d v).rows).Nodup) (hnew : ∀ i ∈ blocks (R.back fs ds d v).rows, i ∈ blocks R.rows) :
    Mem w2 B (R.back fs ds d v) ∧ Moves w R w2 (R.back fs ds d v) := by
  have ht2 := t2.grown
  have hsW := ha.below.size
  have hsX := hX.size
  have hs2 := ht2.size
  have hpl := (Array.getElem?_eq_some_iff.1 hpX).1
  have hkeep : ∀ i, i < w.heap.size → i ≠ R.p → i ≠ R.m → w2.heap[i]? = w.heap[i]? := by
    intro i hi e1 e2
    rw [ht2.block i (by omega) (fun e => e2 (by simpa using e)), hX.block i (by omega) (fun e => e1 (by simpa using e))]
    exact ha.below.block i hi
  refine h.refile none (fun i hi => by cases hi) ⟨?_, ?_, ?_, by omega⟩ (fun i hi e1 e2 _ => hkeep i hi e1 e2) rfl rfl rfl (by simp [Rw.back, he]) ?_ ?_ srt keys ?_ h.room h.arm h.wfl (fun x hx => .inr ?_) nd (fun i hi => .inl (hnew i hi))
  · exact (ht2.os.trans hX.os).trans ha.below.os
  · exact (ht2.tape.trans hX.tape).trans ha.below.tape
  · exact (ht2.output.trans hX.output).trans ha.below.output
  · show w2.heap[R.p]? = _
    rw [ht2.block R.p hpl (fun e => map_ne h (by simpa using e))]
    exact hpX
  · have := map_tight hm2
    rw [dOf_size] at this
    exact this
  · intro x hx
    exact h.files x (by rw [he]; exact List.mem_append.2 (.inl hx))
  · have hr := hrows x hx
    refine row_keep hr (fun i hi => hkeep i (hr.lt i hi).2 (fun e => ?_) (fun e => ?_))
    · obtain ⟨C, hC⟩ := row_block hr hi
      rw [e, h.hp] at hC
      simp at hC
    · obtain ⟨C, hC⟩ := row_block hr hi
      obtain ⟨es, clock, hb, _⟩ := h.hm
      rw [e, hb] at hC
      cases hC

theorem wp_delete_run (w : World) {o : Oper} {a : Act} {K : Act → World → Prop} {Q : Exit → Act → World → Prop} (m x : Operand) (ho : o.op = .call { callee := .builtin .delete, args := #[m, x], argTypes := #[52, 3] })
    (mv kv : Value) (hm : a.eval m = mv) (hx : a.eval x = kv) (w' : World) (hr : (Builtin.delete_ #[52, 3] o.type #[mv, kv]).run Try.prog w = .ok (.tuple #[]) w') (h : K (a.put o.dst (.tuple #[])) w') : Oper.wp Try.prog o a w K Q := by
  unfold Oper.wp
  simp [execOp, ho, resolve, invoke, builtin, hm, hx, hr, Result.andThen]
  exact h

theorem delete_step {ops : Array Oper} {o : Oper} {a : Act} {w : World} {K : Act → World → Prop} {Q : Exit → Act → World → Prop} {E : Prop} (hgd : o.guard = none) (m x : Operand) (ho : o.op = .call { callee := .builtin .delete, args := #[m, x], argTypes := #[52, 3] })
    (mv kv : Value) (hm : a.eval m = mv) (hx : a.eval x = kv) (w' : World) (hr : (Builtin.delete_ #[52, 3] o.type #[mv, kv]).run Try.prog w = .ok (.tuple #[]) w') (h : K (a.put o.dst (.tuple #[])) w') :
    if Region.wanted o (yielded ops a.tmps) = true then Oper.wp Try.prog o a w K Q else E := by
  have hw : Region.wanted o (yielded ops a.tmps) = true := by simp [Region.wanted, hgd]
  rw [if_pos hw]
  exact wp_delete_run w m x ho mv kv hm hx w' hr h

/-- A slice of the first bytes, as the call itself makes it. -/
theorem row_cut {w : World} {B : Nat} {ao : Option Addr} {n cp : Nat} {l : List UInt8} (h : w.ownsRow B 5 1 (.slice ao n cp) l.length (cellsB l)) (k : Nat) (hk : k ≤ l.length) : w.ownsRow B 5 1 (.slice ao k cp) (l.take k).length (cellsB (l.take k)) := by
  have hl : (l.take k).length = k := by simp; omega
  rw [hl]
  refine ⟨by rw [cellsB_length, hl]; omega, ?_⟩
  rcases h.2 with ⟨e, hn⟩ | ⟨g, cap, cur, e, hb, hg, hnc, hcm, hcs, htk⟩
  · cases e
    have : k = 0 := by omega
    subst this
    exact .inl ⟨rfl, rfl⟩
  · cases e
    refine .inr ⟨g, cp, cur, rfl, hb, hg, by omega, hcm, hcs, ?_⟩
    have := congrArg (List.take k) htk
    rw [List.take_take] at this
    rw [Nat.mul_one]
    rw [Nat.mul_one, Nat.min_eq_left hk] at this
    rw [this]
    simp [cellsB, List.map_take]

end Go.Proofs.Ytinfoblgojnjfaa
