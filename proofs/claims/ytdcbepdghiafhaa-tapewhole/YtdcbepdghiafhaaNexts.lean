/-
  A list with one record more: append in a statement whose order is left open.
-/
import Derived.Test.YtdcbepdghiafhaaSteps
import Derived.Deep.RegionHeld3
namespace Go.Proofs.Ytdcbepdghiafhaa
open Go.RowKit Go.Maps

theorem own_at {w5 W : World} {g : Nat} (ha : Adds w5 W) (hg : w5.heap.size ≤ g) (hW : W.heap[g]? = some (.cells #[] 44 (0, 0))) : OwnV w5.heap.size 44 (.slice (some ⟨g, 0, none⟩) 0 0) [] w5 W :=
  ⟨⟨rfl, .inr ⟨g, 0, #[], rfl, hg, hW, Nat.le_refl _, by decide, rfl, rfl⟩⟩, ha.below, ha.below.size⟩

theorem blk_old {w : World} {A B : Obj} : ((w.alloc A).alloc B).heap[w.heap.size]? = some A := by
  have h1 := new_block w A
  have h2 : Adds (w.alloc A) ((w.alloc A).alloc B) := (Adds.refl _).alloc _
  exact h2.at h1

theorem blk_new {w : World} {A B : Obj} : ((w.alloc A).alloc B).heap[w.heap.size + 1]? = some B := by
  have := new_block (w.alloc A) B
  simpa using this

theorem rows_step {ops : Array Oper} {o : Oper} {a : Act} {w : World} {K : Act → World → Prop} {Q : Exit → Act → World → Prop} {E : Prop} (hgd : o.guard = none) (s x : Operand) (ho : o.op = .call { callee := .builtin .append, args := #[s, x], argTypes := #[37, 37] })
    {B : Nat} {v : Value} {xs : List Value} {W0 : World} (h : OwnV B 44 v xs W0 w) (hs : a.eval s = v) {x' : Value} {ys : List Value} (hg : LstV w x' ys) (hx : a.eval x = x') (hys : ∀ u ∈ ys, u.oneCell' = true) (hlen : xs.length + ys.length ≤ 1000000)
    (hk : ∀ v' w', OwnV B 44 v' (xs ++ ys) W0 w' → w.grownBy w' v.ownBlock → K (a.put o.dst v') w') : if Region.wanted o (yielded ops a.tmps) = true then Oper.wp Try.prog o a w K Q else E := by
  have hw : Region.wanted o (yielded ops a.tmps) = true := by simp [Region.wanted, hgd]
  rw [if_pos hw]
  obtain ⟨v', w', hr, h2, h3⟩ := ownV_append Try.underlying37 Try.info44 rfl (by decide) w B o.type v xs W0 h x' ys hg hys hlen
  exact Lib.wp_append_run w s x 37 37 ho v x' hs hx v' w' hr (hk v' w' h2 h3)

theorem lst_at {w : World} {k : Nat} {x : Value} {C : Array Value} (h : w.heap[k]? = some (.cells #[x] 44 (0, 0))) (_hC : C = #[x]) : LstV w (.slice (some ⟨k, 0, none⟩) 1 1) [x] := by
  refine ⟨_, 1, rfl, Nat.le_refl _, .inr ⟨k, 0, rfl, (Array.getElem?_eq_some_iff.1 h).1, fun j hj => ?_⟩⟩
  have e : j = 0 := by simpa using hj
  subst e
  exact cell_of_row w k 0 _ _ _ h

end Go.Proofs.Ytdcbepdghiafhaa
