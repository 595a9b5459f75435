/-
  Trees low in the heap, and new ones.
-/
import Derived.Test.YtccddgohagakoaaLlk
import Derived.Test.YtccddgohagakoaaLpt
import Derived.Test.YtccddgohagakoaaLrg
namespace Go.Proofs.Ytccddgohagakoaa
open Go.RowKit
attribute [local go_sem] cell?_more frozen?_more setCell_more size_more tape_more drew_more drewN_more more_drew more_drewN one_out plus_out plus_end lt_one le_p2 le_p3 le_p4 le_p5 le_p6 le_p7 le_p8 le_p9 le_p10 le_p11 le_p12 le_p13 le_p14 le_p15 le_p16 le_p17 le_p18 le_p19 le_p20 le_p21 le_p22 le_p23 le_p24 le_q0 le_q1 lt_q1 le_q2 lt_q2 le_q3 lt_q3 le_q4 lt_q4 le_q5 lt_q5 le_q6 lt_q6 le_q7 lt_q7 le_q8 lt_q8 le_q9 lt_q9 le_q10 lt_q10 le_q11 lt_q11 le_q12 lt_q12 le_q13 lt_q13 le_q14 lt_q14 le_q15 lt_q15 le_q16 lt_q16 le_q17 lt_q17 le_q18 lt_q18 le_q19 lt_q19 le_q20 lt_q20 le_q21 lt_q21 le_q22 lt_q22 le_q23 lt_q23 le_q24 lt_q24

theorem chk_new {w : World} {o : Obj} : Chk (w.heap.size + 1) ((w.alloc o).alloc (.cells #[.int .i64 0, .bool false, .bool false, .map none] 98)) 0 false false := by
  have := new_block (w.alloc o) (.cells #[.int .i64 0, .bool false, .bool false, .map none] 98)
  simp only [World.size_alloc] at this
  exact this

theorem adds_of_grown {w X w' : World} {P : Nat} (hA : Adds w X) (hg : X.grownBy w' (some P)) (hP : w.heap.size ≤ P) : Adds w w' := by
  refine Adds.of ⟨hg.os.trans hA.below.os, hg.tape.trans hA.below.tape, hg.output.trans hA.below.output, Nat.le_trans hA.below.size hg.size, fun k hk => ?_⟩
  rw [hg.block k (Nat.lt_of_lt_of_le hk hA.below.size) (fun e => by cases e; omega)]
  exact hA.below.block k hk

/-- The tree of a document, below a block. -/
theorem Tr.fresh {d : Nat} {w : World} {s : Value} {ts : List T} (h : Tr (fun _ => True) d w s ts) : Tr (fun b => b < w.heap.size) d w s ts := by
  induction d generalizing s ts with
  | zero => exact h
  | succ d ih =>
    obtain ⟨ao, cap, rfl, hc, h | ⟨b, off, rfl, hb, _, hx⟩⟩ := h
    · exact ⟨ao, cap, rfl, hc, .inl h⟩
    · refine ⟨_, cap, rfl, hc, .inr ⟨b, off, rfl, hb, hb, fun j hj => ?_⟩⟩
      obtain ⟨x, h0, h4, h5⟩ := hx j hj
      exact ⟨x, h0, h4, ih h5⟩

theorem Tr.rest {ok' : Nat → Prop} {d : Nat} {w w' : World} {s : Value} {ts : List T} (h : Tr (fun b => b < w.heap.size) d w s ts) (hA : Adds w w') (hok : ∀ b, b < w.heap.size → ok' b) : Tr ok' d w' s ts :=
  h.frame hA.below.size (fun b hb _ => hA.below.block b hb) hok

end Go.Proofs.Ytccddgohagakoaa
