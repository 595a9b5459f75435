/-
  Two blocks behind the heap's end.
-/
import Derived.Test.YtelkkpomehgcjaaGreatUnit
import Derived.Test.YtelkkpomehgcjaaGreatTwrite
import Derived.Deep.RegionHeld3
namespace Go.Proofs.YtelkkpomehgcjaaGreat
open Go.RowKit Go.Maps

theorem blk_old {w : World} {A B : Obj} : ((w.alloc A).alloc B).heap[w.heap.size]? = some A := by
  have h1 := new_block w A
  have h2 : Adds (w.alloc A) ((w.alloc A).alloc B) := (Adds.refl _).alloc _
  exact h2.at h1

theorem blk_new {w : World} {A B : Obj} : ((w.alloc A).alloc B).heap[w.heap.size + 1]? = some B := by
  have := new_block (w.alloc A) B
  simpa using this

end Go.Proofs.YtelkkpomehgcjaaGreat
