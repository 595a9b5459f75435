/-
  A reel above a bound: what lies below stays.
-/
import Derived.Test.YtelkkpomehgcjaaGreatReel
import Derived.Test.YtelkkpomehgcjaaGreatSeal
namespace Go.Proofs.YtelkkpomehgcjaaGreat
open Go.RowKit Go.Maps

theorem adds_low {w w' : World} {R R' : Rw} {B : Nat} (h : Moves w R w' R') (hm : Mem w B R) {w0 : World} (ha : Adds w0 w) (hB : w0.heap.size = B) : Adds w0 w' := by
  subst hB
  have hb := ha.below
  have h2 := h.below hm hb.size
  exact Adds.of (hb.trans h2)

end Go.Proofs.YtelkkpomehgcjaaGreat
