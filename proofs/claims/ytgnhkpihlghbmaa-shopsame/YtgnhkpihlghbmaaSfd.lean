/-
  The searches of package shop, which documents it takes, and what the law asks of sizes, by contracts.
-/
import Derived.Test.YtgnhkpihlghbmaaSfi
import Derived.Test.YtgnhkpihlghbmaaIxfa
import Derived.Test.YtgnhkpihlghbmaaIxda
import Derived.Test.YtgnhkpihlghbmaaSums
namespace Go.Proofs.Ytgnhkpihlghbmaa
open Go.RowKit
attribute [local go_sem] cell?_more frozen?_more setCell_more size_more tape_more drew_more drewN_more more_drew more_drewN one_out plus_out plus_end lt_one le_p2 le_p3 le_p4 le_p5 le_p6 le_p7 le_p8 le_p9 le_p10 le_p11 le_p12 le_p13 le_p14 le_p15 le_p16 le_p17 le_p18 le_p19 le_p20 le_p21 le_p22 le_p23 le_p24 le_q0 le_q1 lt_q1 le_q2 lt_q2 le_q3 lt_q3 le_q4 lt_q4 le_q5 lt_q5 le_q6 lt_q6 le_q7 lt_q7 le_q8 lt_q8 le_q9 lt_q9 le_q10 lt_q10 le_q11 lt_q11 le_q12 lt_q12 le_q13 lt_q13 le_q14 lt_q14 le_q15 lt_q15 le_q16 lt_q16 le_q17 lt_q17 le_q18 lt_q18 le_q19 lt_q19 le_q20 lt_q20 le_q21 lt_q21 le_q22 lt_q22 le_q23 lt_q23 le_q24 lt_q24

theorem risen_climbs {ds : List Dn} (h : Risen ds) : Climbs ds := by
  intro i j hi hj hij
  have := List.pairwise_iff_getElem.1 h i j hi hj hij
  exact Sh.lessP_asymm this

theorem find_any (s : Value) (ds : List Dn) (p : ByteArray) (w : World) (hl : LstD w s ds) (hl6 : ds.length ≤ 1000) (hr : Risen ds) :
    Calls Try.prog 24 #[s, .string p] w fun e w' => e = .returned (.tuple #[.int .i64 (cutAt p ds), .bool (hasAt p ds)]) ∧ Adds w w' := by
  have k := fun W (hA : Adds w W) => search_any s ds p W (hl.adds hA) hl6 (risen_climbs hr)
  generalize cutAt p ds = c at *
  generalize hasAt p ds = q at *
  clear hl hr hl6
  go_enter Try.func24, Try.ntmps24
  go_wp2_with (go_at_call 45; refine (k _ (by repeat (first | with_reducible exact Adds.refl _ | with_reducible refine Adds.alloc ?_ _ | with_reducible refine Adds.more ?_ _ _ | with_reducible refine Adds.drew ?_ | with_reducible refine Adds.drewN ?_ _))).mono ?_; rintro e w1 ⟨rfl, os1, n1, rfl⟩)
  go_ret2
  exact ⟨rfl, (by repeat (first | with_reducible exact Adds.refl _ | with_reducible refine Adds.alloc ?_ _ | with_reducible refine Adds.more ?_ _ _ | with_reducible refine Adds.drew ?_ | with_reducible refine Adds.drewN ?_ _))⟩

end Go.Proofs.Ytgnhkpihlghbmaa
