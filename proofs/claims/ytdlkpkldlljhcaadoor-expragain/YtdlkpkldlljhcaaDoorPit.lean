/-
  The decimal digits of a number, by the library's own contract of strconv.Itoa.
-/
import Derived.Test.YtdlkpkldlljhcaaDoorPrin
import Derived.Shelf.Strconv.Itoa3
import Derived.Shelf.Lay
import Derived.Ground.NamesProg
namespace Go.Proofs.YtdlkpkldlljhcaaDoor
open Go.RowKit
attribute [local go_sem] cell?_more frozen?_more setCell_more size_more tape_more drew_more drewN_more more_drew more_drewN one_out plus_out plus_end lt_one le_p2 le_p3 le_p4 le_p5 le_p6 le_p7 le_p8 le_p9 le_p10 le_p11 le_p12 le_p13 le_p14 le_p15 le_p16 le_p17 le_p18 le_p19 le_p20 le_p21 le_p22 le_p23 le_p24 le_q0 le_q1 lt_q1 le_q2 lt_q2 le_q3 lt_q3 le_q4 lt_q4 le_q5 lt_q5 le_q6 lt_q6 le_q7 lt_q7 le_q8 lt_q8 le_q9 lt_q9 le_q10 lt_q10 le_q11 lt_q11 le_q12 lt_q12 le_q13 lt_q13 le_q14 lt_q14 le_q15 lt_q15 le_q16 lt_q16 le_q17 lt_q17 le_q18 lt_q18 le_q19 lt_q19 le_q20 lt_q20 le_q21 lt_q21 le_q22 lt_q22 le_q23 lt_q23 le_q24 lt_q24

open Go.Shelf

shelf_lay LaysM.n171 Nm 171 at Tryd as Tryd.laysItoa

theorem digL_dec : ∀ (n : Nat), digL n = Lib.decDigits n := by
  intro n
  induction n using Nat.strongRecOn with
  | _ n ih =>
    by_cases h : n < 10
    · rw [digL_one h, Lib.decDigits_one h]
    · rw [digL_more h, ih (n / 10) (by omega)]
      conv => rhs; rw [Lib.decDigits, dif_neg h]

/-- The table that the digits are counted by. -/
def Tab (w : World) : Prop := Lib.TabIs Tryd.prog w "internal/strconv.uint64pow10" .u64 Lib.pow10Tab

theorem Tab.adds {w w' : World} (h : Tab w) (hA : Adds w w') : Tab w' := by
  have hg : ∃ g, Tryd.prog.globalNamed "internal/strconv.uint64pow10" = some g := by
    cases e : Tryd.prog.globalNamed "internal/strconv.uint64pow10" with
    | none =>
      unfold Tab Lib.TabIs World.var? at h
      rw [e] at h
      simp at h
    | some g => exact ⟨g, rfl⟩
  obtain ⟨g, hgn⟩ := hg
  unfold Tab Lib.TabIs World.var? at h ⊢
  rw [hgn] at h ⊢
  simp only [Option.bind_some] at h ⊢
  have hlt : g < w.heap.size := by
    rcases Nat.lt_or_ge g w.heap.size with h' | h'
    · exact h'
    · simp [Array.getElem?_eq_none h'] at h
  rw [hA.below.block g hlt]
  exact h

theorem itoa_any (n : Nat) (hn : n < 1000000000000000) (w : World) (ht : Tab w) :
    Calls Tryd.prog 25 #[.int .i64 n] w fun e w' => e = .returned (.string ⟨(digL n).toArray⟩) ∧ Adds w w' := by
  have := Any.strconv_Itoa Tryd.laysItoa (n : Int) (by omega) (by omega) w ht
  refine Calls.mono this ?_
  rintro e w' ⟨rfl, k, os, rfl⟩
  refine ⟨by rw [Lib.itoa_nonneg, digL_dec], ?_⟩
  exact ⟨os, w.drawn + k, rfl⟩

end Go.Proofs.YtdlkpkldlljhcaaDoor
