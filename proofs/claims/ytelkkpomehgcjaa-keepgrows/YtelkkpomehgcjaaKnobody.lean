/-
  The law KeepNobody.
-/
import Derived.Test.YtelkkpomehgcjaaKbad
import Derived.Test.YtelkkpomehgcjaaKall
namespace Go.Proofs.Ytelkkpomehgcjaa
open Go.RowKit Go.Maps

set_option maxRecDepth 20000 in
theorem keepNobody_any (a n : Int) (b : Value) (w : World) : Calls Try.prog 3 #[.agg #[.int .i64 a, b, .int .i64 n]] w fun e w' => e = .returned (.bool true) ∧ Adds w w' := by
  go_enter Try.func3, Try.ntmps3
  go_wp2
  go_loopw [3] (fun i W => ∃ j : Nat, j ≤ 2 ∧ i = .int .i64 (j : Int) ∧ Adds (w.alloc (.cells #[.int .i64 a, b, .int .i64 n] 24)) W) (fun i _ => (2 - intOf i).toNat)
  case atStart => exact ⟨0, by omega, rfl, Adds.refl _⟩
  case round =>
    obtain ⟨j, hj, rfl, hA⟩ := hrel
    have hbk := hA.at (new_block w (.cells #[.int .i64 a, b, .int .i64 n] 24))
    have d0 : wr.cell? ⟨w.heap.size, 0, none⟩ = some (.int .i64 a) := cell_of_row wr _ 0 _ _ _ hbk
    have d1 : wr.cell? ⟨w.heap.size, 1, none⟩ = some b := cell_of_row wr _ 1 _ _ _ hbk
    have d2 : wr.cell? ⟨w.heap.size, 2, none⟩ = some (.int .i64 n) := cell_of_row wr _ 2 _ _ _ hbk
    have hlt : w.heap.size < wr.heap.size := (Array.getElem?_eq_some_iff.1 hbk).1
    have HA : Hid (Adds (w.alloc (.cells #[.int .i64 a, b, .int .i64 n] 24)) wr) := hA
    have HA0 : Hid (Adds w wr) := Adds.trans ((Adds.refl w).alloc _) hA
    clear hA hbk
    have h012 : j = 0 ∨ j = 1 ∨ j = 2 := by omega
    rcases h012 with rfl | rfl | rfl
    · have hb : ∀ W, BadK (.pointer none) W := badK_nil
      go_wp2_with (first
        | (go_at_call 5; refine (badK_get (hb _)).mono ?_; rintro e w1 ⟨rfl, hw1⟩; subst hw1)
        | (go_at_call 6; refine (badK_does (fun W _ => hb W) a n b).mono ?_; rintro e w2 ⟨rfl, a2⟩)
        | (go_at_call 7; refine (badK_noted (hb _)).mono ?_; rintro e w3 ⟨rfl, hw3⟩; subst hw3)
        | (go_at_call 8; refine (badK_len (hb _)).mono ?_; rintro e w4 ⟨rfl, hw4⟩; subst hw4)
        | (go_at_call 9; refine (badK_all (hb _)).mono ?_; rintro e w5 ⟨⟨ao5, c5, rfl⟩, a5⟩))
      go_roundw
      case rel => exact ⟨1, by omega, by go_num, HA.out.trans (a2.trans a5)⟩
      case measure => simp [intOf]
    · have hb : ∀ W, Adds (wr.alloc (.cells #[.pointer none, .slice none 0 0, .slice none 0 0] 29)) W → BadK (ptr wr.heap.size) W := fun W hW => badK_empty (by rw [cell_of_row _ _ _ _ _ _ (hW.at (new_block wr _))]; rfl)
      have HB : Hid (Adds wr (wr.alloc (.cells #[.pointer none, .slice none 0 0, .slice none 0 0] 29))) := (Adds.refl _).alloc _
      go_wp2_with (first
        | (go_at_call 5; refine (badK_get (hb _ (Adds.refl _))).mono ?_; rintro e w1 ⟨rfl, hw1⟩; subst hw1)
        | (go_at_call 6; refine (badK_does hb a n b).mono ?_; rintro e w2 ⟨rfl, a2⟩)
        | (go_at_call 7; refine (badK_noted (hb _ a2)).mono ?_; rintro e w3 ⟨rfl, hw3⟩; subst hw3)
        | (go_at_call 8; refine (badK_len (hb _ a2)).mono ?_; rintro e w4 ⟨rfl, hw4⟩; subst hw4)
        | (go_at_call 9; refine (badK_all (hb _ a2)).mono ?_; rintro e w5 ⟨⟨ao5, c5, rfl⟩, a5⟩))
      go_roundw
      case rel => exact ⟨2, by omega, by go_num, (Adds.trans HA.out HB.out).trans (a2.trans a5)⟩
      case measure => simp [intOf]
    · go_wp2_with (first
        | (go_at_call 10; refine (bad_openK _).mono ?_; rintro e w1 ⟨rfl, a1⟩)
        | (go_at_call 11; refine (awake_any _).mono ?_; rintro e w2 ⟨rfl, a2⟩))
      go_ret
      exact ⟨rfl, HA0.out.trans (a1.trans a2)⟩

end Go.Proofs.Ytelkkpomehgcjaa
