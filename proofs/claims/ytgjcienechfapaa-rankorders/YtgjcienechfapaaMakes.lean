/-
  The walks of the statements RankMakes and RankSorts: each returns true, whatever is handed in, and leaves all that was there as it was.
-/
import Derived.Test.YtgjcienechfapaaOrder
namespace Go.Proofs.Ytgjcienechfapaa
open Go.RowKit

theorem box2 {w : World} {a b : Value} {t : TypeId} (p : Later (w.alloc (.cells #[a, b] t))) : p.world.cell? ⟨w.heap.size, 0, none⟩ = some a ∧ p.world.cell? ⟨w.heap.size, 1, none⟩ = some b := by
  have hs : w.heap.size < (w.alloc (.cells #[a, b] t)).heap.size := by simp
  refine ⟨?_, ?_⟩ <;> (rw [p.below.cell (by exact hs)]; simp)

theorem V.eqv_self (v : V) : v.eqv v = true := (V.eqv_iff _ _).2 rfl

set_option maxHeartbeats 1000000 in
theorem rankMakes_any (n : Int) (s : ByteArray) (x y : Int) (w : World) :
    Calls Try.prog 5 #[.int .i64 n, .string s, .agg #[.int .i64 x, .int .i64 y]] w fun e w' => e = .returned (.bool true) ∧ Below w.heap.size w w' := by
  have e1 := run_eql33 1 n ⟨#[]⟩ 0 0 1 n ⟨#[]⟩ 0 0
  have e2 := run_eql33 2 0 s 0 0 2 0 s 0 0
  have e3 := run_eql33 3 0 ⟨#[]⟩ x y 3 0 ⟨#[]⟩ x y
  rw [V.eqv_self] at e1 e2 e3
  have hb := fun p => box2 (w := w) (a := .int .i64 x) (b := .int .i64 y) (t := 31) p
  have h0 := fun p => (hb p).1
  have h1 := fun p => (hb p).2
  clear hb
  go_enter Try.func5, Try.ntmps5
  go_wp2
  refine wp_region_quiet_later (by kernel_rfl) (by kernel_rfl) ?_
  repeat (go_big_quiet_step ((first
    | (go_at_call 14; exact Calls.later_of (num_any _ _))
    | (go_at_call 15; exact Calls.later_of (text_any _ _))
    | (go_at_call 16; exact Calls.later_of (point_any _ _ _))
    | (go_at_call 7; exact Calls.later_of (awake_any _)))))
  refine wpQuiet_nil ?_
  rintro _ ⟨p, rfl⟩
  go_wp2
  go_ret
  exact ⟨rfl, since_on (since_new _ _) p.below⟩

end Go.Proofs.Ytgjcienechfapaa
