/-
  gauss.Gcd by a contract.
-/
import Derived.Test.YtlbeebhehgnppaaDivide
import Derived.Test.YtlbeebhehgnppaaCorner
import Derived.WalkMore
import Derived.ScopeJumps
namespace Go.Proofs.Ytlbeebhehgnppaa
open Go.RowKit
attribute [local go_sem] cell?_addTo cell?_more frozen?_more setCell_more size_more tape_more drew_more drewN_more more_drew more_drewN more_more one_out plus_out lt_one le_p2 le_p3 le_p4 le_p5 le_p6 le_p7 le_p8 le_p9 le_p10 le_p11 le_p12
attribute [local go_sem] plus_end le_p13 le_p14 le_p15 le_p16 le_p17 le_p18 le_p19 le_p20 le_p21 le_p22 le_p23 le_p24 le_p25 le_p26 le_p27 le_p28 le_p29 le_p30

/-- The number in a cell. -/
def cellInt (w : World) (p : Addr) : Int := match w.cell? p with | some (.int _ n) => n | _ => 0

set_option maxHeartbeats 1000000 in
theorem gcd_may (a b c d : Int) (ha : May a b) (hb : May c d) (E : Int × Int) (hE : eu a b c d = E) (w : World) :
    Calls Try.prog 23 #[pt a b, pt c d] w fun e w' => e = .returned (.tuple #[pt (rot (off E.1 E.2) E.1 E.2).1 (rot (off E.1 E.2) E.1 E.2).2, .int .i64 0]) ∧ Adds w w' := by
  have h1 := checkBoth_may a b c d ha hb
  have hI : Hid (eu a b c d = E ∧ May a b ∧ May c d) := ⟨hE, ha, hb⟩
  clear hE ha hb
  go_enter Try.func23, Try.ntmps23
  go_wp2
  refine wp_scope_jumps 0 (fun a' w' => ∃ (x y u v : Int) (u7 u8 u16 u17 u18 u19 u20 u21 u22 u23 u24 u25 u26 u27 u28 : Value), a' = { tmps := #[pt a b, pt c d, .pointer (some ⟨w.heap.size, 0, none⟩), .pointer (some ⟨w.heap.size + 1, 0, none⟩), .pointer (some ⟨w.heap.size + 1 + 1, 0, none⟩), .int .i64 0, .int .i64 0, u7, u8, .agg #[.int .i64 a, .int .i64 b], .agg #[.int .i64 c, .int .i64 d], .int .i64 0, .int .i64 0, .bool false, undef, undef, u16, u17, u18, u19, u20, u21, u22, u23, u24, u25, u26, u27, u28], defers := [] } ∧ Adds (((w.alloc (box x y)).alloc (box u v)).alloc (box 0 0)) w' ∧ Hid (eu x y u v = E ∧ May x y ∧ May u v))
    (fun _ w' => (cellInt w' ⟨w.heap.size + 1, 0, none⟩ * cellInt w' ⟨w.heap.size + 1, 0, none⟩ + cellInt w' ⟨w.heap.size + 1, 1, none⟩ * cellInt w' ⟨w.heap.size + 1, 1, none⟩).toNat) rfl ?_ ?_
  · go_wp2_with (go_at_call 27; refine (h1 _).mono ?_; rintro e w1 ⟨rfl, os, k, rfl⟩)
    go_step3
    clear h1
    by_cases hz : c = 0 ∧ d = 0
    · obtain ⟨hz1, hz2⟩ := hz
      have hE : (a, b) = E := by have := (hI.out).1; rw [hz1, hz2, eu_zero] at this; exact this
      have hc := corner_any a b (hI.out).2.1
      subst hz1 hz2
      subst hE
      try simp only at *
      go_wp2_with (go_at_call 34; refine (hc _).mono ?_; rintro e w1 ⟨rfl, o1, k1, rfl⟩)
      all_goals try simp only [Exit.jump]
      all_goals
        refine bodyPost_ret (v := .tuple #[pt (rot (off a b) a b).1 (rot (off a b) a b).2, .int .i64 0]) (by simp [results, Try.results23, go_sem]) rfl ⟨rfl, ?_⟩
        repeat (first | with_reducible exact Adds.refl _ | with_reducible refine Adds.alloc ?_ _ | with_reducible refine Adds.more ?_ _ _ | with_reducible refine Adds.drew ?_ | with_reducible refine Adds.drewN ?_ _)
    · have hd := divide_any a b c d (hI.out).2.1 (hI.out).2.2 hz
      have hnew : Hid (eu c d (resRe a b c d) (resIm a b c d) = E ∧ May c d ∧ May (resRe a b c d) (resIm a b c d)) := ⟨by rw [← eu_step hz]; exact (hI.out).1, (hI.out).2.2, res_may (hI.out).2.2 hz⟩
      have hlt := step_lt (a := a) (b := b) hz
      generalize quoRe a b c d = A at *
      generalize quoIm a b c d = B at *
      generalize resRe a b c d = C at *
      generalize resIm a b c d = D at *
      have HL : Hid ((C * C + D * D).toNat < (c * c + d * d).toNat) := hlt
      clear hlt
      by_cases hu : c = 0
      · have hv : ¬ d = 0 := fun hv => hz ⟨hu, hv⟩
        clear hz
        subst hu
        go_wp2_with (go_at_call 32; refine (hd _).mono ?_; rintro e w1 ⟨rfl, o1, k1, rfl⟩)
        go_region
        all_goals go_wp2
        all_goals go_step3
        all_goals exact ⟨rfl, 0, d, C, D, _, _, _, _, _, _, _, _, _, _, _, _, _, _, _, rfl, by repeat (first | with_reducible exact Adds.refl _ | with_reducible refine Adds.alloc ?_ _ | with_reducible refine Adds.more ?_ _ _ | with_reducible refine Adds.drew ?_ | with_reducible refine Adds.drewN ?_ _), hnew⟩
      · clear hz
        go_wp2_with (go_at_call 32; refine (hd _).mono ?_; rintro e w1 ⟨rfl, o1, k1, rfl⟩)
        go_region
        all_goals go_wp2
        all_goals go_step3
        all_goals exact ⟨rfl, c, d, C, D, _, _, _, _, _, _, _, _, _, _, _, _, _, _, _, rfl, by repeat (first | with_reducible exact Adds.refl _ | with_reducible refine Adds.alloc ?_ _ | with_reducible refine Adds.more ?_ _ _ | with_reducible refine Adds.drew ?_ | with_reducible refine Adds.drewN ?_ _), hnew⟩

  · rintro a' w' ⟨x, y, u, v, u7, u8, u16, u17, u18, u19, u20, u21, u22, u23, u24, u25, u26, u27, u28, rfl, ⟨os, k, rfl⟩, hi⟩
    clear h1 hI
    by_cases hz : u = 0 ∧ v = 0
    · obtain ⟨hz1, hz2⟩ := hz
      have hE : (x, y) = E := by have := (hi.out).1; rw [hz1, hz2, eu_zero] at this; exact this
      have hc := corner_any x y (hi.out).2.1
      subst hz1 hz2
      subst hE
      try simp only at *
      go_wp2_with (go_at_call 34; refine (hc _).mono ?_; rintro e w1 ⟨rfl, o1, k1, rfl⟩)
      all_goals try simp only [Exit.jump]
      all_goals
        refine bodyPost_ret (v := .tuple #[pt (rot (off x y) x y).1 (rot (off x y) x y).2, .int .i64 0]) (by simp [results, Try.results23, go_sem]) rfl ⟨rfl, ?_⟩
        repeat (first | with_reducible exact Adds.refl _ | with_reducible refine Adds.alloc ?_ _ | with_reducible refine Adds.more ?_ _ _ | with_reducible refine Adds.drew ?_ | with_reducible refine Adds.drewN ?_ _)
    · have hd := divide_any x y u v (hi.out).2.1 (hi.out).2.2 hz
      have hnew : Hid (eu u v (resRe x y u v) (resIm x y u v) = E ∧ May u v ∧ May (resRe x y u v) (resIm x y u v)) := ⟨by rw [← eu_step hz]; exact (hi.out).1, (hi.out).2.2, res_may (hi.out).2.2 hz⟩
      have hlt := step_lt (a := x) (b := y) hz
      generalize quoRe x y u v = A at *
      generalize quoIm x y u v = B at *
      generalize resRe x y u v = C at *
      generalize resIm x y u v = D at *
      have HL : Hid ((C * C + D * D).toNat < (u * u + v * v).toNat) := hlt
      clear hlt
      by_cases hu : u = 0
      · have hv : ¬ v = 0 := fun hv => hz ⟨hu, hv⟩
        clear hz
        subst hu
        go_wp2_with (go_at_call 32; refine (hd _).mono ?_; rintro e w1 ⟨rfl, o1, k1, rfl⟩)
        go_region
        all_goals go_wp2
        all_goals go_step3
        all_goals exact ⟨rfl, ⟨0, v, C, D, _, _, _, _, _, _, _, _, _, _, _, _, _, _, _, rfl, by repeat (first | with_reducible exact Adds.refl _ | with_reducible refine Adds.alloc ?_ _ | with_reducible refine Adds.more ?_ _ _ | with_reducible refine Adds.drew ?_ | with_reducible refine Adds.drewN ?_ _), hnew⟩, by have := HL.out; simpa [cellInt, go_sem] using this⟩
      · clear hz
        go_wp2_with (go_at_call 32; refine (hd _).mono ?_; rintro e w1 ⟨rfl, o1, k1, rfl⟩)
        go_region
        all_goals go_wp2
        all_goals go_step3
        all_goals exact ⟨rfl, ⟨u, v, C, D, _, _, _, _, _, _, _, _, _, _, _, _, _, _, _, rfl, by repeat (first | with_reducible exact Adds.refl _ | with_reducible refine Adds.alloc ?_ _ | with_reducible refine Adds.more ?_ _ _ | with_reducible refine Adds.drew ?_ | with_reducible refine Adds.drewN ?_ _), hnew⟩, by have := HL.out; simpa [cellInt, go_sem] using this⟩

end Go.Proofs.Ytlbeebhehgnppaa
