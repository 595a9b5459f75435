/-
  The keep's numbers: four bytes, by contracts.
-/
import Derived.Test.YtelkkpomehgcjaaTnum
namespace Go.Proofs.Ytelkkpomehgcjaa
open Go.RowKit Go.Maps
attribute [local go_sem] cell?_more frozen?_more setCell_more size_more tape_more drew_more drewN_more more_drew more_drewN more_more one_out plus_out plus_end lt_one le_p2 le_p3 le_p4 le_p5 le_p6 le_p7 le_p8 le_p9 le_p10 le_p11 le_p12 le_p13 le_p14 le_p15 le_p16 le_p17 le_p18 le_p19 le_p20 le_p21 le_p22 le_p23 le_p24 le_q0 le_q1 lt_q1 le_q2 lt_q2 le_q3 lt_q3 le_q4 lt_q4 le_q5 lt_q5 le_q6 lt_q6 le_q7 lt_q7 le_q8 lt_q8 le_q9 lt_q9 le_q10 lt_q10 le_q11 lt_q11 le_q12 lt_q12 le_q13 lt_q13 le_q14 lt_q14 le_q15 lt_q15 le_q16 lt_q16 le_q17 lt_q17 le_q18 lt_q18 le_q19 lt_q19 le_q20 lt_q20 le_q21 lt_q21 le_q22 lt_q22 le_q23 lt_q23 le_q24 lt_q24

theorem number4K_any (v : Value) (l : List UInt8) (w : World) (h : Byt w v l) (h4 : 4 ≤ l.length) :
    Calls Try.prog 37 #[v] w fun e w' => e = .returned (.int .u32 (num4 l : Nat)) ∧ Adds w w' := by
  obtain ⟨ao, cap, rfl, hcap, h⟩ := h.open
  rcases h with rfl | ⟨b, off, rfl, hb, hl⟩
  · simp at h4
  rw [num4_of h4]
  have c0 := hl 0 (by omega)
  have c1 := hl 1 (by omega)
  have c2 := hl 2 (by omega)
  have c3 := hl 3 (by omega)
  rw [Nat.add_zero] at c0
  have a0 := l[0].toNat_lt
  have a1 := l[1].toNat_lt
  have a2 := l[2].toNat_lt
  have a3 := l[3].toNat_lt
  generalize l[0].toNat = x at *
  generalize l[1].toNat = y at *
  generalize l[2].toNat = z at *
  generalize l[3].toNat = t at *
  have h1 : bits .or .u32 ((x : Int) * 16777216) ((y : Int) * 65536) = (x : Int) * 16777216 + (y : Int) * 65536 :=
    bits_join .u32 32 (by decide) wraps32 24 _ _ (by omega) (by omega) (by omega) (by omega) (by omega) (by omega)
  have h2 : bits .or .u32 ((x : Int) * 16777216 + (y : Int) * 65536) ((z : Int) * 256) = (x : Int) * 16777216 + (y : Int) * 65536 + (z : Int) * 256 :=
    bits_join .u32 32 (by decide) wraps32 16 _ _ (by omega) (by omega) (by omega) (by omega) (by omega) (by omega)
  have h3 : bits .or .u32 ((x : Int) * 16777216 + (y : Int) * 65536 + (z : Int) * 256) (t : Int) = (x : Int) * 16777216 + (y : Int) * 65536 + (z : Int) * 256 + (t : Int) :=
    bits_join .u32 32 (by decide) wraps32 8 _ _ (by omega) (by omega) (by omega) (by omega) (by omega) (by omega)
  go_enter Try.func37, Try.ntmps37
  go_wp2
  go_quiet (fail)
  go_wp2
  go_ret
  refine ⟨?_, ?_⟩
  · rfl
  exact (by repeat (first | with_reducible exact Adds.refl _ | with_reducible refine Adds.alloc ?_ _ | with_reducible refine Adds.more ?_ _ _ | with_reducible refine Adds.drew ?_ | with_reducible refine Adds.drewN ?_ _))

theorem numberedK_any (n : Nat) (w : World) (hn : n < 4294967296) :
    Calls Try.prog 28 #[.int .i64 (n : Int)] w fun e w' => ∃ v, e = .returned v ∧ Adds w w' ∧ Byt w' v (four n) := by
  go_enter Try.func28, Try.ntmps28
  go_wp2
  go_ret
  refine ⟨_, rfl, ?_, ?_⟩
  · exact (by repeat (first | with_reducible exact Adds.refl _ | with_reducible refine Adds.alloc ?_ _ | with_reducible refine Adds.more ?_ _ _ | with_reducible refine Adds.drew ?_ | with_reducible refine Adds.drewN ?_ _))
  · refine byt_new rfl ?_ rfl
    simp [four, cellsB]
    omega

end Go.Proofs.Ytelkkpomehgcjaa
