/-
  SealRows: the law's walk.
-/
import Derived.Test.YtmbnpglnanfdoaaSame
namespace Go.Proofs.Ytmbnpglnanfdoaa
open Go.RowKit
attribute [local go_sem] cell?_more frozen?_more setCell_more size_more tape_more drew_more drewN_more more_drew more_drewN more_more one_out plus_out plus_end lt_one le_p2 le_p3 le_p4 le_p5 le_p6 le_p7 le_p8 le_p9 le_p10 le_p11 le_p12 le_p13 le_p14 le_p15 le_p16 le_p17 le_p18 le_p19 le_p20 le_p21 le_p22 le_p23 le_p24 le_q0 le_q1 lt_q1 le_q2 lt_q2 le_q3 lt_q3 le_q4 lt_q4 le_q5 lt_q5 le_q6 lt_q6 le_q7 lt_q7 le_q8 lt_q8 le_q9 lt_q9 le_q10 lt_q10 le_q11 lt_q11 le_q12 lt_q12 le_q13 lt_q13 le_q14 lt_q14 le_q15 lt_q15 le_q16 lt_q16 le_q17 lt_q17 le_q18 lt_q18 le_q19 lt_q19 le_q20 lt_q20 le_q21 lt_q21 le_q22 lt_q22 le_q23 lt_q23 le_q24 lt_q24

theorem rows_length (l : List UInt8) : (rows l).1.length ≤ l.length := by
  suffices h : ∀ n (l : List UInt8), l.length ≤ n → (rows l).1.length ≤ l.length from h _ l (Nat.le_refl _)
  intro n
  induction n with
  | zero =>
    intro l hl
    by_cases he : (first l).2.2 = 0
    · have := first_ok he
      omega
    · rw [rows_none he]
      simp
  | succ n ih =>
    intro l hl
    by_cases he : (first l).2.2 = 0
    · have h1 := first_ok he
      rw [rows_some he]
      have := ih (l.drop (first l).2.1) (by simp; omega)
      simp at this ⊢
      omega
    · rw [rows_none he]
      simp

theorem sealRows_any (v : Value) (l : List UInt8) (w : World) (h : Byt w v l) :
    Calls Try.prog 4 #[v] w fun e w' => e = .returned (.bool true) ∧ Adds w w' := by
  have h' := h
  obtain ⟨ao, cap, rfl, hcap, ho⟩ := h.open
  by_cases hl : l.length ≤ 3000
  · have he := ownV_empty w 5
    rw [show ([] : List Value) = cellsB [] from rfl] at he
    have k1 := fun v W (hW : Byt W v l) => first_any v l W hW (by omega)
    have k2 := fun W (hW : Adds w W) => refFirst_any _ _ l W (h'.adds hW).old (by omega)
    have k3 := fun W (hW : Adds w W) => row_any _ l W (h'.adds hW) (by omega)
    have k4 := fun W (hW : Adds w W) => refRow_any _ l W (h'.adds hW) (by omega)
    have hG := rows_length l
    generalize first l = F at *
    generalize rows l = G at *
    obtain ⟨F1, F2, F3⟩ := F
    obtain ⟨G1, G2⟩ := G
    simp only at k1 k2 k3 k4 hG
    go_enter Try.func4, Try.ntmps4
    go_wp2_with (first
      | (at_builtin; refine byt_app rfl (.tmp 18) (.tmp 19) rfl he rfl (h'.adds (by repeat (first | with_reducible exact Adds.refl _ | with_reducible refine Adds.alloc ?_ _ | with_reducible refine Adds.more ?_ _ _ | with_reducible refine Adds.drew ?_ | with_reducible refine Adds.drewN ?_ _))) rfl (by simp; omega) ?_; intro v2 w2 h2; rw [List.nil_append] at h2)
      | (go_at_call 10; (with_reducible refine (k1 _ _ h2.byt).mono ?_); rintro e w3 ⟨r3, rfl, h3, a3⟩)
      | (go_at_call 14; (with_reducible refine (k2 _ (h2.added.trans a3)).mono ?_); rintro e w4 ⟨r4, rfl, h4, a4⟩)
      | (go_at_call 15; (with_reducible refine (k3 _ ((h2.added.trans a3).trans a4)).mono ?_); rintro e w5 ⟨r5, rfl, h5, a5⟩)
      | (go_at_call 16; (with_reducible refine (k4 _ (((h2.added.trans a3).trans a4).trans a5)).mono ?_); rintro e w6 ⟨r6, rfl, h6, a6⟩; have c3 := (h3.byt.adds ((a4.trans a5).trans a6)).str; have c4 := (h4.byt.adds (a5.trans a6)).str)
      | (go_at_call 17; (with_reducible refine (same_any _ _ _ _ _ (h5.adds a6) h6 (by omega) (by omega)).mono ?_); rintro e w7 ⟨rfl, a7⟩)
      | (go_at_call 8; (with_reducible refine (awake_any _).mono ?_); rintro e w8 ⟨rfl, a8⟩))
    go_ret
    exact ⟨rfl, (((((h2.added.trans a3).trans a4).trans a5).trans a6).trans a7).trans a8⟩
  · go_enter Try.func4, Try.ntmps4
    go_wp2_with (go_at_call 8; refine (awake_any _).mono ?_; rintro e w1 ⟨rfl, os1, n1, rfl⟩)
    go_ret
    refine ⟨rfl, ?_⟩
    repeat (first | with_reducible exact Adds.refl _ | with_reducible refine Adds.alloc ?_ _ | with_reducible refine Adds.more ?_ _ _ | with_reducible refine Adds.drew ?_ | with_reducible refine Adds.drewN ?_ _)

end Go.Proofs.Ytmbnpglnanfdoaa
