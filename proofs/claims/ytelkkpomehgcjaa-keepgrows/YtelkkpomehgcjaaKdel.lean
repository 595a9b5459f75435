/-
  slices.Delete of the last entries of a row of slices, by contract.
-/
import Derived.Test.YtelkkpomehgcjaaReel
import Derived.Test.YtelkkpomehgcjaaSeal
import Derived.Lib.SliceRun
import Derived.Deep.RegionLaw
namespace Go.Proofs.Ytelkkpomehgcjaa
open Go.RowKit Go.Maps
attribute [local go_sem] cell?_more frozen?_more setCell_more size_more tape_more drew_more drewN_more more_drew more_drewN more_more one_out plus_out plus_end lt_one le_p2 le_p3 le_p4 le_p5 le_p6 le_p7 le_p8 le_p9 le_p10 le_p11 le_p12 le_p13 le_p14 le_p15 le_p16 le_p17 le_p18 le_p19 le_p20 le_p21 le_p22 le_p23 le_p24 le_q0 le_q1 lt_q1 le_q2 lt_q2 le_q3 lt_q3 le_q4 lt_q4 le_q5 lt_q5 le_q6 lt_q6 le_q7 lt_q7 le_q8 lt_q8 le_q9 lt_q9 le_q10 lt_q10 le_q11 lt_q11 le_q12 lt_q12 le_q13 lt_q13 le_q14 lt_q14 le_q15 lt_q15 le_q16 lt_q16 le_q17 lt_q17 le_q18 lt_q18 le_q19 lt_q19 le_q20 lt_q20 le_q21 lt_q21 le_q22 lt_q22 le_q23 lt_q23 le_q24 lt_q24

theorem setCells_at {g : Nat} {T : TypeId} {fr : Nat × Nat} : ∀ (vs : List Value) (o : Nat) (w : World) (C : Array Value), w.heap[g]? = some (.cells C T fr) → o + vs.length ≤ C.size →
    ∃ C', (w.setCells g o vs).heap[g]? = some (.cells C' T fr) ∧ C'.size = C.size ∧ ∀ j, j < o → C'[j]? = C[j]?
  | [], _, _, C, h, _ => ⟨C, h, rfl, fun _ _ => rfl⟩
  | v :: r, o, w, C, h, hl => by
    simp only [List.length_cons] at hl
    have h1 := heap_setCell_at v h (show o < C.size by omega)
    obtain ⟨C', h2, h3, h4⟩ := setCells_at r (o + 1) _ _ h1 (by simp; omega)
    refine ⟨C', h2, by rw [h3]; simp, fun j hj => ?_⟩
    rw [h4 j (by omega)]
    rw [Array.getElem?_set, if_neg (by omega)]

theorem grown_cells (w : World) (g : Nat) : ∀ (vs : List Value) (o : Nat) (w1 : World), w.grownBy w1 (some g) → w.grownBy (w1.setCells g o vs) (some g)
  | [], _, _, h => h
  | v :: r, o, w1, h => by
    refine grown_cells w g r (o + 1) _ ?_
    have k := grown_set w1 g o v
    exact ⟨k.os.trans h.os, k.tape.trans h.tape, k.output.trans h.output, Nat.le_trans h.size k.size, fun i hi hn => (k.block i (Nat.lt_of_lt_of_le hi h.size) hn).trans (h.block i hi hn)⟩

set_option maxRecDepth 20000 in
theorem delete_any {w : World} {B : Nat} {v : Value} {xs : List Value} (h : w.ownsRow B 22 1 v xs.length xs) {n : Nat} (hn : n < xs.length) :
    Calls Try.prog 55 #[v, .int .i64 (n : Int), .int .i64 (xs.length : Int)] w fun e w' => ∃ v', e = .returned v' ∧ w'.ownsRow B 22 1 v' (xs.take n).length (xs.take n) ∧ v'.ownBlock = v.ownBlock ∧ w.grownBy w' v.ownBlock := by
  rcases h.2 with ⟨_, h0⟩ | ⟨g, cap, cur, rfl, hb, hg, hnc, hcm, hcs, htk⟩
  · omega
  obtain ⟨i0, hi, hz0, hzs, hzb⟩ := info_parts Try.info22
  have hc : ∀ j, j < cap → (w.drew.cell? ⟨g, j, none⟩).isSome = true := fun j hj => by
    have : w.cell? ⟨g, j, none⟩ = cur[j]? := cell_of_row w g j _ _ _ hg
    show (w.cell? ⟨g, j, none⟩).isSome = true
    rw [this, Array.getElem?_eq_getElem (by omega)]
    rfl
  have hf : ∀ j, w.drew.frozen? ⟨g, j, none⟩ = false := fun j => frozen_of (w := w.drew) hg
  have hm : cap ≤ 9223372036854775807 := by unfold maxLen at hcm; omega
  have hcl : ∀ ty, (Builtin.clear_ #[27] ty #[.slice (some ⟨g, n, none⟩) (xs.length - n) (cap - n)]).run Try.prog w.drew = .ok (.tuple #[]) (w.drew.setCells g (n) (List.replicate (xs.length - n) (.slice none 0 0))) :=
    fun ty => Lib.run_clear_slice w.drew _ _ ty _ Try.underlying27 Try.zeroValue22 rfl rfl g (n) _ _ (by omega) (fun t ht => hc _ (by omega)) (fun t ht => hf _)
  have hpost : ∃ v', Value.slice (some ⟨g, 0, none⟩) n cap = v' ∧ (w.drew.setCells g (n) (List.replicate (xs.length - n) (.slice none 0 0))).ownsRow B 22 1 v' (xs.take n).length (xs.take n) ∧ v'.ownBlock = some g ∧ w.grownBy (w.drew.setCells g (n) (List.replicate (xs.length - n) (.slice none 0 0))) (some g) := by
    obtain ⟨C', h1, h2, h3⟩ := setCells_at (List.replicate (xs.length - n) (.slice none 0 0)) (n) w.drew cur hg (by simp; omega)
    refine ⟨_, rfl, ⟨by simp, .inr ⟨g, cap, C', ?_, hb, h1, by simp; omega, hcm, by rw [h2, hcs], ?_⟩⟩, rfl, ?_⟩
    · rw [List.length_take, Nat.min_eq_left (by omega)]
    · rw [← htk]
      apply List.ext_getElem?
      intro j
      simp only [List.getElem?_take, Array.getElem?_toList, List.length_take, Nat.mul_one]
      by_cases hj : j < n
      · rw [if_pos (by simp; omega), if_pos hj, if_pos (by omega), h3 j (by omega)]
      · rw [if_neg (by simp; omega), if_neg hj]
    · exact grown_cells w g _ _ _ ⟨rfl, rfl, rfl, Nat.le_refl _, fun _ _ _ => rfl⟩
  obtain ⟨v', hv', h1, h2, h3⟩ := hpost
  subst hv'
  obtain ⟨A, hA⟩ : ∃ A : Addr, (if cap = xs.length then some (⟨g, 0, none⟩ : Addr) else some ⟨g, xs.length, none⟩) = some A := by
    by_cases e : cap = xs.length
    · exact ⟨_, by rw [if_pos e]⟩
    · exact ⟨_, by rw [if_neg e]⟩
  have HP1 : Hid _ := h1
  have HP3 : Hid _ := h3
  have hic : n ≤ cap := by omega
  clear h1 h2 h3 hg htk hcs h
  generalize xs.length = m at *
  go_enter Try.func55, Try.ntmps55
  go_wp2_with fail
  go_region_law (refine step_append_room rfl (.tmp 22) (.tmp 25) 27 rfl 22 i0 1 Try.underlying27 hi hzs g 0 n cap (by simp [Act.eval, Act.put]) A 0 (cap - m) [] (by simp [Act.eval, Act.put]) rfl (by simp) (by simp) (by omega) (by simp) ?_; rw [show ∀ o, w.drew.setCells g o [] = w.drew from fun _ => rfl])
  go_wp2
  go_ret
  exact ⟨_, rfl, HP1.out, rfl, HP3.out⟩

end Go.Proofs.Ytelkkpomehgcjaa
