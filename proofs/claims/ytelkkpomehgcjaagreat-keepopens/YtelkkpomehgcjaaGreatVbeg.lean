/-
  The reference's function Begin by a contract.
-/
import Derived.Test.YtelkkpomehgcjaaGreatVoth
namespace Go.Proofs.YtelkkpomehgcjaaGreat
open Go.RowKit Go.Maps
attribute [local go_sem] cell?_more frozen?_more setCell_more size_more tape_more drew_more drewN_more more_drew more_drewN more_more one_out plus_out plus_end lt_one le_p2 le_p3 le_p4 le_p5 le_p6 le_p7 le_p8 le_p9 le_p10 le_p11 le_p12 le_p13 le_p14 le_p15 le_p16 le_p17 le_p18 le_p19 le_p20 le_p21 le_p22 le_p23 le_p24 le_q0 le_q1 lt_q1 le_q2 lt_q2 le_q3 lt_q3 le_q4 lt_q4 le_q5 lt_q5 le_q6 lt_q6 le_q7 lt_q7 le_q8 lt_q8 le_q9 lt_q9 le_q10 lt_q10 le_q11 lt_q11 le_q12 lt_q12 le_q13 lt_q13 le_q14 lt_q14 le_q15 lt_q15 le_q16 lt_q16 le_q17 lt_q17 le_q18 lt_q18 le_q19 lt_q19 le_q20 lt_q20 le_q21 lt_q21 le_q22 lt_q22 le_q23 lt_q23 le_q24 lt_q24

theorem refRecordO (v : Value) (l : List UInt8) (w : World) (h : Byt w v l) (hl : l.length ≤ 16384) :
    Calls Tryz.prog 49 #[v] w fun e w' => ∃ r W0, e = .returned r ∧ Adds w W0 ∧ OwnV W0.heap.size 5 r (cellsB (record l)) W0 w' := by
  have h' := h
  obtain ⟨ao, cap, rfl, hcap, ho⟩ := h.open
  have hsb := sum_lt l
  have hst := sum_lt (three l.length)
  have hrec : record l = (([] ++ three l.length) ++ three (sum (three l.length)) ++ l) ++ three (sum l) := by simp [record]
  rw [hrec]
  have k1 : ∀ v W, Byt W v (three l.length) → Calls Tryz.prog 74 #[v] W fun e w' => e = .returned (.int .u32 (sum (three l.length) : Nat)) ∧ w' = W := fun v W hW => refSum_any _ _ _ hW (by simp [three])
  have k2 : ∀ W, Adds w W → Calls Tryz.prog 74 #[.slice ao l.length cap] W fun e w' => e = .returned (.int .u32 (sum l : Nat)) ∧ w' = W := fun W hW => refSum_any _ _ _ (h'.adds hW) (by omega)
  clear hrec ho
  generalize sum (three l.length) = S at *
  generalize sum l = T at *
  go_enter Tryz.func49, Tryz.ntmps49
  go_wp2_with (first
    | (go_at_call 73; with_reducible refine (three_any l.length _ (by omega)).mono ?_; rintro e w1 ⟨v1, rfl, a1, hY1⟩; have he := ownV_empty w1 5; rw [show ([] : List Value) = cellsB [] from rfl] at he)
    | (at_builtin; refine byt_app rfl (.tmp 9) (.tmp 10) rfl he rfl (hY1.adds (by repeat (first | with_reducible exact Adds.refl _ | with_reducible refine Adds.alloc ?_ _ | with_reducible refine Adds.more ?_ _ _ | with_reducible refine Adds.drew ?_ | with_reducible refine Adds.drewN ?_ _))) rfl (by simp [three]) ?_; intro v2 w2 h2)
    | (go_at_call 74; with_reducible refine (k1 _ _ (hY1.adds h2.added)).mono ?_; rintro e w3 ⟨rfl, rfl⟩)
    | (go_at_call 73; with_reducible refine (three_any S _ (by omega)).mono ?_; rintro e w4 ⟨v4, rfl, a4, hY4⟩)
    | (at_builtin; refine byt_app rfl (.tmp 11) (.tmp 14) rfl (h2.adds a4) rfl hY4 rfl (by simp [three]) ?_; intro v5 w5 h5)
    | (at_builtin; refine byt_app rfl (.tmp 16) (.tmp 17) rfl h5 rfl (h'.adds (a1.trans h5.added)) rfl (by simp [three]; omega) ?_; intro v6 w6 h6)
    | (go_at_call 74; with_reducible refine (k2 _ (a1.trans h6.added)).mono ?_; rintro e w7 ⟨rfl, rfl⟩)
    | (go_at_call 73; with_reducible refine (three_any T _ (by omega)).mono ?_; rintro e w8 ⟨v8, rfl, a8, hY8⟩)
    | (at_builtin; refine byt_app rfl (.tmp 18) (.tmp 21) rfl (h6.adds a8) rfl hY8 rfl (by simp [three]; omega) ?_; intro v9 w9 h9))
  go_ret
  exact ⟨v9, w1, rfl, a1, h9⟩

/-- What Begin tells. -/
def BegTold (w : World) (R : Rw) (room : Nat) (d : Dk) (K : Kf) (ls : List (List UInt8)) (t lv : Value) (M : Nat) (e : Ending) (w' : World) : Prop :=
  ((segLen ls + sizeK K ≤ room ∧ nextK K ≤ 1048576) ∧ ∃ r ko kn kc dO dn dc kept, e = .returned (.tuple #[.agg #[.int .i64 r.room, .slice ko kn kc, .slice dO dn dc, .int .i64 (r.live : Int), .bool r.gone, .int .i64 r.armed, .int .i64 (nextK K), lv, .int .i64 (ls.length : Int)], .int .i64 0]) ∧ RefB w' R r (.slice ko kn kc) (.slice dO dn dc) kept M ∧ LikesD room (d.begun K ls) r ∧ Adds w w')
  ∨ (¬ (segLen ls + sizeK K ≤ room ∧ nextK K ≤ 1048576) ∧ e = .returned (.tuple #[t, .int .i64 2]) ∧ Adds w w')

/-- Four bytes of a small number, as they are made. -/
theorem four_cells {W : World} {b n : Nat} (hn : n ≤ 30000) (h : W.heap[b]? = some (.cells #[.int .u8 ((n : Int) / 16777216), .int .u8 ((n : Int) / 65536), .int .u8 ((n : Int) / 256), .int .u8 ((n : Int) % 256)] 5 (0, 0))) : Byt W (.slice (some ⟨b, 0, none⟩) 4 4) (four n) := by
  refine byt_of (l := four n) (by simp [four]) (.inr ⟨b, 0, rfl, (Array.getElem?_eq_some_iff.1 h).1, fun j hj => ?_⟩)
  rw [four_length] at hj
  have hc := cell_of_row W b j _ _ _ h
  rw [Nat.zero_add, hc]
  have hj' : j = 0 ∨ j = 1 ∨ j = 2 ∨ j = 3 := by omega
  rcases hj' with rfl | rfl | rfl | rfl <;> simp [four] <;> omega

theorem next_last {K : Kf} {k : Int} (h : (keysK K).getLast? = some k) : nextK K = k + 1 := by
  unfold nextK
  rw [h]

/-- The number above all. -/
theorem begin_next {w : World} {R : Rw} {so : Option Addr} {sc : Nat} {l : List Fl} {K : Kf} (h : FilesV w R (.slice so l.length sc) l) (hk : kf l = K) (hr : ∀ k ∈ keysK K, 0 ≤ k ∧ k ≤ 1048576) (hl : l.length ≤ 5000) :
    (¬ (0 : Int) < (l.length : Int) ∧ Hid (nextK K = 0)) ∨ ((0 : Int) < (l.length : Int) ∧ ∃ b off, so = some ⟨b, off, none⟩ ∧ b < w.heap.size ∧ ∃ kk : Int, wrap64 ((l.length : Int) - 1) = ((l.length - 1 : Nat) : Int) ∧ w.cell? ⟨b, off + (l.length - 1) * 2, none⟩ = some (.int .i64 kk) ∧ 0 ≤ kk ∧ kk ≤ 1048576 ∧ Hid (nextK K = kk + 1)) := by
  by_cases h0 : l.length = 0
  · left
    refine ⟨by omega, ?_⟩
    have e : l = [] := List.length_eq_zero_iff.1 h0
    subst e
    subst hk
    rfl
  · right
    have hi : l.length - 1 < l.length := by omega
    obtain ⟨b, off, cap, he, _, hb, e0, _, _⟩ := FilesV.at h hi
    simp only [Value.slice.injEq, true_and] at he
    obtain ⟨rfl, _⟩ := he
    have hlast : (keysK K).getLast? = some l[l.length - 1].1 := by
      subst hk
      rw [List.getLast?_eq_getElem?]
      simp [keysK, kf, hi]
    have hm : l[l.length - 1].1 ∈ keysK K := List.mem_of_getLast? hlast
    obtain ⟨m1, m2⟩ := hr _ hm
    refine ⟨by omega, b, off, rfl, hb, l[l.length - 1].1, ?_, e0, m1, m2, next_last hlast⟩
    unfold wrap64
    omega

theorem unitsApp_few (k : Int) (b : List UInt8) : (unitsApp k b).length ≤ b.length + 1 := by
  unfold unitsApp
  split <;> simp

/-- The reference's Append, where there is room. -/
theorem refAppend_B {w : World} {R : Rw} {kv dv : Value} {kept : List Fl} {r : Rf} {M : Nat} (h : RefB w R r kv dv kept M) (hF : ∀ i, R.foot i → i < w.heap.size) (hM : M ≤ 80000) {b : List UInt8} {bv : Value} (hb : Byt w bv b) (hbl : b.length ≤ 80000) (hr : 0 ≤ r.room ∧ r.room ≤ 1000000000000) (file : Int) (hf : 0 ≤ file ∧ file ≤ 1048576) (hfull : (b.length : Int) ≤ r.room - sizeKf (r.done.foldl unitK (kf kept))) :
    Calls Tryz.prog 50 #[.agg #[.int .i64 r.room, kv, dv, .int .i64 (r.live : Int), .bool r.gone, .int .i64 r.armed], .int .i64 file, bv] w fun e w' => ∃ dO dn dc, e = .returned (.tuple #[.agg #[.int .i64 (r.putAll (unitsApp file b)).room, kv, .slice dO dn dc, .int .i64 ((r.putAll (unitsApp file b)).live : Int), .bool (r.putAll (unitsApp file b)).gone, .int .i64 (r.putAll (unitsApp file b)).armed], .int .i64 0]) ∧ RefB w' R (r.putAll (unitsApp file b)) kv (.slice dO dn dc) kept (M + b.length + 1) ∧ Adds w w' := by
  obtain ⟨g1, g2, g3⟩ := h.few (by omega)
  refine (refAppend_any h.ref hF g1 g2 (by omega) hr h.armed.1 h.armed.2 file hf hb hfull).mono ?_
  rintro e w7 ⟨dv', rfl, rv', h7⟩
  obtain ⟨dO', dc', rfl, _, _, _⟩ := rv'.done
  have hdn := putAll_done (unitsApp file b) r
  have hul := unitsApp_few file b
  obtain ⟨X, x1, x2, x3⟩ := h.bytes
  have hmany := h.many
  refine ⟨dO', _, dc', by rw [putAll_room], ⟨rv', by rw [putAll_kept]; exact h.same, putAll_bounds _ r h.armed.1 h.armed.2, ?_, ⟨X, x1, ?_, x3⟩⟩, h7⟩
  · rw [hdn, List.length_append]; omega
  · rw [hdn, List.length_append]; omega

theorem fresh_adds {w9 X : World} {o : Obj} (ht : Turn2 w9.heap.size w9.heap.size (w9.alloc o) X) : Adds w9 X := turn2_adds ((Adds.refl w9).alloc o) (Nat.le_refl _) (Nat.le_refl _) ht

end Go.Proofs.YtelkkpomehgcjaaGreat
