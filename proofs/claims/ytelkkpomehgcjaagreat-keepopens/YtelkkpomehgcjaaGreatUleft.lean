/-
  The reference's functions Seen, Left and at by contracts.
-/
import Derived.Test.YtelkkpomehgcjaaGreatUfiles
namespace Go.Proofs.YtelkkpomehgcjaaGreat
open Go.RowKit Go.Maps
attribute [local go_sem] cell?_more frozen?_more setCell_more size_more tape_more drew_more drewN_more more_drew more_drewN more_more one_out plus_out plus_end lt_one le_p2 le_p3 le_p4 le_p5 le_p6 le_p7 le_p8 le_p9 le_p10 le_p11 le_p12 le_p13 le_p14 le_p15 le_p16 le_p17 le_p18 le_p19 le_p20 le_p21 le_p22 le_p23 le_p24 le_q0 le_q1 lt_q1 le_q2 lt_q2 le_q3 lt_q3 le_q4 lt_q4 le_q5 lt_q5 le_q6 lt_q6 le_q7 lt_q7 le_q8 lt_q8 le_q9 lt_q9 le_q10 lt_q10 le_q11 lt_q11 le_q12 lt_q12 le_q13 lt_q13 le_q14 lt_q14 le_q15 lt_q15 le_q16 lt_q16 le_q17 lt_q17 le_q18 lt_q18 le_q19 lt_q19 le_q20 lt_q20 le_q21 lt_q21 le_q22 lt_q22 le_q23 lt_q23 le_q24 lt_q24

/-- The value of the reference's reel. -/
abbrev refVal (room live armed : Int) (gone : Bool) (kv dv : Value) : Value := .agg #[.int .i64 room, kv, dv, .int .i64 live, .bool gone, .int .i64 armed]

theorem refSeen_any {w : World} {R : Rw} {kv dv : Value} {kept : List Fl} {done : List Un} (h : RefV w R kv dv kept done) (hF : ∀ i, R.foot i → i < w.heap.size) (hk : kept.length + done.length ≤ 1000000) (hb : ∀ p ∈ kept, p.2.2.length ≤ 100000) (hd : done.length ≤ 800000) (room live armed : Int) (gone : Bool) :
    Calls Tryz.prog 21 #[.agg #[.int .i64 room, kv, dv, .int .i64 live, .bool gone, .int .i64 armed]] w fun e w' => ∃ r l', e = .returned r ∧ FilesV w' R r l' ∧ kf l' = done.foldl unitK (kf kept) ∧ Adds w w' := by
  have HR : Hid (RefV w R kv dv kept done) := h
  have HFt : Hid (∀ i, R.foot i → i < w.heap.size) := hF
  obtain ⟨ko, kc, rfl, _⟩ := h.kept.slice
  obtain ⟨dO, dc, rfl, _, _, _⟩ := h.done
  have kk := fun (w1 : World) (h1 : Adds w w1) => refFiles_any (w := w1) (R := R) (HR.out.adds h1) (fun i hi => Nat.lt_of_lt_of_le (HFt.out i hi) h1.below.size) hk hb hd room live armed gone done.length (Nat.le_refl _)
  clear h hF
  go_enter Tryz.func21, Tryz.ntmps21
  go_wp2_with (go_at_call 37; refine (kk _ (by repeat (first | with_reducible exact Adds.refl _ | with_reducible refine Adds.alloc ?_ _ | with_reducible refine Adds.more ?_ _ _ | with_reducible refine Adds.drew ?_ | with_reducible refine Adds.drewN ?_ _))).mono ?_; rintro e w5 ⟨r5, l5, rfl, f5, k5, a5⟩)
  go_ret
  refine ⟨_, _, rfl, f5, ?_, Adds.trans (by repeat (first | with_reducible exact Adds.refl _ | with_reducible refine Adds.alloc ?_ _ | with_reducible refine Adds.more ?_ _ _ | with_reducible refine Adds.drew ?_ | with_reducible refine Adds.drewN ?_ _)) a5⟩
  rw [k5, List.take_length]

/-- The bytes of files, counted. -/
def sizeKf (l : Kf) : Nat := (l.map fun p => p.2.length).sum

theorem sizeKf_take (l : Kf) (i : Nat) (hi : i < l.length) : sizeKf (l.take (i + 1)) = sizeKf (l.take i) + l[i].2.length := by
  unfold sizeKf
  rw [List.take_succ_eq_append_getElem hi]
  simp only [List.map_append, List.sum_append, List.map_cons, List.map_nil, List.sum_cons, List.sum_nil, Nat.add_zero]

theorem kf_take (l : List Fl) (i : Nat) : (kf l).take i = kf (l.take i) := by simp [kf, List.map_take]

theorem sizeKf_le : ∀ (l : List Fl) (M : Nat), (∀ p ∈ l, p.2.2.length ≤ M) → sizeKf (kf l) ≤ l.length * M
  | [], _, _ => by simp [sizeKf, kf]
  | f :: r, M, h => by
    have h1 := sizeKf_le r M (fun p hp => h p (by simp [hp]))
    have h2 := h f (by simp)
    simp only [sizeKf, kf, List.map_cons, List.sum_cons, List.length_cons, Nat.add_mul] at h1 ⊢
    omega

theorem refLeft_any {w : World} {R : Rw} {kv dv : Value} {kept : List Fl} {done : List Un} (h : RefV w R kv dv kept done) (hF : ∀ i, R.foot i → i < w.heap.size) (hk : kept.length + done.length ≤ 1000000) (hb : ∀ p ∈ kept, p.2.2.length ≤ 100000) (hd : done.length ≤ 800000) (room live armed : Int) (gone : Bool) (hr : 0 ≤ room ∧ room ≤ 1000000000000) :
    Calls Tryz.prog 75 #[.agg #[.int .i64 room, kv, dv, .int .i64 live, .bool gone, .int .i64 armed]] w fun e w' => e = .returned (.int .i64 (room - sizeKf (done.foldl unitK (kf kept)))) ∧ Adds w w' := by
  have HR : Hid (RefV w R kv dv kept done) := h
  have HFt : Hid (∀ i, R.foot i → i < w.heap.size) := hF
  have HB : Hid (∀ p ∈ kept, p.2.2.length ≤ 100000) := hb
  obtain ⟨ko, kc, rfl, _⟩ := h.kept.slice
  obtain ⟨dO, dc, rfl, _, _, _⟩ := h.done
  have kk := fun (w1 : World) (h1 : Adds w w1) => refSeen_any (w := w1) (R := R) (HR.out.adds h1) (fun i hi => Nat.lt_of_lt_of_le (HFt.out i hi) h1.below.size) hk hb hd room live armed gone
  clear h hF hb
  go_enter Tryz.func75, Tryz.ntmps75
  go_wp2_with (go_at_call 21; refine (kk _ (by repeat (first | with_reducible exact Adds.refl _ | with_reducible refine Adds.alloc ?_ _ | with_reducible refine Adds.more ?_ _ _ | with_reducible refine Adds.drew ?_ | with_reducible refine Adds.drewN ?_ _))).mono ?_; rintro e w5 ⟨r5, l5, rfl, f5, k5, a5⟩)
  have HA : Hid (Adds w w5) := Adds.trans (by repeat (first | with_reducible exact Adds.refl _ | with_reducible refine Adds.alloc ?_ _ | with_reducible refine Adds.more ?_ _ _ | with_reducible refine Adds.drew ?_ | with_reducible refine Adds.drewN ?_ _)) a5
  have HV : Hid (FilesV w5 R r5 l5) := f5
  have HK : Hid (kf l5 = done.foldl unitK (kf kept)) := k5
  obtain ⟨so, sc, rfl, _⟩ := f5.slice
  clear f5 k5 a5 kk
  have HL : Hid (l5.length ≤ 1000000 ∧ ∀ p ∈ l5, p.2.2.length ≤ 1000000) := by
    constructor
    · have h1 := foldl_length done (kf kept)
      rw [← HK.out, kf_length, kf_length] at h1
      omega
    · intro p hp
      have h1 := foldl_bytes done (kf kept) 100000 (by omega) (fun q hq => by
        obtain ⟨x, hx, rfl⟩ := List.mem_map.1 hq
        exact HB.out x hx) (p.1, p.2.2) (by rw [← HK.out]; exact List.mem_map.2 ⟨p, hp, rfl⟩)
      simp at h1
      omega
  go_loopw [3, 5] (fun v i W => ∃ j : Nat, j ≤ l5.length ∧ i = .int .i64 (j : Int) ∧ v = .int .i64 (room - sizeKf (kf (l5.take j))) ∧ W = w5) (fun _ i _ => (l5.length - intOf i).toNat)
  case atStart => exact ⟨0, by omega, rfl, by simp [kf, sizeKf], rfl⟩
  case round =>
    obtain ⟨j, hj, rfl, rfl, rfl⟩ := hrel
    by_cases hlt : j < l5.length
    · obtain ⟨b, off, cap', he, _, hbl, e0, e1, hs⟩ := FilesV.at HV.out (i := j) hlt
      simp only [Value.slice.injEq, true_and] at he
      obtain ⟨rfl, x2⟩ := he
      clear x2
      obtain ⟨bo, bc, hsl, _, _⟩ := hs
      have hs1 := sizeKf_le (l5.take j) 1000000 (fun p hp => HL.out.2 p (List.mem_of_mem_take hp))
      have hs2 := sizeKf_take (kf l5) j (by rw [kf_length]; exact hlt)
      rw [kf_take, kf_take] at hs2
      have hs3 : (kf l5)[j]'(by rw [kf_length]; exact hlt) = (l5[j].1, l5[j].2.2) := by simp [kf]
      rw [hs3] at hs2
      simp only at hs2
      have hs4 := HL.out.2 _ (List.getElem_mem hlt)
      have hs5 := HL.out.1
      have hs6 : (l5.take j).length = j := by simp; omega
      rw [hs6] at hs1
      have hs7 : j * 1000000 ≤ 1000000 * 1000000 := Nat.mul_le_mul_right _ (by omega)
      generalize sizeKf (kf (l5.take j)) = S at *
      rw [hsl] at e1
      generalize l5[j].2.2.length = M at *
      have i1 : (j : Int) < (l5.length : Int) := by omega
      go_wp2
      go_roundw
      case rel => exact ⟨j + 1, by omega, by go_num, by rw [hs2]; go_num, trivial⟩
      case measure => simp [intOf]; omega
    · obtain rfl : j = l5.length := by omega
      have i1 : ¬ ((l5.length : Int) < (l5.length : Int)) := by omega
      go_wp2
      go_ret
      rw [← HK.out]
      exact ⟨rfl, HA.out⟩

end Go.Proofs.YtelkkpomehgcjaaGreat
