/-
  copyNews of package feed, by contract.
-/
import Derived.Test.YtpjhohmbifpogaaCpn
namespace Go.Proofs.Ytpjhohmbifpogaa
open Go.RowKit
attribute [local go_sem] cell?_more frozen?_more setCell_more size_more tape_more drew_more drewN_more more_drew more_drewN one_out plus_out plus_end lt_one le_p2 le_p3 le_p4 le_p5 le_p6 le_p7 le_p8 le_p9 le_p10 le_p11 le_p12 le_p13 le_p14 le_p15 le_p16 le_p17 le_p18 le_p19 le_p20 le_p21 le_p22 le_p23 le_p24 le_q0 le_q1 lt_q1 le_q2 lt_q2 le_q3 lt_q3 le_q4 lt_q4 le_q5 lt_q5 le_q6 lt_q6 le_q7 lt_q7 le_q8 lt_q8 le_q9 lt_q9 le_q10 lt_q10 le_q11 lt_q11 le_q12 lt_q12 le_q13 lt_q13 le_q14 lt_q14 le_q15 lt_q15 le_q16 lt_q16 le_q17 lt_q17 le_q18 lt_q18 le_q19 lt_q19 le_q20 lt_q20 le_q21 lt_q21 le_q22 lt_q22 le_q23 lt_q23 le_q24 lt_q24

/-- From block n on nothing has turned, and nothing has gone. -/
def Far (n : Nat) (w w' : World) : Prop := w.heap.size ≤ w'.heap.size ∧ ∀ g, n ≤ g → g < w.heap.size → w'.heap[g]? = w.heap[g]?

theorem Far.refl (n : Nat) (w : World) : Far n w w := ⟨Nat.le_refl _, fun _ _ _ => rfl⟩
theorem Far.mono {n m : Nat} {w w' : World} (h : Far n w w') (hm : n ≤ m) : Far m w w' := ⟨h.1, fun g hg => h.2 g (Nat.le_trans hm hg)⟩
theorem alloc_at {w : World} (o : Obj) {g : Nat} (h : g < w.heap.size) : (w.alloc o).heap[g]? = w.heap[g]? := by
  show (w.heap.push o)[g]? = _
  simp [Array.getElem?_push, Nat.ne_of_lt h]
theorem alloc_size (w : World) (o : Obj) : (w.alloc o).heap.size = w.heap.size + 1 := by
  show (w.heap.push o).size = _
  simp
theorem Far.alloc {n : Nat} {w w' : World} (h : Far n w w') (o : Obj) : Far n w (w'.alloc o) :=
  ⟨by rw [alloc_size]; exact Nat.le_succ_of_le h.1, fun g hg hl => (alloc_at o (Nat.lt_of_lt_of_le hl h.1)).trans (h.2 g hg hl)⟩
theorem Far.more {n : Nat} {w w' : World} (h : Far n w w') (os : Array Obj) (k : Nat) : Far n w (Ytpjhohmbifpogaa.more w' os k) :=
  ⟨by rw [size_more]; exact Nat.le_trans h.1 (Nat.le_add_right _ _), fun g hg hl => (more_block os k (Nat.lt_of_lt_of_le hl h.1)).trans (h.2 g hg hl)⟩
theorem Far.mores {n : Nat} {w w' : World} (h : Far n w w') (hs : w'.heap.size = w.heap.size) (os : Array Obj) (k k' : Nat) : Far n (Ytpjhohmbifpogaa.more w os k) (Ytpjhohmbifpogaa.more w' os k') := by
  refine ⟨by rw [size_more, size_more, hs]; exact Nat.le_refl _, fun g hg hl => ?_⟩
  by_cases hw : g < w.heap.size
  · rw [more_block os k' (by omega), more_block os k hw, h.2 g hg hw]
  · show (w'.heap ++ os)[g]? = (w.heap ++ os)[g]?
    rw [Array.getElem?_append_right (by omega), Array.getElem?_append_right (by omega), hs]
theorem Far.allocs {n : Nat} {w w' : World} (h : Far n w w') (hs : w'.heap.size = w.heap.size) (o : Obj) : Far n (w.alloc o) (w'.alloc o) := by
  refine ⟨by rw [alloc_size, alloc_size, hs]; exact Nat.le_refl _, fun g hg hl => ?_⟩
  by_cases hw : g < w.heap.size
  · rw [alloc_at o (by omega), alloc_at o hw, h.2 g hg hw]
  · rw [alloc_size] at hl
    obtain rfl : g = w.heap.size := by omega
    rw [new_block2, ← hs, new_block2]
theorem Far.low {n : Nat} {w w' : World} (_h : Far n w w') (hs : w'.heap.size = w.heap.size) (hn : w.heap.size < n) (o o' : Obj) : Far n (w.alloc o) (w'.alloc o') := by
  refine ⟨by rw [alloc_size, alloc_size, hs]; exact Nat.le_refl _, fun g hg hl => ?_⟩
  rw [alloc_size] at hl
  omega

theorem row_far {w w' : World} {B : Nat} {ty : TypeId} {k : Nat} {v : Value} {n : Nat} {xs : List Value} (h : w.ownsRow B ty k v n xs) (hk : Far B w w') : w'.ownsRow B ty k v n xs := by
  refine ⟨h.1, ?_⟩
  rcases h.2 with h | ⟨g, cap, cur, e, hb, hg, r⟩
  · exact .inl h
  · refine .inr ⟨g, cap, cur, e, hb, (hk.2 g hb ?_).trans hg, r⟩
    by_cases hl : g < w.heap.size
    · exact hl
    · rw [Array.getElem?_eq_none (by omega)] at hg
      cases hg

theorem row_lower {w : World} {B C : Nat} {ty : TypeId} {k : Nat} {v : Value} {n : Nat} {xs : List Value} (h : w.ownsRow B ty k v n xs) (hC : C ≤ B) : w.ownsRow C ty k v n xs := by
  refine ⟨h.1, ?_⟩
  rcases h.2 with h | ⟨g, cap, cur, e, hb, r⟩
  · exact .inl h
  · exact .inr ⟨g, cap, cur, e, Nat.le_trans hC hb, r⟩

theorem RowF.far {w w' : World} {B : Nat} {v : Value} {fs : List F} (h : RowF B w v fs) (hk : Far B w w') : RowF B w' v fs := row_far h hk

theorem OwnH.far {B C : Nat} {v : Value} {rs : List Rh} {W0 w w' : World} (h : OwnH B v rs W0 w) (hk : Far B w w') (hC : C ≤ B) : OwnH C v rs w' w' :=
  ⟨row_lower (row_far h.1 hk) hC, Below.refl _ _, Nat.le_trans hC (Nat.le_trans h.2.2.1 hk.1), fun r hr => row_lower (row_far (h.2.2.2 r hr) hk) hC⟩

theorem grown_none {w w' : World} (h : w.grownBy w' none) : Adds w w' := Adds.of ⟨h.os, h.tape, h.output, h.size, fun k hk => h.block k hk (by simp)⟩

theorem RowF.box {w : World} {O : Obj} (O' : Obj) {os : Array Obj} {n : Nat} {v : Value} {fs : List F} (h : RowF (w.alloc O).heap.size (more (w.alloc O) os n) v fs) : RowF (w.heap.size + 1) (more (w.alloc O') os n) v fs := by
  rw [alloc_size] at h
  exact h.far (((Far.refl _ w).low rfl (Nat.lt_succ_self _) O O').mores (by rw [alloc_size, alloc_size]) os n n)

set_option maxHeartbeats 2000000 in
set_option maxRecDepth 20000 in
theorem copyNews_any (s : Value) (ds : List Ch) (w : World) (h : LstH w s ds) (hl6 : ds.length ≤ 1000) (hd6 : ∀ d ∈ ds, d.doc.length ≤ 1000) :
    Calls Try.prog 33 #[s] w fun e w' => ∃ v, e = .returned v ∧ ∃ rs, OwnH w.heap.size v rs w w' ∧ rs.map (·.1) = ds := by
  obtain ⟨ao, cap, rfl, hcap, hlo⟩ := h
  have HD6 : Hid (∀ d ∈ ds, d.doc.length ≤ 1000) := hd6
  clear hd6
  go_enter Try.func33, Try.ntmps33
  go_wp2
  go_loopw [3, 8] (fun nv i wr => ∃ (j : Nat) (rs : List Rh), j ≤ ds.length ∧ i = .int .i64 j ∧ Hid (OwnH w.heap.size nv rs w wr) ∧ Hid (rs.map (·.1) = ds.take j) ∧ Hid (rs.length = j)) (fun _ i _ => ds.length - (intOf i).toNat)
  case atStart => exact ⟨0, [], Nat.zero_le _, rfl, OwnH.nil w, by show _ = _; simp, rfl⟩
  case round =>
    obtain ⟨j, rs, hj, rfl, HO, HM, HR⟩ := hrel
    have HA : Hid (Adds w wr) := Adds.of HO.out.2.1
    have hrl : rs.length ≤ 1000 := by rw [HR.out]; omega
    by_cases hlt : j < ds.length
    · rcases hlo with rfl | ⟨b, off, rfl, hb, hl⟩
      · simp at hlt
      obtain ⟨v, c0, c1, c2, c3, hdoc⟩ := hl.adds HA.out hb j hlt
      have hbl : b < wr.heap.size := Nat.lt_of_lt_of_le hb HA.out.below.size
      have hlt' : (j : Int) < (ds.length : Int) := by omega
      have kC := fun W' (hA : Adds wr W') => clone_rowH v ds[j].doc W' (hdoc.adds hA) (HD6.out _ (List.getElem_mem hlt))
      have HN : Hid (∀ v : Value, (rs ++ [((ds[j], v) : Rh)]).map (·.1) = ds.take (j + 1)) := fun v => takeH_next hlt HM.out v
      have hBw : w.heap.size ≤ wr.heap.size := HA.out.below.size
      obtain ⟨vo, vc, rfl, _, _⟩ := hdoc
      have he : ∃ ps ky hs dc, ds[j] = ⟨ps, ky, hs, dc⟩ := ⟨_, _, _, _, rfl⟩
      obtain ⟨ps, ky, hs, dc, he⟩ := he
      rw [he] at c0 c1 c2 c3 kC
      have HN' : Hid (∀ v : Value, (rs ++ [((⟨ps, ky, hs, dc⟩, v) : Rh)]).map (·.1) = ds.take (j + 1)) := fun v => by rw [← he]; exact HN.out v
      clear HN he
      simp only at c0 c1 c2 c3 kC
      go_wp2_with (first
        | (go_at_call 50; refine (kC _ (by repeat (first | with_reducible exact Adds.refl _ | with_reducible refine Adds.alloc ?_ _ | with_reducible refine Adds.more ?_ _ _ | with_reducible refine Adds.drew ?_ | with_reducible refine Adds.drewN ?_ _))).mono ?_; rintro e w5 ⟨⟨v5, c5, rfl, HL5⟩, os5, n5, rfl⟩)
        | (at_builtin; refine ownH_app rfl (.tmp 16) (.tmp 18) rfl (B := w.heap.size) (fs := rs) (W0 := w) ?_ rfl ((⟨ps, ky, hs, dc⟩, .slice v5 dc.length c5) : Rh) rfl ?_ ?_ ?_ ?_; exact OwnH.adds HO.out (by repeat (first | with_reducible exact Adds.refl _ | with_reducible refine Adds.alloc ?_ _ | with_reducible refine Adds.more ?_ _ _ | with_reducible refine Adds.drew ?_ | with_reducible refine Adds.drewN ?_ _)); exact at_newH _ _ _ (by simp [go_sem]); (refine RowF.low (RowF.adds (RowF.box _ (Hid.out HL5)) (by repeat (first | with_reducible exact Adds.refl _ | with_reducible refine Adds.alloc ?_ _ | with_reducible refine Adds.more ?_ _ _ | with_reducible refine Adds.drew ?_ | with_reducible refine Adds.drewN ?_ _))) ?_; omega); omega; intro v6 w6 HO6'; have HO6 : Hid (OwnH w.heap.size v6 (rs ++ [((⟨ps, ky, hs, dc⟩, .slice v5 dc.length c5) : Rh)]) w w6) := HO6'; clear HO6'))
      go_roundw
      case rel => exact ⟨j + 1, rs ++ [((⟨ps, ky, hs, dc⟩, .slice v5 dc.length c5) : Rh)], by omega, by go_num, HO6, HN'.out _, by show _ = _; simp [HR.out]⟩
      case measure => simp [intOf]; omega
    · have hlt' : ¬ (j : Int) < (ds.length : Int) := by omega
      have hj' : j = ds.length := by omega
      subst hj'
      rw [List.take_length] at HM
      go_wp2
      go_ret
      exact ⟨_, rfl, rs, HO.out, HM.out⟩

end Go.Proofs.Ytpjhohmbifpogaa
