/-
  A shelf's box: what turns it, and what lies elsewhere stays.
  A shelf's box that is asked, and an answer's box.
  A shelf in a box that is asked for entries, to be ready, or for nothing: what is told, and the box then.
-/
import Derived.Test.YtiacnmcdfpmcfaaGreatDoorQ30
import Derived.Test.YtiacnmcdfpmcfaaGreatDoorQ31
namespace Go.Proofs.YtiacnmcdfpmcfaaGreatDoor
open Go.RowKit
attribute [local go_sem] cell?_more frozen?_more setCell_more size_more tape_more drew_more drewN_more more_drew more_drewN one_out plus_out plus_end lt_one le_p2 le_p3 le_p4 le_p5 le_p6 le_p7 le_p8 le_p9 le_p10 le_p11 le_p12 le_p13 le_p14 le_p15 le_p16 le_p17 le_p18 le_p19 le_p20 le_p21 le_p22 le_p23 le_p24 le_q0 le_q1 lt_q1 le_q2 lt_q2 le_q3 lt_q3 le_q4 lt_q4 le_q5 lt_q5 le_q6 lt_q6 le_q7 lt_q7 le_q8 lt_q8 le_q9 lt_q9 le_q10 lt_q10 le_q11 lt_q11 le_q12 lt_q12 le_q13 lt_q13 le_q14 lt_q14 le_q15 lt_q15 le_q16 lt_q16 le_q17 lt_q17 le_q18 lt_q18 le_q19 lt_q19 le_q20 lt_q20 le_q21 lt_q21 le_q22 lt_q22 le_q23 lt_q23 le_q24 lt_q24

attribute [local go_sem] cell?_addTo

theorem addTo_adds (W : World) (p : Plus) : Adds W (addTo W p) := ⟨p.os, p.draws, rfl⟩

theorem Oth.set {g i : Nat} {x : Value} {w w' : World} (h : Oth g w w') : Oth g w (w'.setCell ⟨g, i, none⟩ x) :=
  ⟨by simpa using h.1, fun k hk => (Below.heap_setCell w' ⟨g, i, none⟩ x k hk).trans (h.2 k hk)⟩

theorem Oth.mores {g : Nat} {w w2 : World} (h : Oth g w w2) (os : Array Obj) (k k2 : Nat) : Oth g (YtiacnmcdfpmcfaaGreatDoor.more w os k) (YtiacnmcdfpmcfaaGreatDoor.more w2 os k2) := h.more os k

theorem Oth.refl (g : Nat) (w : World) : Oth g w w := ⟨rfl, fun _ _ => rfl⟩

/-- No list of entries lies in a shelf's box. -/
theorem box_apart {w w' : World} {g : Nat} {s : Shl} {v u : Value} {l : List Sh.F} (hu : Slc u) (hb : ShlBox w g s u) (h : Sh.Lst w v l) (ho : Oth g w w') : Sh.Lst w' v l := by
  obtain ⟨ao, cap, rfl, hc, h0 | ⟨b, off, rfl, hlt, hl⟩⟩ := h
  · exact ⟨ao, cap, rfl, hc, .inl h0⟩
  by_cases hn : l = []
  · exact ⟨_, cap, rfl, hc, .inl hn⟩
  have hlen : 0 < l.length := List.length_pos_iff.2 hn
  have hbg : b ≠ g := by
    rintro rfl
    have c1 := (hl 0 hlen).2
    obtain ⟨_, d0, d1, d2, d3, _⟩ := hb.cells
    unfold ShlBox at hb
    have hs : ∀ j, 4 ≤ j → w.cell? ⟨b, j, none⟩ = none := fun j hj => by
      simp only [World.cell?, hb]
      exact Array.getElem?_eq_none (by simpa using hj)
    have hj : off + 0 * 2 + 1 = 1 ∨ off + 0 * 2 + 1 = 2 ∨ off + 0 * 2 + 1 = 3 ∨ 4 ≤ off + 0 * 2 + 1 := by omega
    rcases hj with e | e | e | e
    · rw [e, d1] at c1; cases c1
    · rw [e, d2] at c1; cases c1
    · rw [e, d3] at c1
      obtain ⟨_, _, _, rfl⟩ := hu
      cases c1
    · rw [hs _ e] at c1; cases c1
  refine ⟨_, cap, rfl, hc, .inr ⟨b, off, rfl, by rw [ho.1]; exact hlt, fun j hj => ?_⟩⟩
  obtain ⟨c0, c1⟩ := hl j hj
  have hh := ho.2 b hbg
  exact ⟨by simpa only [World.cell?, hh] using c0, by simpa only [World.cell?, hh] using c1⟩

theorem set_heap {w : World} {g i : Nat} {x : Value} {cs : Array Value} {T : TypeId} (h : w.heap[g]? = some (.cells cs T (0, 0))) : (w.setCell ⟨g, i, none⟩ x).heap[g]? = some (.cells (cs.setIfInBounds i x) T (0, 0)) := by
  simp [World.setCell, Array.getElem?_modify, h]

theorem box_set {w : World} {g : Nat} {s : Shl} {v : Value} (h : ShlBox w g s v) (es' : List Sh.F) (v' : Value) (n : Int) : ShlBox ((w.setCell ⟨g, 3, none⟩ v').setCell ⟨g, 2, none⟩ (.int .i64 n)) g ⟨s.df, s.rdy, n, es'⟩ v' := by
  unfold ShlBox at h ⊢
  have h1 := set_heap (i := 3) (x := v') h
  have h2 := set_heap (i := 2) (x := .int .i64 n) h1
  simpa using h2

theorem grown_set {w X : World} {g i : Nat} {x : Value} (h : w.grownBy X (some g)) : w.grownBy (X.setCell ⟨g, i, none⟩ x) (some g) :=
  ⟨h.os, h.tape, h.output, by simpa using h.size, fun k hk hne => (Below.heap_setCell X ⟨g, i, none⟩ x k (fun e => hne (by rw [e]))).trans (h.block k hk hne)⟩

theorem grown_by {w X : World} (h : Adds w X) (r : Option Nat) : w.grownBy X r :=
  ⟨h.below.os, h.below.tape, h.below.output, h.below.size, fun k hk _ => h.below.block k hk⟩

theorem grown_of {w W' : World} {g i j : Nat} {x y : Value} (h : Adds ((w.setCell ⟨g, i, none⟩ x).setCell ⟨g, j, none⟩ y) W') : w.grownBy W' (some g) := by
  have h1 := grown_by h (some g)
  have h2 : w.grownBy ((w.setCell ⟨g, i, none⟩ x).setCell ⟨g, j, none⟩ y) (some g) := grown_set (grown_set (grown_by (Adds.refl w) _))
  exact ⟨h1.os.trans h2.os, h1.tape.trans h2.tape, h1.output.trans h2.output, Nat.le_trans h2.size h1.size, fun k hk hne => (h1.block k (Nat.lt_of_lt_of_le hk h2.size) hne).trans (h2.block k hk hne)⟩

theorem at_later {X W : World} {o : Obj} {k : Nat} (h : Adds (X.alloc o) W) (hk : k = X.heap.size) : W.heap[k]? = some o := by
  subst hk
  have h1 := Sh.new_block2 X o
  rw [h.below.block _ (by simp)]
  exact h1

theorem grown_trans {a b c : World} {r : Option Nat} (h : a.grownBy b r) (h' : b.grownBy c r) : a.grownBy c r :=
  ⟨h'.os.trans h.os, h'.tape.trans h.tape, h'.output.trans h.output, Nat.le_trans h.size h'.size, fun k hk hne => (h'.block k (Nat.lt_of_lt_of_le hk h.size) hne).trans (h.block k hk hne)⟩

end Go.Proofs.YtiacnmcdfpmcfaaGreatDoor

namespace Go.Proofs.YtiacnmcdfpmcfaaGreatDoor
open Go.RowKit
attribute [local go_sem] cell?_more frozen?_more setCell_more size_more tape_more drew_more drewN_more more_drew more_drewN one_out plus_out plus_end lt_one le_p2 le_p3 le_p4 le_p5 le_p6 le_p7 le_p8 le_p9 le_p10 le_p11 le_p12 le_p13 le_p14 le_p15 le_p16 le_p17 le_p18 le_p19 le_p20 le_p21 le_p22 le_p23 le_p24 le_q0 le_q1 lt_q1 le_q2 lt_q2 le_q3 lt_q3 le_q4 lt_q4 le_q5 lt_q5 le_q6 lt_q6 le_q7 lt_q7 le_q8 lt_q8 le_q9 lt_q9 le_q10 lt_q10 le_q11 lt_q11 le_q12 lt_q12 le_q13 lt_q13 le_q14 lt_q14 le_q15 lt_q15 le_q16 lt_q16 le_q17 lt_q17 le_q18 lt_q18 le_q19 lt_q19 le_q20 lt_q20 le_q21 lt_q21 le_q22 lt_q22 le_q23 lt_q23 le_q24 lt_q24

/-- What is asked turned a box alone. -/
def BoxT (w : World) (g : Nat) (s' : Shl) (w' : World) : Prop := w.grownBy w' (some g) ∧ ∃ v', Slc v' ∧ ShlBox w' g s' v' ∧ Sh.Lst w' v' s'.es

theorem BoxT.grown {w w1 w' : World} {g : Nat} {s' : Shl} (h : BoxT w1 g s' w') (hA : Adds w w1) : BoxT w g s' w' := ⟨grown_trans (grown_by hA _) h.1, h.2⟩

theorem BoxT.adds {w w1 w' : World} {g : Nat} {s' : Shl} (h : BoxT w g s' w1) (hA : Adds w1 w') : BoxT w g s' w' := by
  obtain ⟨h1, v', h2, h3, h4⟩ := h
  exact ⟨grown_trans h1 (grown_by hA _), v', h2, h3.adds hA, h4.adds hA⟩

theorem BoxT.oth {w w1 w' : World} {g k : Nat} {s' : Shl} (h : BoxT w g s' w1) (ho : Oth k w1 w') (hk : w.heap.size ≤ k) (hkk : ∀ v', ShlBox w1 g s' v' → Sh.Lst w1 v' s'.es → Sh.Lst w' v' s'.es) (h1 : w'.os = w1.os) (h2 : w'.tape = w1.tape) (h3 : w'.output = w1.output) (hg : g < w.heap.size) : BoxT w g s' w' := by
  obtain ⟨a, v', b, c, d⟩ := h
  refine ⟨⟨h1.trans a.os, h2.trans a.tape, h3.trans a.output, by rw [ho.1]; exact a.size, fun j hj hne => (ho.2 j (by omega)).trans (a.block j hj hne)⟩, v', b, ?_, hkk v' c d⟩
  unfold ShlBox at c ⊢
  rw [ho.2 g (by omega)]
  exact c

abbrev ansBox : Obj := .cells #[.int .i64 0, .bool false, .slice none 0 0, .slice none 0 0, .slice none 0 0, .int .i64 0, .int .i64 0, .slice none 0 0] 39 (0, 0)

theorem rbox_kept {W w2 : World} {g r : Nat} (h : W.grownBy w2 (some g)) (hr : W.heap[r]? = some ansBox) (hne : r ≠ g) : r < w2.heap.size ∧
    (w2.cell? ⟨r, 0, none⟩ = some (.int .i64 0) ∧ w2.cell? ⟨r, 1, none⟩ = some (.bool false) ∧ w2.cell? ⟨r, 2, none⟩ = some (.slice none 0 0) ∧ w2.cell? ⟨r, 3, none⟩ = some (.slice none 0 0) ∧ w2.cell? ⟨r, 4, none⟩ = some (.slice none 0 0) ∧ w2.cell? ⟨r, 5, none⟩ = some (.int .i64 0) ∧ w2.cell? ⟨r, 6, none⟩ = some (.int .i64 0) ∧ w2.cell? ⟨r, 7, none⟩ = some (.slice none 0 0)) ∧
    (w2.frozen? ⟨r, 0, none⟩ = false ∧ w2.frozen? ⟨r, 1, none⟩ = false ∧ w2.frozen? ⟨r, 2, none⟩ = false ∧ w2.frozen? ⟨r, 3, none⟩ = false ∧ w2.frozen? ⟨r, 4, none⟩ = false ∧ w2.frozen? ⟨r, 5, none⟩ = false ∧ w2.frozen? ⟨r, 6, none⟩ = false ∧ w2.frozen? ⟨r, 7, none⟩ = false) := by
  have hlt := (Array.getElem?_eq_some_iff.1 hr).1
  have h2 : w2.heap[r]? = some ansBox := (h.block r hlt (fun e => hne (Option.some.inj e))).trans hr
  have hlt2 := (Array.getElem?_eq_some_iff.1 h2).1
  refine ⟨hlt2, ⟨?_, ?_, ?_, ?_, ?_, ?_, ?_, ?_⟩, ⟨?_, ?_, ?_, ?_, ?_, ?_, ?_, ?_⟩⟩
  all_goals first
    | (simp only [World.cell?, h2]; rfl)
    | (simp only [World.frozen?, h2]; rfl)

theorem rbox_no {w2 : World} {r : Nat} (h : w2.heap[r]? = some ansBox) (j : Nat) (s : ByteArray) : w2.cell? ⟨r, j, none⟩ ≠ some (.string s) := by
  have hj : j = 0 ∨ j = 1 ∨ j = 2 ∨ j = 3 ∨ j = 4 ∨ j = 5 ∨ j = 6 ∨ j = 7 ∨ 8 ≤ j := by omega
  intro h'
  simp only [World.cell?, h] at h'
  rcases hj with rfl | rfl | rfl | rfl | rfl | rfl | rfl | rfl | e
  iterate 8 (simp at h')
  rw [Array.getElem?_eq_none (by simpa using e)] at h'
  cases h'

theorem pairs_rbox {w w' : World} {r : Nat} {v : Value} {l : List Sh.F} (hr : w.heap[r]? = some ansBox) (h : Sh.Lst w v l) (ho : Oth r w w') : Sh.Lst w' v l := by
  obtain ⟨ao, cap, rfl, hc, h0 | ⟨b, off, rfl, hlt, hl⟩⟩ := h
  · exact ⟨ao, cap, rfl, hc, .inl h0⟩
  by_cases hn : l = []
  · exact ⟨_, cap, rfl, hc, .inl hn⟩
  have hlen : 0 < l.length := List.length_pos_iff.2 hn
  have hbr : b ≠ r := by
    rintro rfl
    exact rbox_no hr _ _ (hl 0 hlen).1
  have hh := ho.2 b hbr
  refine ⟨_, cap, rfl, hc, .inr ⟨b, off, rfl, by rw [ho.1]; exact hlt, fun j hj => ?_⟩⟩
  obtain ⟨c0, c1⟩ := hl j hj
  exact ⟨by simpa only [World.cell?, hh] using c0, by simpa only [World.cell?, hh] using c1⟩

end Go.Proofs.YtiacnmcdfpmcfaaGreatDoor

namespace Go.Proofs.YtiacnmcdfpmcfaaGreatDoor
open Go.RowKit
attribute [local go_sem] cell?_more frozen?_more setCell_more size_more tape_more drew_more drewN_more more_drew more_drewN one_out plus_out plus_end lt_one le_p2 le_p3 le_p4 le_p5 le_p6 le_p7 le_p8 le_p9 le_p10 le_p11 le_p12 le_p13 le_p14 le_p15 le_p16 le_p17 le_p18 le_p19 le_p20 le_p21 le_p22 le_p23 le_p24 le_q0 le_q1 lt_q1 le_q2 lt_q2 le_q3 lt_q3 le_q4 lt_q4 le_q5 lt_q5 le_q6 lt_q6 le_q7 lt_q7 le_q8 lt_q8 le_q9 lt_q9 le_q10 lt_q10 le_q11 lt_q11 le_q12 lt_q12 le_q13 lt_q13 le_q14 lt_q14 le_q15 lt_q15 le_q16 lt_q16 le_q17 lt_q17 le_q18 lt_q18 le_q19 lt_q19 le_q20 lt_q20 le_q21 lt_q21 le_q22 lt_q22 le_q23 lt_q23 le_q24 lt_q24

theorem slc_of {w : World} {v : Value} {l : List Sh.F} (h : Sh.Lst w v l) : Slc v := by
  obtain ⟨a, c, rfl, _⟩ := h
  exact ⟨_, _, _, rfl⟩

theorem boxT_same {w w' : World} {g : Nat} {s : Shl} {v : Value} (hb : ShlBox w g s v) (hv : Sh.Lst w v s.es) (hA : Adds w w') : BoxT w g s w' := ⟨grown_by hA _, v, slc_of hv, hb.adds hA, hv.adds hA⟩

theorem box_ready {w : World} {g : Nat} {s : Shl} {v : Value} (h : ShlBox w g s v) : ShlBox (w.setCell ⟨g, 1, none⟩ (.bool true)) g ⟨s.df, true, s.mark, s.es⟩ v := by
  unfold ShlBox at h ⊢
  have h1 := set_heap (i := 1) (x := .bool true) h
  simpa using h1

/-- Asked for entries, to be ready, or for nothing. -/
theorem ask_small (s : Shl) (v : Value) (g : Nat) (o : Ov) (w : World) (hb : ShlBox w g s v) (hv : Sh.Lst w v s.es) (ho : o.Sl) (he : s.es.length ≤ 900) (hm : Sh.May s.es) (k1 : o.kind ≠ 101) (k2 : o.kind ≠ 102) :
    Calls Tryz.prog 27 #[ptrS g, o.val] w fun e w' => ∃ s' c m ko kn kc, e = .returned (ansV c m (.slice ko kn kc)) ∧ StepT w s o s' (ansV c m (.slice ko kn kc)) w' ∧ BoxT w g s' w' := by
  by_cases h4 : o.kind = 104
  · exact (ask_find s v g o w hb ho h4 hv he hm).mono (by
      rintro e w' ⟨hF, hA⟩
      obtain ⟨c, m, ko, kn, kc, rfl, hF⟩ := hF.shape
      exact ⟨s, c, m, ko, kn, kc, rfl, .inl ⟨h4, rfl, hF⟩, boxT_same hb hv hA⟩)
  · by_cases h3 : o.kind = 103
    · exact (ask_ready s v g o w hb ho h3).mono (by
        rintro e w' ⟨rfl, hA⟩
        refine ⟨⟨s.df, true, s.mark, s.es⟩, 0, 0, none, 0, 0, rfl, .inr (.inl ⟨h3, rfl, rfl⟩), ?_, v, slc_of hv, (box_ready hb).adds hA, ?_⟩
        · exact grown_trans (grown_set (grown_by (Adds.refl w) _)) (grown_by hA _)
        · exact (box_apart (slc_of hv) hb hv ((Oth.refl g w).set)).adds hA)
    · exact (ask_other g o w ho k1 k2 h3 h4).mono (by
        rintro e w' ⟨rfl, hA⟩
        exact ⟨s, 1, 0, none, 0, 0, rfl, .inr (.inr ⟨k1, k2, h3, h4, rfl, rfl⟩), boxT_same hb hv hA⟩)

end Go.Proofs.YtiacnmcdfpmcfaaGreatDoor
