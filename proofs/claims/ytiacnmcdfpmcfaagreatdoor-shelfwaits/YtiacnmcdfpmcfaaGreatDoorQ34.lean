/-
  Apply of shelves, by contract: over what is asked of its box.
  Apply of shelves, by contract: asked for entries, to be ready, or for nothing.
-/
import Derived.Test.YtiacnmcdfpmcfaaGreatDoorQ33
namespace Go.Proofs.YtiacnmcdfpmcfaaGreatDoor
open Go.RowKit
attribute [local go_sem] cell?_more frozen?_more setCell_more size_more tape_more drew_more drewN_more more_drew more_drewN one_out plus_out plus_end lt_one le_p2 le_p3 le_p4 le_p5 le_p6 le_p7 le_p8 le_p9 le_p10 le_p11 le_p12 le_p13 le_p14 le_p15 le_p16 le_p17 le_p18 le_p19 le_p20 le_p21 le_p22 le_p23 le_p24 le_q0 le_q1 lt_q1 le_q2 lt_q2 le_q3 lt_q3 le_q4 lt_q4 le_q5 lt_q5 le_q6 lt_q6 le_q7 lt_q7 le_q8 lt_q8 le_q9 lt_q9 le_q10 lt_q10 le_q11 lt_q11 le_q12 lt_q12 le_q13 lt_q13 le_q14 lt_q14 le_q15 lt_q15 le_q16 lt_q16 le_q17 lt_q17 le_q18 lt_q18 le_q19 lt_q19 le_q20 lt_q20 le_q21 lt_q21 le_q22 lt_q22 le_q23 lt_q23 le_q24 lt_q24

theorem adds_grown {w W w' : World} {g : Nat} (hA : Adds w W) (hg : w.heap.size ≤ g) (h : W.grownBy w' (some g)) : Adds w w' := by
  have b1 := hA.below
  exact Adds.of ⟨h.os.trans b1.os, h.tape.trans b1.tape, h.output.trans b1.output, Nat.le_trans b1.size h.size, fun k hk => by
    rw [h.block k (Nat.lt_of_lt_of_le hk b1.size) (by simp; omega), b1.block k hk]⟩

/-- What is asked of a shelf in a box. -/
def AskOk (o : Ov) (s : Shl) (w : World) (P : Shl → Value → World → World → Prop) : Prop := ∀ W g u, Adds w W → w.heap.size ≤ g → ShlBox W g s u → Sh.Lst W u s.es →
  Calls Tryz.prog 27 #[ptrS g, o.val] W fun e w' => ∃ s' c m ko kn kc, e = .returned (ansV c m (.slice ko kn kc)) ∧ P s' (ansV c m (.slice ko kn kc)) W w' ∧ BoxT W g s' w'

theorem in_more (X : World) (o : Obj) (os : Array Obj) (n : Nat) {k : Nat} (hk : k = X.heap.size) : (more (X.alloc o) os n).heap[k]? = some o := at_later ((Adds.refl _).more os n) hk

/-- What is told stays. -/
structure Stays (P : Shl → Value → World → World → Prop) : Prop where
  adds : ∀ {s : Shl} {a : Value} {W w w' : World}, P s a W w → Adds w w' → P s a W w'
  oth : ∀ {s : Shl} {a : Value} {W w w' : World} {k : Nat}, P s a W w → k < W.heap.size → Oth k w w' → P s a W w'

/-- What Apply tells of it. -/
def AppliedT (w : World) (P : Shl → Value → World → World → Prop) (e : Ending) (w' : World) : Prop :=
  ∃ s' v' ans W, Adds w W ∧ e = .returned (.tuple #[s'.val v', ans, .int .i64 0]) ∧ Sh.Lst w' v' s'.es ∧ P s' ans W w' ∧ Adds w w'

abbrev noBox : Obj := .cells #[.string ⟨#[]⟩, .bool false, .int .i64 0, .slice none 0 0] 24 (0, 0)

theorem nbox_kept {W w2 : World} {g r : Nat} (h : W.grownBy w2 (some g)) (hr : W.heap[r]? = some noBox) (hne : r ≠ g) : r < w2.heap.size ∧
    (w2.cell? ⟨r, 0, none⟩ = some (.string ⟨#[]⟩) ∧ w2.cell? ⟨r, 1, none⟩ = some (.bool false) ∧ w2.cell? ⟨r, 2, none⟩ = some (.int .i64 0) ∧ w2.cell? ⟨r, 3, none⟩ = some (.slice none 0 0)) ∧
    w2.frozen? ⟨r, 0, none⟩ = false ∧ w2.frozen? ⟨r, 1, none⟩ = false ∧ w2.frozen? ⟨r, 2, none⟩ = false ∧ w2.frozen? ⟨r, 3, none⟩ = false := by
  have hlt := (Array.getElem?_eq_some_iff.1 hr).1
  have hh : w2.heap[r]? = some noBox := (h.block r hlt (fun e => hne (Option.some.inj e))).trans hr
  exact ⟨Nat.lt_of_lt_of_le hlt h.size, by simp [World.cell?, hh], by simp [World.frozen?, hh]⟩

theorem list_a {w3 X1 X2 : World} {g2 g4 : Nat} {v : Value} {l : List Sh.F} (hN : w3.heap[g2]? = some noBox) (hM : w3.heap[g4]? = some ansBox) (hne : g2 ≠ g4) (hL : Sh.Lst w3 v l) (h1 : Oth g2 w3 X1) (h2 : Oth g4 X1 X2) : Sh.Lst X2 v l :=
  pairs_rbox ((h1.2 g4 hne.symm).trans hM) (box_apart (s := ⟨⟨#[]⟩, false, 0, []⟩) ⟨_, _, _, rfl⟩ (show ShlBox w3 g2 ⟨⟨#[]⟩, false, 0, []⟩ (.slice none 0 0) from hN) hL h1) h2

theorem list_b {w3 X1 X2 : World} {g2 g4 : Nat} {v : Value} {l : List Sh.F} (hN : w3.heap[g2]? = some noBox) (hM : w3.heap[g4]? = some ansBox) (hne : g2 ≠ g4) (hL : Sh.Lst w3 v l) (h1 : Oth g4 w3 X1) (h2 : Oth g2 X1 X2) : Sh.Lst X2 v l :=
  box_apart (s := ⟨⟨#[]⟩, false, 0, []⟩) ⟨_, _, _, rfl⟩ (show ShlBox X1 g2 ⟨⟨#[]⟩, false, 0, []⟩ (.slice none 0 0) from (h1.2 g2 hne).trans hN) (pairs_rbox hM hL h1) h2

theorem sc_os (w : World) (a : Addr) (v : Value) : (w.setCell a v).os = w.os := rfl
theorem sc_tape (w : World) (a : Addr) (v : Value) : (w.setCell a v).tape = w.tape := rfl
theorem sc_out (w : World) (a : Addr) (v : Value) : (w.setCell a v).output = w.output := rfl

abbrev putS (w : World) (g : Nat) (df : ByteArray) (r : Bool) (m : Int) (v : Value) : World := (((w.setCell ⟨g, 0, none⟩ (.string df)).setCell ⟨g, 1, none⟩ (.bool r)).setCell ⟨g, 2, none⟩ (.int .i64 m)).setCell ⟨g, 3, none⟩ v
abbrev putA (w : World) (r : Nat) (c m : Int) (k : Value) : World := (((((((w.setCell ⟨r, 0, none⟩ (.int .i64 c)).setCell ⟨r, 1, none⟩ (.bool false)).setCell ⟨r, 2, none⟩ (.slice none 0 0)).setCell ⟨r, 3, none⟩ (.slice none 0 0)).setCell ⟨r, 4, none⟩ (.slice none 0 0)).setCell ⟨r, 5, none⟩ (.int .i64 m)).setCell ⟨r, 6, none⟩ (.int .i64 0)).setCell ⟨r, 7, none⟩ k

theorem putS_oth (w : World) (g : Nat) (df : ByteArray) (r : Bool) (m : Int) (v : Value) : Oth g w (putS w g df r m v) := ((((Oth.refl _ _).set).set).set).set
theorem putA_oth (w : World) (r : Nat) (c m : Int) (k : Value) : Oth r w (putA w r c m k) := ((((((((Oth.refl _ _).set).set).set).set).set).set).set).set

theorem applied_end {w W3 w3 X1 X2 F : World} {g k1 k2 : Nat} {s' : Shl} {v' ans : Value} {P : Shl → Value → World → World → Prop} (hS : Stays P) (hA : Adds w W3) (hg : w.heap.size ≤ g) (hG : W3.grownBy w3 (some g)) (hP : P s' ans W3 w3)
    (hk1 : w.heap.size ≤ k1 ∧ k1 < W3.heap.size) (hk2 : w.heap.size ≤ k2 ∧ k2 < W3.heap.size) (h1 : Oth k1 w3 X1) (h2 : Oth k2 X1 X2) (hL : Sh.Lst X2 v' s'.es) (e1 : X2.os = w3.os) (e2 : X2.tape = w3.tape) (e3 : X2.output = w3.output) (hF : Adds X2 F) :
    AppliedT w P (.returned (.tuple #[s'.val v', ans, .int .i64 0])) F := by
  refine ⟨s', v', ans, W3, hA, rfl, hL.adds hF, hS.adds (hS.oth (hS.oth hP hk1.2 h1) hk2.2 h2) hF, ?_⟩
  have b1 := (adds_grown hA hg hG).below
  have b2 := hF.below
  refine Adds.of ⟨b2.os.trans (e1.trans b1.os), b2.tape.trans (e2.trans b1.tape), b2.output.trans (e3.trans b1.output), ?_, fun k hk => ?_⟩
  · have := b1.size
    have := b2.size
    rw [h2.1, h1.1] at this
    omega
  · have hs := b1.size
    rw [b2.block k (by rw [h2.1, h1.1]; omega), h2.2 k (by omega), h1.2 k (by omega), b1.block k hk]

set_option maxRecDepth 20000 in
set_option maxHeartbeats 4000000 in
theorem apply_gen (s : Shl) (v : Value) (o : Ov) (w : World) (P : Shl → Value → World → World → Prop) (h1 : s.df.size ≤ 2000) (h2 : s.es.length ≤ 900) (hv : Sh.Lst w v s.es) (ho : o.Sl) (hm : MayS s) (hS : Stays P) (hK : AskOk o s w P) :
    Calls Tryz.prog 10 #[s.val v, o.val] w (AppliedT w P) := by
  have kC := fun W (hA : Adds w W) => shCheck_any s v W h1 (hv.adds hA) h2
  simp only [if_pos hm] at kC
  have kN := fun W (hA : Adds w W) => clonePairs_any v s.es W (hv.adds hA) (by omega)
  have HK : Hid _ := hK
  clear hK hm h1 h2
  have HV : Hid _ := hv
  obtain ⟨ao, cap, rfl, _, _⟩ := hv
  obtain ⟨df, rdy, mk, es⟩ := s
  obtain ⟨kind, key, to, dv, wv, has, n, most, lv, sv, nv⟩ := o
  simp only [Shl.val, Ov.val, Ov.Sl, Slc] at *
  obtain ⟨⟨a1, b1, c1, rfl⟩, ⟨a2, b2, c2, rfl⟩, ⟨a3, b3, c3, rfl⟩, ⟨a4, b4, c4, rfl⟩, ⟨a5, b5, c5, rfl⟩⟩ := ho
  go_enter Tryz.func10, Tryz.ntmps10
  go_wp2_with (first
    | (go_at_call 11; refine (kC _ (by repeat (first | with_reducible exact Adds.refl _ | with_reducible refine Adds.alloc ?_ _ | with_reducible refine Adds.more ?_ _ _ | with_reducible refine Adds.drew ?_ | with_reducible refine Adds.drewN ?_ _))).mono ?_; rintro e w1 ⟨rfl, os1, n1, rfl⟩)
    | (go_at_call 26; refine (kN _ (by repeat (first | with_reducible exact Adds.refl _ | with_reducible refine Adds.alloc ?_ _ | with_reducible refine Adds.more ?_ _ _ | with_reducible refine Adds.drew ?_ | with_reducible refine Adds.drewN ?_ _))).mono ?_; rintro e w2 ⟨⟨ao2, cap2, rfl, hF2⟩, os2, n2, rfl⟩))
  go_at_call 27
  refine Calls.mono (HK.out _ _ (.slice ao2 es.length cap2) ?_ ?_ ?_ ?_) ?_
  · exact (by repeat (first | with_reducible exact Adds.refl _ | with_reducible refine Adds.alloc ?_ _ | with_reducible refine Adds.more ?_ _ _ | with_reducible refine Adds.drew ?_ | with_reducible refine Adds.drewN ?_ _))
  · omega
  · exact in_more _ _ os2 n2 (by simp [go_sem])
  · exact (fresh_oth hF2.out (Oth.more (Oth.box _ _ _ (by simp [go_sem]; rfl)) os2 n2) (by simp [go_sem]) (Nat.le_refl _)).lst
  rintro e w3 ⟨⟨df', rdy', mk', es'⟩, c', m', ko, kn, kc, rfl, hP, hB⟩
  obtain ⟨hg3, v', ⟨va, vn, vc, rfl⟩, hb3, hl3⟩ := hB
  have hN : (more ((more ((((w.alloc (.cells #[.string df, .bool rdy, .int .i64 mk, .slice ao es.length cap] 24)).alloc (.cells #[.int .i64 kind, .string key, .string to, .slice a1 b1 c1, .slice a2 b2 c2, .bool has, .int .i64 n, .int .i64 most, .slice a3 b3 c3, .slice a4 b4 c4, .slice a5 b5 c5] 31)).alloc noBox).alloc ansBox) os1 n1).alloc (.cells #[.string df, .bool rdy, .int .i64 mk, .slice ao2 es.length cap2] 24)) os2 n2).heap[w.heap.size + 1 + 1]? = some noBox := at_later (by repeat (first | with_reducible exact Adds.refl _ | with_reducible refine Adds.alloc ?_ _ | with_reducible refine Adds.more ?_ _ _ | with_reducible refine Adds.drew ?_ | with_reducible refine Adds.drewN ?_ _)) (by simp [go_sem])
  have hM : (more ((more ((((w.alloc (.cells #[.string df, .bool rdy, .int .i64 mk, .slice ao es.length cap] 24)).alloc (.cells #[.int .i64 kind, .string key, .string to, .slice a1 b1 c1, .slice a2 b2 c2, .bool has, .int .i64 n, .int .i64 most, .slice a3 b3 c3, .slice a4 b4 c4, .slice a5 b5 c5] 31)).alloc noBox).alloc ansBox) os1 n1).alloc (.cells #[.string df, .bool rdy, .int .i64 mk, .slice ao2 es.length cap2] 24)) os2 n2).heap[w.heap.size + 1 + 1 + 1]? = some ansBox := at_later (by repeat (first | with_reducible exact Adds.refl _ | with_reducible refine Adds.alloc ?_ _ | with_reducible refine Adds.more ?_ _ _ | with_reducible refine Adds.drew ?_ | with_reducible refine Adds.drewN ?_ _)) (by simp [go_sem])
  have hA3 : Adds w (more ((more ((((w.alloc (.cells #[.string df, .bool rdy, .int .i64 mk, .slice ao es.length cap] 24)).alloc (.cells #[.int .i64 kind, .string key, .string to, .slice a1 b1 c1, .slice a2 b2 c2, .bool has, .int .i64 n, .int .i64 most, .slice a3 b3 c3, .slice a4 b4 c4, .slice a5 b5 c5] 31)).alloc noBox).alloc ansBox) os1 n1).alloc (.cells #[.string df, .bool rdy, .int .i64 mk, .slice ao2 es.length cap2] 24)) os2 n2) := (by repeat (first | with_reducible exact Adds.refl _ | with_reducible refine Adds.alloc ?_ _ | with_reducible refine Adds.more ?_ _ _ | with_reducible refine Adds.drew ?_ | with_reducible refine Adds.drewN ?_ _))
  generalize more ((more ((((w.alloc (.cells #[.string df, .bool rdy, .int .i64 mk, .slice ao es.length cap] 24)).alloc (.cells #[.int .i64 kind, .string key, .string to, .slice a1 b1 c1, .slice a2 b2 c2, .bool has, .int .i64 n, .int .i64 most, .slice a3 b3 c3, .slice a4 b4 c4, .slice a5 b5 c5] 31)).alloc noBox).alloc ansBox) os1 n1).alloc (.cells #[.string df, .bool rdy, .int .i64 mk, .slice ao2 es.length cap2] 24)) os2 n2 = W3 at *
  obtain ⟨g, hg⟩ : ∃ g, g = w.heap.size + os1.size + 1 + 1 + 1 + 1 := ⟨_, rfl⟩
  rw [← hg] at hb3 hg3 ⊢
  obtain ⟨g2, hg2⟩ : ∃ g2, g2 = w.heap.size + 1 + 1 := ⟨_, rfl⟩
  obtain ⟨g4, hg4⟩ : ∃ g4, g4 = w.heap.size + 1 + 1 + 1 := ⟨_, rfl⟩
  rw [← hg2] at hN
  rw [← hg4] at hM
  obtain ⟨l2, ⟨x0, x1, x2, x3⟩, u0, u1, u2, u3⟩ := nbox_kept hg3 hN (by omega)
  obtain ⟨l4, ⟨z0, z1, z2, z3, z4, z5, z6, z7⟩, y0, y1, y2, y3, y4, y5, y6, y7⟩ := rbox_kept hg3 hM (by omega)
  obtain ⟨lg, q0, q1, q2, q3, _⟩ := hb3.cells
  have HP : Hid _ := hP
  have HB : Hid _ := hb3
  have HG : Hid _ := hg3
  have HL : Hid _ := hl3
  clear hP hb3 hg3 hl3 kC kN HK hF2
  rw [← hg4, ← hg2]
  have d1 : g2 ≠ g4 := by omega
  have d2 : g2 ≠ g := by omega
  have d3 : g4 ≠ g := by omega
  have HG2 : Hid (w.heap.size ≤ g2 ∧ g2 < W3.heap.size) := ⟨by omega, (Array.getElem?_eq_some_iff.1 hN).1⟩
  have HG4 : Hid (w.heap.size ≤ g4 ∧ g4 < W3.heap.size) := ⟨by omega, (Array.getElem?_eq_some_iff.1 hM).1⟩
  have HGG : Hid (w.heap.size ≤ g) := by show _ ≤ _; omega
  have HN : Hid (w3.heap[g2]? = some noBox) := (HG.out.block g2 HG2.out.2 (fun e => d2 (Option.some.inj e))).trans hN
  have HM : Hid (w3.heap[g4]? = some ansBox) := (HG.out.block g4 HG4.out.2 (fun e => d3 (Option.some.inj e))).trans hM
  have HEA : Hid (∀ F, Adds (putA (putS w3 g2 df' rdy' mk' (.slice va vn vc)) g4 c' m' (.slice ko kn kc)) F → AppliedT w P (.returned (.tuple #[.agg #[.string df', .bool rdy', .int .i64 mk', .slice va vn vc], ansV c' m' (.slice ko kn kc), .int .i64 0])) F) := fun F hF =>
    applied_end (s' := ⟨df', rdy', mk', es'⟩) (g := g) (k1 := g2) (k2 := g4) hS hA3 HGG.out HG.out HP.out HG2.out HG4.out (putS_oth _ _ _ _ _ _) (putA_oth _ _ _ _ _) (list_a HN.out HM.out d1 HL.out (putS_oth _ _ _ _ _ _) (putA_oth _ _ _ _ _)) (by simp only [sc_os]) (by simp only [sc_tape]) (by simp only [sc_out]) hF
  have HEB : Hid (∀ F, Adds (putS (putA w3 g4 c' m' (.slice ko kn kc)) g2 df' rdy' mk' (.slice va vn vc)) F → AppliedT w P (.returned (.tuple #[.agg #[.string df', .bool rdy', .int .i64 mk', .slice va vn vc], ansV c' m' (.slice ko kn kc), .int .i64 0])) F) := fun F hF =>
    applied_end (s' := ⟨df', rdy', mk', es'⟩) (g := g) (k1 := g4) (k2 := g2) hS hA3 HGG.out HG.out HP.out HG4.out HG2.out (putA_oth _ _ _ _ _) (putS_oth _ _ _ _ _ _) (list_b HN.out HM.out d1 HL.out (putA_oth _ _ _ _ _) (putS_oth _ _ _ _ _ _)) (by simp only [sc_os]) (by simp only [sc_tape]) (by simp only [sc_out]) hF
  clear hN hM hg hg2 hg4
  simp only [ansV]
  go_wp2
  go_region_with fail
  all_goals
    go_wp2
    refine bodyPost_ret (v := .tuple #[.agg #[.string df', .bool rdy', .int .i64 mk', .slice va vn vc], .agg #[.int .i64 c', .bool false, .slice none 0 0, .slice none 0 0, .slice none 0 0, .int .i64 m', .int .i64 0, .slice ko kn kc], .int .i64 0]) (by simp [results, Tryz.results10, go_sem, l2, l4, x0, x1, x2, x3, z0, z1, z2, z3, z4, z5, z6, z7]) rfl ?_
    first | exact HEA.out _ (by repeat (first | with_reducible exact Adds.refl _ | with_reducible refine Adds.alloc ?_ _ | with_reducible refine Adds.more ?_ _ _ | with_reducible refine Adds.drew ?_ | with_reducible refine Adds.drewN ?_ _)) | exact HEB.out _ (by repeat (first | with_reducible exact Adds.refl _ | with_reducible refine Adds.alloc ?_ _ | with_reducible refine Adds.more ?_ _ _ | with_reducible refine Adds.drew ?_ | with_reducible refine Adds.drewN ?_ _))

end Go.Proofs.YtiacnmcdfpmcfaaGreatDoor

namespace Go.Proofs.YtiacnmcdfpmcfaaGreatDoor
open Go.RowKit
attribute [local go_sem] cell?_more frozen?_more setCell_more size_more tape_more drew_more drewN_more more_drew more_drewN one_out plus_out plus_end lt_one le_p2 le_p3 le_p4 le_p5 le_p6 le_p7 le_p8 le_p9 le_p10 le_p11 le_p12 le_p13 le_p14 le_p15 le_p16 le_p17 le_p18 le_p19 le_p20 le_p21 le_p22 le_p23 le_p24 le_q0 le_q1 lt_q1 le_q2 lt_q2 le_q3 lt_q3 le_q4 lt_q4 le_q5 lt_q5 le_q6 lt_q6 le_q7 lt_q7 le_q8 lt_q8 le_q9 lt_q9 le_q10 lt_q10 le_q11 lt_q11 le_q12 lt_q12 le_q13 lt_q13 le_q14 lt_q14 le_q15 lt_q15 le_q16 lt_q16 le_q17 lt_q17 le_q18 lt_q18 le_q19 lt_q19 le_q20 lt_q20 le_q21 lt_q21 le_q22 lt_q22 le_q23 lt_q23 le_q24 lt_q24

theorem stepT_stays (s : Shl) (o : Ov) : Stays (fun s' ans W w' => StepT W s o s' ans w' ∧ ∃ c m ko kn kc, ans = ansV c m (.slice ko kn kc)) where
  adds := by
    rintro s' a W w w' ⟨h, hs⟩ hA
    refine ⟨?_, hs⟩
    rcases h with ⟨h1, h2, h3⟩ | h | h
    · exact .inl ⟨h1, h2, h3.adds hA⟩
    · exact .inr (.inl h)
    · exact .inr (.inr h)
  oth := by
    rintro s' a W w w' k ⟨h, hs⟩ hk ho
    refine ⟨?_, hs⟩
    rcases h with ⟨h1, h2, h3⟩ | h | h
    · exact .inl ⟨h1, h2, h3.oth ho hk (Nat.le_refl _)⟩
    · exact .inr (.inl h)
    · exact .inr (.inr h)

theorem stepT_low {w W : World} {s s' : Shl} {o : Ov} {ans : Value} {w' : World} (h : StepT W s o s' ans w') (hs : w.heap.size ≤ W.heap.size) : StepT w s o s' ans w' := by
  rcases h with ⟨h1, h2, h3 | h3 | ⟨h3, h4, kv, h5, B, W0, hB, ho⟩⟩ | h | h
  · exact .inl ⟨h1, h2, .inl h3⟩
  · exact .inl ⟨h1, h2, .inr (.inl h3)⟩
  · exact .inl ⟨h1, h2, .inr (.inr ⟨h3, h4, kv, h5, B, W0, Nat.le_trans hs hB, ho⟩)⟩
  · exact .inr (.inl h)
  · exact .inr (.inr h)

theorem apply_ok : ApplyOk := by
  intro s v o w h1 h2 hv ho hm k1 k2
  refine (apply_gen s v o w _ (by omega) (by omega) hv ho hm (stepT_stays s o) (fun W g u hA hg hb hu => ?_)).mono ?_
  · refine (ask_small s u g o W hb hu ho (by omega) hm.2.1 k1 k2).mono ?_
    rintro e w' ⟨s', c, m, ko, kn, kc, rfl, hS, hB⟩
    exact ⟨s', c, m, ko, kn, kc, rfl, ⟨hS, c, m, ko, kn, kc, rfl⟩, hB⟩
  · rintro e w' ⟨s', v', ans, W, hA, rfl, hl, ⟨hS, _⟩, hA'⟩
    refine ⟨⟨s', v', ans, rfl, hl, ?_⟩, hA'⟩
    exact stepT_low hS hA.below.size

end Go.Proofs.YtiacnmcdfpmcfaaGreatDoor
