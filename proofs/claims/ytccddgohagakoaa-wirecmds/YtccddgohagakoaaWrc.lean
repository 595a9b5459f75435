/-
  What of package wire writes a command: cmd, by contract.
-/
import Derived.Test.YtccddgohagakoaaWrb
import Derived.Deep.RegionHeld3
namespace Go.Proofs.Ytccddgohagakoaa
open Go.RowKit
attribute [local go_sem] cell?_more frozen?_more setCell_more size_more tape_more drew_more drewN_more more_drew more_drewN one_out plus_out plus_end lt_one le_p2 le_p3 le_p4 le_p5 le_p6 le_p7 le_p8 le_p9 le_p10 le_p11 le_p12 le_p13 le_p14 le_p15 le_p16 le_p17 le_p18 le_p19 le_p20 le_p21 le_p22 le_p23 le_p24 le_q0 le_q1 lt_q1 le_q2 lt_q2 le_q3 lt_q3 le_q4 lt_q4 le_q5 lt_q5 le_q6 lt_q6 le_q7 lt_q7 le_q8 lt_q8 le_q9 lt_q9 le_q10 lt_q10 le_q11 lt_q11 le_q12 lt_q12 le_q13 lt_q13 le_q14 lt_q14 le_q15 lt_q15 le_q16 lt_q16 le_q17 lt_q17 le_q18 lt_q18 le_q19 lt_q19 le_q20 lt_q20 le_q21 lt_q21 le_q22 lt_q22 le_q23 lt_q23 le_q24 lt_q24

theorem tr_cmd {W : World} {B : Nat} {kind chain epoch node : Int} {df : ByteArray} {ns : List Int} {lo : Option Addr} {ln lc : Nat} (hB : B ≤ W.heap.size) (hd : df.size ≤ 9223372036854775807) (hT : Tr (fun b => B ≤ b) 1 W (.slice lo ln lc) (ns.map tNum)) :
    Tr (fun b => B ≤ b) 2 (W.alloc (.cells #[.int .i64 1, .int .i64 kind, .string ⟨#[]⟩, .slice none 0 0, .int .i64 1, .int .i64 chain, .string ⟨#[]⟩, .slice none 0 0, .int .i64 1, .int .i64 epoch, .string ⟨#[]⟩, .slice none 0 0, .int .i64 1, .int .i64 node, .string ⟨#[]⟩, .slice none 0 0, .int .i64 2, .int .i64 0, .string df, .slice none 0 0, .int .i64 3, .int .i64 0, .string ⟨#[]⟩, .slice lo ln lc] 43)) (.slice (some ⟨W.heap.size, 0, none⟩) 6 6) (cmdT ⟨kind, chain, epoch, node, df, ns⟩).list := by
  have hA : Adds W (W.alloc (.cells #[.int .i64 1, .int .i64 kind, .string ⟨#[]⟩, .slice none 0 0, .int .i64 1, .int .i64 chain, .string ⟨#[]⟩, .slice none 0 0, .int .i64 1, .int .i64 epoch, .string ⟨#[]⟩, .slice none 0 0, .int .i64 1, .int .i64 node, .string ⟨#[]⟩, .slice none 0 0, .int .i64 2, .int .i64 0, .string df, .slice none 0 0, .int .i64 3, .int .i64 0, .string ⟨#[]⟩, .slice lo ln lc] 43)) := (Adds.refl _).alloc _
  have hnil : ∀ s : Value, s = .slice none 0 0 → Tr (fun b => B ≤ b) 1 (W.alloc (.cells #[.int .i64 1, .int .i64 kind, .string ⟨#[]⟩, .slice none 0 0, .int .i64 1, .int .i64 chain, .string ⟨#[]⟩, .slice none 0 0, .int .i64 1, .int .i64 epoch, .string ⟨#[]⟩, .slice none 0 0, .int .i64 1, .int .i64 node, .string ⟨#[]⟩, .slice none 0 0, .int .i64 2, .int .i64 0, .string df, .slice none 0 0, .int .i64 3, .int .i64 0, .string ⟨#[]⟩, .slice lo ln lc] 43)) s [] := fun s e => by rw [e]; exact Tr.nil _ _ _
  refine ⟨_, 6, rfl, Nat.le_refl _, .inr ⟨W.heap.size, 0, rfl, by simp, hB, fun j hj => ?_⟩⟩
  match j, hj with
  | 0, _ => exact ⟨.slice none 0 0, by simp [cmdT, tList, tNum, T.list, T.kind, T.num, T.text], Nat.zero_le _, hnil _ rfl⟩
  | 1, _ => exact ⟨.slice none 0 0, by simp [cmdT, tList, tNum, T.list, T.kind, T.num, T.text], Nat.zero_le _, hnil _ rfl⟩
  | 2, _ => exact ⟨.slice none 0 0, by simp [cmdT, tList, tNum, T.list, T.kind, T.num, T.text], Nat.zero_le _, hnil _ rfl⟩
  | 3, _ => exact ⟨.slice none 0 0, by simp [cmdT, tList, tNum, T.list, T.kind, T.num, T.text], Nat.zero_le _, hnil _ rfl⟩
  | 4, _ => exact ⟨.slice none 0 0, by simp [cmdT, tList, tText, T.list, T.kind, T.num, T.text], hd, hnil _ rfl⟩
  | 5, _ => exact ⟨.slice lo ln lc, by simp [cmdT, tList, T.list, T.kind, T.num, T.text], Nat.zero_le _, hT.adds hA⟩
  | (n + 6), hj => simp [cmdT, tList, T.list] at hj; omega

theorem cmd_fin {w X w5 F : World} {P p : Nat} {fv : Value} {room kind chain epoch node : Int} {df : ByteArray} {ns : List Int} {lo : Option Addr} {ln lc : Nat} (hp : p = w.heap.size) (hXs : X.heap.size = w.heap.size + 1 + 1) (hXA : Adds w X) (hP : P < w.heap.size) (hW : Wb P w5 fv room false) (hG : X.grownBy w5 (some P))
    (hT : Tr (fun b => X.heap.size ≤ b) 1 w5 (.slice lo ln lc) (ns.map tNum)) (hd : df.size ≤ 9223372036854775807)
    (hF : Adds (((((w5.setCell ⟨p + 1, 0, none⟩ (.int .i64 3)).setCell ⟨p + 1, 1, none⟩ (.int .i64 0)).setCell ⟨p + 1, 2, none⟩ (.string ⟨#[]⟩)).setCell ⟨p + 1, 3, none⟩ (.slice (some ⟨w5.heap.size, 0, none⟩) 6 6)).alloc (.cells #[.int .i64 1, .int .i64 kind, .string ⟨#[]⟩, .slice none 0 0, .int .i64 1, .int .i64 chain, .string ⟨#[]⟩, .slice none 0 0, .int .i64 1, .int .i64 epoch, .string ⟨#[]⟩, .slice none 0 0, .int .i64 1, .int .i64 node, .string ⟨#[]⟩, .slice none 0 0, .int .i64 2, .int .i64 0, .string df, .slice none 0 0, .int .i64 3, .int .i64 0, .string ⟨#[]⟩, .slice lo ln lc] 43)) F) :
    (∃ ao n cap, Ending.returned (.agg #[.int .i64 3, .int .i64 0, .string ⟨#[]⟩, .slice (some ⟨w5.heap.size, 0, none⟩) 6 6]) = .returned (.agg #[.int .i64 3, .int .i64 0, .string ⟨#[]⟩, .slice ao n cap]) ∧ Hid (Tr (fun b => w.heap.size ≤ b) 2 F (.slice ao n cap) (cmdT ⟨kind, chain, epoch, node, df, ns⟩).list)) ∧ Wb P F fv room false ∧ w.grownBy F (some P) := by
  subst hp
  have hO : Oth (w.heap.size + 1) w5 ((((w5.setCell ⟨w.heap.size + 1, 0, none⟩ (.int .i64 3)).setCell ⟨w.heap.size + 1, 1, none⟩ (.int .i64 0)).setCell ⟨w.heap.size + 1, 2, none⟩ (.string ⟨#[]⟩)).setCell ⟨w.heap.size + 1, 3, none⟩ (.slice (some ⟨w5.heap.size, 0, none⟩) 6 6)) := (((Oth.set _ _ _ _).trans (Oth.set _ _ _ _)).trans (Oth.set _ _ _ _)).trans (Oth.set _ _ _ _)
  have hg5 : w.grownBy w5 (some P) := grown_tr (grown_by hXA _) hG
  have hgF : w.grownBy F (some P) := grownBy_adds (grownBy_adds (grown_set (grown_set (grown_set (grown_set hg5 (by omega)) (by omega)) (by omega)) (by omega)) ((Adds.refl _).alloc _)) hF
  have hT2 : Tr (fun b => w.heap.size ≤ b) 1 ((((w5.setCell ⟨w.heap.size + 1, 0, none⟩ (.int .i64 3)).setCell ⟨w.heap.size + 1, 1, none⟩ (.int .i64 0)).setCell ⟨w.heap.size + 1, 2, none⟩ (.string ⟨#[]⟩)).setCell ⟨w.heap.size + 1, 3, none⟩ (.slice (some ⟨w5.heap.size, 0, none⟩) 6 6)) (.slice lo ln lc) (ns.map tNum) :=
    hT.frame (by rw [hO.1]; omega) (fun b hb _ => hO.2 b (by omega)) (fun b hb => by omega)
  have hsz := hg5.size
  have hTr := tr_cmd (kind := kind) (chain := chain) (epoch := epoch) (node := node) (by rw [hO.1]; exact hsz) hd hT2
  rw [hO.1] at hTr
  exact ⟨⟨_, _, _, rfl, hTr.adds hF⟩, ((hW.stay hO (by omega)).adds ((Adds.refl _).alloc _)).adds hF, hgF⟩

theorem wp_named2 {P : Program} {c : Code} {Q : Exit → Act → World → Prop} {a : Act} {w : World} (h : ∀ X, Hid (X = w) → c.wp P Q a X) : c.wp P Q a w := h w rfl

set_option maxRecDepth 20000 in
set_option maxHeartbeats 4000000 in
theorem wcmd_any (P : Nat) (fv : Value) (c : Cm) (v : Value) (w : World) (h : Wb P w fv 16384 false) (hl : LstI w v c.ns) (hs : ∀ b off n c', v = .slice (some ⟨b, off, none⟩) n c' → b ≠ P ∨ c.ns = []) (h100 : c.ns.length ≤ 100) (hd : c.df.size ≤ 9223372036854775807) :
    Calls Try.prog 10 #[.pointer (some ⟨P, 0, none⟩), c.val v] w fun e w' => (∃ ao n cap, e = .returned (.agg #[.int .i64 3, .int .i64 0, .string ⟨#[]⟩, .slice ao n cap]) ∧ Hid (Tr (fun b => w.heap.size ≤ b) 2 w' (.slice ao n cap) (cmdT c).list)) ∧ Wb P w' fv (16384 - 2 * c.ns.length) false ∧ w.grownBy w' (some P) := by
  have kN := fun (m : Int) W => cellNum_any m W
  have kX := fun (s : ByteArray) W => cellText_any s W
  have kQ := fun a n k W => parts_any a n k W
  have kL := fun W (hA : Adds w W) => wlist_any P fv 16384 v c.ns W (h.adds hA) (hl.adds hA) hs h100 (by omega) (by omega)
  have HW : Hid (Wb P w fv 16384 false) := h
  have hP := h.cells.1
  obtain ⟨ao, cap, rfl, _, _⟩ := hl.open
  obtain ⟨kind, chain, epoch, node, df, ns⟩ := c
  simp only [Cm.val] at *
  have hdl : Hid (df.size ≤ 9223372036854775807) := hd
  clear h hl hs hd
  go_enter Try.func10, Try.ntmps10
  go_wp2
  refine wp_named2 ?_
  intro X HX
  have hX := HX.out
  clear HX
  have hXA : Adds w X := by rw [hX]; repeat (first | with_reducible exact Adds.refl _ | with_reducible refine Adds.alloc ?_ _ | with_reducible refine Adds.more ?_ _ _ | with_reducible refine Adds.drew ?_ | with_reducible refine Adds.drewN ?_ _)
  have hXs : X.heap.size = w.heap.size + 1 + 1 := by rw [hX]; simp
  have hb0 : X.cell? ⟨w.heap.size, 0, none⟩ = some (.int .i64 kind) ∧ X.cell? ⟨w.heap.size, 1, none⟩ = some (.int .i64 chain) ∧ X.cell? ⟨w.heap.size, 2, none⟩ = some (.int .i64 epoch) ∧ X.cell? ⟨w.heap.size, 3, none⟩ = some (.int .i64 node) ∧ X.cell? ⟨w.heap.size, 4, none⟩ = some (.string df) ∧ X.cell? ⟨w.heap.size, 5, none⟩ = some (.slice ao ns.length cap) := by rw [hX]; simp [go_sem]
  have hrb : X.heap[w.heap.size + 1]? = some cBox := by rw [hX]; exact at_rb (by simp)
  obtain ⟨b0, b1, b2, b3, b4, b5⟩ := hb0
  have HXA : Hid (Adds w X) := hXA
  have HRB : Hid (X.heap[w.heap.size + 1]? = some cBox) := hrb
  have HXS : Hid (X.heap.size = w.heap.size + 1 + 1) := hXs
  clear hX hXA hrb
  have hps : w.heap.size < X.heap.size := by omega
  have hpr : w.heap.size + 1 < X.heap.size := by omega
  clear hXs
  obtain ⟨p, hp⟩ : ∃ p, p = w.heap.size := ⟨_, rfl⟩
  have hpP : p ≠ P := by omega
  have HP0 : Hid (p = w.heap.size) := hp
  rw [← hp] at b0 b1 b2 b3 b4 b5 hps hpr ⊢
  clear hp
  go_region_held3 (fun w' => w'.cell? ⟨p, 0, none⟩ = some (.int .i64 kind) ∧ w'.cell? ⟨p, 1, none⟩ = some (.int .i64 chain) ∧ w'.cell? ⟨p, 2, none⟩ = some (.int .i64 epoch) ∧ w'.cell? ⟨p, 3, none⟩ = some (.int .i64 node) ∧ w'.cell? ⟨p, 4, none⟩ = some (.string df) ∧ w'.cell? ⟨p, 5, none⟩ = some (.slice ao ns.length cap)) (simp [go_sem, *]) (first
    | (go_at_call 19; refine (kN _ _).mono ?_; rintro e w3 ⟨rfl, os3, n3, rfl⟩)
    | (go_at_call 20; refine (kX _ _).mono ?_; rintro e w4 ⟨rfl, os4, n4, rfl⟩)
    | (go_at_call 21; refine (kL _ (HXA.out.trans (by repeat (first | with_reducible exact Adds.refl _ | with_reducible refine Adds.alloc ?_ _ | with_reducible refine Adds.more ?_ _ _ | with_reducible refine Adds.drew ?_ | with_reducible refine Adds.drewN ?_ _)))).mono ?_; rintro e w5 ⟨⟨lo, ln, lc, rfl, hT5⟩, hW5, hg5⟩; have p5 : p < w5.heap.size := Nat.lt_of_lt_of_le hps (Nat.le_trans (size_of (by repeat (first | with_reducible exact Adds.refl _ | with_reducible refine Adds.alloc ?_ _ | with_reducible refine Adds.more ?_ _ _ | with_reducible refine Adds.drew ?_ | with_reducible refine Adds.drewN ?_ _))) hg5.size); have hX5 : X.grownBy w5 (some P) := grown_tr (grown_by (by repeat (first | with_reducible exact Adds.refl _ | with_reducible refine Adds.alloc ?_ _ | with_reducible refine Adds.more ?_ _ _ | with_reducible refine Adds.drew ?_ | with_reducible refine Adds.drewN ?_ _)) _) hg5; have hq5 : ∀ i, w5.cell? ⟨p, i, none⟩ = X.cell? ⟨p, i, none⟩ := (fun i => World.cell?_of_block (w := X) (w' := w5) (a := ⟨p, i, none⟩) (hX5.block p hps (fun e => hpP (Option.some.inj e)))); obtain ⟨hh5, hl5, ⟨x0, x1, x2, x3⟩, u0, u1, u2, u3⟩ := cbox_kept hX5 HRB.out (by have := HP0.out; omega); rw [← HP0.out] at hl5 x0 x1 x2 x3 u0 u1 u2 u3; have HH5 : Hid (w5.heap[w.heap.size + 1]? = some cBox) := hh5; have HX5 : Hid (X.grownBy w5 (some P)) := hX5; clear hh5 hX5; have d0 := (hq5 0).trans b0; have d1 := (hq5 1).trans b1; have d2 := (hq5 2).trans b2; have d3 := (hq5 3).trans b3; have d4 := (hq5 4).trans b4; have d5 := (hq5 5).trans b5; have HT5 : Hid (Tr (fun b => X.heap.size ≤ b) 1 w5 (.slice lo ln lc) (ns.map tNum)) := hT5.out.frame (Nat.le_refl _) (fun _ _ _ => rfl) (fun b hb => Nat.le_trans (size_of (by repeat (first | with_reducible exact Adds.refl _ | with_reducible refine Adds.alloc ?_ _ | with_reducible refine Adds.more ?_ _ _ | with_reducible refine Adds.drew ?_ | with_reducible refine Adds.drewN ?_ _))) hb); have HW5 : Hid (Wb P w5 fv (16384 - 2 * ns.length) false) := hW5; clear hq5 hT5 hW5 hg5)
    | (go_at_call 18; refine (kQ _ _ _ _).mono ?_; rintro e w6 ⟨rfl, os6, n6, rfl⟩))
  go_wp2
  refine bodyPost_ret (v := .agg #[.int .i64 3, .int .i64 0, .string ⟨#[]⟩, .slice (some ⟨w5.heap.size, 0, none⟩) 6 6]) (by simp [results, Try.results10, go_sem, hl5, p5, x0, x1, x2, x3]) rfl ?_
  exact cmd_fin HP0.out HXS.out HXA.out hP HW5.out HX5.out HT5.out hdl.out (by repeat (first | with_reducible exact Adds.refl _ | with_reducible refine Adds.alloc ?_ _ | with_reducible refine Adds.more ?_ _ _ | with_reducible refine Adds.drew ?_ | with_reducible refine Adds.drewN ?_ _))

end Go.Proofs.Ytccddgohagakoaa
