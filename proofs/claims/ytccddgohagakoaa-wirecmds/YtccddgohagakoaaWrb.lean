/-
  What of package wire writes numbers: list, by contract; parts.
-/
import Derived.Test.YtccddgohagakoaaWra
namespace Go.Proofs.Ytccddgohagakoaa
open Go.RowKit
attribute [local go_sem] cell?_more frozen?_more setCell_more size_more tape_more drew_more drewN_more more_drew more_drewN one_out plus_out plus_end lt_one le_p2 le_p3 le_p4 le_p5 le_p6 le_p7 le_p8 le_p9 le_p10 le_p11 le_p12 le_p13 le_p14 le_p15 le_p16 le_p17 le_p18 le_p19 le_p20 le_p21 le_p22 le_p23 le_p24 le_q0 le_q1 lt_q1 le_q2 lt_q2 le_q3 lt_q3 le_q4 lt_q4 le_q5 lt_q5 le_q6 lt_q6 le_q7 lt_q7 le_q8 lt_q8 le_q9 lt_q9 le_q10 lt_q10 le_q11 lt_q11 le_q12 lt_q12 le_q13 lt_q13 le_q14 lt_q14 le_q15 lt_q15 le_q16 lt_q16 le_q17 lt_q17 le_q18 lt_q18 le_q19 lt_q19 le_q20 lt_q20 le_q21 lt_q21 le_q22 lt_q22 le_q23 lt_q23 le_q24 lt_q24

theorem grown_tr2 {a b c : World} {r : Option Nat} (h : a.grownBy b r) (h' : b.grownBy c r) : a.grownBy c r := grown_tr h h'

theorem Wb.stay {P g : Nat} {w w' : World} {fv : Value} {room : Int} {bad : Bool} (h : Wb P w fv room bad) (ho : Oth g w w') (hne : P ≠ g) : Wb P w' fv room bad := (ho.2 P hne).trans h

theorem parts_any (ao : Option Addr) (n cap : Nat) (w : World) : Calls Try.prog 18 #[.slice ao n cap] w fun e w' => e = .returned (.agg #[.int .i64 3, .int .i64 0, .string ⟨#[]⟩, .slice ao n cap]) ∧ Adds w w' := by
  go_enter Try.func18, Try.ntmps18
  go_wp2
  refine bodyPost_ret (v := .agg #[.int .i64 3, .int .i64 0, .string ⟨#[]⟩, .slice ao n cap]) (by simp [results, Try.results18, go_sem]) rfl ⟨rfl, ?_⟩
  repeat (first | with_reducible exact Adds.refl _ | with_reducible refine Adds.alloc ?_ _ | with_reducible refine Adds.more ?_ _ _ | with_reducible refine Adds.drew ?_ | with_reducible refine Adds.drewN ?_ _)

theorem gn_some {a b : World} {P : Nat} (h : a.grownBy b none) : a.grownBy b (some P) := ⟨h.os, h.tape, h.output, h.size, fun k hk _ => h.block k hk (by simp)⟩

theorem rec_end {P g n : Nat} {w wr F : World} {ts : List T} {fv : Value} {room : Int} (hP : P < w.heap.size) (hW : Wb P wr fv room false) (hG : w.grownBy wr (some P)) (hT : Tr (fun b => w.heap.size < b) 1 wr (.slice (some ⟨g, 0, none⟩) n n) ts)
    (hF : Adds (putC wr w.heap.size (tList []) (.slice (some ⟨g, 0, none⟩) n n)) F) : Hid (Tr (fun b => w.heap.size ≤ b) 1 F (.slice (some ⟨g, 0, none⟩) n n) ts) ∧ Wb P F fv room false ∧ w.grownBy F (some P) := by
  have hO : Oth w.heap.size wr (putC wr w.heap.size (tList []) (.slice (some ⟨g, 0, none⟩) n n)) := (((Oth.set _ _ _ _).trans (Oth.set _ _ _ _)).trans (Oth.set _ _ _ _)).trans (Oth.set _ _ _ _)
  refine ⟨(hT.frame (ok' := fun b => w.heap.size ≤ b) (by rw [hO.1]; omega) (fun b hb _ => hO.2 b (by omega)) (fun b hb => by omega)).adds hF, (hW.stay hO (by omega)).adds hF, grownBy_adds (grown_set (grown_set (grown_set (grown_set hG (Nat.le_refl _)) (Nat.le_refl _)) (Nat.le_refl _)) (Nat.le_refl _)) hF⟩

set_option maxRecDepth 20000 in
set_option maxHeartbeats 4000000 in
theorem wlist_any (P : Nat) (fv : Value) (room : Int) (v : Value) (ns : List Int) (w : World) (h : Wb P w fv room false) (hl : LstI w v ns) (hs : ∀ b off n c, v = .slice (some ⟨b, off, none⟩) n c → b ≠ P ∨ ns = []) (h100 : ns.length ≤ 100) (h2 : 2 * (ns.length : Int) ≤ room) (h3 : room ≤ 16384) :
    Calls Try.prog 21 #[.pointer (some ⟨P, 0, none⟩), v, .func (.func 19) #[] #[]] w fun e w' => (∃ ao n cap, e = .returned (.agg #[.int .i64 3, .int .i64 0, .string ⟨#[]⟩, .slice ao n cap]) ∧ Hid (Tr (fun b => w.heap.size ≤ b) 1 w' (.slice ao n cap) (ns.map tNum))) ∧ Wb P w' fv (room - 2 * ns.length) false ∧ w.grownBy w' (some P) := by
  have hP := h.cells.1
  obtain ⟨ao, cap, rfl, hcap, hlo⟩ := hl.open
  have HW : Hid (Wb P w fv room false) := h
  have kT := fun (W : World) (hW : Wb P W fv room false) => take_any P fv room (2 * ns.length) W hW (by omega) (by omega) h3
  obtain ⟨i0, hi, hz0, hz1, hz2⟩ := info_parts Try.info43
  have hlen : (2 : Int) * (ns.length : Int) ≤ 200 := by omega
  clear h hl
  go_enter Try.func21, Try.ntmps21
  go_wp2_with (first
    | (go_at_call 40; refine (kT _ (HW.out.adds (by repeat (first | with_reducible exact Adds.refl _ | with_reducible refine Adds.alloc ?_ _ | with_reducible refine Adds.more ?_ _ _ | with_reducible refine Adds.drew ?_ | with_reducible refine Adds.drewN ?_ _)))).mono ?_; rintro e w1 ⟨rfl, hW1, hg1⟩; obtain ⟨hh1, hl1, ⟨x0, x1, x2, x3⟩, u0, u1, u2, u3⟩ := cbox_kept (r := w.heap.size) hg1 (new_block _ _) (by omega); have HW1 : Hid (Wb P w1 fv (room - 2 * ns.length) false) := hW1; have HG1 : Hid (w.grownBy w1 (some P)) := grown_tr (grown_by (by repeat (first | with_reducible exact Adds.refl _ | with_reducible refine Adds.alloc ?_ _ | with_reducible refine Adds.more ?_ _ _ | with_reducible refine Adds.drew ?_ | with_reducible refine Adds.drewN ?_ _)) _) hg1; clear hW1 hg1 kT HW)
    | (at_make; refine wpList_make_full _ rfl (.tmp 18) (.tmp 18) 41 rfl 0 43 i0 _ 4 Try.underlying41 hi hz0 hz1 .i64 .i64 _ _ ns.length rfl rfl rfl rfl (by rw [hz2]; omega) (by unfold maxLen; omega) (Nat.zero_le _) ?_; intro w2 hrow hgrow))
  have hr0 : Rowg (fun b => w.heap.size < b) 0 w1.heap.size ns.length [] w2 := rowg_new hrow (made_no ns.length)
  have hg2 : w1.grownBy w2 none := hgrow
  clear hrow hgrow hi hz0 hz1 hz2
  obtain ⟨g, hg⟩ : ∃ g, g = w1.heap.size := ⟨_, rfl⟩
  rw [← hg] at hr0
  rw [← hg]
  have hwg : w.heap.size < g := by omega
  have HG : Hid (w1.heap.size ≤ g) := by show _ ≤ _; omega
  clear hg
  go_loopw [22] (fun iv wr => ∃ k : Nat, k ≤ ns.length ∧ iv = .int .i64 k ∧ Hid (Rowg (fun b => w.heap.size < b) 0 g ns.length ((ns.take k).map tNum) wr) ∧ Hid (w1.grownBy wr none)) (fun iv _ => ns.length - (intOf iv).toNat)
  case atStart => exact ⟨0, by omega, rfl, hr0, hg2⟩
  case round =>
    obtain ⟨k, hk, rfl, hrow, hgk⟩ := hrel
    clear hr0 hg2
    have hgs : g < wr.heap.size := hrow.out.1
    by_cases hlt : k < ns.length
    · have hltI : (k : Int) < (ns.length : Int) := by omega
      rcases hlo with rfl | ⟨b, off, rfl, hb, hcl⟩
      · simp at hlt
      have hbP : b ≠ P := by
        rcases hs b off _ _ rfl with h | h
        · exact h
        · rw [h] at hlt; simp at hlt
      have hbk : wr.heap[b]? = w.heap[b]? := (hgk.out.block b (by have := HG1.out.size; omega) (by simp)).trans (HG1.out.block b hb (fun e => hbP (Option.some.inj e)))
      have c0 : wr.cell? ⟨b, off + k, none⟩ = some (.int .i64 ns[k]) := (World.cell?_of_block (w := w) (a := ⟨b, off + k, none⟩) hbk).trans (hcl k hlt)
      have hbs : b < wr.heap.size := by have := HG1.out.size; have := hgk.out.size; omega
      have hkl : ((ns.take k).map tNum).length = k := by simp; omega
      have HNX : Hid ((ns.take (k + 1)).map tNum = (ns.take k).map tNum ++ [tNum ns[k]]) := by
        show _ = _
        rw [List.take_succ_eq_append_getElem hlt, List.map_append]
        rfl
      have hxt := hrow.out.2.1
      obtain ⟨z0, e0, f0⟩ := hxt (k * 4) (by omega)
      obtain ⟨z1, e1, f1⟩ := hxt (k * 4 + 1) (by omega)
      obtain ⟨z2, e2, f2⟩ := hxt (k * 4 + 2) (by omega)
      obtain ⟨z3, e3, f3⟩ := hxt (k * 4 + 3) (by omega)
      have kN := fun (m : Int) W => cellNum_any m W
      generalize ns[k] = m at *
      have HX : Hid (∀ W, Adds wr W → Rowg (fun b => w.heap.size < b) 0 g ns.length ((ns.take k).map tNum ++ [tNum m]) ((((W.setCell ⟨g, k * 4, none⟩ (.int .i64 1)).setCell ⟨g, k * 4 + 1, none⟩ (.int .i64 m)).setCell ⟨g, k * 4 + 2, none⟩ (.string ⟨#[]⟩)).setCell ⟨g, k * 4 + 3, none⟩ (.slice none 0 0)) ∧ w1.grownBy ((((W.setCell ⟨g, k * 4, none⟩ (.int .i64 1)).setCell ⟨g, k * 4 + 1, none⟩ (.int .i64 m)).setCell ⟨g, k * 4 + 2, none⟩ (.string ⟨#[]⟩)).setCell ⟨g, k * 4 + 3, none⟩ (.slice none 0 0)) none) := fun W hA => by
        have hn := (hrow.out.adds hA).next (t := tNum m) (s := .slice none 0 0) (by omega) (Nat.zero_le _) (Tr.nil _ _ _)
        rw [hkl] at hn
        exact ⟨hn, grown_set (grown_set (grown_set (grown_set (grownBy_adds hgk.out hA) HG.out) HG.out) HG.out) HG.out⟩
      clear hxt hrow hcl hbk
      go_wp2_with (go_at_call 19; refine (kN _ _).mono ?_; rintro e w3 ⟨rfl, os3, n3, rfl⟩; have hF := HX.out (more wr os3 n3) (by repeat (first | with_reducible exact Adds.refl _ | with_reducible refine Adds.alloc ?_ _ | with_reducible refine Adds.more ?_ _ _ | with_reducible refine Adds.drew ?_ | with_reducible refine Adds.drewN ?_ _)))
      all_goals
        go_roundw
        case rel => exact ⟨k + 1, by omega, by go_num, by show Rowg _ _ _ _ _ _; rw [HNX.out]; simpa [go_sem, hgs] using hF.1, by show World.grownBy _ _ _; simpa [go_sem, hgs] using hF.2⟩
        case measure => simp [intOf]; omega
    · have hkI : ¬ (k : Int) < (ns.length : Int) := by omega
      have hkn : k = ns.length := by omega
      have hT : Hid (Tr (fun b => w.heap.size < b) 1 wr (.slice (some ⟨g, 0, none⟩) ns.length ns.length) (ns.map tNum)) := by
        have := rowg_tr hrow.out (by simp; omega) hwg
        rw [hkn, List.take_length] at this
        exact this
      have hGr : w1.grownBy wr (some P) := gn_some hgk.out
      have HWr : Hid (Wb P wr fv (room - 2 * ns.length) false) := (hgk.out.block P (by have := HG1.out.size; omega) (by simp)).trans HW1.out
      have HGr : Hid (w.grownBy wr (some P)) := grown_tr HG1.out hGr
      obtain ⟨hhr, hlr, ⟨y0, y1, y2, y3⟩, p0, p1, p2, p3⟩ := cbox_kept (r := w.heap.size) hGr hh1 (by omega)
      have HH : Hid _ := hhr
      clear x0 x1 x2 x3 u0 u1 u2 u3 hrow hhr hGr hs hlo HW1 HG1
      have kQ := fun W => parts_any (some ⟨g, 0, none⟩) ns.length ns.length W
      go_wp2_with (go_at_call 18; refine (kQ _).mono ?_; rintro e w4 ⟨rfl, os4, n4, rfl⟩)
      refine bodyPost_ret (v := .agg #[.int .i64 3, .int .i64 0, .string ⟨#[]⟩, .slice (some ⟨g, 0, none⟩) ns.length ns.length]) (by simp [results, Try.results21, go_sem, hlr, y0, y1, y2, y3]) rfl ?_
      have hE := rec_end (F := more (putC wr w.heap.size (tList []) (.slice (some ⟨g, 0, none⟩) ns.length ns.length)) os4 n4) hP HWr.out HGr.out hT.out ⟨os4, n4, rfl⟩
      exact ⟨⟨_, _, _, rfl, hE.1⟩, hE.2⟩

end Go.Proofs.Ytccddgohagakoaa
