/-
  The order of entries, by a contract for sorting.
  slices.SortFunc of entries, by the shelf's contract.
-/
import Derived.Test.YtiacnmcdfpmcfaaGreatDoorT06
import Derived.Deep.RegionHeld
import Derived.Sort.Grow
import Derived.Test.YtiacnmcdfpmcfaaGreatDoorT09
import Derived.Test.YtiacnmcdfpmcfaaGreatDoorT05
import Derived.Shelf.SlSortCmp.NoneTotal
import Derived.Shelf.Lay
import Derived.Ground.SlsfProg
import Derived.Deep.MidRow
namespace Go.Proofs.YtiacnmcdfpmcfaaGreatDoor.Sh
open Go.RowKit
attribute [local go_sem] cell?_more frozen?_more setCell_more size_more tape_more drew_more drewN_more more_drew more_drewN one_out plus_out plus_end lt_one le_p2 le_p3 le_p4 le_p5 le_p6 le_p7 le_p8 le_p9 le_p10 le_p11 le_p12 le_p13 le_p14 le_p15 le_p16 le_p17 le_p18 le_p19 le_p20 le_p21 le_p22 le_p23 le_p24 le_q0 le_q1 lt_q1 le_q2 lt_q2 le_q3 lt_q3 le_q4 lt_q4 le_q5 lt_q5 le_q6 lt_q6 le_q7 lt_q7 le_q8 lt_q8 le_q9 lt_q9 le_q10 lt_q10 le_q11 lt_q11 le_q12 lt_q12 le_q13 lt_q13 le_q14 lt_q14 le_q15 lt_q15 le_q16 lt_q16 le_q17 lt_q17 le_q18 lt_q18 le_q19 lt_q19 le_q20 lt_q20 le_q21 lt_q21 le_q22 lt_q22 le_q23 lt_q23 le_q24 lt_q24


/-- Blocks laid behind, draws gone on. -/
def Gr (w w' : World) : Prop := ∃ q os, w' = Go.Sort.grow (w.drewN q) os
theorem Gr.refl (w : World) : Gr w w := ⟨0, #[], by rw [Go.Sort.grow_empty]; rfl⟩
theorem Gr.alloc {w w' : World} (h : Gr w w') (o : Obj) : Gr w (w'.alloc o) := by
  obtain ⟨q, os, rfl⟩ := h
  exact ⟨q, os ++ #[o], by rw [Go.Sort.alloc_eq_grow, Go.Sort.grow_grow]⟩
theorem Gr.drewN {w w' : World} (h : Gr w w') (n : Nat) : Gr w (w'.drewN n) := by
  obtain ⟨q, os, rfl⟩ := h
  exact ⟨q + n, os, by simp [Go.Sort.grow, World.drewN, Nat.add_assoc]⟩
theorem Gr.drew {w w' : World} (h : Gr w w') : Gr w w'.drew := h.drewN 1

set_option maxHeartbeats 2000000 in
set_option maxRecDepth 20000 in
theorem cmpE_gr (f g : F) (w : World) : Calls Tryz.prog 49 #[.agg #[.string f.path, .string f.val], .agg #[.string g.path, .string g.val]] w fun e w' => e = .returned (.int .i64 (cmpE f g)) ∧ Gr w w' := by
  have k1 := compare_any f.path g.path
  have k2 := compare_any f.val g.val
  have kO := fun W k (hk : k < W.heap.size) c0 c1 => or_any k (cmpP f.path g.path) (cmpP f.val g.val) (cmpE f g) rfl W hk c0 c1
  generalize cmpP f.path g.path = x at *
  generalize cmpP f.val g.val = y at *
  generalize cmpE f g = z at *
  obtain ⟨fp, fv⟩ := f
  obtain ⟨gp, gv⟩ := g
  simp only at k1 k2 ⊢
  go_enter Tryz.func49, Tryz.ntmps49
  go_wp2
  go_region_held (fun w' => w'.cell? ⟨w.heap.size, 0, none⟩ = some (.string fp) ∧ w'.cell? ⟨w.heap.size, 1, none⟩ = some (.string fv) ∧ w'.cell? ⟨w.heap.size + 1, 0, none⟩ = some (.string gp) ∧ w'.cell? ⟨w.heap.size + 1, 1, none⟩ = some (.string gv))
    (refine ⟨?_, ?_, ?_, ?_⟩ <;> simp [go_sem, *])
    (first
    | (go_at_call 68; (with_reducible refine (k1 _).mono ?_); rintro e w1 ⟨rfl, hw⟩; subst w1)
    | (go_at_call 68; (with_reducible refine (k2 _).mono ?_); rintro e w1 ⟨rfl, hw⟩; subst w1)
    | (go_at_call 67; refine (kO _ _ (by simp [go_sem]) (by simp [go_sem]) (by simp [go_sem])).mono ?_; rintro e w1 ⟨rfl, hw⟩; subst w1))
  all_goals
    go_wp2
    go_ret
    exact ⟨rfl, by (repeat (first | with_reducible exact Gr.refl _ | with_reducible refine Gr.alloc ?_ _ | with_reducible refine Gr.drew ?_ | with_reducible refine Gr.drewN ?_ _))⟩

open Go.Sort (HoldsK putRowK flatK size_flatK get_flatK)

instance : Inhabited F := ⟨⟨⟨#[]⟩, ⟨#[]⟩⟩⟩

shelf_lay_g SlLaysF0.n6 Slsf 6 at Tryz 78 as Tryz.sortLaid

theorem ltE_swo : Go.Sort.SWO (ltOf cmpE) where
  irrefl x := by unfold ltOf; exact decide_eq_false (by rw [(cmpE_is.zero x x).2 rfl]; omega)
  trans x y z h1 h2 := by
    unfold ltOf at *
    rw [decide_eq_true_eq] at *
    have t := cmpE_is.trans x y z (by omega) (by omega)
    by_cases e : cmpE x z = 0
    · have e2 := (cmpE_is.zero _ _).1 e
      subst e2
      have := cmpE_is.swap x y
      omega
    · omega
  ntrans x y z h1 h2 := by
    unfold ltOf at *
    rw [decide_eq_false_iff_not] at *
    have s1 := cmpE_is.swap x y
    have s2 := cmpE_is.swap y z
    have s3 := cmpE_is.swap x z
    have t := cmpE_is.trans z y x (by omega) (by omega)
    omega

theorem ltE_total (x y : F) (h1 : ltOf cmpE x y = false) (h2 : ltOf cmpE y x = false) : x = y := by
  unfold ltOf at *
  rw [decide_eq_false_iff_not] at *
  have s1 := cmpE_is.swap x y
  exact (cmpE_is.zero _ _).1 (by omega)

/-- Entries in their order. -/
def sortE (fs : List F) : List F := fs.mergeSort fun x y => !ltOf cmpE y x

theorem sortE_length (fs : List F) : (sortE fs).length = fs.length := List.length_mergeSort _

theorem cmpE_lays (blk off size : Nat) (w : World) : CmpLays Tryz.prog 49 #[] F.cells 2 cmpE blk off size w :=
  fun _ _ _ _ x y => cmpE_gr x y _

theorem row_holds {g : Nat} {fs : List F} {w : World} {cur : Array Value} (hb : w.heap[g]? = some (.cells cur 70 (0, 0))) (hc : cur.toList.take (fs.length * 2) = cellsF fs) : HoldsK F.cells 2 w g 0 fs.toArray := by
  intro j hj
  rw [size_flatK, List.size_toArray] at hj
  have hd : j / 2 < fs.length := by omega
  have hm : j % 2 < 2 := by omega
  rw [get_flatK _ _ _ _ (by simpa using hj)]
  have hg : (cellsF fs)[j]? = fs[j / 2].cells[j % 2]? := by
    have := cellsF_get fs (j / 2) hd (j % 2) hm
    rwa [show j / 2 * 2 + j % 2 = j by omega] at this
  have hx : fs.toArray[j / 2]! = fs[j / 2] := by simp [hd]
  rw [hx]
  have hlen : (fs[j / 2].cells).length = 2 := rfl
  rw [List.getElem?_eq_getElem (l := fs[j / 2].cells) (by omega)] at hg
  rw [getElem!_pos (fs[j / 2].cells) (j % 2) (by omega)]
  have hcur : cur[j]? = some (fs[j / 2].cells[j % 2]) := by
    rw [← Array.getElem?_toList, ← List.getElem?_take_of_lt hj, hc]
    exact hg
  constructor
  · rw [Nat.zero_add]
    simp only [World.cell?, hb, id]
    exact hcur
  · simp [World.frozen?, hb]

theorem grown_sort {w : World} {g n : Nat} {os : Array Obj} (d : Array F) : w.grownBy (sortWorldK F.cells 2 w g 0 n d os) (some g) := by
  unfold sortWorldK putRowK
  refine ⟨rfl, rfl, rfl, by simp, fun k hk hne => ?_⟩
  rw [Go.Sort.heap_grow_old _ _ (by simpa using hk)]
  have : g ≠ k := fun e => hne (by rw [e])
  simp [Go.Sort.putRow, Go.Sort.mapBlock, Go.Sort.ahead, Array.getElem?_modify, this]

theorem sort_any {B : Nat} {v : Value} {fs : List F} {W0 w : World} (h : Own B v fs W0 w) (hl : fs.length ≤ 1000) :
    Calls Tryz.prog 78 #[v, .func (.func 49) #[] #[]] w fun e w' => e = .returned (.tuple #[]) ∧ Lst w' v (sortE fs) ∧ Below B W0 w' ∧ B ≤ w'.heap.size := by
  have h' := h
  obtain ⟨⟨hlen, ho⟩, hB, hBs⟩ := h'
  by_cases h0 : fs = []
  · subst h0
    have key : ∀ p cap, Calls Tryz.prog 78 #[.slice p 0 cap, .func (.func 49) #[] #[]] w fun e w' => e = .returned (.tuple #[]) ∧ w' = w := fun p cap => AnyF.slices_SortFunc_none Tryz.sortLaid p cap (.func (.func 49) #[] #[]) w
    have hs0 : sortE [] = [] := by simp [sortE]
    rw [hs0]
    rcases ho with ⟨rfl, _⟩ | ⟨g, cap, cur, rfl, _⟩
    · exact (key none 0).mono fun e w' ⟨he, hw⟩ => by subst hw; exact ⟨he, h.lst, hB, hBs⟩
    · exact (key _ cap).mono fun e w' ⟨he, hw⟩ => by subst hw; exact ⟨he, h.lst, hB, hBs⟩
  · rcases ho with ⟨rfl, hn⟩ | ⟨g, cap, cur, rfl, hg, hb, hnc, hcm, hsz, hc⟩
    · exact absurd (List.eq_nil_of_length_eq_zero hn) h0
    · have hH := row_holds hb hc
      have hgl : g < w.heap.size := (Array.getElem?_eq_some_iff.1 hb).1
      have eg : ∀ args w, (callFunc 49 args).run Tryz.prog w = .ok (.enter 49 args) w := enters_of Tryz.func49 (by kernel_rfl) rfl
      have hcon := AnyQ.slices_SortFunc_total Tryz.sortLaid 2 Tryz.isAgg70 Tryz.sizeOf70 F.cells (fun _ => rfl) (fun x v hv => by simp [F.cells] at hv; rcases hv with rfl | rfl <;> rfl) cmpE ltE_swo 49 #[] g 0 cap fs.toArray w eg (cmpE_lays g 0 fs.toArray.size w) hH hgl (by rw [List.size_toArray]; omega) ltE_total
      change Calls Tryz.prog 78 _ _ _ at hcon
      rw [List.size_toArray] at hcon
      refine hcon.mono fun e w' ⟨he, n, os, hw⟩ => ?_
      have hSW : SWK F.cells 2 w g 0 (sortE fs).toArray w' := ⟨n, os, hw⟩
      have hH2 := hSW.holds hgl hH (by rw [List.size_toArray, List.size_toArray, sortE_length])
      have hgr : w.grownBy w' (some g) := by rw [hw]; exact grown_sort _
      refine ⟨he, ⟨_, cap, by rw [sortE_length], by rw [sortE_length]; exact hnc, .inr ⟨g, 0, rfl, hSW.lt hgl, fun j hj => ?_⟩⟩, hB.grown hgr hBs (fun j hj => by cases hj; exact hg), Nat.le_trans hBs hgr.size⟩
      have hcl := HoldsK.cells (enc := F.cells) (k := 2) hH2 (fun _ => rfl) (i := j) (by rw [List.size_toArray]; exact hj)
      have hx : (sortE fs).toArray[j]! = (sortE fs)[j] := by simp [hj]
      rw [hx] at hcl
      have c0 := hcl 0 _ rfl
      have c1 := hcl 1 _ rfl
      rw [Addr.add_mid] at c0 c1
      exact ⟨c0, c1⟩

end Go.Proofs.YtiacnmcdfpmcfaaGreatDoor.Sh
