/-
  EvalAll of package expr, by a contract.
  A document's entry, by contract.
  Which lists are documents, by contract.
-/
import Derived.Test.YtiacnmcdfpmcfaaGreatDoorV30
import Derived.Test.YtiacnmcdfpmcfaaGreatDoorV14
import Derived.Test.YtiacnmcdfpmcfaaGreatDoorQ09
import Derived.Test.YtiacnmcdfpmcfaaGreatDoorQ07
namespace Go.Proofs.YtiacnmcdfpmcfaaGreatDoor
open Go.RowKit
attribute [local go_sem] cell?_more frozen?_more setCell_more size_more tape_more drew_more drewN_more more_drew more_drewN one_out plus_out plus_end lt_one le_p2 le_p3 le_p4 le_p5 le_p6 le_p7 le_p8 le_p9 le_p10 le_p11 le_p12 le_p13 le_p14 le_p15 le_p16 le_p17 le_p18 le_p19 le_p20 le_p21 le_p22 le_p23 le_p24 le_q0 le_q1 lt_q1 le_q2 lt_q2 le_q3 lt_q3 le_q4 lt_q4 le_q5 lt_q5 le_q6 lt_q6 le_q7 lt_q7 le_q8 lt_q8 le_q9 lt_q9 le_q10 lt_q10 le_q11 lt_q11 le_q12 lt_q12 le_q13 lt_q13 le_q14 lt_q14 le_q15 lt_q15 le_q16 lt_q16 le_q17 lt_q17 le_q18 lt_q18 le_q19 lt_q19 le_q20 lt_q20 le_q21 lt_q21 le_q22 lt_q22 le_q23 lt_q23 le_q24 lt_q24


theorem madeV_size (n : Nat) : (madeCells #[.int .i64 0, .int .i64 0, .string ⟨#[]⟩, .int .i64 0, .int .i64 0] (n * 5)).size = n * 5 := size_madeCells _ _

theorem run_makeV (n : Nat) (hn : n ≤ 100) (w : World) : (Instr.makeSlice 103 (.int .i64 (n : Int)) (.int .i64 (n : Int))).run Tryz.prog w = .ok (.slice (some ⟨w.heap.size, 0, none⟩) n n) (w.alloc (.cells (madeCells #[.int .i64 0, .int .i64 0, .string ⟨#[]⟩, .int .i64 0, .int .i64 0] (n * 5)) 87)) := by
  obtain ⟨i0, hi, hz0, hz1, hz2⟩ := info_parts Tryz.info87
  have := run_make (P := Tryz.prog) w 103 87 i0 _ Tryz.underlying103 hi hz0 .i64 .i64 n n (by omega) (Int.le_refl _) (by rw [hz2]; omega) (by omega)
  rw [this, hz1]
  simp [Value.cells]

theorem stop_at {ops : Array Oper} {rest : List Oper} {o : Oper} {a : Act} {w : World} {Q : Exit → Act → World → Prop} (n : Nat) (_ : o.dst = some n) (h : Hid (wpList Tryz.prog ops Q (o :: rest) a w)) : wpList Tryz.prog ops Q (o :: rest) a w := h.out
theorem hid_in {p : Prop} (h : p) : Hid p := h
theorem stop_none {ops : Array Oper} {rest : List Oper} {o : Oper} {a : Act} {w : World} {Q : Exit → Act → World → Prop} (_ : o.dst = none) (h : Hid (wpList Tryz.prog ops Q (o :: rest) a w)) : wpList Tryz.prog ops Q (o :: rest) a w := h.out

set_option maxHeartbeats 4000000 in
set_option maxRecDepth 20000 in
theorem evalAll_any {D : Nat} (xs : List E) (ao : Option Addr) (cap : Nat) (dv : Value) (fs : List F) (w : World) (hT : Tn (fun _ => True) D w (.slice ao xs.length cap) (xs.map E.toN)) (hok : ∀ x ∈ xs, x.ok ∧ ∀ d, cntN d [x.toN] ≤ 256) (hL : Lst w dv fs) :
    Calls Tryz.prog 105 #[.slice ao xs.length cap, dv] w fun e w' => GaveV (evA fs xs) e w' ∧ Adds w w' := by
  by_cases hbad : xs.length = 0 ∨ 4 < xs.length
  · have HE : Hid (evA fs xs = none) := if_pos hbad
    generalize evA fs xs = R at *
    obtain ⟨do_, dcap, rfl, _, _⟩ := hL
    by_cases h0 : xs.length = 0
    · rw [h0]
      clear hbad hT hok
      go_enter Tryz.func105, Tryz.ntmps105
      go_wp2
      exact bodyPost_ret (v := .tuple #[.slice none 0 0, .bool false]) (by simp [results, Tryz.results105, go_sem]) rfl ⟨by rw [HE.out]; rfl, by repeat (first | with_reducible exact Adds.refl _ | with_reducible refine Adds.alloc ?_ _ | with_reducible refine Adds.more ?_ _ _ | with_reducible refine Adds.drew ?_ | with_reducible refine Adds.drewN ?_ _)⟩
    · have h4 : (4 : Int) < (xs.length : Int) := by omega
      have h0' : ((xs.length : Int) == 0) = false := beq_eq_false_iff_ne.2 (by omega)
      clear hbad hT hok h0
      generalize xs.length = n at *
      go_enter Tryz.func105, Tryz.ntmps105
      go_wp2
      exact bodyPost_ret (v := .tuple #[.slice none 0 0, .bool false]) (by simp [results, Tryz.results105, go_sem]) rfl ⟨by rw [HE.out]; rfl, by repeat (first | with_reducible exact Adds.refl _ | with_reducible refine Adds.alloc ?_ _ | with_reducible refine Adds.more ?_ _ _ | with_reducible refine Adds.drew ?_ | with_reducible refine Adds.drewN ?_ _)⟩
  · have HE : Hid (evA fs xs = evs fs xs) := if_neg hbad
    have h0' : ((xs.length : Int) == 0) = false := beq_eq_false_iff_ne.2 (by omega)
    have h4' : ¬ (4 : Int) < (xs.length : Int) := by omega
    have h4n : xs.length ≤ 4 := by omega
    have hmk := run_makeV xs.length (by omega)
    have HT : Hid (Tn (fun _ => True) D w (.slice ao xs.length cap) (xs.map E.toN)) := hT
    have HK : Hid (∀ x ∈ xs, x.ok ∧ ∀ d, cntN d [x.toN] ≤ 256) := hok
    have HL : Hid (Lst w dv fs) := hL
    obtain ⟨do_, dcap, hdv, _, _⟩ := hL
    clear hT hok hbad
    subst hdv
    go_enter Tryz.func105, Tryz.ntmps105
    go_wp2
    clear hmk
    go_loopw [24] (fun iv wr => ∃ (j : Nat) (vs : List V), j ≤ xs.length ∧ iv = .int .i64 j ∧ Hid (Sov fs xs j vs) ∧ Hid (Vr w wr w.heap.size xs.length vs)) (fun iv _ => xs.length - (intOf iv).toNat)
    case atStart => exact ⟨0, [], Nat.zero_le _, rfl, sov_nil _ _, vr_new (madeV_size _)⟩
    case round =>
      obtain ⟨j, vs, hj, rfl, HSo, HV⟩ := hrel
      have hvl : vs.length = j := HSo.out.1
      obtain ⟨os, n0, rfl⟩ := HV.out.adds
      by_cases hlt : j < xs.length
      · obtain ⟨d', b1, o1, x, he, rfl, hb1, ⟨c0, c1, c2, c3⟩, hsz, htx⟩ := HT.out.elem (k := j) (by simpa using hlt)
        have hel : (xs.map E.toN)[j]'(by simpa using hlt) = xs[j].toN := by simp
        rw [hel] at c0 c1 c2 hsz htx
        have hk := HK.out xs[j] (List.getElem_mem hlt)
        have kE := fun W (hA : Adds w W) => eval_O (D := d') xs[j].toN x (.slice do_ fs.length dcap) fs W (htx.adds hA) hsz (fun d => Nat.le_trans (hk.2 d) (by decide)) (HL.out.adds hA)
        obtain ⟨xo, xc, rfl⟩ := htx.shape
        have hgr : w.heap.size < (more w os n0).heap.size := HV.out.lt
        have HVL : Hid (vs.length = j) := hvl
        clear htx hsz he hel hk HT HK HL hvl
        (try simp only [nodeV, optV] at kE)
        cases hv : evO fs xs[j].toN with
        | none =>
          rw [hv] at kE
          have HN : Hid (evA fs xs = none) := by
            show _ = _
            rw [HE.out]
            exact HSo.out.none hlt hv
          clear hv HSo HE HV
          simp only [Option.getD_none, Option.isSome_none, vZ, V.val] at kE
          generalize xs[j].toN = p at *
          go_wp2_with (go_at_call 128; refine (kE _ (by repeat (first | with_reducible exact Adds.refl _ | with_reducible refine Adds.alloc ?_ _ | with_reducible refine Adds.more ?_ _ _ | with_reducible refine Adds.drew ?_ | with_reducible refine Adds.drewN ?_ _))).mono ?_; rintro e w2 ⟨rfl, os2, n2, rfl⟩)
          exact bodyPost_ret (v := .tuple #[.slice none 0 0, .bool false]) (by simp [results, Tryz.results105, go_sem]) rfl ⟨by rw [HN.out]; rfl, by repeat (first | with_reducible exact Adds.refl _ | with_reducible refine Adds.alloc ?_ _ | with_reducible refine Adds.more ?_ _ _ | with_reducible refine Adds.drew ?_ | with_reducible refine Adds.drewN ?_ _)⟩
        | some v =>
          rw [hv] at kE
          have HNX : Hid (Sov fs xs (j + 1) (vs ++ [v])) := HSo.out.next hlt hv
          clear hv HSo
          obtain ⟨vk, vm, vt, vr, vi⟩ := v
          simp only [Option.getD_some, Option.isSome_some, V.val] at kE
          generalize xs[j].toN = p at *
          go_wp2_with (first
            | (go_at_call 128; refine (kE _ (by repeat (first | with_reducible exact Adds.refl _ | with_reducible refine Adds.alloc ?_ _ | with_reducible refine Adds.more ?_ _ _ | with_reducible refine Adds.drew ?_ | with_reducible refine Adds.drewN ?_ _))).mono ?_; rintro e w2 ⟨rfl, os2, n2, rfl⟩)
            | (with_reducible refine stop_at 40 rfl ?_))
          refine hid_in ?_
          go_wp2_with (with_reducible refine stop_none rfl ?_)
          refine hid_in ?_
          refine val_store (k := vk) (m := vm) (t := vt) (re := vr) (im := vi) rfl (.tmp 40) (.tmp 39) rfl (Vr.addsV HV.out (by repeat (first | with_reducible exact Adds.refl _ | with_reducible refine Adds.alloc ?_ _ | with_reducible refine Adds.more ?_ _ _ | with_reducible refine Adds.drew ?_ | with_reducible refine Adds.drewN ?_ _))) (by rw [HVL.out]; exact hlt) HVL.out.symm (by simp [go_sem]) (by simp [go_sem]) ?_
          intro w6 hV6
          have HV6 : Hid _ := hV6
          clear hV6
          go_wp2
          go_roundw
          case rel => exact ⟨j + 1, _, by omega, by go_num, HNX, HV6⟩
          case measure => simp [intOf]; omega
      · have hj' : j = xs.length := by omega
        have HG : Hid (GaveV (evA fs xs) (.returned (.tuple #[.slice (some ⟨w.heap.size, 0, none⟩) xs.length xs.length, .bool true])) (more w os n0)) := by
          have h1 := HSo.out
          rw [hj'] at h1
          have h2 := HV.out.gave (by omega) xs.length
          rw [← h1.all, ← HE.out] at h2
          exact h2
        subst hj'
        clear HSo HV HE HT HK HL
        go_wp2
        exact bodyPost_ret (v := .tuple #[.slice (some ⟨w.heap.size, 0, none⟩) xs.length xs.length, .bool true]) (by simp [results, Tryz.results105, go_sem]) rfl ⟨HG.out, by repeat (first | with_reducible exact Adds.refl _ | with_reducible refine Adds.alloc ?_ _ | with_reducible refine Adds.more ?_ _ _ | with_reducible refine Adds.drew ?_ | with_reducible refine Adds.drewN ?_ _)⟩

end Go.Proofs.YtiacnmcdfpmcfaaGreatDoor

namespace Go.Proofs.YtiacnmcdfpmcfaaGreatDoor
open Go.RowKit
attribute [local go_sem] cell?_more frozen?_more setCell_more size_more tape_more drew_more drewN_more more_drew more_drewN one_out plus_out plus_end lt_one le_p2 le_p3 le_p4 le_p5 le_p6 le_p7 le_p8 le_p9 le_p10 le_p11 le_p12 le_p13 le_p14 le_p15 le_p16 le_p17 le_p18 le_p19 le_p20 le_p21 le_p22 le_p23 le_p24 le_q0 le_q1 lt_q1 le_q2 lt_q2 le_q3 lt_q3 le_q4 lt_q4 le_q5 lt_q5 le_q6 lt_q6 le_q7 lt_q7 le_q8 lt_q8 le_q9 lt_q9 le_q10 lt_q10 le_q11 lt_q11 le_q12 lt_q12 le_q13 lt_q13 le_q14 lt_q14 le_q15 lt_q15 le_q16 lt_q16 le_q17 lt_q17 le_q18 lt_q18 le_q19 lt_q19 le_q20 lt_q20 le_q21 lt_q21 le_q22 lt_q22 le_q23 lt_q23 le_q24 lt_q24




theorem cellsV_get (fs : List V) (i : Nat) (hi : i < fs.length) (r : Nat) (hr : r < 5) : (cellsV fs)[i * 5 + r]? = fs[i].cells[r]? := by
  induction fs generalizing i with
  | nil => simp at hi
  | cons f t ih =>
    cases i with
    | zero =>
      simp only [cellsV, List.flatMap_cons, Nat.zero_mul, Nat.zero_add, List.getElem_cons_zero]
      rw [List.getElem?_append_left (by simp [V.cells]; omega)]
    | succ i =>
      have hi' : i < t.length := by simpa using hi
      simp only [cellsV, List.flatMap_cons, List.getElem_cons_succ]
      rw [List.getElem?_append_right (by simp [V.cells]; omega)]
      have := ih i hi'
      simp only [cellsV] at this
      rw [← this]
      congr 1
      simp [V.cells]
      omega

theorem lstV_of {w : World} {g cap : Nat} {vs : List V} (hg : g < w.heap.size) (h : w.rangeAt g 0 (cellsV vs)) : LstV w (.slice (some ⟨g, 0, none⟩) vs.length cap) vs := by
  refine ⟨_, cap, rfl, .inr ⟨g, 0, rfl, hg, fun j hj => ?_⟩⟩
  have k := fun r hr u hu => h (j * 5 + r) u ((cellsV_get vs j hj r hr).trans hu)
  exact ⟨k 0 (by omega) _ rfl, k 1 (by omega) _ rfl, k 2 (by omega) _ rfl, k 3 (by omega) _ rfl, k 4 (by omega) _ rfl⟩

theorem evs_ok {fs : List F} {xs : List E} {vs : List V} (h : evs fs xs = some vs) : vs.length = xs.length ∧ ∀ v ∈ vs, v.check = 0 := by
  induction xs generalizing vs with
  | nil => cases h; exact ⟨rfl, fun v h => by cases h⟩
  | cons x r ih =>
    rw [evs] at h
    cases hv : evO fs x.toN with
    | none => rw [hv] at h; cases h
    | some v =>
      rw [hv] at h
      cases hl : evs fs r with
      | none => rw [hl] at h; cases h
      | some l =>
        rw [hl] at h
        cases h
        obtain ⟨h1, h2⟩ := ih hl
        refine ⟨by simp [h1], fun u hu => ?_⟩
        rcases List.mem_cons.1 hu with rfl | hu
        · exact evO_ok hv
        · exact h2 u hu

theorem evA_ok {fs : List F} {xs : List E} {vs : List V} (h : evA fs xs = some vs) : vs.length ≤ 4 ∧ ∀ v ∈ vs, v.check = 0 := by
  unfold evA at h
  by_cases hx : xs.length = 0 ∨ 4 < xs.length
  · rw [if_pos hx] at h; cases h
  · rw [if_neg hx] at h
    obtain ⟨h1, h2⟩ := evs_ok h
    exact ⟨by omega, h2⟩

/-- A document's entry. -/
noncomputable def entryOf (xs : List E) (key : ByteArray) (fs : List F) : Option Sh.F := (evA fs xs).map fun vs => ⟨keyStr vs, key⟩

def GaveE (o : Option Sh.F) (e : Ending) : Prop :=
  match o with
  | none => e = .returned (.tuple #[.agg #[.string ⟨#[]⟩, .string ⟨#[]⟩], .bool false])
  | some f => e = .returned (.tuple #[.agg #[.string f.path, .string f.val], .bool true])

set_option maxHeartbeats 2000000 in
set_option maxRecDepth 20000 in
theorem entry_any {D : Nat} (xs : List E) (ao : Option Addr) (cap : Nat) (key : ByteArray) (dv : Value) (fs : List F) (w : World) (hT : Tn (fun _ => True) D w (.slice ao xs.length cap) (xs.map E.toN)) (hok : ∀ x ∈ xs, x.ok ∧ ∀ d, cntN d [x.toN] ≤ 256) (hL : Lst w dv fs) :
    Calls Tryz.prog 77 #[.slice ao xs.length cap, .string key, dv] w fun e w' => GaveE (entryOf xs key fs) e ∧ Adds w w' := by
  have kE := fun w' hA => evalAll_any xs ao cap dv fs w' (hT.adds hA) hok (hL.adds hA)
  unfold entryOf
  cases hv : evA fs xs with
  | none =>
    rw [hv] at kE
    simp only [GaveV] at kE
    simp only [Option.map_none, GaveE]
    clear hT hok hL hv
    generalize xs.length = n at *
    go_enter Tryz.func77, Tryz.ntmps77
    go_wp2_with (go_at_call 105; refine (kE _ (by repeat (first | with_reducible exact Adds.refl _ | with_reducible refine Adds.alloc ?_ _ | with_reducible refine Adds.more ?_ _ _ | with_reducible refine Adds.drew ?_ | with_reducible refine Adds.drewN ?_ _))).mono ?_; rintro e w1 ⟨rfl, os1, n1, rfl⟩)
    refine bodyPost_ret (v := .tuple #[.agg #[.string ⟨#[]⟩, .string ⟨#[]⟩], .bool false]) (by simp [results, Tryz.results77, go_sem]) rfl ⟨rfl, ?_⟩
    repeat (first | with_reducible exact Adds.refl _ | with_reducible refine Adds.alloc ?_ _ | with_reducible refine Adds.more ?_ _ _ | with_reducible refine Adds.drew ?_ | with_reducible refine Adds.drewN ?_ _)
  | some vs =>
    obtain ⟨hl4, hch⟩ := evA_ok hv
    rw [hv] at kE
    simp only [GaveV] at kE
    simp only [Option.map_some, GaveE]
    have hfb : firstBad vs = 0 := firstBad_none hch
    have kK := fun (W : World) (g cap : Nat) (hg : g < W.heap.size) (hr : W.rangeAt g 0 (cellsV vs)) => rankKey_any _ vs W (lstV_of (cap := cap) hg hr) (by omega)
    rw [hfb] at kK
    generalize keyStr vs = ks at *
    clear hT hok hL hv hch hfb
    generalize xs.length = n at *
    go_enter Tryz.func77, Tryz.ntmps77
    go_wp2_with (first
      | (go_at_call 105; refine (kE _ (by repeat (first | with_reducible exact Adds.refl _ | with_reducible refine Adds.alloc ?_ _ | with_reducible refine Adds.more ?_ _ _ | with_reducible refine Adds.drew ?_ | with_reducible refine Adds.drewN ?_ _))).mono ?_; rintro e w1 ⟨⟨g, c, rfl, hg, hr⟩, os1, n1, rfl⟩)
      | (go_at_call 106; refine (kK _ g c hg hr).mono ?_; rintro e w2 ⟨rfl, hB2⟩; obtain ⟨os2, n2, rfl⟩ := Adds.of hB2; clear hB2))
    refine bodyPost_ret (v := .tuple #[.agg #[.string ks, .string key], .bool true]) (by simp [results, Tryz.results77, go_sem]) rfl ⟨rfl, ?_⟩
    repeat (first | with_reducible exact Adds.refl _ | with_reducible refine Adds.alloc ?_ _ | with_reducible refine Adds.more ?_ _ _ | with_reducible refine Adds.drew ?_ | with_reducible refine Adds.drewN ?_ _)

end Go.Proofs.YtiacnmcdfpmcfaaGreatDoor

namespace Go.Proofs.YtiacnmcdfpmcfaaGreatDoor
open Go.RowKit
attribute [local go_sem] cell?_more frozen?_more setCell_more size_more tape_more drew_more drewN_more more_drew more_drewN one_out plus_out plus_end lt_one le_p2 le_p3 le_p4 le_p5 le_p6 le_p7 le_p8 le_p9 le_p10 le_p11 le_p12 le_p13 le_p14 le_p15 le_p16 le_p17 le_p18 le_p19 le_p20 le_p21 le_p22 le_p23 le_p24 le_q0 le_q1 lt_q1 le_q2 lt_q2 le_q3 lt_q3 le_q4 lt_q4 le_q5 lt_q5 le_q6 lt_q6 le_q7 lt_q7 le_q8 lt_q8 le_q9 lt_q9 le_q10 lt_q10 le_q11 lt_q11 le_q12 lt_q12 le_q13 lt_q13 le_q14 lt_q14 le_q15 lt_q15 le_q16 lt_q16 le_q17 lt_q17 le_q18 lt_q18 le_q19 lt_q19 le_q20 lt_q20 le_q21 lt_q21 le_q22 lt_q22 le_q23 lt_q23 le_q24 lt_q24


/-- A document and its key. -/
structure Dn where
  key : ByteArray
  doc : List F

def LiesD (w : World) (b off : Nat) (ds : List Dn) : Prop := ∀ j (h : j < ds.length), ∃ v,
  w.cell? ⟨b, off + j * 2, none⟩ = some (.string ds[j].key) ∧ w.cell? ⟨b, off + j * 2 + 1, none⟩ = some v ∧ Lst w v ds[j].doc

def LstD (w : World) (s : Value) (ds : List Dn) : Prop :=
  ∃ ao cap, s = .slice ao ds.length cap ∧ ds.length ≤ cap ∧ (ds = [] ∨ ∃ b off, ao = some ⟨b, off, none⟩ ∧ b < w.heap.size ∧ LiesD w b off ds)

theorem LiesD.adds {w w' : World} {b off : Nat} {ds : List Dn} (h : LiesD w b off ds) (hA : Adds w w') (hb : b < w.heap.size) : LiesD w' b off ds := by
  intro j hj
  obtain ⟨v, h0, h1, h2⟩ := h j hj
  exact ⟨v, (hA.below.cell (by exact hb)).trans h0, (hA.below.cell (by exact hb)).trans h1, h2.adds hA⟩

theorem LstD.adds {w w' : World} {s : Value} {ds : List Dn} (h : LstD w s ds) (hA : Adds w w') : LstD w' s ds := by
  obtain ⟨ao, cap, rfl, hc, h | ⟨b, off, rfl, hlt, hl⟩⟩ := h
  · exact ⟨ao, cap, rfl, hc, .inl h⟩
  · exact ⟨_, cap, rfl, hc, .inr ⟨b, off, rfl, Nat.lt_of_lt_of_le hlt hA.below.size, hl.adds hA hlt⟩⟩

def GoodD (ds : List Dn) (k : Nat) (h : k < ds.length) : Prop := isKey ds[k].key = true ∧ May ds[k].doc ∧ (0 < k → lessP ds[k - 1].key ds[k].key = true)

def MayD (ds : List Dn) : Prop := ∀ k (h : k < ds.length), GoodD ds k h

instance (ds : List Dn) : Decidable (MayD ds) := by unfold MayD GoodD; infer_instance

theorem mayD_bad {ds : List Dn} {k : Nat} {h : k < ds.length} (hb : ¬ GoodD ds k h) : ¬ MayD ds := fun hm => hb (hm k h)

set_option maxHeartbeats 4000000 in
set_option maxRecDepth 20000 in
theorem docs_any (s : Value) (ds : List Dn) (w : World) (h : LstD w s ds) (hl6 : ds.length ≤ 1000) :
    Calls Tryz.prog 76 #[s] w fun e w' => e = .returned (.int .i64 (errOf (MayD ds) 1)) ∧ Adds w w' := by
  obtain ⟨ao, cap, rfl, hcap, hlo⟩ := h
  go_enter Tryz.func76, Tryz.ntmps76
  go_wp2
  go_loopw [7] (fun i wr => ∃ k : Nat, k ≤ ds.length ∧ i = .int .i64 k ∧ (∀ j (hj : j < ds.length), j < k → GoodD ds j hj) ∧ Adds w wr) (fun i _ => ds.length - (intOf i).toNat)
  case atStart => exact ⟨0, Nat.zero_le _, rfl, fun j _ hj => absurd hj (by omega), Adds.refl _⟩
  case round =>
    obtain ⟨k, hk, rfl, hgood, os, n, rfl⟩ := hrel
    by_cases hlt : k < ds.length
    · rcases hlo with rfl | ⟨b, off, rfl, hb, hl⟩
      · simp at hlt
      obtain ⟨v, c0, c1, hdoc⟩ := hl k hlt
      have hK := key_any ds[k].key
      have hC := fun w' hA => check_doc v ds[k].doc w' (hdoc.adds hA)
      obtain ⟨vo, vc, rfl, _, _⟩ := hdoc
      have hlt' : (k : Int) < (ds.length : Int) := by omega
      by_cases h1 : isKey ds[k].key = true
      rotate_left
      · have HB : Hid (¬ GoodD ds k hlt) := fun h => h1 h.1
        rw [show isKey ds[k].key = false by simpa using h1] at hK
        clear hC h1
        generalize ds[k].key = ky at *
        generalize ds[k].doc.length = nd at *
        go_wp2_with (first | (go_at_call 103; refine (hK _).mono ?_; rintro e w1 ⟨rfl, hw⟩; subst w1))
        go_ret
        refine ⟨by rw [err_bad (mayD_bad (h := hlt) HB.out)]; rfl, ?_⟩
        repeat (first | with_reducible exact Adds.refl _ | with_reducible refine Adds.alloc ?_ _ | with_reducible refine Adds.more ?_ _ _ | with_reducible refine Adds.drew ?_ | with_reducible refine Adds.drewN ?_ _)
      rw [h1] at hK
      by_cases h2 : May ds[k].doc
      rotate_left
      · have HB : Hid (¬ GoodD ds k hlt) := fun h => h2 h.2.1
        rw [err_bad h2] at hC
        clear h2 h1
        generalize ds[k].key = ky at *
        generalize ds[k].doc.length = nd at *
        go_wp2_with (first | (go_at_call 103; refine (hK _).mono ?_; rintro e w1 ⟨rfl, hw⟩; subst w1) | (go_at_call 104; refine (hC _ (by repeat (first | with_reducible exact Adds.refl _ | with_reducible refine Adds.alloc ?_ _ | with_reducible refine Adds.more ?_ _ _ | with_reducible refine Adds.drew ?_ | with_reducible refine Adds.drewN ?_ _))).mono ?_; rintro e w2 ⟨rfl, os2, n2, rfl⟩))
        go_ret
        refine ⟨by rw [err_bad (mayD_bad (h := hlt) HB.out)]; rfl, ?_⟩
        repeat (first | with_reducible exact Adds.refl _ | with_reducible refine Adds.alloc ?_ _ | with_reducible refine Adds.more ?_ _ _ | with_reducible refine Adds.drew ?_ | with_reducible refine Adds.drewN ?_ _)
      rw [err_ok h2] at hC
      cases k with
      | zero =>
        have HGO : Hid (GoodD ds 0 hlt) := ⟨h1, h2, fun h => absurd h (by omega)⟩
        clear h1 h2
        simp only [Nat.zero_mul, Nat.add_zero] at c0 c1
        generalize ds[0].key = ky at *
        generalize ds[0].doc.length = nd at *
        go_wp2_with (first | (go_at_call 103; refine (hK _).mono ?_; rintro e w1 ⟨rfl, hw⟩; subst w1) | (go_at_call 104; refine (hC _ (by repeat (first | with_reducible exact Adds.refl _ | with_reducible refine Adds.alloc ?_ _ | with_reducible refine Adds.more ?_ _ _ | with_reducible refine Adds.drew ?_ | with_reducible refine Adds.drewN ?_ _))).mono ?_; rintro e w2 ⟨rfl, os2, n2, rfl⟩))
        go_quiet (fail)
        go_wp2
        go_roundw
        case rel =>
          refine ⟨0 + 1, by omega, by go_num, ?_, ?_⟩
          · intro j hj hj2
            by_cases e : j = 0
            · subst e
              exact HGO.out
            · exact hgood j hj (by omega)
          · repeat (first | with_reducible exact Adds.refl _ | with_reducible refine Adds.alloc ?_ _ | with_reducible refine Adds.more ?_ _ _ | with_reducible refine Adds.drew ?_ | with_reducible refine Adds.drewN ?_ _)
        case measure => simp [intOf]; omega
      | succ m =>
        obtain ⟨v2, d0, _, _⟩ := hl m (by omega)
        obtain ⟨q, hq⟩ : ∃ q, Op.bytesLess ds[m].key.toList ds[m + 1].key.toList = q := ⟨_, rfl⟩
        have hml : m < ds.length := by omega
        have hw1 : IntKind.i64.wrap (m : Int) = m := by rw [IntKind.wrap_i64]; omega
        cases q
        · have HB : Hid (¬ GoodD ds (m + 1) hlt) := fun h => by
            have h3 := h.2.2 (by omega)
            have e : lessP ds[m].key ds[m + 1].key = false := hq
            simp only [Nat.add_sub_cancel] at h3
            rw [e] at h3
            cases h3
          clear h1 h2
          generalize ds[m + 1].key = ky at *
          generalize ds[m].key = kp at *
          generalize ds[m + 1].doc.length = nd at *
          go_wp2_with (first | (go_at_call 103; refine (hK _).mono ?_; rintro e w1 ⟨rfl, hw⟩; subst w1) | (go_at_call 104; refine (hC _ (by repeat (first | with_reducible exact Adds.refl _ | with_reducible refine Adds.alloc ?_ _ | with_reducible refine Adds.more ?_ _ _ | with_reducible refine Adds.drew ?_ | with_reducible refine Adds.drewN ?_ _))).mono ?_; rintro e w2 ⟨rfl, os2, n2, rfl⟩))
          go_quiet (fail)
          go_wp2
          go_ret
          refine ⟨by rw [err_bad (mayD_bad (h := hlt) HB.out)]; rfl, ?_⟩
          repeat (first | with_reducible exact Adds.refl _ | with_reducible refine Adds.alloc ?_ _ | with_reducible refine Adds.more ?_ _ _ | with_reducible refine Adds.drew ?_ | with_reducible refine Adds.drewN ?_ _)
        · have HGO : Hid (GoodD ds (m + 1) hlt) := ⟨h1, h2, fun _ => hq⟩
          clear h1 h2
          generalize ds[m + 1].key = ky at *
          generalize ds[m].key = kp at *
          generalize ds[m + 1].doc.length = nd at *
          go_wp2_with (first | (go_at_call 103; refine (hK _).mono ?_; rintro e w1 ⟨rfl, hw⟩; subst w1) | (go_at_call 104; refine (hC _ (by repeat (first | with_reducible exact Adds.refl _ | with_reducible refine Adds.alloc ?_ _ | with_reducible refine Adds.more ?_ _ _ | with_reducible refine Adds.drew ?_ | with_reducible refine Adds.drewN ?_ _))).mono ?_; rintro e w2 ⟨rfl, os2, n2, rfl⟩))
          go_quiet (fail)
          go_wp2
          go_roundw
          case rel =>
            refine ⟨(m + 1) + 1, by omega, by go_num, ?_, ?_⟩
            · intro j hj hj2
              by_cases e : j = (m + 1)
              · subst e
                exact HGO.out
              · exact hgood j hj (by omega)
            · repeat (first | with_reducible exact Adds.refl _ | with_reducible refine Adds.alloc ?_ _ | with_reducible refine Adds.more ?_ _ _ | with_reducible refine Adds.drew ?_ | with_reducible refine Adds.drewN ?_ _)
          case measure => simp [intOf]; omega
    · have hlt' : ¬ (k : Int) < (ds.length : Int) := by omega
      go_wp2
      go_ret
      refine ⟨by rw [err_ok (show MayD ds from fun j hj => hgood j hj (by omega))]; rfl, ?_⟩
      repeat (first | with_reducible exact Adds.refl _ | with_reducible refine Adds.alloc ?_ _ | with_reducible refine Adds.more ?_ _ _ | with_reducible refine Adds.drew ?_ | with_reducible refine Adds.drewN ?_ _)


end Go.Proofs.YtiacnmcdfpmcfaaGreatDoor
