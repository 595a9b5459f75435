/-
  The reference's Find, by contract.
  A document's entry, by contract.
  Which lists are documents, by contract.
  The order of entries is one.
-/
import Derived.Test.YtiacnmcdfpmcfaaGreatDoorQ40
import Derived.Test.YtiacnmcdfpmcfaaGreatDoorQ36
import Derived.Test.YtiacnmcdfpmcfaaGreatDoorQ37
import Derived.Test.YtiacnmcdfpmcfaaGreatDoorIxe
import Derived.Test.YtiacnmcdfpmcfaaGreatDoorQ39
namespace Go.Proofs.YtiacnmcdfpmcfaaGreatDoor.Sh
open Go.RowKit
attribute [local go_sem] cell?_more frozen?_more setCell_more size_more tape_more drew_more drewN_more more_drew more_drewN one_out plus_out plus_end lt_one le_p2 le_p3 le_p4 le_p5 le_p6 le_p7 le_p8 le_p9 le_p10 le_p11 le_p12 le_p13 le_p14 le_p15 le_p16 le_p17 le_p18 le_p19 le_p20 le_p21 le_p22 le_p23 le_p24 le_q0 le_q1 lt_q1 le_q2 lt_q2 le_q3 lt_q3 le_q4 lt_q4 le_q5 lt_q5 le_q6 lt_q6 le_q7 lt_q7 le_q8 lt_q8 le_q9 lt_q9 le_q10 lt_q10 le_q11 lt_q11 le_q12 lt_q12 le_q13 lt_q13 le_q14 lt_q14 le_q15 lt_q15 le_q16 lt_q16 le_q17 lt_q17 le_q18 lt_q18 le_q19 lt_q19 le_q20 lt_q20 le_q21 lt_q21 le_q22 lt_q22 le_q23 lt_q23 le_q24 lt_q24


theorem full_whole (fs : List F) (j M : Nat) (q : F → Bool) (h : ¬ (((fs.take j).filter q).take M).length < M) : (fs.filter q).take M = ((fs.take j).filter q).take M := by
  rw [List.length_take] at h
  have e : fs.filter q = (fs.take j).filter q ++ (fs.drop j).filter q := by rw [← List.filter_append, List.take_append_drop]
  rw [e, List.take_append_of_le_length (by omega)]

theorem own_empty (w : World) : Own w.heap.size (.slice (some ⟨w.heap.size, 0, none⟩) 0 0) [] w (w.alloc (.cells #[] 70)) := by
  refine ⟨⟨by simp [cellsF], .inr ⟨w.heap.size, 0, #[], rfl, Nat.le_refl _, new_block2 w _, Nat.zero_le _, by unfold maxLen; omega, by simp, by simp [cellsF]⟩⟩, ((Adds.refl _).alloc _).below, by simp⟩

theorem Lst.slice {w : World} {s : Value} {fs : List F} (h : Lst w s fs) : ∃ o c, s = .slice o fs.length c := by
  obtain ⟨ao, cap, rfl, _⟩ := h
  exact ⟨ao, cap, rfl⟩

theorem filter_next {l : List F} {k : Nat} (hk : k < l.length) (q : F → Bool) : (l.take (k + 1)).filter q = (l.take k).filter q ++ (if q l[k] then [l[k]] else []) := by
  rw [List.take_succ_eq_append_getElem hk, List.filter_append]
  congr 1
  by_cases e : q l[k] = true <;> simp [e]

theorem take_more {A : List F} {x : F} {M : Nat} (h : (A.take M).length < M) : (A ++ [x]).take M = A.take M ++ [x] := by
  rw [List.length_take] at h
  rw [List.take_of_length_le (by simp; omega), List.take_of_length_le (by omega)]

theorem take_full {A : List F} {x : F} {M : Nat} (h : ¬ (A.take M).length < M) : (A ++ [x]).take M = A.take M := by
  rw [List.length_take] at h
  rw [List.take_append_of_le_length (by omega)]

set_option maxHeartbeats 4000000 in
set_option maxRecDepth 20000 in
theorem refScan_any (s : Value) (fs : List F) (p t : ByteArray) (M : Nat) (w : World) (h : Lst w s fs) (hle : fs.length ≤ 1000) :
    Calls Tryz.prog 25 #[s, .string p, .string t, .int .i64 M] w fun e w' => ∃ r, e = .returned r ∧ Lst w' r ((fs.filter (isIn p t)).take M) ∧ Adds w w' := by
  obtain ⟨ao, cap, rfl, hcap, hlo⟩ := h
  go_enter Tryz.func25, Tryz.ntmps25
  go_wp2
  go_loopw [9, 10] (fun nv i w2 => ∃ j : Nat, j ≤ fs.length ∧ i = .int .i64 j ∧ Own w.heap.size nv (((fs.take j).filter (isIn p t)).take M) w w2) (fun _ i _ => fs.length - (intOf i).toNat)
  case atStart => exact ⟨0, Nat.zero_le _, rfl, by simpa using own_empty w⟩
  case round =>
    obtain ⟨j, hj, rfl, hown⟩ := hrel
    have hB := hown.2.2
    by_cases hlt : j < fs.length
    · rcases hlo with rfl | ⟨b, off, rfl, hbb, hl⟩
      · simp at hlt
      obtain ⟨c0, c1⟩ := hl.below hown.2.1 hbb j hlt
      have hbl : b < wr.heap.size := by omega
      have HJ : Hid _ := filter_next hlt (isIn p t)
      have HW : Hid (¬ (((fs.take j).filter (isIn p t)).take M).length < M → (fs.filter (isIn p t)).take M = ((fs.take j).filter (isIn p t)).take M) := full_whole fs j M (isIn p t)
      have hla : (((fs.take j).filter (isIn p t)).take M).length ≤ fs.length := Nat.le_trans (List.length_take_le' _ _) (Nat.le_trans (List.length_filter_le _ _) (by rw [List.length_take]; omega))
      generalize fs[j] = x at *
      generalize (fs.take j).filter (isIn p t) = A at *
      have HI : Hid (isIn p t x = (!lessP x.path p && (decide (t.toList = []) || lessP x.path t))) := rfl
      obtain ⟨b1, h1⟩ : ∃ b1, Op.bytesLess x.path.toList p.toList = b1 := ⟨_, rfl⟩
      obtain ⟨b2, h2⟩ : ∃ b2, Op.bytesLess x.path.toList t.toList = b2 := ⟨_, rfl⟩
      have H1 : Hid (lessP x.path p = b1) := h1
      have H2 : Hid (lessP x.path t = b2) := h2
      obtain ⟨uo, uc, rfl⟩ := hown.lst.slice
      have hT := take_more (A := A) (x := x) (M := M)
      have hF := take_full (A := A) (x := x) (M := M)
      have hAM : (A.take M).length < M ∨ ¬ (A.take M).length < M := by omega
      obtain ⟨R, hR⟩ : ∃ R, A.take M = R := ⟨_, rfl⟩
      rw [hR] at hown hla hT hF hAM HW ⊢
      have HAR : Hid _ := hR
      clear hR
      by_cases hm : R.length < M
      rotate_left
      · have hm' : ¬ (R.length : Int) < (M : Int) := by omega
        clear hT hF hAM
        go_wp2
        go_ret
        exact ⟨_, rfl, by rw [HW.out hm]; exact hown.lst, Adds.of hown.2.1⟩
      have hm' : (R.length : Int) < (M : Int) := by omega
      have HT : Hid _ := hT hm
      clear hT hF hAM HW
      by_cases hte : t.toList = []
      · obtain rfl : t = ⟨#[]⟩ := toList_inj (by rw [hte, ByteArray.toList_eq])
        have hin : Hid (isIn p ⟨#[]⟩ x = !b1) := by
          show _ = _
          rw [HI.out, H1.out]
          simp [hte]
        cases b1
        · skip
          go_wp2_with (at_builtin; refine own_app rfl (.tmp 44) (.tmp 49) rfl (hown.alloc _) rfl (lst_new (f := x) (by simp [go_sem])) rfl (by simp only [List.length_singleton]; omega) ?_; intro v2 w2 hown2)
          go_roundw
          case rel => exact ⟨j + 1, by omega, by go_num, by rw [HJ.out, hin.out]; simp only [Bool.not_false, if_true]; rw [HT.out]; exact hown2⟩
          case measure => simp [intOf]; omega
        · skip
          go_wp2
          go_roundw
          case rel => exact ⟨j + 1, by omega, by go_num, by rw [HJ.out, hin.out]; simp only [Bool.not_true, Bool.false_eq_true, if_false, List.append_nil]; rw [HAR.out]; exact hown⟩
          case measure => simp [intOf]; omega
      · have ht1 : (t.toList == []) = false := by simpa using hte
        have ht2 : (t.toList != []) = true := by simpa using hte
        have hin : Hid (isIn p t x = (!b1 && b2)) := by
          show _ = _
          rw [HI.out, H1.out, H2.out]
          simp [hte]
        cases b1
        · cases b2
          · skip
            go_wp2
            go_roundw
            case rel => exact ⟨j + 1, by omega, by go_num, by rw [HJ.out, hin.out]; simp only [Bool.and_false, Bool.false_eq_true, if_false, List.append_nil]; rw [HAR.out]; exact hown⟩
            case measure => simp [intOf]; omega
          · skip
            go_wp2_with (at_builtin; refine own_app rfl (.tmp 44) (.tmp 49) rfl (hown.alloc _) rfl (lst_new (f := x) (by simp [go_sem])) rfl (by simp only [List.length_singleton]; omega) ?_; intro v2 w2 hown2)
            go_roundw
            case rel => exact ⟨j + 1, by omega, by go_num, by rw [HJ.out, hin.out]; simp only [Bool.not_false, Bool.and_true, if_true]; rw [HT.out]; exact hown2⟩
            case measure => simp [intOf]; omega
        · skip
          go_wp2
          go_roundw
          case rel => exact ⟨j + 1, by omega, by go_num, by rw [HJ.out, hin.out]; simp only [Bool.not_true, Bool.false_and, Bool.false_eq_true, if_false, List.append_nil]; rw [HAR.out]; exact hown⟩
          case measure => simp [intOf]; omega
    · have hj' : j = fs.length := by omega
      subst hj'
      rw [List.take_length] at hown
      go_wp2
      go_ret
      exact ⟨_, rfl, hown.lst, Adds.of hown.2.1⟩


end Go.Proofs.YtiacnmcdfpmcfaaGreatDoor.Sh

namespace Go.Proofs.YtiacnmcdfpmcfaaGreatDoor
open Go.RowKit
attribute [local go_sem] cell?_more frozen?_more setCell_more size_more tape_more drew_more drewN_more more_drew more_drewN one_out plus_out plus_end lt_one le_p2 le_p3 le_p4 le_p5 le_p6 le_p7 le_p8 le_p9 le_p10 le_p11 le_p12 le_p13 le_p14 le_p15 le_p16 le_p17 le_p18 le_p19 le_p20 le_p21 le_p22 le_p23 le_p24 le_q0 le_q1 lt_q1 le_q2 lt_q2 le_q3 lt_q3 le_q4 lt_q4 le_q5 lt_q5 le_q6 lt_q6 le_q7 lt_q7 le_q8 lt_q8 le_q9 lt_q9 le_q10 lt_q10 le_q11 lt_q11 le_q12 lt_q12 le_q13 lt_q13 le_q14 lt_q14 le_q15 lt_q15 le_q16 lt_q16 le_q17 lt_q17 le_q18 lt_q18 le_q19 lt_q19 le_q20 lt_q20 le_q21 lt_q21 le_q22 lt_q22 le_q23 lt_q23 le_q24 lt_q24




theorem cellsV_get (fs : List V) (i : Nat) (hi : i < fs.length) (r : Nat) (hr : r < 5) : (cellsV fs)[i * 5 + r]? = fs[i].cells[r]? := by
  induction fs generalizing i with
  | nil => simp at hi
  | cons f t ih =>
    cases i with
    | zero =>
      simp only [cellsV, List.flatMap_cons, Nat.zero_mul, Nat.zero_add, List.getElem_cons_zero]
      rw [List.getElem?_append_left (by simp [V.cells]; omega)]
    | succ i =>
      have hi' : i < t.length := by simpa using hi
      simp only [cellsV, List.flatMap_cons, List.getElem_cons_succ]
      rw [List.getElem?_append_right (by simp [V.cells]; omega)]
      have := ih i hi'
      simp only [cellsV] at this
      rw [← this]
      congr 1
      simp [V.cells]
      omega

theorem lstV_of {w : World} {g cap : Nat} {vs : List V} (hg : g < w.heap.size) (h : w.rangeAt g 0 (cellsV vs)) : LstV w (.slice (some ⟨g, 0, none⟩) vs.length cap) vs := by
  refine ⟨_, cap, rfl, .inr ⟨g, 0, rfl, hg, fun j hj => ?_⟩⟩
  have k := fun r hr u hu => h (j * 5 + r) u ((cellsV_get vs j hj r hr).trans hu)
  exact ⟨k 0 (by omega) _ rfl, k 1 (by omega) _ rfl, k 2 (by omega) _ rfl, k 3 (by omega) _ rfl, k 4 (by omega) _ rfl⟩

theorem evs_ok {fs : List F} {xs : List E} {vs : List V} (h : evs fs xs = some vs) : vs.length = xs.length ∧ ∀ v ∈ vs, v.check = 0 := by
  induction xs generalizing vs with
  | nil => cases h; exact ⟨rfl, fun v h => by cases h⟩
  | cons x r ih =>
    rw [evs] at h
    cases hv : evO fs x.toN with
    | none => rw [hv] at h; cases h
    | some v =>
      rw [hv] at h
      cases hl : evs fs r with
      | none => rw [hl] at h; cases h
      | some l =>
        rw [hl] at h
        cases h
        obtain ⟨h1, h2⟩ := ih hl
        refine ⟨by simp [h1], fun u hu => ?_⟩
        rcases List.mem_cons.1 hu with rfl | hu
        · exact evO_ok hv
        · exact h2 u hu

theorem evA_ok {fs : List F} {xs : List E} {vs : List V} (h : evA fs xs = some vs) : vs.length ≤ 4 ∧ ∀ v ∈ vs, v.check = 0 := by
  unfold evA at h
  by_cases hx : xs.length = 0 ∨ 4 < xs.length
  · rw [if_pos hx] at h; cases h
  · rw [if_neg hx] at h
    obtain ⟨h1, h2⟩ := evs_ok h
    exact ⟨by omega, h2⟩

/-- A document's entry. -/
noncomputable def entryOf (xs : List E) (key : ByteArray) (fs : List F) : Option Sh.F := (evA fs xs).map fun vs => ⟨keyStr vs, key⟩

def GaveE (o : Option Sh.F) (e : Ending) : Prop :=
  match o with
  | none => e = .returned (.tuple #[.agg #[.string ⟨#[]⟩, .string ⟨#[]⟩], .bool false])
  | some f => e = .returned (.tuple #[.agg #[.string f.path, .string f.val], .bool true])

set_option maxHeartbeats 2000000 in
set_option maxRecDepth 20000 in
theorem entry_any {D : Nat} (xs : List E) (ao : Option Addr) (cap : Nat) (key : ByteArray) (dv : Value) (fs : List F) (w : World) (hT : Tn (fun _ => True) D w (.slice ao xs.length cap) (xs.map E.toN)) (hok : ∀ x ∈ xs, x.ok ∧ ∀ d, cntN d [x.toN] ≤ 256) (hL : Lst w dv fs) :
    Calls Tryz.prog 77 #[.slice ao xs.length cap, .string key, dv] w fun e w' => GaveE (entryOf xs key fs) e ∧ Adds w w' := by
  have kE := fun w' hA => evalAll_any xs ao cap dv fs w' (hT.adds hA) hok (hL.adds hA)
  unfold entryOf
  cases hv : evA fs xs with
  | none =>
    rw [hv] at kE
    simp only [GaveV] at kE
    simp only [Option.map_none, GaveE]
    clear hT hok hL hv
    generalize xs.length = n at *
    go_enter Tryz.func77, Tryz.ntmps77
    go_wp2_with (go_at_call 105; refine (kE _ (by repeat (first | with_reducible exact Adds.refl _ | with_reducible refine Adds.alloc ?_ _ | with_reducible refine Adds.more ?_ _ _ | with_reducible refine Adds.drew ?_ | with_reducible refine Adds.drewN ?_ _))).mono ?_; rintro e w1 ⟨rfl, os1, n1, rfl⟩)
    refine bodyPost_ret (v := .tuple #[.agg #[.string ⟨#[]⟩, .string ⟨#[]⟩], .bool false]) (by simp [results, Tryz.results77, go_sem]) rfl ⟨rfl, ?_⟩
    repeat (first | with_reducible exact Adds.refl _ | with_reducible refine Adds.alloc ?_ _ | with_reducible refine Adds.more ?_ _ _ | with_reducible refine Adds.drew ?_ | with_reducible refine Adds.drewN ?_ _)
  | some vs =>
    obtain ⟨hl4, hch⟩ := evA_ok hv
    rw [hv] at kE
    simp only [GaveV] at kE
    simp only [Option.map_some, GaveE]
    have hfb : firstBad vs = 0 := firstBad_none hch
    have kK := fun (W : World) (g cap : Nat) (hg : g < W.heap.size) (hr : W.rangeAt g 0 (cellsV vs)) => rankKey_any _ vs W (lstV_of (cap := cap) hg hr) (by omega)
    rw [hfb] at kK
    generalize keyStr vs = ks at *
    clear hT hok hL hv hch hfb
    generalize xs.length = n at *
    go_enter Tryz.func77, Tryz.ntmps77
    go_wp2_with (first
      | (go_at_call 105; refine (kE _ (by repeat (first | with_reducible exact Adds.refl _ | with_reducible refine Adds.alloc ?_ _ | with_reducible refine Adds.more ?_ _ _ | with_reducible refine Adds.drew ?_ | with_reducible refine Adds.drewN ?_ _))).mono ?_; rintro e w1 ⟨⟨g, c, rfl, hg, hr⟩, os1, n1, rfl⟩)
      | (go_at_call 106; refine (kK _ g c hg hr).mono ?_; rintro e w2 ⟨rfl, hB2⟩; obtain ⟨os2, n2, rfl⟩ := Adds.of hB2; clear hB2))
    refine bodyPost_ret (v := .tuple #[.agg #[.string ks, .string key], .bool true]) (by simp [results, Tryz.results77, go_sem]) rfl ⟨rfl, ?_⟩
    repeat (first | with_reducible exact Adds.refl _ | with_reducible refine Adds.alloc ?_ _ | with_reducible refine Adds.more ?_ _ _ | with_reducible refine Adds.drew ?_ | with_reducible refine Adds.drewN ?_ _)

end Go.Proofs.YtiacnmcdfpmcfaaGreatDoor

namespace Go.Proofs.YtiacnmcdfpmcfaaGreatDoor
open Go.RowKit
attribute [local go_sem] cell?_more frozen?_more setCell_more size_more tape_more drew_more drewN_more more_drew more_drewN one_out plus_out plus_end lt_one le_p2 le_p3 le_p4 le_p5 le_p6 le_p7 le_p8 le_p9 le_p10 le_p11 le_p12 le_p13 le_p14 le_p15 le_p16 le_p17 le_p18 le_p19 le_p20 le_p21 le_p22 le_p23 le_p24 le_q0 le_q1 lt_q1 le_q2 lt_q2 le_q3 lt_q3 le_q4 lt_q4 le_q5 lt_q5 le_q6 lt_q6 le_q7 lt_q7 le_q8 lt_q8 le_q9 lt_q9 le_q10 lt_q10 le_q11 lt_q11 le_q12 lt_q12 le_q13 lt_q13 le_q14 lt_q14 le_q15 lt_q15 le_q16 lt_q16 le_q17 lt_q17 le_q18 lt_q18 le_q19 lt_q19 le_q20 lt_q20 le_q21 lt_q21 le_q22 lt_q22 le_q23 lt_q23 le_q24 lt_q24


/-- A document and its key. -/
structure Dn where
  key : ByteArray
  doc : List F

def LiesD (w : World) (b off : Nat) (ds : List Dn) : Prop := ∀ j (h : j < ds.length), ∃ v,
  w.cell? ⟨b, off + j * 2, none⟩ = some (.string ds[j].key) ∧ w.cell? ⟨b, off + j * 2 + 1, none⟩ = some v ∧ Lst w v ds[j].doc

def LstD (w : World) (s : Value) (ds : List Dn) : Prop :=
  ∃ ao cap, s = .slice ao ds.length cap ∧ ds.length ≤ cap ∧ (ds = [] ∨ ∃ b off, ao = some ⟨b, off, none⟩ ∧ b < w.heap.size ∧ LiesD w b off ds)

theorem LiesD.adds {w w' : World} {b off : Nat} {ds : List Dn} (h : LiesD w b off ds) (hA : Adds w w') (hb : b < w.heap.size) : LiesD w' b off ds := by
  intro j hj
  obtain ⟨v, h0, h1, h2⟩ := h j hj
  exact ⟨v, (hA.below.cell (by exact hb)).trans h0, (hA.below.cell (by exact hb)).trans h1, h2.adds hA⟩

theorem LstD.adds {w w' : World} {s : Value} {ds : List Dn} (h : LstD w s ds) (hA : Adds w w') : LstD w' s ds := by
  obtain ⟨ao, cap, rfl, hc, h | ⟨b, off, rfl, hlt, hl⟩⟩ := h
  · exact ⟨ao, cap, rfl, hc, .inl h⟩
  · exact ⟨_, cap, rfl, hc, .inr ⟨b, off, rfl, Nat.lt_of_lt_of_le hlt hA.below.size, hl.adds hA hlt⟩⟩

def GoodD (ds : List Dn) (k : Nat) (h : k < ds.length) : Prop := isKey ds[k].key = true ∧ May ds[k].doc ∧ (0 < k → lessP ds[k - 1].key ds[k].key = true)

def MayD (ds : List Dn) : Prop := ∀ k (h : k < ds.length), GoodD ds k h

instance (ds : List Dn) : Decidable (MayD ds) := by unfold MayD GoodD; infer_instance

theorem mayD_bad {ds : List Dn} {k : Nat} {h : k < ds.length} (hb : ¬ GoodD ds k h) : ¬ MayD ds := fun hm => hb (hm k h)

set_option maxHeartbeats 4000000 in
set_option maxRecDepth 20000 in
theorem docs_any (s : Value) (ds : List Dn) (w : World) (h : LstD w s ds) (hl6 : ds.length ≤ 1000) :
    Calls Tryz.prog 76 #[s] w fun e w' => e = .returned (.int .i64 (errOf (MayD ds) 1)) ∧ Adds w w' := by
  obtain ⟨ao, cap, rfl, hcap, hlo⟩ := h
  go_enter Tryz.func76, Tryz.ntmps76
  go_wp2
  go_loopw [7] (fun i wr => ∃ k : Nat, k ≤ ds.length ∧ i = .int .i64 k ∧ (∀ j (hj : j < ds.length), j < k → GoodD ds j hj) ∧ Adds w wr) (fun i _ => ds.length - (intOf i).toNat)
  case atStart => exact ⟨0, Nat.zero_le _, rfl, fun j _ hj => absurd hj (by omega), Adds.refl _⟩
  case round =>
    obtain ⟨k, hk, rfl, hgood, os, n, rfl⟩ := hrel
    by_cases hlt : k < ds.length
    · rcases hlo with rfl | ⟨b, off, rfl, hb, hl⟩
      · simp at hlt
      obtain ⟨v, c0, c1, hdoc⟩ := hl k hlt
      have hK := key_any ds[k].key
      have hC := fun w' hA => check_doc v ds[k].doc w' (hdoc.adds hA)
      obtain ⟨vo, vc, rfl, _, _⟩ := hdoc
      have hlt' : (k : Int) < (ds.length : Int) := by omega
      by_cases h1 : isKey ds[k].key = true
      rotate_left
      · have HB : Hid (¬ GoodD ds k hlt) := fun h => h1 h.1
        rw [show isKey ds[k].key = false by simpa using h1] at hK
        clear hC h1
        generalize ds[k].key = ky at *
        generalize ds[k].doc.length = nd at *
        go_wp2_with (first | (go_at_call 103; refine (hK _).mono ?_; rintro e w1 ⟨rfl, hw⟩; subst w1))
        go_ret
        refine ⟨by rw [err_bad (mayD_bad (h := hlt) HB.out)]; rfl, ?_⟩
        repeat (first | with_reducible exact Adds.refl _ | with_reducible refine Adds.alloc ?_ _ | with_reducible refine Adds.more ?_ _ _ | with_reducible refine Adds.drew ?_ | with_reducible refine Adds.drewN ?_ _)
      rw [h1] at hK
      by_cases h2 : May ds[k].doc
      rotate_left
      · have HB : Hid (¬ GoodD ds k hlt) := fun h => h2 h.2.1
        rw [err_bad h2] at hC
        clear h2 h1
        generalize ds[k].key = ky at *
        generalize ds[k].doc.length = nd at *
        go_wp2_with (first | (go_at_call 103; refine (hK _).mono ?_; rintro e w1 ⟨rfl, hw⟩; subst w1) | (go_at_call 104; refine (hC _ (by repeat (first | with_reducible exact Adds.refl _ | with_reducible refine Adds.alloc ?_ _ | with_reducible refine Adds.more ?_ _ _ | with_reducible refine Adds.drew ?_ | with_reducible refine Adds.drewN ?_ _))).mono ?_; rintro e w2 ⟨rfl, os2, n2, rfl⟩))
        go_ret
        refine ⟨by rw [err_bad (mayD_bad (h := hlt) HB.out)]; rfl, ?_⟩
        repeat (first | with_reducible exact Adds.refl _ | with_reducible refine Adds.alloc ?_ _ | with_reducible refine Adds.more ?_ _ _ | with_reducible refine Adds.drew ?_ | with_reducible refine Adds.drewN ?_ _)
      rw [err_ok h2] at hC
      cases k with
      | zero =>
        have HGO : Hid (GoodD ds 0 hlt) := ⟨h1, h2, fun h => absurd h (by omega)⟩
        clear h1 h2
        simp only [Nat.zero_mul, Nat.add_zero] at c0 c1
        generalize ds[0].key = ky at *
        generalize ds[0].doc.length = nd at *
        go_wp2_with (first | (go_at_call 103; refine (hK _).mono ?_; rintro e w1 ⟨rfl, hw⟩; subst w1) | (go_at_call 104; refine (hC _ (by repeat (first | with_reducible exact Adds.refl _ | with_reducible refine Adds.alloc ?_ _ | with_reducible refine Adds.more ?_ _ _ | with_reducible refine Adds.drew ?_ | with_reducible refine Adds.drewN ?_ _))).mono ?_; rintro e w2 ⟨rfl, os2, n2, rfl⟩))
        go_quiet (fail)
        go_wp2
        go_roundw
        case rel =>
          refine ⟨0 + 1, by omega, by go_num, ?_, ?_⟩
          · intro j hj hj2
            by_cases e : j = 0
            · subst e
              exact HGO.out
            · exact hgood j hj (by omega)
          · repeat (first | with_reducible exact Adds.refl _ | with_reducible refine Adds.alloc ?_ _ | with_reducible refine Adds.more ?_ _ _ | with_reducible refine Adds.drew ?_ | with_reducible refine Adds.drewN ?_ _)
        case measure => simp [intOf]; omega
      | succ m =>
        obtain ⟨v2, d0, _, _⟩ := hl m (by omega)
        obtain ⟨q, hq⟩ : ∃ q, Op.bytesLess ds[m].key.toList ds[m + 1].key.toList = q := ⟨_, rfl⟩
        have hml : m < ds.length := by omega
        have hw1 : IntKind.i64.wrap (m : Int) = m := by rw [IntKind.wrap_i64]; omega
        cases q
        · have HB : Hid (¬ GoodD ds (m + 1) hlt) := fun h => by
            have h3 := h.2.2 (by omega)
            have e : lessP ds[m].key ds[m + 1].key = false := hq
            simp only [Nat.add_sub_cancel] at h3
            rw [e] at h3
            cases h3
          clear h1 h2
          generalize ds[m + 1].key = ky at *
          generalize ds[m].key = kp at *
          generalize ds[m + 1].doc.length = nd at *
          go_wp2_with (first | (go_at_call 103; refine (hK _).mono ?_; rintro e w1 ⟨rfl, hw⟩; subst w1) | (go_at_call 104; refine (hC _ (by repeat (first | with_reducible exact Adds.refl _ | with_reducible refine Adds.alloc ?_ _ | with_reducible refine Adds.more ?_ _ _ | with_reducible refine Adds.drew ?_ | with_reducible refine Adds.drewN ?_ _))).mono ?_; rintro e w2 ⟨rfl, os2, n2, rfl⟩))
          go_quiet (fail)
          go_wp2
          go_ret
          refine ⟨by rw [err_bad (mayD_bad (h := hlt) HB.out)]; rfl, ?_⟩
          repeat (first | with_reducible exact Adds.refl _ | with_reducible refine Adds.alloc ?_ _ | with_reducible refine Adds.more ?_ _ _ | with_reducible refine Adds.drew ?_ | with_reducible refine Adds.drewN ?_ _)
        · have HGO : Hid (GoodD ds (m + 1) hlt) := ⟨h1, h2, fun _ => hq⟩
          clear h1 h2
          generalize ds[m + 1].key = ky at *
          generalize ds[m].key = kp at *
          generalize ds[m + 1].doc.length = nd at *
          go_wp2_with (first | (go_at_call 103; refine (hK _).mono ?_; rintro e w1 ⟨rfl, hw⟩; subst w1) | (go_at_call 104; refine (hC _ (by repeat (first | with_reducible exact Adds.refl _ | with_reducible refine Adds.alloc ?_ _ | with_reducible refine Adds.more ?_ _ _ | with_reducible refine Adds.drew ?_ | with_reducible refine Adds.drewN ?_ _))).mono ?_; rintro e w2 ⟨rfl, os2, n2, rfl⟩))
          go_quiet (fail)
          go_wp2
          go_roundw
          case rel =>
            refine ⟨(m + 1) + 1, by omega, by go_num, ?_, ?_⟩
            · intro j hj hj2
              by_cases e : j = (m + 1)
              · subst e
                exact HGO.out
              · exact hgood j hj (by omega)
            · repeat (first | with_reducible exact Adds.refl _ | with_reducible refine Adds.alloc ?_ _ | with_reducible refine Adds.more ?_ _ _ | with_reducible refine Adds.drew ?_ | with_reducible refine Adds.drewN ?_ _)
          case measure => simp [intOf]; omega
    · have hlt' : ¬ (k : Int) < (ds.length : Int) := by omega
      go_wp2
      go_ret
      refine ⟨by rw [err_ok (show MayD ds from fun j hj => hgood j hj (by omega))]; rfl, ?_⟩
      repeat (first | with_reducible exact Adds.refl _ | with_reducible refine Adds.alloc ?_ _ | with_reducible refine Adds.more ?_ _ _ | with_reducible refine Adds.drew ?_ | with_reducible refine Adds.drewN ?_ _)


end Go.Proofs.YtiacnmcdfpmcfaaGreatDoor

namespace Go.Proofs.YtiacnmcdfpmcfaaGreatDoor.Sh
open Go.RowKit
attribute [local go_sem] cell?_more frozen?_more setCell_more size_more tape_more drew_more drewN_more more_drew more_drewN one_out plus_out plus_end lt_one le_p2 le_p3 le_p4 le_p5 le_p6 le_p7 le_p8 le_p9 le_p10 le_p11 le_p12 le_p13 le_p14 le_p15 le_p16 le_p17 le_p18 le_p19 le_p20 le_p21 le_p22 le_p23 le_p24 le_q0 le_q1 lt_q1 le_q2 lt_q2 le_q3 lt_q3 le_q4 lt_q4 le_q5 lt_q5 le_q6 lt_q6 le_q7 lt_q7 le_q8 lt_q8 le_q9 lt_q9 le_q10 lt_q10 le_q11 lt_q11 le_q12 lt_q12 le_q13 lt_q13 le_q14 lt_q14 le_q15 lt_q15 le_q16 lt_q16 le_q17 lt_q17 le_q18 lt_q18 le_q19 lt_q19 le_q20 lt_q20 le_q21 lt_q21 le_q22 lt_q22 le_q23 lt_q23 le_q24 lt_q24



theorem cmpE_is : IsCmp cmpE where
  range a b := by
    unfold cmpE cmpP
    split
    · exact cmpB_is.range _ _
    · exact cmpB_is.range _ _
  swap a b := by
    unfold cmpE cmpP
    have h1 := cmpB_is.swap a.path.toList b.path.toList
    have h2 := cmpB_is.swap a.val.toList b.val.toList
    rw [h1, h2]
    by_cases h : Lib.compareBytes a.path.toList b.path.toList = 0
    · rw [if_pos (by omega), if_pos h]
    · rw [if_neg (by omega), if_neg h]
  zero a b := by
    rw [F.eq_iff]
    unfold cmpE
    by_cases h : cmpP a.path b.path = 0
    · rw [if_pos h]
      exact ⟨fun h2 => ⟨(cmpP_zero _ _).1 h, (cmpP_zero _ _).1 h2⟩, fun h2 => (cmpP_zero _ _).2 h2.2⟩
    · rw [if_neg h]
      exact ⟨fun h2 => absurd h2 h, fun h2 => absurd ((cmpP_zero _ _).2 h2.1) h⟩
  trans a b d h k := by
    unfold cmpE at *
    have t1 : cmpP a.path b.path ≤ 0 → cmpP b.path d.path ≤ 0 → cmpP a.path d.path ≤ 0 := cmpB_is.trans _ _ _
    have t2 : cmpP a.val b.val ≤ 0 → cmpP b.val d.val ≤ 0 → cmpP a.val d.val ≤ 0 := cmpB_is.trans _ _ _
    have s1 : cmpP b.path a.path = - cmpP a.path b.path := cmpB_is.swap _ _
    have s2 : cmpP d.path b.path = - cmpP b.path d.path := cmpB_is.swap _ _
    have t3 : cmpP d.path b.path ≤ 0 → cmpP b.path a.path ≤ 0 → cmpP d.path a.path ≤ 0 := cmpB_is.trans _ _ _
    have s3 : cmpP d.path a.path = - cmpP a.path d.path := cmpB_is.swap _ _
    by_cases h1 : cmpP a.path b.path = 0
    · rw [if_pos h1] at h
      have e := (cmpP_zero _ _).1 h1
      have e1 : cmpP a.path d.path = cmpP b.path d.path := by unfold cmpP; rw [e]
      by_cases h2 : cmpP b.path d.path = 0
      · rw [if_pos h2] at k
        rw [if_pos (by omega)]
        exact t2 h k
      · rw [if_neg h2] at k
        rw [if_neg (by omega)]
        omega
    · rw [if_neg h1] at h
      by_cases h2 : cmpP b.path d.path = 0
      · have e := (cmpP_zero _ _).1 h2
        have e1 : cmpP a.path d.path = cmpP a.path b.path := by unfold cmpP; rw [e]
        rw [if_neg (by omega)]
        omega
      · rw [if_neg h2] at k
        by_cases h3 : cmpP a.path d.path = 0
        · have e := (cmpP_zero _ _).1 h3
          have e1 : cmpP b.path d.path = cmpP b.path a.path := by unfold cmpP; rw [e]
          omega
        · rw [if_neg h3]
          exact t1 h k

end Go.Proofs.YtiacnmcdfpmcfaaGreatDoor.Sh
