/-
  The reference's Fold, by contract.
-/
import Derived.Test.YtgnhkpihlghbmaaIxfc
namespace Go.Proofs.Ytgnhkpihlghbmaa
open Go.RowKit
attribute [local go_sem] cell?_more frozen?_more setCell_more size_more tape_more drew_more drewN_more more_drew more_drewN one_out plus_out plus_end lt_one le_p2 le_p3 le_p4 le_p5 le_p6 le_p7 le_p8 le_p9 le_p10 le_p11 le_p12 le_p13 le_p14 le_p15 le_p16 le_p17 le_p18 le_p19 le_p20 le_p21 le_p22 le_p23 le_p24 le_q0 le_q1 lt_q1 le_q2 lt_q2 le_q3 lt_q3 le_q4 lt_q4 le_q5 lt_q5 le_q6 lt_q6 le_q7 lt_q7 le_q8 lt_q8 le_q9 lt_q9 le_q10 lt_q10 le_q11 lt_q11 le_q12 lt_q12 le_q13 lt_q13 le_q14 lt_q14 le_q15 lt_q15 le_q16 lt_q16 le_q17 lt_q17 le_q18 lt_q18 le_q19 lt_q19 le_q20 lt_q20 le_q21 lt_q21 le_q22 lt_q22 le_q23 lt_q23 le_q24 lt_q24

theorem foldGo_next {key : ByteArray} {doc : List F} {put : Bool} {ds : List Dn} {j : Nat} (hj : j < ds.length) :
    foldGo key doc put (ds.drop j) = (if !put && !lessP ds[j].key key then [⟨key, doc⟩] else []) ++ (if ds[j].key.toList = key.toList then [] else [ds[j]]) ++ foldGo key doc (put || !lessP ds[j].key key) (ds.drop (j + 1)) := by
  rw [List.drop_eq_getElem_cons hj]
  rfl

theorem map_fst_one (rs : List Rn) (r : Rn) : (rs ++ [r]).map (·.1) = rs.map (·.1) ++ [r.1] := by simp

set_option maxHeartbeats 4000000 in
set_option maxRecDepth 20000 in
theorem fold_any (s : Value) (ds : List Dn) (pos : Int) (key : ByteArray) (has : Bool) (dv : Value) (doc : List F) (w : World) (h : LstD w s ds) (hd : Lst w dv doc) (hle : ds.length ≤ 500) :
    Calls Try.prog 14 #[s, .agg #[.int .i64 pos, .string key, .bool has, dv]] w fun e w' => (∃ v, e = .returned v ∧ LstD w' v (foldD ds key has doc)) ∧ Adds w w' := by
  have hd1 := fun o => hd.adds ((Adds.refl w).alloc o)
  have HD : Hid (∀ o, Lst (w.alloc o) dv doc) := hd1
  obtain ⟨ao, cap, rfl, hcap, hlo⟩ := h
  obtain ⟨vo, vc, rfl, _, _⟩ := hd
  clear hd1
  have HF : Hid (foldD ds key has doc = foldGo key doc (!has) ds) := rfl
  generalize doc.length = nd at *
  go_enter Try.func14, Try.ntmps14
  go_wp2
  obtain ⟨W, hW⟩ : ∃ W, W = w.alloc (.cells #[.int .i64 pos, .string key, .bool has, .slice vo nd vc] 40) := ⟨_, rfl⟩
  have hdW : Lst W (.slice vo nd vc) doc := by rw [hW]; exact HD.out _
  have hWs : W.heap.size = w.heap.size + 1 := by rw [hW]; simp
  have e1 : W.cell? ⟨w.heap.size, 1, none⟩ = some (.string key) := by rw [hW]; simp
  have e2 : W.cell? ⟨w.heap.size, 2, none⟩ = some (.bool has) := by rw [hW]; simp
  have e3 : W.cell? ⟨w.heap.size, 3, none⟩ = some (.slice vo nd vc) := by rw [hW]; simp
  have hWA : Adds w W := by rw [hW]; exact (Adds.refl w).alloc _
  rw [← hW]
  have HS : Hid (W.heap.size = w.heap.size + 1) := hWs
  have HWA : Hid (Adds w W) := hWA
  clear hW HD hWs hWA
  go_loopw [5, 6, 7] (fun nv pv i wr => ∃ (j : Nat) (put : Bool) (rs : List Rn), j ≤ ds.length ∧ i = .int .i64 j ∧ pv = .bool put ∧ OwnRn W.heap.size nv rs W wr ∧ Hid (foldD ds key has doc = rs.map (·.1) ++ foldGo key doc put (ds.drop j)) ∧ rs.length ≤ 2 * j) (fun _ _ i _ => ds.length - (intOf i).toNat)
  case atStart => exact ⟨0, !has, [], Nat.zero_le _, rfl, by simp, by first | (have := OwnRn.empty W; rw [HS.out] at this ⊢; exact this) | (have := OwnRn.empty W; exact this), by simpa using HF, by simp⟩
  case round =>
    obtain ⟨j, put, rs, hj, rfl, rfl, hown, HI, hrl⟩ := hrel
    have hAr : Adds W wr := Adds.of hown.2.1
    have hwl : w.heap.size < wr.heap.size := by
      have h1 := HS.out
      have := hAr.below.size
      omega
    have d1 : wr.cell? ⟨w.heap.size, 1, none⟩ = some (.string key) := (hAr.below.cell (p := ⟨w.heap.size, 1, none⟩) (by show w.heap.size < W.heap.size; rw [HS.out]; omega)).trans e1
    have d3 : wr.cell? ⟨w.heap.size, 3, none⟩ = some (.slice vo nd vc) := (hAr.below.cell (p := ⟨w.heap.size, 3, none⟩) (by show w.heap.size < W.heap.size; rw [HS.out]; omega)).trans e3
    have HAr : Hid (Adds W wr) := hAr
    clear hAr
    by_cases hlt : j < ds.length
    · rcases hlo with rfl | ⟨b, off, rfl, hbb, hl⟩
      · simp at hlt
      have hlW := hl.adds HWA.out hbb
      obtain ⟨v, c0', c1', hdoc⟩ := hlW j hlt
      have hbW : b < W.heap.size := by rw [HS.out]; omega
      have c0 := (HAr.out.below.cell (p := ⟨b, off + j * 2, none⟩) hbW).trans c0'
      have c1 := (HAr.out.below.cell (p := ⟨b, off + j * 2 + 1, none⟩) hbW).trans c1'
      have HG0 : Hid (W.cell? ⟨b, off + j * 2, none⟩ = some (.string ds[j].key)) := c0'
      have HG1 : Hid (W.cell? ⟨b, off + j * 2 + 1, none⟩ = some v) := c1'
      have hbl : b < wr.heap.size := Nat.lt_of_lt_of_le hbW HAr.out.below.size
      have HDOC : Hid (Lst W v ds[j].doc) := hdoc
      obtain ⟨uo, uc, rfl, _, _⟩ := hdoc
      have HN := foldGo_next (key := key) (doc := doc) (put := put) hlt
      have HI2 : Hid (foldD ds key has doc = rs.map (·.1) ++ ((if !put && !lessP ds[j].key key then [⟨key, doc⟩] else []) ++ (if ds[j].key.toList = key.toList then [] else [ds[j]]) ++ foldGo key doc (put || !lessP ds[j].key key) (ds.drop (j + 1)))) := by
        show _ = _
        rw [HI.out, HN]
      clear HN HI hlW c0' c1'
      have hlt' : (j : Int) < (ds.length : Int) := by omega
      generalize ds[j] = x at *
      obtain ⟨b1, h1⟩ : ∃ b1, Op.bytesLess x.key.toList key.toList = b1 := ⟨_, rfl⟩
      have HL : Hid (lessP x.key key = b1) := h1
      rw [HL.out] at HI2
      generalize x.doc.length = nx at *
      by_cases he : x.key.toList = key.toList
      · have he1 : (x.key.toList == key.toList) = true := by simpa using he
        have he2 : (x.key.toList != key.toList) = false := by simpa using he
        have HE : Hid _ := he
        clear he
        cases put
        · cases b1
          · go_wp2
            go_quiet (fail)
            go_wp2_with (at_builtin; refine ownRn_app rfl (.tmp 30) (.tmp 36) rfl (hown.adds (by repeat (first | with_reducible exact Adds.refl _ | with_reducible refine Adds.alloc ?_ _ | with_reducible refine Adds.more ?_ _ _ | with_reducible refine Adds.drew ?_ | with_reducible refine Adds.drewN ?_ _))) rfl ((⟨key, doc⟩ : Dn), Value.slice vo nd vc) rfl (at_new49 _ _ _ _ (by simp [go_sem])) hdW (by omega) ?_; intro v2 w2 hown2)
            have HA2 : Hid (Adds W w2) := Adds.of hown2.2.1
            have f1 : w2.cell? ⟨w.heap.size, 1, none⟩ = some (.string key) := (HA2.out.below.cell (p := ⟨w.heap.size, 1, none⟩) (by show w.heap.size < W.heap.size; rw [HS.out]; omega)).trans e1
            have f2 : w2.cell? ⟨b, off + j * 2, none⟩ = some (.string x.key) := (HA2.out.below.cell (p := ⟨b, off + j * 2, none⟩) hbW).trans HG0.out
            have f3 : w2.cell? ⟨b, off + j * 2 + 1, none⟩ = some (.slice uo nx uc) := (HA2.out.below.cell (p := ⟨b, off + j * 2 + 1, none⟩) hbW).trans HG1.out
            have f4 : b < w2.heap.size := Nat.lt_of_lt_of_le hbW HA2.out.below.size
            have f5 : w.heap.size < w2.heap.size := by have h1 := HS.out; have := HA2.out.below.size; omega
            go_quiet (fail)
            go_wp2
            go_roundw
            case rel =>
              refine ⟨j + 1, true, (rs ++ [((⟨key, doc⟩ : Dn), Value.slice vo nd vc)]), by omega, by go_num, by first | rfl | trivial, hown2.adds (by repeat (first | with_reducible exact Adds.refl _ | with_reducible refine Adds.alloc ?_ _ | with_reducible refine Adds.more ?_ _ _ | with_reducible refine Adds.drew ?_ | with_reducible refine Adds.drewN ?_ _)), ?_, by first | omega | (simp only [List.length_append, List.length_singleton]; omega)⟩
              show _ = _
              rw [HI2.out, if_pos HE.out]
              simp
            case measure => simp [intOf]; omega
          · exfalso
            rw [lessP_irr HE.out] at HL
            exact absurd HL.out (by simp)
        · cases b1
          · go_wp2
            go_quiet (fail)
            go_wp2
            go_quiet (fail)
            go_wp2
            go_roundw
            case rel =>
              refine ⟨j + 1, true, rs, by omega, by go_num, by first | rfl | trivial, hown.adds (by repeat (first | with_reducible exact Adds.refl _ | with_reducible refine Adds.alloc ?_ _ | with_reducible refine Adds.more ?_ _ _ | with_reducible refine Adds.drew ?_ | with_reducible refine Adds.drewN ?_ _)), ?_, by first | omega | (simp only [List.length_append, List.length_singleton]; omega)⟩
              show _ = _
              rw [HI2.out, if_pos HE.out]
              simp
            case measure => simp [intOf]; omega
          · exfalso
            rw [lessP_irr HE.out] at HL
            exact absurd HL.out (by simp)
      · have he1 : (x.key.toList == key.toList) = false := by simpa using he
        have he2 : (x.key.toList != key.toList) = true := by simpa using he
        have HE : Hid _ := he
        clear he
        cases put
        · cases b1
          · go_wp2
            go_quiet (fail)
            go_wp2_with (at_builtin; refine ownRn_app rfl (.tmp 30) (.tmp 36) rfl (hown.adds (by repeat (first | with_reducible exact Adds.refl _ | with_reducible refine Adds.alloc ?_ _ | with_reducible refine Adds.more ?_ _ _ | with_reducible refine Adds.drew ?_ | with_reducible refine Adds.drewN ?_ _))) rfl ((⟨key, doc⟩ : Dn), Value.slice vo nd vc) rfl (at_new49 _ _ _ _ (by simp [go_sem])) hdW (by omega) ?_; intro v2 w2 hown2)
            have HA2 : Hid (Adds W w2) := Adds.of hown2.2.1
            have f1 : w2.cell? ⟨w.heap.size, 1, none⟩ = some (.string key) := (HA2.out.below.cell (p := ⟨w.heap.size, 1, none⟩) (by show w.heap.size < W.heap.size; rw [HS.out]; omega)).trans e1
            have f2 : w2.cell? ⟨b, off + j * 2, none⟩ = some (.string x.key) := (HA2.out.below.cell (p := ⟨b, off + j * 2, none⟩) hbW).trans HG0.out
            have f3 : w2.cell? ⟨b, off + j * 2 + 1, none⟩ = some (.slice uo nx uc) := (HA2.out.below.cell (p := ⟨b, off + j * 2 + 1, none⟩) hbW).trans HG1.out
            have f4 : b < w2.heap.size := Nat.lt_of_lt_of_le hbW HA2.out.below.size
            have f5 : w.heap.size < w2.heap.size := by have h1 := HS.out; have := HA2.out.below.size; omega
            go_quiet (fail)
            go_wp2_with (at_builtin; refine ownRn_app rfl (.tmp 46) (.tmp 51) rfl (hown2.adds (by repeat (first | with_reducible exact Adds.refl _ | with_reducible refine Adds.alloc ?_ _ | with_reducible refine Adds.more ?_ _ _ | with_reducible refine Adds.drew ?_ | with_reducible refine Adds.drewN ?_ _))) rfl (x, Value.slice uo nx uc) rfl (at_new49 _ _ _ _ (by simp [go_sem])) HDOC.out (by first | omega | (simp only [List.length_append, List.length_singleton]; omega)) ?_; intro v3 w3 hown3)
            go_roundw
            case rel =>
              refine ⟨j + 1, true, ((rs ++ [((⟨key, doc⟩ : Dn), Value.slice vo nd vc)]) ++ [(x, Value.slice uo nx uc)]), by omega, by go_num, by first | rfl | trivial, hown3, ?_, by first | omega | (simp only [List.length_append, List.length_singleton]; omega)⟩
              show _ = _
              rw [HI2.out, if_neg HE.out]
              simp
            case measure => simp [intOf]; omega
          · go_wp2
            go_quiet (fail)
            go_wp2
            go_quiet (fail)
            go_wp2_with (at_builtin; refine ownRn_app rfl (.tmp 46) (.tmp 51) rfl (hown.adds (by repeat (first | with_reducible exact Adds.refl _ | with_reducible refine Adds.alloc ?_ _ | with_reducible refine Adds.more ?_ _ _ | with_reducible refine Adds.drew ?_ | with_reducible refine Adds.drewN ?_ _))) rfl (x, Value.slice uo nx uc) rfl (at_new49 _ _ _ _ (by simp [go_sem])) HDOC.out (by first | omega | (simp only [List.length_append, List.length_singleton]; omega)) ?_; intro v3 w3 hown3)
            go_roundw
            case rel =>
              refine ⟨j + 1, false, (rs ++ [(x, Value.slice uo nx uc)]), by omega, by go_num, by first | rfl | trivial, hown3, ?_, by first | omega | (simp only [List.length_append, List.length_singleton]; omega)⟩
              show _ = _
              rw [HI2.out, if_neg HE.out]
              simp
            case measure => simp [intOf]; omega
        · cases b1
          · go_wp2
            go_quiet (fail)
            go_wp2
            go_quiet (fail)
            go_wp2_with (at_builtin; refine ownRn_app rfl (.tmp 46) (.tmp 51) rfl (hown.adds (by repeat (first | with_reducible exact Adds.refl _ | with_reducible refine Adds.alloc ?_ _ | with_reducible refine Adds.more ?_ _ _ | with_reducible refine Adds.drew ?_ | with_reducible refine Adds.drewN ?_ _))) rfl (x, Value.slice uo nx uc) rfl (at_new49 _ _ _ _ (by simp [go_sem])) HDOC.out (by first | omega | (simp only [List.length_append, List.length_singleton]; omega)) ?_; intro v3 w3 hown3)
            go_roundw
            case rel =>
              refine ⟨j + 1, true, (rs ++ [(x, Value.slice uo nx uc)]), by omega, by go_num, by first | rfl | trivial, hown3, ?_, by first | omega | (simp only [List.length_append, List.length_singleton]; omega)⟩
              show _ = _
              rw [HI2.out, if_neg HE.out]
              simp
            case measure => simp [intOf]; omega
          · go_wp2
            go_quiet (fail)
            go_wp2
            go_quiet (fail)
            go_wp2_with (at_builtin; refine ownRn_app rfl (.tmp 46) (.tmp 51) rfl (hown.adds (by repeat (first | with_reducible exact Adds.refl _ | with_reducible refine Adds.alloc ?_ _ | with_reducible refine Adds.more ?_ _ _ | with_reducible refine Adds.drew ?_ | with_reducible refine Adds.drewN ?_ _))) rfl (x, Value.slice uo nx uc) rfl (at_new49 _ _ _ _ (by simp [go_sem])) HDOC.out (by first | omega | (simp only [List.length_append, List.length_singleton]; omega)) ?_; intro v3 w3 hown3)
            go_roundw
            case rel =>
              refine ⟨j + 1, true, (rs ++ [(x, Value.slice uo nx uc)]), by omega, by go_num, by first | rfl | trivial, hown3, ?_, by first | omega | (simp only [List.length_append, List.length_singleton]; omega)⟩
              show _ = _
              rw [HI2.out, if_neg HE.out]
              simp
            case measure => simp [intOf]; omega
    · have hj' : j = ds.length := by omega
      have hlt' : ¬ (j : Int) < (ds.length : Int) := by omega
      rw [hj', List.drop_length] at HI
      cases put
      · go_wp2_with (at_builtin; refine ownRn_app rfl (.tmp 55) (.tmp 61) rfl (hown.adds (by repeat (first | with_reducible exact Adds.refl _ | with_reducible refine Adds.alloc ?_ _ | with_reducible refine Adds.more ?_ _ _ | with_reducible refine Adds.drew ?_ | with_reducible refine Adds.drewN ?_ _))) rfl ((⟨key, doc⟩ : Dn), Value.slice vo nd vc) rfl (at_new49 _ _ _ _ (by simp [go_sem])) hdW (by omega) ?_; intro v2 w2 hown2)
        go_ret
        refine ⟨⟨_, rfl, ?_⟩, HWA.out.trans (Adds.of hown2.2.1)⟩
        rw [HI.out]
        have := hown2.lstD
        rw [map_fst_one] at this
        exact this
      · go_wp2
        go_ret
        refine ⟨⟨_, rfl, ?_⟩, HWA.out.trans (Adds.of hown.2.1)⟩
        rw [HI.out]
        have := hown.lstD
        simpa [foldGo] using this

end Go.Proofs.Ytgnhkpihlghbmaa
