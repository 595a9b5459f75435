/-
  The function below goes through, whatever the tree.
  The reference's values, by contracts.
-/
import Derived.Test.YtiacnmcdfpmcfaaGreatDoorQ16
import Derived.Carry
import Derived.Test.YtiacnmcdfpmcfaaGreatDoorCalled
import Derived.Test.YtiacnmcdfpmcfaaGreatDoorQ08
import Derived.Test.YtiacnmcdfpmcfaaGreatDoorQ06
namespace Go.Proofs.YtiacnmcdfpmcfaaGreatDoor
open Go.RowKit
attribute [local go_sem] cell?_more frozen?_more setCell_more size_more tape_more drew_more drewN_more more_drew more_drewN one_out plus_out plus_end lt_one le_p2 le_p3 le_p4 le_p5 le_p6 le_p7 le_p8 le_p9 le_p10 le_p11 le_p12 le_p13 le_p14 le_p15 le_p16 le_p17 le_p18 le_p19 le_p20 le_p21 le_p22 le_p23 le_p24 le_q0 le_q1 lt_q1 le_q2 lt_q2 le_q3 lt_q3 le_q4 lt_q4 le_q5 lt_q5 le_q6 lt_q6 le_q7 lt_q7 le_q8 lt_q8 le_q9 lt_q9 le_q10 lt_q10 le_q11 lt_q11 le_q12 lt_q12 le_q13 lt_q13 le_q14 lt_q14 le_q15 lt_q15 le_q16 lt_q16 le_q17 lt_q17 le_q18 lt_q18 le_q19 lt_q19 le_q20 lt_q20 le_q21 lt_q21 le_q22 lt_q22 le_q23 lt_q23 le_q24 lt_q24


theorem new_block (w : World) (o : Obj) : (w.alloc o).heap[w.heap.size]? = some o := by
  show (w.heap.push o)[w.heap.size]? = _
  simp

def sumA (d : Nat) (ts : List N) : Nat := (ts.map fun t => cntN d t.args).sum

theorem sumA_take (d : Nat) (ts : List N) {k : Nat} (hk : k < ts.length) : sumA d (ts.take (k + 1)) = sumA d (ts.take k) + cntN d ts[k].args := by
  rw [List.take_succ_eq_append_getElem hk]
  simp only [sumA, List.map_append, List.map_cons, List.map_nil, List.sum_append, List.sum_cons, List.sum_nil, Nat.add_zero]

theorem sumA_le (d : Nat) (ts : List N) : sumA d ts + ts.length = cntN (d + 1) ts := by
  simp [sumA, cntN]
  omega

def wts (d : Nat) (xs : List (Value × List N)) : Nat := (xs.map fun x => sumA d x.2).sum

theorem wts_take (d : Nat) (xs : List (Value × List N)) {k : Nat} (hk : k < xs.length) : wts d (xs.take (k + 1)) = wts d (xs.take k) + sumA d xs[k].2 := by
  rw [List.take_succ_eq_append_getElem hk]
  simp only [wts, List.map_append, List.map_cons, List.map_nil, List.sum_append, List.sum_cons, List.sum_nil, Nat.add_zero]

theorem sumA_take_le (d : Nat) (ts : List N) (k : Nat) : sumA d (ts.take k) ≤ sumA d ts := by
  have e : sumA d (ts.take k ++ ts.drop k) = sumA d (ts.take k) + sumA d (ts.drop k) := by simp only [sumA, List.map_append, List.sum_append]
  rw [List.take_append_drop] at e
  omega

theorem wts_take_le (d : Nat) (xs : List (Value × List N)) (k : Nat) : wts d (xs.take k) ≤ wts d xs := by
  have e : wts d (xs.take k ++ xs.drop k) = wts d (xs.take k) + wts d (xs.drop k) := by simp only [wts, List.map_append, List.sum_append]
  rw [List.take_append_drop] at e
  omega

theorem wts_le (d : Nat) (xs : List (Value × List N)) : wts d xs ≤ wt (d + 1) xs := by
  induction xs with
  | nil => simp [wts, wt]
  | cons x r ih =>
    have := sumA_le d x.2
    simp only [wts, wt, List.map_cons, List.sum_cons] at *
    omega

theorem wt_mem {d : Nat} {xs : List (Value × List N)} {x : Value × List N} (h : x ∈ xs) : cntN d x.2 ≤ wt d xs := by
  induction xs with
  | nil => simp at h
  | cons y r ih =>
    simp only [wt, List.map_cons, List.sum_cons]
    rcases List.mem_cons.1 h with rfl | h
    · omega
    · have := ih h
      simp only [wt] at this
      omega

/-- The arguments of a node that has some. -/
theorem Tn.args {ok : Nat → Prop} {d : Nat} {w : World} {s : Value} {ts : List N} (h : Tn ok (d + 1) w s ts) {k : Nat} (hk : k < ts.length) : ∃ b off cap x, s = .slice (some ⟨b, off, none⟩) ts.length cap ∧ ts.length ≤ cap ∧ b < w.heap.size ∧ (w.cell? ⟨b, off + k * 4, none⟩ = some (.int .i64 ts[k].kind) ∧ w.cell? ⟨b, off + k * 4 + 1, none⟩ = some (.string ts[k].text) ∧ w.cell? ⟨b, off + k * 4 + 2, none⟩ = some (.int .i64 ts[k].num) ∧ w.cell? ⟨b, off + k * 4 + 3, none⟩ = some x) ∧ Tn ok d w x ts[k].args := by
  obtain ⟨ao, cap, rfl, hc, h | ⟨b, off, rfl, hlt, hb, hz, hx⟩⟩ := h
  · rw [h] at hk
    simp at hk
  · obtain ⟨x, hcs, _, ht⟩ := hx k hk
    exact ⟨b, off, cap, x, rfl, hc, hlt, hcs, ht⟩

theorem Outs.own5 {B r d : Nat} {w X w5 : World} {v : Value} {ys : List (Value × List N)} (h : Outs B r d w X v ys) (hg : X.grownBy w5 (some r)) (hr : r = B) (o : Obj) : (w5.alloc o).ownsRow (B + 1) 51 1 v (ys.map Prod.fst).length (ys.map Prod.fst) ∧ B + 1 ≤ (w5.alloc o).heap.size := by
  have h1 := h.own.kept hg (by
    cases hv : v.ownBlock with
    | none => exact .inl rfl
    | some k =>
      right
      rcases h.own.2 with ⟨rfl, _⟩ | ⟨g, cap, cur, rfl, hb, _⟩
      · cases hv
      · simp only [Value.ownBlock, Option.some.injEq] at hv
        simp only [ne_eq, Option.some.injEq]
        omega)
  have hb := ((Adds.refl w5).alloc o).below
  have h2 := h1.kept (w' := w5.alloc o) (row := none) ⟨hb.os, hb.tape, hb.output, hb.size, fun k hk _ => hb.block k hk⟩ (by
    cases v.ownBlock with
    | none => exact .inl rfl
    | some k => exact .inr (by simp))
  refine ⟨by rw [List.length_map]; exact h2, ?_⟩
  have := hg.size
  have := h.size
  simp
  omega

theorem box3 {X w5 : World} {r k : Nat} {x : Value} (hg : X.grownBy w5 (some r)) (hk : k < X.heap.size) (hne : k ≠ r) (h : X.cell? ⟨k, 3, none⟩ = some x) : w5.cell? ⟨k, 3, none⟩ = some x :=
  (World.cell?_of_block (w := X) (a := ⟨k, 3, none⟩) (hg.block k hk (by simpa using hne))).trans h

set_option maxHeartbeats 8000000 in
set_option maxRecDepth 20000 in
theorem below_any {d : Nat} (v : Value) (xs : List (Value × List N)) (w : World) (h : Lvs (fun _ => True) (d + 1) w v xs) (hw : wt (d + 1) xs ≤ 10000) (hxl : xs.length ≤ 10000) :
    Calls Tryz.prog 123 #[v] w fun e w' => ∃ v' ys, e = .returned v' ∧ Lvs (fun _ => True) d w' v' ys ∧ wt d ys ≤ wt (d + 1) xs ∧ ys.length ≤ wt d ys ∧ Adds w w' := by
  obtain ⟨ao, cap, rfl, hcap, hT, ho⟩ := h
  have HT : Hid (∀ x ∈ xs, Tn (fun b => b < w.heap.size) (d + 1) w x.1 x.2) := fun x hx => (hT x hx).weak (fun _ _ h => h)
  have HWL : Hid (wts d xs ≤ wt (d + 1) xs) := wts_le d xs
  have h0 : Hid (Outs w.heap.size w.heap.size d w (w.alloc (.map #[] 0)) (.slice none 0 0) []) := by
    refine ⟨World.ownsRow_nil _ _ _ _, ⟨#[], 0, new_block _ _, fun e he => by simp at he⟩, ((Adds.refl w).alloc _).below, fun y hy => by simp at hy, by simp⟩
  clear hT
  have HW : Hid (wt (d + 1) xs ≤ 10000) := hw
  clear hw
  have hmm := @run_makeMap Tryz.prog
  go_enter Tryz.func123, Tryz.ntmps123
  go_wp2
  go_loopw [3, 15] (fun ov iv wr => ∃ (k : Nat) (ys : List (Value × List N)), k ≤ xs.length ∧ iv = .int .i64 k ∧ Hid (Outs w.heap.size w.heap.size d w wr ov ys) ∧ Hid (wt d ys ≤ wts d (xs.take k))) (fun _ iv _ => xs.length - (intOf iv).toNat)
  case atStart => exact ⟨0, [], Nat.zero_le _, rfl, h0, Nat.le_refl _⟩
  case round =>
    obtain ⟨k, ys, hk, rfl, hO, hWt⟩ := hrel
    clear h0
    by_cases hlt : k < xs.length
    · rcases ho with rfl | ⟨b, off, rfl, hb, hcs⟩
      · simp at hlt
      have cx := hcs k hlt
      have cx' : wr.cell? ⟨b, off + k, none⟩ = some xs[k].1 := (hO.out.bel.cell (p := ⟨b, off + k, none⟩) hb).trans cx
      have hTk := HT.out xs[k] (List.getElem_mem hlt)
      have htl : xs[k].2.length ≤ 10000 := by
        have h1 := cntN_len (d + 1) xs[k].2
        have h2 := wt_mem (d := d + 1) (List.getElem_mem hlt)
        have h3 := HW.out
        omega
      have HNX : Hid (wts d (xs.take (k + 1)) = wts d (xs.take k) + sumA d xs[k].2) := wts_take d xs hlt
      have HLE : Hid (wts d (xs.take (k + 1)) ≤ wts d xs) := wts_take_le d xs (k + 1)
      have hbr : b < wr.heap.size := Nat.lt_trans hb hO.out.size
      obtain ⟨ao1, cap1, hs1⟩ := hTk.shape
      have HTK : Hid (Tn (fun b => b < w.heap.size) (d + 1) w xs[k].1 xs[k].2) := hTk
      clear hTk cx hcs
      rw [hs1] at cx' HTK
      clear hs1
      generalize xs[k].2 = ts at *
      go_wp2
      go_loopw [3, 21] (fun ov iv wr => ∃ (i : Nat) (zs : List (Value × List N)), i ≤ ts.length ∧ iv = .int .i64 i ∧ Hid (Outs w.heap.size w.heap.size d w wr ov zs) ∧ Hid (wt d zs ≤ wts d (xs.take k) + sumA d (ts.take i))) (fun _ iv _ => ts.length - (intOf iv).toNat)
      case atStart => exact ⟨0, ys, Nat.zero_le _, rfl, hO, by simpa [sumA] using hWt⟩
      case round =>
        clear hO hWt cx' ys
        obtain ⟨i, zs, hi, rfl, hO, hWt⟩ := hrel
        have hlen : zs.length ≤ 100000 := by
          have h1 := wt_len (d := d) (fun y hy => (hO.out.trees y hy).2)
          have h2 := hWt.out
          have h3 := sumA_take_le d ts i
          have h4 := HNX.out
          have h5 := HLE.out
          have h6 := HWL.out
          have h7 := HW.out
          omega
        obtain ⟨vo, vc, hvs⟩ : ∃ vo vc, u3 = .slice vo zs.length vc := by
          rcases hO.out.own.2 with ⟨rfl, h0⟩ | ⟨g, cap, cur, rfl, _⟩
          · exact ⟨none, 0, by rw [h0]⟩
          · exact ⟨_, _, rfl⟩
        subst hvs
        by_cases hlt2 : i < ts.length
        · obtain ⟨b1, o1, c1, x, hsl, hcap1, hb1, ⟨c0, c1', c2, c3⟩, hTx⟩ := HTK.out.args hlt2
          simp only [Value.slice.injEq] at hsl
          obtain ⟨rfl, _, rfl⟩ := hsl
          have hbel := hO.out.bel
          have e0 := (hbel.cell (p := ⟨b1, o1 + i * 4, none⟩) hb1).trans c0
          have e1 := (hbel.cell (p := ⟨b1, o1 + i * 4 + 1, none⟩) hb1).trans c1'
          have e2 := (hbel.cell (p := ⟨b1, o1 + i * 4 + 2, none⟩) hb1).trans c2
          have e3 := (hbel.cell (p := ⟨b1, o1 + i * 4 + 3, none⟩) hb1).trans c3
          have hb1r : b1 < wr.heap.size := Nat.lt_trans hb1 hO.out.size
          have HSI : Hid (sumA d (ts.take (i + 1)) = sumA d (ts.take i) + cntN d ts[i].args) := sumA_take d ts hlt2
          obtain ⟨xo, xc, hxs⟩ := hTx.shape
          rw [hxs] at e3 hTx
          have HTX : Hid (Tn (fun b => b < w.heap.size) d w (.slice xo ts[i].args.length xc) ts[i].args) := hTx
          clear c0 c1' c2 c3 hxs hbel hTx
          by_cases hz : ts[i].args = []
          · have hz' : ts[i].args.length = 0 := by rw [hz]; rfl
            rw [hz'] at e3
            clear hz
            generalize ts[i].kind = nk at *
            generalize ts[i].text = nt at *
            generalize ts[i].num = nn at *
            have HC0 : Hid (0 ≤ cntN d ts[i].args) := Nat.zero_le _
            go_wp2
            go_roundw
            case rel =>
              exact ⟨i + 1, zs, by omega, by go_num, hO.out.adds (by repeat (first | with_reducible exact Adds.refl _ | with_reducible refine Adds.alloc ?_ _ | with_reducible refine Adds.more ?_ _ _ | with_reducible refine Adds.drew ?_ | with_reducible refine Adds.drewN ?_ _)), by show _ ≤ _; rw [HSI.out]; have := hWt.out; omega⟩
            case measure => simp [intOf]; omega
          · obtain ⟨b2, o2, c2, hx2, hc2, hpk⟩ := HTX.out.pk hz
            simp only [Value.slice.injEq] at hx2
            obtain ⟨rfl, _, rfl⟩ := hx2
            have hpos : 0 < ts[i].args.length := List.length_pos_iff.2 hz
            have hne0 : (((ts[i].args.length : Nat) : Int) == 0) = false := by simp; omega
            have kP := placeOf_any b2 o2 ts[i].args.length xc hpos
            have HZ : Hid (ts[i].args ≠ []) := hz
            have HPK : Hid (PK w.heap.size w (.agg #[.pointer (some ⟨b2, o2, none⟩), .int .i64 (ts[i].args.length : Int)])) := hpk
            clear hz hpk
            generalize ts[i].kind = nk at *
            generalize ts[i].text = nt at *
            generalize ts[i].num = nn at *
            generalize ts[i].args = ars at *
            have HO : Hid (Outs w.heap.size w.heap.size d w wr (.slice vo zs.length vc) zs) := hO
            have hBr := hO.out.size
            clear hO
            go_wp2_with (first
              | (go_at_call 145; refine (kP _).mono ?_; rintro e w2 ⟨rfl, os2, n2, rfl⟩)
              | (at_lookup; refine place_look rfl (.tmp 33) (.tmp 34) rfl rfl (Outs.seen (Outs.adds HO.out (by repeat (first | with_reducible exact Adds.refl _ | with_reducible refine Adds.alloc ?_ _ | with_reducible refine Adds.more ?_ _ _ | with_reducible refine Adds.drew ?_ | with_reducible refine Adds.drewN ?_ _)))) rfl (Outs.pk (Outs.adds HO.out (by repeat (first | with_reducible exact Adds.refl _ | with_reducible refine Adds.alloc ?_ _ | with_reducible refine Adds.more ?_ _ _ | with_reducible refine Adds.drew ?_ | with_reducible refine Adds.drewN ?_ _))) HPK.out) ?_; intro z1 q1 j1; cases q1)
              | (at_mapUpdate; refine place_set rfl (.tmp 40) (.tmp 41) (.tmp 43) rfl rfl (Outs.seen (Outs.adds HO.out (by repeat (first | with_reducible exact Adds.refl _ | with_reducible refine Adds.alloc ?_ _ | with_reducible refine Adds.more ?_ _ _ | with_reducible refine Adds.drew ?_ | with_reducible refine Adds.drewN ?_ _)))) rfl (Outs.pk (Outs.adds HO.out (by repeat (first | with_reducible exact Adds.refl _ | with_reducible refine Adds.alloc ?_ _ | with_reducible refine Adds.more ?_ _ _ | with_reducible refine Adds.drew ?_ | with_reducible refine Adds.drewN ?_ _))) HPK.out) rfl ?_; intro w5 hs5 hg5 hz5; have hq5 := box3 (k := wr.heap.size) (x := .slice (some ⟨b2, o2, none⟩) ars.length xc) hg5 (by simp [size_more]; omega) (by omega) (by simp [go_sem]); have hz6 : wr.heap.size < w5.heap.size := (by rw [hz5]; simp [size_more]; omega); have HZ5 : Hid _ := hz5; clear hz5)
              | (at_builtin; refine list_app rfl (.tmp 44) (.tmp 47) rfl (xs := zs.map Prod.fst) (Outs.own5 (Outs.adds HO.out (by repeat (first | with_reducible exact Adds.refl _ | with_reducible refine Adds.alloc ?_ _ | with_reducible refine Adds.more ?_ _ _ | with_reducible refine Adds.drew ?_ | with_reducible refine Adds.drewN ?_ _))) hg5 rfl _).1 (Outs.own5 (Outs.adds HO.out (by repeat (first | with_reducible exact Adds.refl _ | with_reducible refine Adds.alloc ?_ _ | with_reducible refine Adds.more ?_ _ _ | with_reducible refine Adds.drew ?_ | with_reducible refine Adds.drewN ?_ _))) hg5 rfl _).2 rfl (u := .slice (some ⟨b2, o2, none⟩) ars.length xc) rfl rfl (by simp) (by simpa using hlen) ?_; intro v6 w6 ho6 hg6))
            · go_roundw
              case rel =>
                refine ⟨i + 1, zs ++ [(.slice (some ⟨b2, o2, none⟩) ars.length xc, ars)], by omega, by go_num, Outs.push (Outs.adds HO.out (by repeat (first | with_reducible exact Adds.refl _ | with_reducible refine Adds.alloc ?_ _ | with_reducible refine Adds.more ?_ _ _ | with_reducible refine Adds.drew ?_ | with_reducible refine Adds.drewN ?_ _))) hs5 hg5 HZ5.out rfl (by simpa using ho6) hg6 ⟨HTX.out, HZ.out⟩, ?_⟩
                show _ ≤ _
                rw [wt_append, HSI.out]
                have h1 := hWt.out
                have h2 : wt d [((.slice (some ⟨b2, o2, none⟩) ars.length xc : Value), ars)] = cntN d ars := by simp [wt]
                omega
              case measure => simp [intOf]; omega
            · go_roundw
              case rel =>
                refine ⟨i + 1, zs, by omega, by go_num, Outs.adds HO.out (by repeat (first | with_reducible exact Adds.refl _ | with_reducible refine Adds.alloc ?_ _ | with_reducible refine Adds.more ?_ _ _ | with_reducible refine Adds.drew ?_ | with_reducible refine Adds.drewN ?_ _)), ?_⟩
                show _ ≤ _
                rw [HSI.out]
                have h1 := hWt.out
                omega
              case measure => simp [intOf]; omega
        · have hi' : i = ts.length := by omega
          subst hi'
          have hfin : Hid (wt d zs ≤ wts d (xs.take (k + 1))) := by
            show _ ≤ _
            rw [HNX.out]
            have := hWt.out
            rw [List.take_length] at this
            exact this
          clear hWt
          go_wp2
          go_roundw
          case rel => exact ⟨k + 1, zs, by omega, by go_num, hO, hfin⟩
          case measure => simp [intOf]; omega
    · have hk' : k = xs.length := by omega
      subst hk'
      obtain ⟨z1, z2⟩ := hO.out.lv rfl
      have z3 : wt d ys ≤ wt (d + 1) xs := by
        have h1 := hWt.out
        have h2 := HWL.out
        rw [List.take_length] at h1
        omega
      have HZ1 : Hid (Lvs (fun _ => True) d wr u3 ys) := z1
      have z4 := wt_len (d := d) (fun y hy => (hO.out.trees y hy).2)
      clear hWt hO z1
      go_wp2
      go_ret
      exact ⟨u3, ys, rfl, HZ1.out, z3, z4, z2⟩

end Go.Proofs.YtiacnmcdfpmcfaaGreatDoor

namespace Go.Proofs.YtiacnmcdfpmcfaaGreatDoor
open Go.RowKit
attribute [local go_sem] cell?_more frozen?_more setCell_more size_more tape_more drew_more drewN_more more_drew more_drewN one_out plus_out plus_end lt_one le_p2 le_p3 le_p4 le_p5 le_p6 le_p7 le_p8 le_p9 le_p10 le_p11 le_p12 le_p13 le_p14 le_p15 le_p16 le_p17 le_p18 le_p19 le_p20 le_p21 le_p22 le_p23 le_p24 le_q0 le_q1 lt_q1 le_q2 lt_q2 le_q3 lt_q3 le_q4 lt_q4 le_q5 lt_q5 le_q6 lt_q6 le_q7 lt_q7 le_q8 lt_q8 le_q9 lt_q9 le_q10 lt_q10 le_q11 lt_q11 le_q12 lt_q12 le_q13 lt_q13 le_q14 lt_q14 le_q15 lt_q15 le_q16 lt_q16 le_q17 lt_q17 le_q18 lt_q18 le_q19 lt_q19 le_q20 lt_q20 le_q21 lt_q21 le_q22 lt_q22 le_q23 lt_q23 le_q24 lt_q24


theorem rNum_any (n : Int) (w : World) :
    Calls Tryz.prog 147 #[.int .i64 n] w fun e w' => e = .returned (.agg #[.int .i64 1, .int .i64 n, .string ⟨#[]⟩, .int .i64 0, .int .i64 0]) ∧ Adds w w' := by
  go_enter Tryz.func147, Tryz.ntmps147
  go_wp2
  exact bodyPost_ret (v := (V.mkNum n).val) (by simp [results, Tryz.results147, go_sem, V.val, V.mkNum]) rfl ⟨rfl, by repeat (first | with_reducible exact Adds.refl _ | with_reducible refine Adds.alloc ?_ _ | with_reducible refine Adds.more ?_ _ _ | with_reducible refine Adds.drew ?_ | with_reducible refine Adds.drewN ?_ _)⟩

theorem rText_any (s : ByteArray) (w : World) :
    Calls Tryz.prog 149 #[.string s] w fun e w' => e = .returned (.agg #[.int .i64 2, .int .i64 0, .string s, .int .i64 0, .int .i64 0]) ∧ Adds w w' := by
  go_enter Tryz.func149, Tryz.ntmps149
  go_wp2
  exact bodyPost_ret (v := (V.mkText s).val) (by simp [results, Tryz.results149, go_sem, V.val, V.mkText]) rfl ⟨rfl, by repeat (first | with_reducible exact Adds.refl _ | with_reducible refine Adds.alloc ?_ _ | with_reducible refine Adds.more ?_ _ _ | with_reducible refine Adds.drew ?_ | with_reducible refine Adds.drewN ?_ _)⟩

theorem rPoint_any (x y : Int) (w : World) :
    Calls Tryz.prog 150 #[Gs.pt x y] w fun e w' => e = .returned (.agg #[.int .i64 3, .int .i64 0, .string ⟨#[]⟩, .int .i64 x, .int .i64 y]) ∧ Adds w w' := by
  go_enter Tryz.func150, Tryz.ntmps150
  go_wp2
  exact bodyPost_ret (v := (V.mkPoint x y).val) (by simp [results, Tryz.results150, go_sem, V.val, V.mkPoint]) rfl ⟨rfl, by repeat (first | with_reducible exact Adds.refl _ | with_reducible refine Adds.alloc ?_ _ | with_reducible refine Adds.more ?_ _ _ | with_reducible refine Adds.drew ?_ | with_reducible refine Adds.drewN ?_ _)⟩

set_option maxHeartbeats 1000000 in
theorem rAs_any (v : V) (w : World) :
    Calls Tryz.prog 162 #[v.val] w fun e w' => e = .returned (.tuple #[Gs.pt (asRe v) (asIm v), .bool (if v.kind = 1 then decide (Gs.May v.num 0) else (v.kind == 3))]) ∧ Adds w w' := by
  obtain ⟨k, n, t, re, im⟩ := v
  simp only [V.val, asRe, asIm]
  by_cases hk : k = 1
  · subst hk
    have kM := Gs.rmay_any n 0
    rw [if_pos rfl, if_pos rfl, if_pos rfl]
    generalize decide (Gs.May n 0) = q at *
    go_enter Tryz.func162, Tryz.ntmps162
    go_wp2
    go_region_with (first
      | (go_at_call 175; refine (kM _).mono ?_; rintro e w1 ⟨rfl, os1, n1, rfl⟩))
    all_goals
      go_wp2
      exact bodyPost_ret (v := .tuple #[Gs.pt n 0, .bool q]) (by simp [results, Tryz.results162, go_sem]) rfl ⟨rfl, by repeat (first | with_reducible exact Adds.refl _ | with_reducible refine Adds.alloc ?_ _ | with_reducible refine Adds.more ?_ _ _ | with_reducible refine Adds.drew ?_ | with_reducible refine Adds.drewN ?_ _)⟩
  · have hk' : (k == 1) = false := by simpa using hk
    rw [if_neg hk, if_neg hk, if_neg hk]
    clear hk
    generalize hk3 : (k == 3) = q at *
    go_enter Tryz.func162, Tryz.ntmps162
    go_wp2
    go_region
    all_goals
      go_wp2
      exact bodyPost_ret (v := .tuple #[Gs.pt re im, .bool q]) (by simp [results, Tryz.results162, go_sem]) rfl ⟨rfl, by repeat (first | with_reducible exact Adds.refl _ | with_reducible refine Adds.alloc ?_ _ | with_reducible refine Adds.more ?_ _ _ | with_reducible refine Adds.drew ?_ | with_reducible refine Adds.drewN ?_ _)⟩


end Go.Proofs.YtiacnmcdfpmcfaaGreatDoor
