/-
  The walk of the statement SheafOrders: it returns true, whatever is handed in, and leaves all that was there as it was.
-/
import Derived.Test.YtflhdhmnhgmbpaaMix
import Derived.Deep.Cut
import Derived.Deep.RegionWith
namespace Go.Proofs.Ytflhdhmnhgmbpaa
open Go.RowKit
attribute [local go_sem] cell?_more frozen?_more setCell_more size_more tape_more drew_more drewN_more more_drew more_drewN one_out plus_out plus_end lt_one le_p2 le_p3 le_p4 le_p5 le_p6 le_p7 le_p8 le_p9 le_p10 le_p11 le_p12 le_p13 le_p14 le_p15 le_p16 le_p17 le_p18 le_p19 le_p20 le_p21 le_p22 le_p23 le_p24 le_q0 le_q1 lt_q1 le_q2 lt_q2 le_q3 lt_q3 le_q4 lt_q4 le_q5 lt_q5 le_q6 lt_q6 le_q7 lt_q7 le_q8 lt_q8 le_q9 lt_q9 le_q10 lt_q10 le_q11 lt_q11 le_q12 lt_q12 le_q13 lt_q13 le_q14 lt_q14 le_q15 lt_q15 le_q16 lt_q16 le_q17 lt_q17 le_q18 lt_q18 le_q19 lt_q19 le_q20 lt_q20 le_q21 lt_q21 le_q22 lt_q22 le_q23 lt_q23 le_q24 lt_q24

theorem Mine.facts {g : Nat} {ms : List F} {W : World} (h : Mine g ms W) {i : Nat} (hi : i < ms.length) :
    (W.cell? ⟨g, i * 2, none⟩ = some (.string ms[i].path) ∧ W.cell? ⟨g, i * 2 + 1, none⟩ = some (.string ms[i].val)) ∧
    (W.frozen? ⟨g, i * 2, none⟩ = false ∧ W.frozen? ⟨g, i * 2 + 1, none⟩ = false) := by
  have h1 := h.2.1 i hi
  simp only [Nat.zero_add] at h1
  exact ⟨h1, h.2.2 _ (by omega), h.2.2 _ (by omega)⟩

theorem stop_at {ops : Array Oper} {rest : List Oper} {o : Oper} {a : Act} {w : World} {Q : Exit → Act → World → Prop} (n : Nat) (_ : o.dst = some n) (h : Hid (wpList Try.prog ops Q (o :: rest) a w)) : wpList Try.prog ops Q (o :: rest) a w := h.out

theorem hid_in {p : Prop} (h : p) : Hid p := h

theorem stop_none {ops : Array Oper} {rest : List Oper} {o : Oper} {a : Act} {w : World} {Q : Exit → Act → World → Prop} (_ : o.dst = none) (h : Hid (wpList Try.prog ops Q (o :: rest) a w)) : wpList Try.prog ops Q (o :: rest) a w := h.out

theorem mod_fact (c : UInt8) (n : Nat) (hn : 0 < n) : ∃ K : Nat, (wrap64 (c.toNat : Int)).tmod (n : Int) = (K : Int) ∧ K < n := by
  have hc := c.toNat_lt
  have hw : wrap64 (c.toNat : Int) = (c.toNat : Int) := by
    unfold wrap64
    omega
  refine ⟨c.toNat % n, ?_, Nat.mod_lt _ hn⟩
  rw [hw, Int.tmod_eq_emod_of_nonneg (Int.natCast_nonneg _)]
  exact (Int.natCast_emod _ _).symm

set_option maxHeartbeats 1200000 in
set_option maxRecDepth 20000 in
theorem sheafOrders_any (s s' : Value) (fs : List F) (bs : List UInt8) (w : World) (h : Lst w s fs) (hy : Byt w s' bs) (hbs : bs.length ≤ 9223372036854775807) :
    Calls Try.prog 6 #[s, s'] w fun e w' => e = .returned (.bool true) ∧ Adds w w' := by
  by_cases hle : fs.length ≤ 100
  · have hle' : ¬ (100 : Int) < (fs.length : Int) := by omega
    by_cases hM : May fs
    · have k10 := refMay_yes s fs w h (by omega) hM
      have hs := h
      obtain ⟨ao, cap, rfl, hcap, hlo⟩ := h
      obtain ⟨bo, cap', rfl, hbo⟩ := hy
      go_enter Try.func6, Try.ntmps6
      go_wp2_with (first
        | (go_at_call 10; refine k10.mono ?_; rintro e w6 ⟨rfl, os6, n6, rfl⟩)
        | (at_builtin; refine own_app rfl (.tmp 22) (.tmp 23) rfl (own_new (by simp [go_sem])) rfl (hs.adds (by repeat (first | with_reducible exact Adds.refl _ | with_reducible refine Adds.alloc ?_ _ | with_reducible refine Adds.more ?_ _ _ | with_reducible refine Adds.drew ?_ | with_reducible refine Adds.drewN ?_ _))) rfl (by simp only [List.length_nil]; omega) ?_; intro v1 w1 hown; rw [List.nil_append] at hown; obtain ⟨mo, mcap, rfl, hmine⟩ := own_mine hown; have hbel : Below w.heap.size w w1 := (Adds.refl w |>.more os6 n6).below.trans (hown.2.1.mono (by simp [go_sem])); have hbase : w.heap.size ≤ (more w os6 n6).heap.size := by simp [go_sem]))
      go_loopw [6] (fun iv wr => ∃ (k : Nat) (ms : List F), k ≤ fs.length ∧ iv = .int .i64 k ∧ ms.Perm fs ∧ Below w.heap.size w wr ∧ (ms = [] ∨ ∃ g, mo = some ⟨g, 0, none⟩ ∧ w.heap.size ≤ g ∧ Mine g ms wr)) (fun iv _ => fs.length - (intOf iv).toNat)
      case atStart =>
        refine ⟨0, fs, Nat.zero_le _, rfl, List.Perm.refl _, hbel, ?_⟩
        rcases hmine with h | ⟨g, h1, h2, h3⟩
        · exact .inl h
        · exact .inr ⟨g, h1, Nat.le_trans hbase h2, h3⟩
      case round =>
        clear hmine hown hbel
        obtain ⟨k, ms, hk, rfl, hperm, hbel, hmine⟩ := hrel
        have hml := hperm.length_eq
        by_cases hlt : k < fs.length ∧ k < bs.length
        · obtain ⟨hlt, hlb⟩ := hlt
          rcases hmine with rfl | ⟨g, rfl, hg, hmine⟩
          · simp at hml; omega
          rcases hbo with rfl | ⟨bb, boff, rfl, hbb, hby⟩
          · simp at hlb
          have hbyte := (hbel.cell (p := ⟨bb, boff + k, none⟩) hbb).trans (hby k hlb)
          generalize bs[k] = c at *
          obtain ⟨K, hmod, hkk'⟩ := mod_fact c fs.length (by omega)
          have hkk : K < ms.length := by rw [hml]; exact hkk'
          have hkm : k < ms.length := by omega
          obtain ⟨⟨c0, c1⟩, _⟩ := hmine.facts hkm
          obtain ⟨⟨d0, d1⟩, _⟩ := hmine.facts hkk
          have hpos : (0 : Int) < (fs.length : Int) := by omega
          have hgs := hmine.1
          have hP : Hid (((ms.set k ms[K]).set K ms[k]).Perm ms) := List.set_set_perm hkm hkk
          obtain ⟨X, hX⟩ : ∃ X, X = ms[k] := ⟨_, rfl⟩
          obtain ⟨Y, hY⟩ : ∃ Y, Y = ms[K] := ⟨_, rfl⟩
          rw [← hX] at c0 c1 hP
          rw [← hY] at d0 d1 hP
          clear hX hY
          go_wp2_with (with_reducible refine stop_at 55 rfl ?_)
          refine hid_in ?_
          go_wp2_with (with_reducible refine stop_none rfl ?_)
          refine hid_in ?_
          refine row_store rfl (.tmp 55) (.tmp 54) rfl (g := g) ?hm hkm Y ?hx ?hy ?hk
          case hm => with_reducible exact hmine.adds ((Adds.refl _).alloc _)
          case hx => simp [go_sem]
          case hy => simp [go_sem]
          intro w2 hm2 hw2
          obtain ⟨b0, b1⟩ := box_kept hgs hw2
          have HW2 : Hid _ := hw2
          clear hw2 hmine c0 c1 d0 d1
          go_wp2_with (with_reducible refine stop_none rfl ?_)
          refine hid_in ?_
          refine row_store rfl (.tmp 59) (.tmp 58) rfl (g := g) (ms := ms.set k Y) (i := K) hm2 ?hi2 X ?hx2 ?hy2 ?hk2
          case hi2 => simpa using hkk
          case hx2 => simp [go_sem]
          case hy2 => simp [go_sem]
          intro w3 hm3 hw3
          have HW3 : Hid _ := hw3
          clear hw3
          go_wp2
          go_roundw
          case rel =>
            refine ⟨k + 1, (ms.set k Y).set K X, by omega, by go_num, hP.out.trans hperm, ?_, .inr ⟨g, rfl, hg, hm3⟩⟩
            rw [HW3.out, HW2.out]
            exact below_setCells (below_setCells (hbel.trans (((Adds.refl wr).alloc _).below.mono hbel.size)) hg _ _) hg _ _
          case measure => simp [intOf]; omega
        · have hap : Apart ms := hM.rises.apart.perm hperm.symm
          by_cases hlf : k < fs.length
          · have hlb : ¬ k < bs.length := fun h => hlt ⟨hlf, h⟩
            clear hlt
            go_wp2
            rename World => W
            go_loopw [9, 10] (fun ov iv w2 => ∃ (k : Nat) (ds : List F), k ≤ fs.length ∧ iv = .int .i64 k ∧ Lst w2 ov ds ∧ ds.Perm (ms.take k) ∧ Rises ds ∧ Adds W w2) (fun _ iv _ => fs.length - (intOf iv).toNat)
            case atStart =>
              refine ⟨0, [], Nat.zero_le _, rfl, Lst.empty _ _ _ _ _ rfl rfl, List.Perm.refl _, fun i j hi => absurd hi (by simp), (Adds.refl _).alloc _⟩
            case round =>
              obtain ⟨k, ds, hk, rfl, hds, hdp, hdr, hA⟩ := hrel
              have hdl := hdp.length_eq
              rw [List.length_take] at hdl
              by_cases hlt : k < fs.length
              · rcases hmine with rfl | ⟨g, rfl, hg, hmine⟩
                · simp at hml; omega
                have hkm : k < ms.length := by omega
                obtain ⟨⟨c0, c1⟩, _⟩ := (hmine.adds hA).facts hkm
                have hgs := (hmine.adds hA).1
                have htk : ms.take (k + 1) = ms.take k ++ [ms[k]] := List.take_succ_eq_append_getElem hkm
                have hno : hasAt ms[k].path ds = false := by
                  by_cases h : hasAt ms[k].path ds = true
                  · obtain ⟨x, hx, e⟩ := (hasAt_mem hdr).1 h
                    have hx' := hdp.mem_iff.1 hx
                    have hp2 : Apart (ms.take k ++ [ms[k]]) := by rw [← htk]; exact List.Pairwise.sublist (List.take_sublist _ _) hap
                    exact absurd e ((List.pairwise_append.1 hp2).2.2 x hx' ms[k] (by simp))
                  · simpa using h
                have kS := fun W hA => set_ok u9 ds ms[k] W (hds.adds hA) (by omega) ((may_iff ds).2 hdr)
                have HP : Hid ((setDoc ds ms[k]).Perm (ms.take (k + 1))) := by
                  show (setDoc ds ms[k]).Perm (ms.take (k + 1))
                  rw [htk]
                  exact (setDoc_perm hno).trans ((hdp.cons _).trans (List.perm_append_comm (l₁ := [ms[k]])))
                have HR : Hid (Rises (setDoc ds ms[k])) := setDoc_rises hdr
                clear hno htk
                generalize ms[k] = X at *
                go_wp2
                go_region_with (go_at_call 8; refine (kS _ (by repeat (first | with_reducible exact Adds.refl _ | with_reducible refine Adds.alloc ?_ _ | with_reducible refine Adds.more ?_ _ _ | with_reducible refine Adds.drew ?_ | with_reducible refine Adds.drewN ?_ _))).mono ?_; rintro e w5 ⟨r5, rfl, l5, os5, n5, rfl⟩)
                all_goals
                  go_wp2
                  go_roundw
                  case rel =>
                    refine ⟨k + 1, setDoc ds X, by omega, by go_num, l5, HP.out, HR.out, hA.trans (by repeat (first | with_reducible exact Adds.refl _ | with_reducible refine Adds.alloc ?_ _ | with_reducible refine Adds.more ?_ _ _ | with_reducible refine Adds.drew ?_ | with_reducible refine Adds.drewN ?_ _))⟩
                  case measure => simp [intOf]; omega
              · have hk' : k = fs.length := by omega
                subst hk'
                have hdf : ds = fs := rises_eq hdr hM.rises (hdp.trans ((List.Perm.of_eq (List.take_of_length_le (by omega))).trans hperm))
                subst hdf
                clear hdl hdp
                have kE := fun W' (hA' : Adds wr W') => refSame_eq u9 (.slice ao ds.length cap) ds W' (hds.adds hA') ((hs.below (hbel.trans ((hA.trans hA').below.mono hbel.size)))) (by omega)
                go_wp2_with (first
                  | (go_at_call 15; refine (kE _ (by repeat (first | with_reducible exact Adds.refl _ | with_reducible refine Adds.alloc ?_ _ | with_reducible refine Adds.more ?_ _ _ | with_reducible refine Adds.drew ?_ | with_reducible refine Adds.drewN ?_ _))).mono ?_; rintro e w7 ⟨rfl, os7, n7, rfl⟩)
                  | (go_at_call 7; refine (awake_any _).mono ?_; rintro e w8 ⟨rfl, os8, n8, rfl⟩))
                go_ret
                exact ⟨rfl, Adds.of (hbel.trans ((hA.trans (by repeat (first | with_reducible exact Adds.refl _ | with_reducible refine Adds.alloc ?_ _ | with_reducible refine Adds.more ?_ _ _ | with_reducible refine Adds.drew ?_ | with_reducible refine Adds.drewN ?_ _))).below.mono hbel.size))⟩
          · have hk' : k = fs.length := by omega
            subst hk'
            clear hlt
            go_wp2
            rename World => W
            go_loopw [9, 10] (fun ov iv w2 => ∃ (k : Nat) (ds : List F), k ≤ fs.length ∧ iv = .int .i64 k ∧ Lst w2 ov ds ∧ ds.Perm (ms.take k) ∧ Rises ds ∧ Adds W w2) (fun _ iv _ => fs.length - (intOf iv).toNat)
            case atStart =>
              refine ⟨0, [], Nat.zero_le _, rfl, Lst.empty _ _ _ _ _ rfl rfl, List.Perm.refl _, fun i j hi => absurd hi (by simp), (Adds.refl _).alloc _⟩
            case round =>
              obtain ⟨k, ds, hk, rfl, hds, hdp, hdr, hA⟩ := hrel
              have hdl := hdp.length_eq
              rw [List.length_take] at hdl
              by_cases hlt : k < fs.length
              · rcases hmine with rfl | ⟨g, rfl, hg, hmine⟩
                · simp at hml; omega
                have hkm : k < ms.length := by omega
                obtain ⟨⟨c0, c1⟩, _⟩ := (hmine.adds hA).facts hkm
                have hgs := (hmine.adds hA).1
                have htk : ms.take (k + 1) = ms.take k ++ [ms[k]] := List.take_succ_eq_append_getElem hkm
                have hno : hasAt ms[k].path ds = false := by
                  by_cases h : hasAt ms[k].path ds = true
                  · obtain ⟨x, hx, e⟩ := (hasAt_mem hdr).1 h
                    have hx' := hdp.mem_iff.1 hx
                    have hp2 : Apart (ms.take k ++ [ms[k]]) := by rw [← htk]; exact List.Pairwise.sublist (List.take_sublist _ _) hap
                    exact absurd e ((List.pairwise_append.1 hp2).2.2 x hx' ms[k] (by simp))
                  · simpa using h
                have kS := fun W hA => set_ok u9 ds ms[k] W (hds.adds hA) (by omega) ((may_iff ds).2 hdr)
                have HP : Hid ((setDoc ds ms[k]).Perm (ms.take (k + 1))) := by
                  show (setDoc ds ms[k]).Perm (ms.take (k + 1))
                  rw [htk]
                  exact (setDoc_perm hno).trans ((hdp.cons _).trans (List.perm_append_comm (l₁ := [ms[k]])))
                have HR : Hid (Rises (setDoc ds ms[k])) := setDoc_rises hdr
                clear hno htk
                generalize ms[k] = X at *
                go_wp2
                go_region_with (go_at_call 8; refine (kS _ (by repeat (first | with_reducible exact Adds.refl _ | with_reducible refine Adds.alloc ?_ _ | with_reducible refine Adds.more ?_ _ _ | with_reducible refine Adds.drew ?_ | with_reducible refine Adds.drewN ?_ _))).mono ?_; rintro e w5 ⟨r5, rfl, l5, os5, n5, rfl⟩)
                all_goals
                  go_wp2
                  go_roundw
                  case rel =>
                    refine ⟨k + 1, setDoc ds X, by omega, by go_num, l5, HP.out, HR.out, hA.trans (by repeat (first | with_reducible exact Adds.refl _ | with_reducible refine Adds.alloc ?_ _ | with_reducible refine Adds.more ?_ _ _ | with_reducible refine Adds.drew ?_ | with_reducible refine Adds.drewN ?_ _))⟩
                  case measure => simp [intOf]; omega
              · have hk' : k = fs.length := by omega
                subst hk'
                have hdf : ds = fs := rises_eq hdr hM.rises (hdp.trans ((List.Perm.of_eq (List.take_of_length_le (by omega))).trans hperm))
                subst hdf
                clear hdl hdp
                have kE := fun W' (hA' : Adds wr W') => refSame_eq u9 (.slice ao ds.length cap) ds W' (hds.adds hA') ((hs.below (hbel.trans ((hA.trans hA').below.mono hbel.size)))) (by omega)
                go_wp2_with (first
                  | (go_at_call 15; refine (kE _ (by repeat (first | with_reducible exact Adds.refl _ | with_reducible refine Adds.alloc ?_ _ | with_reducible refine Adds.more ?_ _ _ | with_reducible refine Adds.drew ?_ | with_reducible refine Adds.drewN ?_ _))).mono ?_; rintro e w7 ⟨rfl, os7, n7, rfl⟩)
                  | (go_at_call 7; refine (awake_any _).mono ?_; rintro e w8 ⟨rfl, os8, n8, rfl⟩))
                go_ret
                exact ⟨rfl, Adds.of (hbel.trans ((hA.trans (by repeat (first | with_reducible exact Adds.refl _ | with_reducible refine Adds.alloc ?_ _ | with_reducible refine Adds.more ?_ _ _ | with_reducible refine Adds.drew ?_ | with_reducible refine Adds.drewN ?_ _))).below.mono hbel.size))⟩
    · have k10 := refMay_no s fs w h (by omega) hM
      obtain ⟨ao, cap, rfl, hcap, hlo⟩ := h
      obtain ⟨bo, cap', rfl, hbo⟩ := hy
      go_enter Try.func6, Try.ntmps6
      go_wp2_with (first
        | (go_at_call 10; refine k10.mono ?_; rintro e w6 ⟨rfl, os6, n6, rfl⟩)
        | (go_at_call 7; refine (awake_any _).mono ?_; rintro e w1 ⟨rfl, os5, n5, rfl⟩))
      go_ret
      refine ⟨rfl, ?_⟩
      repeat (first | with_reducible exact Adds.refl _ | with_reducible refine Adds.alloc ?_ _ | with_reducible refine Adds.more ?_ _ _ | with_reducible refine Adds.drew ?_ | with_reducible refine Adds.drewN ?_ _)
  · have hle' : (100 : Int) < (fs.length : Int) := by omega
    obtain ⟨ao, cap, rfl, hcap, hlo⟩ := h
    obtain ⟨bo, cap', rfl, hbo⟩ := hy
    go_enter Try.func6, Try.ntmps6
    go_wp2_with (first
      | (go_at_call 7; refine (awake_any _).mono ?_; rintro e w1 ⟨rfl, os5, n5, rfl⟩))
    go_ret
    refine ⟨rfl, ?_⟩
    repeat (first | with_reducible exact Adds.refl _ | with_reducible refine Adds.alloc ?_ _ | with_reducible refine Adds.more ?_ _ _ | with_reducible refine Adds.drew ?_ | with_reducible refine Adds.drewN ?_ _)

end Go.Proofs.Ytflhdhmnhgmbpaa
