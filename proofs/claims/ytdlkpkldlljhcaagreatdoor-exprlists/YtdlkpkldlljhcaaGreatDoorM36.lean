/-
  The reference's EvalAll, by a contract.
  The reference's Same of two rows that are alike, by a contract.
-/
import Derived.Test.YtdlkpkldlljhcaaGreatDoorM35
namespace Go.Proofs.YtdlkpkldlljhcaaGreatDoor
open Go.RowKit
attribute [local go_sem] cell?_more frozen?_more setCell_more size_more tape_more drew_more drewN_more more_drew more_drewN one_out plus_out plus_end lt_one le_p2 le_p3 le_p4 le_p5 le_p6 le_p7 le_p8 le_p9 le_p10 le_p11 le_p12 le_p13 le_p14 le_p15 le_p16 le_p17 le_p18 le_p19 le_p20 le_p21 le_p22 le_p23 le_p24 le_q0 le_q1 lt_q1 le_q2 lt_q2 le_q3 lt_q3 le_q4 lt_q4 le_q5 lt_q5 le_q6 lt_q6 le_q7 lt_q7 le_q8 lt_q8 le_q9 lt_q9 le_q10 lt_q10 le_q11 lt_q11 le_q12 lt_q12 le_q13 lt_q13 le_q14 lt_q14 le_q15 lt_q15 le_q16 lt_q16 le_q17 lt_q17 le_q18 lt_q18 le_q19 lt_q19 le_q20 lt_q20 le_q21 lt_q21 le_q22 lt_q22 le_q23 lt_q23 le_q24 lt_q24


theorem own_range {W : World} {B g n cap : Nat} {vs : List V} (h : W.ownsRow B 42 5 (.slice (some ⟨g, 0, none⟩) n cap) vs.length (cellsV vs)) : g < W.heap.size ∧ W.rangeAt g 0 (cellsV vs) := by
  rcases h.2 with ⟨he, _⟩ | ⟨g', cap', cur, he, hb, hg, _⟩
  · cases he
  · simp only [Value.slice.injEq, Option.some.injEq, Addr.mk.injEq] at he
    obtain ⟨⟨rfl, _⟩, _, _⟩ := he
    refine ⟨lt_of_some hg, fun j v hv => ?_⟩
    have := World.ownsRow.cells h (g := g) rfl j v hv
    rwa [Addr.add_lit] at this

/-- A row of values that grows. -/
structure Vg (w1 wr : World) (v : Value) (vs : List V) : Prop where
  own : wr.ownsRow w1.heap.size 42 5 v vs.length (cellsV vs)
  adds : Adds w1 wr

theorem vg_empty {X : World} {k : Nat} (hk : k = X.heap.size) : Vg X (X.alloc (.cells #[] 42)) (.slice (some ⟨k, 0, none⟩) 0 0) [] := ⟨own_empty hk (Nat.le_refl _), (Adds.refl _).alloc _⟩

theorem Vg.shape {w1 wr : World} {v : Value} {vs : List V} (h : Vg w1 wr v vs) : ∃ ao cap, v = .slice ao vs.length cap := by
  rcases h.own.2 with ⟨rfl, h0⟩ | ⟨g, cap, cur, rfl, _⟩
  · exact ⟨none, 0, by rw [h0]⟩
  · exact ⟨_, cap, rfl⟩

theorem Vg.push {w1 wr X w6 : World} {v v' : Value} {vs : List V} {k n : Int} {t : ByteArray} {re im : Int} (h : Vg w1 wr v vs) (hA : Adds wr X)
    (ho : w6.ownsRow w1.heap.size 42 5 v' (vs ++ [(⟨k, n, t, re, im⟩ : V)]).length (cellsV (vs ++ [(⟨k, n, t, re, im⟩ : V)]))) (hg : (X.alloc (.cells #[.int .i64 k, .int .i64 n, .string t, .int .i64 re, .int .i64 im] 42)).grownBy w6 v.ownBlock) : Vg w1 w6 v' (vs ++ [(⟨k, n, t, re, im⟩ : V)]) :=
  ⟨ho, grown_adds ((h.adds.trans hA).alloc _) hg (fun k hk => (h.own.lt k hk).1)⟩

theorem Vg.gave {w1 wr : World} {ao : Option Addr} {n cap : Nat} {vs : List V} (h : Vg w1 wr (.slice ao n cap) vs) (hv : vs ≠ []) : GaveV (some vs) (.returned (.tuple #[.slice ao n cap, .bool true])) wr := by
  have hl : 0 < vs.length := List.length_pos_iff.2 hv
  rcases h.own.2 with ⟨he, h0⟩ | ⟨g, cap', cur, he, hr⟩
  · omega
  · simp only [Value.slice.injEq] at he
    obtain ⟨rfl, rfl, rfl⟩ := he
    obtain ⟨h1, h2⟩ := own_range h.own
    exact ⟨g, cap, rfl, h1, h2⟩

set_option maxHeartbeats 4000000 in
set_option maxRecDepth 20000 in
theorem rEvalAll_any {D : Nat} (xs : List E) (hx4 : xs.length ≤ 4) (ao : Option Addr) (cap : Nat) (dv : Value) (fs : List F) (w : World) (hT : Tn (fun _ => True) D w (.slice ao xs.length cap) (xs.map E.toN)) (hok : ∀ x ∈ xs, x.ok ∧ ∀ d, cntN d [x.toN] ≤ 256) (hL : Lst w dv fs) (h40 : fs.length ≤ 1000) :
    Calls Tryz.prog 9 #[.slice ao xs.length cap, dv] w fun e w' => GaveV (evA fs xs) e w' ∧ Adds w w' := by
  have HT : Hid (Tn (fun _ => True) D w (.slice ao xs.length cap) (xs.map E.toN)) := hT
  have HK : Hid (∀ x ∈ xs, x.ok ∧ ∀ d, cntN d [x.toN] ≤ 256) := hok
  have HL : Hid (Lst w dv fs) := hL
  obtain ⟨do_, dcap, hdv, _, _⟩ := hL
  clear hT hok
  subst hdv
  go_enter Tryz.func9, Tryz.ntmps9
  go_wp2
  go_loopw [6, 7] (fun lv iv wr => ∃ (j : Nat) (vs : List V), j ≤ xs.length ∧ iv = .int .i64 j ∧ Hid (Sov fs xs j vs) ∧ Hid (Vg w wr lv vs)) (fun _ iv _ => xs.length - (intOf iv).toNat)
  case atStart => exact ⟨0, [], Nat.zero_le _, rfl, sov_nil _ _, vg_empty rfl⟩
  case round =>
    obtain ⟨j, vs, hj, rfl, HSo, HV⟩ := hrel
    obtain ⟨uo, uc, rfl⟩ := HV.out.shape
    have hvl : vs.length = j := HSo.out.1
    obtain ⟨os, n0, rfl⟩ := HV.out.adds
    by_cases hlt : j < xs.length
    · obtain ⟨d', b1, o1, x, he, rfl, hb1, ⟨c0, c1, c2, c3⟩, hsz, htx⟩ := HT.out.elem (k := j) (by simpa using hlt)
      have hel : (xs.map E.toN)[j]'(by simpa using hlt) = xs[j].toN := by simp
      rw [hel] at c0 c1 c2 hsz htx
      have hk := HK.out xs[j] (List.getElem_mem hlt)
      have kE := fun W (hA : Adds w W) => reval_O (D := d') xs[j].toN x (.slice do_ fs.length dcap) fs W (htx.adds hA) hsz (fun d => Nat.le_trans (hk.2 d) (by decide)) (HL.out.adds hA) h40
      obtain ⟨xo, xc, rfl⟩ := htx.shape
      have hj5 : (j : Int) < 5 := by omega
      have hnl : vs.length ≤ 10000 := by omega
      have hb0 : Hid ((xs.length = 0 ∨ 4 < xs.length) → False) := fun h => by omega
      clear htx hsz he hel hk HT HK HL hvl
      (try simp only [nodeV, optV] at kE)
      cases hv : evO fs xs[j].toN with
      | none =>
        rw [hv] at kE
        have HN : Hid (evA fs xs = none) := by
          show _ = _
          unfold evA
          rw [if_neg hb0.out]
          exact HSo.out.none hlt hv
        clear hv HSo HV
        simp only [Option.getD_none, Option.isSome_none, vZ, V.val] at kE
        generalize xs[j].toN = p at *
        go_wp2_with (go_at_call 16; refine (kE _ (by repeat (first | with_reducible exact Adds.refl _ | with_reducible refine Adds.alloc ?_ _ | with_reducible refine Adds.more ?_ _ _ | with_reducible refine Adds.drew ?_ | with_reducible refine Adds.drewN ?_ _))).mono ?_; rintro e w2 ⟨rfl, os2, n2, rfl⟩)
        exact bodyPost_ret (v := .tuple #[.slice none 0 0, .bool false]) (by simp [results, Tryz.results9, go_sem]) rfl ⟨by rw [HN.out]; rfl, by repeat (first | with_reducible exact Adds.refl _ | with_reducible refine Adds.alloc ?_ _ | with_reducible refine Adds.more ?_ _ _ | with_reducible refine Adds.drew ?_ | with_reducible refine Adds.drewN ?_ _)⟩
      | some v =>
        rw [hv] at kE
        have HNX : Hid (Sov fs xs (j + 1) (vs ++ [v])) := HSo.out.next hlt hv
        clear hv HSo
        obtain ⟨vk, vm, vt, vr, vi⟩ := v
        simp only [Option.getD_some, Option.isSome_some, V.val] at kE
        generalize xs[j].toN = p at *
        go_wp2_with (first
          | (go_at_call 16; refine (kE _ (by repeat (first | with_reducible exact Adds.refl _ | with_reducible refine Adds.alloc ?_ _ | with_reducible refine Adds.more ?_ _ _ | with_reducible refine Adds.drew ?_ | with_reducible refine Adds.drewN ?_ _))).mono ?_; rintro e w2 ⟨rfl, os2, n2, rfl⟩)
          | (at_builtin; refine val_app rfl (.tmp 32) (.tmp 34) rfl (Vg.own HV.out) (by repeat (first | with_reducible exact Adds.refl _ | with_reducible refine Adds.alloc ?_ _ | with_reducible refine Adds.more ?_ _ _ | with_reducible refine Adds.drew ?_ | with_reducible refine Adds.drewN ?_ _)) (by simp [size_more]) rfl (by first | rfl | simp [size_more] | (simp [size_more]; omega)) rfl hnl ?_; intro v6 w6 ho6 hg6))
        go_roundw
        case rel => exact ⟨j + 1, _, by omega, by go_num, HNX, Vg.push HV.out (by repeat (first | with_reducible exact Adds.refl _ | with_reducible refine Adds.alloc ?_ _ | with_reducible refine Adds.more ?_ _ _ | with_reducible refine Adds.drew ?_ | with_reducible refine Adds.drewN ?_ _)) ho6 hg6⟩
        case measure => simp [intOf]; omega
    · have hj' : j = xs.length := by omega
      by_cases h0 : xs.length = 0
      · have HN : Hid (evA fs xs = none) := if_pos (.inl h0)
        rw [h0] at hj'
        subst hj'
        clear HSo HV HT HK HL
        rw [h0]
        go_wp2
        exact bodyPost_ret (v := .tuple #[.slice none 0 0, .bool false]) (by simp [results, Tryz.results9, go_sem]) rfl ⟨by rw [HN.out]; rfl, by repeat (first | with_reducible exact Adds.refl _ | with_reducible refine Adds.alloc ?_ _ | with_reducible refine Adds.more ?_ _ _ | with_reducible refine Adds.drew ?_ | with_reducible refine Adds.drewN ?_ _)⟩
      · have HG : Hid (GaveV (evA fs xs) (.returned (.tuple #[.slice uo vs.length uc, .bool true])) (more w os n0)) := by
          have h1 := HSo.out
          rw [hj'] at h1
          have h2 := HV.out.gave (by rintro rfl; simp at hvl; omega)
          unfold evA
          rw [if_neg (by omega), h1.all]
          exact h2
        have h0' : ((xs.length : Int) == 0) = false := beq_eq_false_iff_ne.2 (by omega)
        have h4' : ¬ (4 : Int) < (xs.length : Int) := by omega
        subst hj'
        have HVL : Hid (vs.length = xs.length) := hvl
        clear HSo HV HT HK HL hvl
        go_wp2
        exact bodyPost_ret (v := .tuple #[.slice uo vs.length uc, .bool true]) (by simp [results, Tryz.results9, go_sem]) rfl ⟨HG.out, by repeat (first | with_reducible exact Adds.refl _ | with_reducible refine Adds.alloc ?_ _ | with_reducible refine Adds.more ?_ _ _ | with_reducible refine Adds.drew ?_ | with_reducible refine Adds.drewN ?_ _)⟩

end Go.Proofs.YtdlkpkldlljhcaaGreatDoor

namespace Go.Proofs.YtdlkpkldlljhcaaGreatDoor
open Go.RowKit
attribute [local go_sem] cell?_more frozen?_more setCell_more size_more tape_more drew_more drewN_more more_drew more_drewN one_out plus_out plus_end lt_one le_p2 le_p3 le_p4 le_p5 le_p6 le_p7 le_p8 le_p9 le_p10 le_p11 le_p12 le_p13 le_p14 le_p15 le_p16 le_p17 le_p18 le_p19 le_p20 le_p21 le_p22 le_p23 le_p24 le_q0 le_q1 lt_q1 le_q2 lt_q2 le_q3 lt_q3 le_q4 lt_q4 le_q5 lt_q5 le_q6 lt_q6 le_q7 lt_q7 le_q8 lt_q8 le_q9 lt_q9 le_q10 lt_q10 le_q11 lt_q11 le_q12 lt_q12 le_q13 lt_q13 le_q14 lt_q14 le_q15 lt_q15 le_q16 lt_q16 le_q17 lt_q17 le_q18 lt_q18 le_q19 lt_q19 le_q20 lt_q20 le_q21 lt_q21 le_q22 lt_q22 le_q23 lt_q23 le_q24 lt_q24


/-- A slice of values as it is told: none, or a row. -/
def RowV (w : World) (v : Value) (vs : List V) : Prop := (v = .slice none 0 0 ∧ vs = []) ∨ ∃ g cap, v = .slice (some ⟨g, 0, none⟩) vs.length cap ∧ g < w.heap.size ∧ w.rangeAt g 0 (cellsV vs)

theorem RowV.addsR {w X : World} {v : Value} {vs : List V} (h : RowV w v vs) (hA : Adds w X) : RowV X v vs := by
  rcases h with h | ⟨g, cap, rfl, hg, hr⟩
  · exact .inl h
  · exact .inr ⟨g, cap, rfl, Nat.lt_of_lt_of_le hg hA.below.size, range_adds hr hA⟩

theorem cellsV_at : ∀ (l : List V) (j i : Nat) (hj : j < l.length), i < 5 → (cellsV l)[j * 5 + i]? = (l[j].cells)[i]? := by
  intro l
  induction l with
  | nil => intro j i hj; simp at hj
  | cons f r ih =>
    intro j i hj hi
    have e : cellsV (f :: r) = f.cells ++ cellsV r := by simp [cellsV]
    have hl : f.cells.length = 5 := rfl
    rw [e]
    cases j with
    | zero => rw [List.getElem?_append_left (by omega)]; simp
    | succ j =>
      rw [List.getElem?_append_right (by omega), show (j + 1) * 5 + i - f.cells.length = j * 5 + i by omega, ih j i (by simpa using hj) hi]
      simp

theorem RowV.elem {w : World} {ao : Option Addr} {n cap : Nat} {vs : List V} (h : RowV w (.slice ao n cap) vs) {j : Nat} (hj : j < vs.length) : ∃ g, ao = some ⟨g, 0, none⟩ ∧ g < w.heap.size ∧
    w.cell? ⟨g, j * 5, none⟩ = some (.int .i64 vs[j].kind) ∧ w.cell? ⟨g, j * 5 + 1, none⟩ = some (.int .i64 vs[j].num) ∧ w.cell? ⟨g, j * 5 + 2, none⟩ = some (.string vs[j].text) ∧ w.cell? ⟨g, j * 5 + 3, none⟩ = some (.int .i64 vs[j].re) ∧ w.cell? ⟨g, j * 5 + 4, none⟩ = some (.int .i64 vs[j].im) := by
  rcases h with ⟨_, rfl⟩ | ⟨g, cap', he, hg, hr⟩
  · simp at hj
  · simp only [Value.slice.injEq] at he
    have hc := fun i (hi : i < 5) u (hu : (vs[j].cells)[i]? = some u) => hr (j * 5 + i) u ((cellsV_at vs j i hj hi).trans hu)
    refine ⟨g, he.1, hg, ?_, ?_, ?_, ?_, ?_⟩
    · simpa using hc 0 (by omega) _ rfl
    · simpa using hc 1 (by omega) _ rfl
    · simpa using hc 2 (by omega) _ rfl
    · simpa using hc 3 (by omega) _ rfl
    · simpa using hc 4 (by omega) _ rfl

theorem RowV.shape {w : World} {v : Value} {vs : List V} (h : RowV w v vs) : ∃ ao cap, v = .slice ao vs.length cap := by
  rcases h with ⟨rfl, rfl⟩ | ⟨g, cap, rfl, _⟩
  · exact ⟨none, 0, rfl⟩
  · exact ⟨_, cap, rfl⟩

theorem run_neq42 (k n : Int) (t : ByteArray) (re im : Int) (w : World) :
    (binOp .neq 42 (.agg #[.int .i64 k, .int .i64 n, .string t, .int .i64 re, .int .i64 im]) (.agg #[.int .i64 k, .int .i64 n, .string t, .int .i64 re, .int .i64 im])).run Tryz.prog w = .ok (.bool false) w := by
  go_simp

set_option maxHeartbeats 4000000 in
set_option maxRecDepth 20000 in
theorem rSame2_any (vs : List V) (hl : vs.length ≤ 100) (a b : Value) (w : World) (ha : RowV w a vs) (hb : RowV w b vs) : Calls Tryz.prog 10 #[a, b] w fun e w' => e = .returned (.bool true) ∧ Adds w w' := by
  obtain ⟨ao, ac, rfl⟩ := ha.shape
  obtain ⟨bo, bc, rfl⟩ := hb.shape
  have HA : Hid (RowV w (.slice ao vs.length ac) vs) := ha
  have HB : Hid (RowV w (.slice bo vs.length bc) vs) := hb
  clear ha hb
  go_enter Tryz.func10, Tryz.ntmps10
  go_wp2
  go_loopw [5] (fun iv wr => ∃ j : Nat, j ≤ vs.length ∧ iv = .int .i64 j ∧ Adds w wr) (fun iv _ => vs.length - (intOf iv).toNat)
  case atStart => exact ⟨0, Nat.zero_le _, rfl, by repeat (first | with_reducible exact Adds.refl _ | with_reducible refine Adds.alloc ?_ _ | with_reducible refine Adds.more ?_ _ _ | with_reducible refine Adds.drew ?_ | with_reducible refine Adds.drewN ?_ _)⟩
  case round =>
    obtain ⟨j, hj, rfl, os, n0, rfl⟩ := hrel
    by_cases hlt : j < vs.length
    · obtain ⟨g1, rfl, hg1, c0, c1, c2, c3, c4⟩ := HA.out.elem hlt
      obtain ⟨g2, rfl, hg2, d0, d1, d2, d3, d4⟩ := HB.out.elem hlt
      have hq := run_neq42 vs[j].kind vs[j].num vs[j].text vs[j].re vs[j].im
      clear HA HB
      generalize vs[j].kind = xk at *
      generalize vs[j].num = xn at *
      generalize vs[j].text = xt at *
      generalize vs[j].re = xr at *
      generalize vs[j].im = xi at *
      go_wp2
      go_region
      all_goals
        go_wp2
        go_roundw
        case rel => exact ⟨j + 1, by omega, by go_num, by repeat (first | with_reducible exact Adds.refl _ | with_reducible refine Adds.alloc ?_ _ | with_reducible refine Adds.more ?_ _ _ | with_reducible refine Adds.drew ?_ | with_reducible refine Adds.drewN ?_ _)⟩
        case measure => simp [intOf]; omega
    · have hj' : j = vs.length := by omega
      subst hj'
      clear HA HB
      go_wp2
      go_ret
      exact ⟨by first | rfl | simp, by repeat (first | with_reducible exact Adds.refl _ | with_reducible refine Adds.alloc ?_ _ | with_reducible refine Adds.more ?_ _ _ | with_reducible refine Adds.drew ?_ | with_reducible refine Adds.drewN ?_ _)⟩

end Go.Proofs.YtdlkpkldlljhcaaGreatDoor
