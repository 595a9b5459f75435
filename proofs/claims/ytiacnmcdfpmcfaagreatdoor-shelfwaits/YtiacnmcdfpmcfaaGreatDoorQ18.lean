/-
  Calls, by contracts.
  The function below goes through, whatever the tree.
  The functions tooDeep and Check, by contracts.
-/
import Derived.Test.YtiacnmcdfpmcfaaGreatDoorQ17
import Derived.Test.YtiacnmcdfpmcfaaGreatDoorQ16
import Derived.Test.YtiacnmcdfpmcfaaGreatDoorQ04
import Derived.Carry
import Derived.Test.YtiacnmcdfpmcfaaGreatDoorQ14
namespace Go.Proofs.YtiacnmcdfpmcfaaGreatDoor
open Go.RowKit
attribute [local go_sem] cell?_more frozen?_more setCell_more size_more tape_more drew_more drewN_more more_drew more_drewN one_out plus_out plus_end lt_one le_p2 le_p3 le_p4 le_p5 le_p6 le_p7 le_p8 le_p9 le_p10 le_p11 le_p12 le_p13 le_p14 le_p15 le_p16 le_p17 le_p18 le_p19 le_p20 le_p21 le_p22 le_p23 le_p24 le_q0 le_q1 lt_q1 le_q2 lt_q2 le_q3 lt_q3 le_q4 lt_q4 le_q5 lt_q5 le_q6 lt_q6 le_q7 lt_q7 le_q8 lt_q8 le_q9 lt_q9 le_q10 lt_q10 le_q11 lt_q11 le_q12 lt_q12 le_q13 lt_q13 le_q14 lt_q14 le_q15 lt_q15 le_q16 lt_q16 le_q17 lt_q17 le_q18 lt_q18 le_q19 lt_q19 le_q20 lt_q20 le_q21 lt_q21 le_q22 lt_q22 le_q23 lt_q23 le_q24 lt_q24


def callP (f : List UInt8) (x y : Int) : Option V := if f = nNorm then some (V.mkNum (x * x + y * y)) else if f = nConj then some (V.mkPoint x (-y)) else if f = nTurn then some (V.mkPoint (-y) x) else none
def callT (f : List UInt8) (s : ByteArray) : Option V := if f = nLow then some (V.mkText (lowB s)) else if f = nHead then some (V.mkText (s.extract 0 1)) else none

set_option maxHeartbeats 2000000 in
theorem calledP_any (f : ByteArray) (x y : Int) (h : Gs.May x y) (w : World) :
    Calls Tryz.prog 176 #[.string f, Gs.pt x y] w fun e w' => e = .returned (optV (callP f.toList x y)) ∧ Adds w w' := by
  have k1 : (⟨#[110, 111, 114, 109]⟩ : ByteArray).toList = nNorm := by rw [ByteArray.toList_eq]; rfl
  have k2 : (⟨#[99, 111, 110, 106]⟩ : ByteArray).toList = nConj := by rw [ByteArray.toList_eq]; rfl
  have k3 : (⟨#[116, 117, 114, 110]⟩ : ByteArray).toList = nTurn := by rw [ByteArray.toList_eq]; rfl
  have kN := Gs.norm_may x y h
  have kM := Gs.mirror_may x y h
  have kT := Gs.turn_may x y 1 h
  have kI := num_any (x * x + y * y)
  have kP1 := pointOr_yes x (-y)
  have kP2 := pointOr_yes (-y) x
  have hq : Gs.quarters 1 = 1 := by decide
  rw [hq] at kT
  simp only [Gs.rot] at kT
  unfold callP
  simp only [optV, Option.getD_some, Option.isSome_some, V.val, V.mkNum, V.mkPoint] at *
  clear h hq
  by_cases h1 : f.toList = nNorm
  · have h1' : (f.toList == nNorm) = true := by simpa using h1
    rw [if_pos h1]
    clear h1
    generalize x * x + y * y = z at *
    go_enter Tryz.func176, Tryz.ntmps176
    go_wp2_with (first
      | (go_at_call 184; refine (kN _).mono ?_; rintro e w1 ⟨rfl, os1, n1, rfl⟩)
      | (go_at_call 166; refine (kI _).mono ?_; rintro e w2 ⟨rfl, os2, n2, rfl⟩))
    exact bodyPost_ret (v := .tuple #[.agg #[.int .i64 1, .int .i64 z, .string ⟨#[]⟩, .int .i64 0, .int .i64 0], .bool true]) (by simp [results, Tryz.results176, go_sem]) rfl ⟨rfl, by repeat (first | with_reducible exact Adds.refl _ | with_reducible refine Adds.alloc ?_ _ | with_reducible refine Adds.more ?_ _ _ | with_reducible refine Adds.drew ?_ | with_reducible refine Adds.drewN ?_ _)⟩
  have h1' : (f.toList == nNorm) = false := by simpa using h1
  rw [if_neg h1]
  by_cases h2 : f.toList = nConj
  · have h2' : (f.toList == nConj) = true := by simpa using h2
    rw [if_pos h2]
    clear h1 h2
    go_enter Tryz.func176, Tryz.ntmps176
    go_wp2_with (first
      | (go_at_call 185; refine (kM _).mono ?_; rintro e w1 ⟨rfl, os1, n1, rfl⟩)
      | (go_at_call 179; refine (kP1 _).mono ?_; rintro e w2 ⟨rfl, os2, n2, rfl⟩))
    exact bodyPost_ret (v := .tuple #[.agg #[.int .i64 3, .int .i64 0, .string ⟨#[]⟩, .int .i64 x, .int .i64 (-y)], .bool true]) (by simp [results, Tryz.results176, go_sem]) rfl ⟨rfl, by repeat (first | with_reducible exact Adds.refl _ | with_reducible refine Adds.alloc ?_ _ | with_reducible refine Adds.more ?_ _ _ | with_reducible refine Adds.drew ?_ | with_reducible refine Adds.drewN ?_ _)⟩
  have h2' : (f.toList == nConj) = false := by simpa using h2
  rw [if_neg h2]
  by_cases h3 : f.toList = nTurn
  · have h3' : (f.toList == nTurn) = true := by simpa using h3
    rw [if_pos h3]
    clear h1 h2 h3
    go_enter Tryz.func176, Tryz.ntmps176
    go_wp2_with (first
      | (go_at_call 186; refine (kT _).mono ?_; rintro e w1 ⟨rfl, os1, n1, rfl⟩)
      | (go_at_call 179; refine (kP2 _).mono ?_; rintro e w2 ⟨rfl, os2, n2, rfl⟩))
    exact bodyPost_ret (v := .tuple #[.agg #[.int .i64 3, .int .i64 0, .string ⟨#[]⟩, .int .i64 (-y), .int .i64 x], .bool true]) (by simp [results, Tryz.results176, go_sem]) rfl ⟨rfl, by repeat (first | with_reducible exact Adds.refl _ | with_reducible refine Adds.alloc ?_ _ | with_reducible refine Adds.more ?_ _ _ | with_reducible refine Adds.drew ?_ | with_reducible refine Adds.drewN ?_ _)⟩
  have h3' : (f.toList == nTurn) = false := by simpa using h3
  rw [if_neg h3]
  clear h1 h2 h3
  simp only [Option.getD_none, Option.isSome_none, vZ]
  go_enter Tryz.func176, Tryz.ntmps176
  go_wp2
  exact bodyPost_ret (v := .tuple #[.agg #[.int .i64 0, .int .i64 0, .string ⟨#[]⟩, .int .i64 0, .int .i64 0], .bool false]) (by simp [results, Tryz.results176, go_sem]) rfl ⟨rfl, by repeat (first | with_reducible exact Adds.refl _ | with_reducible refine Adds.alloc ?_ _ | with_reducible refine Adds.more ?_ _ _ | with_reducible refine Adds.drew ?_ | with_reducible refine Adds.drewN ?_ _)⟩

theorem ret_tup {a b : Value} (h : a = b) : Ending.returned a = .returned b := by rw [h]

set_option maxHeartbeats 2000000 in
theorem calledT_any (f s : ByteArray) (hs : s.size ≤ 256) (w : World) :
    Calls Tryz.prog 177 #[.string f, .string s] w fun e w' => e = .returned (optV (callT f.toList s)) ∧ Adds w w' := by
  have k4 : (⟨#[108, 111, 119]⟩ : ByteArray).toList = nLow := by rw [ByteArray.toList_eq]; rfl
  have k5 : (⟨#[104, 101, 97, 100]⟩ : ByteArray).toList = nHead := by rw [ByteArray.toList_eq]; rfl
  have kL := low_any s hs
  have kT := fun x => text_any x
  unfold callT
  by_cases h1 : f.toList = nLow
  · have h1' : (f.toList == nLow) = true := by simpa using h1
    rw [if_pos h1]
    simp only [optV, Option.getD_some, Option.isSome_some, V.val, V.mkText]
    clear h1
    generalize lowB s = z at *
    go_enter Tryz.func177, Tryz.ntmps177
    go_wp2_with (first
      | (go_at_call 187; refine (kL _).mono ?_; rintro e w1 ⟨rfl, os1, n1, rfl⟩)
      | (go_at_call 168; refine (kT _ _).mono ?_; rintro e w2 ⟨rfl, os2, n2, rfl⟩))
    exact bodyPost_ret (v := .tuple #[.agg #[.int .i64 2, .int .i64 0, .string z, .int .i64 0, .int .i64 0], .bool true]) (by simp [results, Tryz.results177, go_sem]) rfl ⟨rfl, by repeat (first | with_reducible exact Adds.refl _ | with_reducible refine Adds.alloc ?_ _ | with_reducible refine Adds.more ?_ _ _ | with_reducible refine Adds.drew ?_ | with_reducible refine Adds.drewN ?_ _)⟩
  have h1' : (f.toList == nLow) = false := by simpa using h1
  rw [if_neg h1]
  by_cases h2 : f.toList = nHead
  · have h2' : (f.toList == nHead) = true := by simpa using h2
    rw [if_pos h2]
    simp only [optV, Option.getD_some, Option.isSome_some, V.val, V.mkText]
    clear h1 h2
    by_cases h0 : s.size = 0
    · have he : s.extract 0 1 = s.extract 0 0 := by
        apply toList_inj
        rw [extract_L, extract_L]
        have : s.toList = [] := List.length_eq_zero_iff.1 (by rw [toList_length]; exact h0)
        rw [this]
        rfl
      rw [he]
      have hm : min (s.size : Int) 1 = 0 := by omega
      have HZ : Hid (s.size = 0) := h0
      clear h0
      clear he
      go_enter Tryz.func177, Tryz.ntmps177
      go_wp2_with (first
        | (go_at_call 168; refine (kT _ _).mono ?_; rintro e w2 ⟨rfl, os2, n2, rfl⟩))
      exact bodyPost_ret (v := .tuple #[.agg #[.int .i64 2, .int .i64 0, .string (s.extract 0 0), .int .i64 0, .int .i64 0], .bool true]) (by simp [results, Tryz.results177, go_sem]) rfl ⟨rfl, by repeat (first | with_reducible exact Adds.refl _ | with_reducible refine Adds.alloc ?_ _ | with_reducible refine Adds.more ?_ _ _ | with_reducible refine Adds.drew ?_ | with_reducible refine Adds.drewN ?_ _)⟩
    · have h0' : ¬ (s.size : Int) < 1 := by omega
      have h0a : 1 ≤ (s.size : Int) := by omega
      have hm : min (s.size : Int) 1 = 1 := by omega
      go_enter Tryz.func177, Tryz.ntmps177
      go_wp2_with (first
        | (go_at_call 168; refine (kT _ _).mono ?_; rintro e w2 ⟨rfl, os2, n2, rfl⟩))
      all_goals first
        | exact bodyPost_ret (v := .tuple #[.agg #[.int .i64 2, .int .i64 0, .string (s.extract 0 1), .int .i64 0, .int .i64 0], .bool true]) (by simp [results, Tryz.results177, go_sem]) rfl ⟨rfl, by repeat (first | with_reducible exact Adds.refl _ | with_reducible refine Adds.alloc ?_ _ | with_reducible refine Adds.more ?_ _ _ | with_reducible refine Adds.drew ?_ | with_reducible refine Adds.drewN ?_ _)⟩
  have h2' : (f.toList == nHead) = false := by simpa using h2
  rw [if_neg h2]
  clear h1 h2
  simp only [optV, Option.getD_none, Option.isSome_none, vZ, V.val]
  go_enter Tryz.func177, Tryz.ntmps177
  go_wp2
  exact bodyPost_ret (v := .tuple #[.agg #[.int .i64 0, .int .i64 0, .string ⟨#[]⟩, .int .i64 0, .int .i64 0], .bool false]) (by simp [results, Tryz.results177, go_sem]) rfl ⟨rfl, by repeat (first | with_reducible exact Adds.refl _ | with_reducible refine Adds.alloc ?_ _ | with_reducible refine Adds.more ?_ _ _ | with_reducible refine Adds.drew ?_ | with_reducible refine Adds.drewN ?_ _)⟩

set_option maxHeartbeats 1000000 in
theorem called_any (f : ByteArray) (v : V) (hv : v.check = 0) (w : World) :
    Calls Tryz.prog 171 #[.string f, v.val] w fun e w' => e = .returned (optV (callO f.toList v)) ∧ Adds w w' := by
  rcases V.cases hv with ⟨a, rfl, a1, a2⟩ | ⟨s, rfl, hs⟩ | ⟨x, y, rfl, hxy⟩
  · have e : callO f.toList (V.mkNum a) = none := by simp [callO, V.mkNum]
    rw [e]
    simp only [optV, Option.getD_none, Option.isSome_none, vZ, V.val, V.mkNum]
    clear e
    go_enter Tryz.func171, Tryz.ntmps171
    go_wp2
    exact bodyPost_ret (v := .tuple #[.agg #[.int .i64 0, .int .i64 0, .string ⟨#[]⟩, .int .i64 0, .int .i64 0], .bool false]) (by simp [results, Tryz.results171, go_sem]) rfl ⟨rfl, by repeat (first | with_reducible exact Adds.refl _ | with_reducible refine Adds.alloc ?_ _ | with_reducible refine Adds.more ?_ _ _ | with_reducible refine Adds.drew ?_ | with_reducible refine Adds.drewN ?_ _)⟩
  · have kT := calledT_any f s hs
    have e : callO f.toList (V.mkText s) = callT f.toList s := by simp [callO, callT, V.mkText]
    rw [e]
    clear e
    generalize callT f.toList s = o at *
    obtain ⟨⟨k, n, t, re, im⟩, hq⟩ : ∃ q, o.getD vZ = q := ⟨_, rfl⟩
    simp only [optV, hq, V.val, V.mkText] at *
    generalize o.isSome = q2 at *
    clear hq hv
    go_enter Tryz.func171, Tryz.ntmps171
    go_wp2_with (go_at_call 177; refine (kT _).mono ?_; rintro e w1 ⟨rfl, os1, n1, rfl⟩)
    exact bodyPost_ret (v := .tuple #[.agg #[.int .i64 k, .int .i64 n, .string t, .int .i64 re, .int .i64 im], .bool q2]) (by simp [results, Tryz.results171, go_sem]) rfl ⟨rfl, by repeat (first | with_reducible exact Adds.refl _ | with_reducible refine Adds.alloc ?_ _ | with_reducible refine Adds.more ?_ _ _ | with_reducible refine Adds.drew ?_ | with_reducible refine Adds.drewN ?_ _)⟩
  · have kT := calledP_any f x y hxy
    have e : callO f.toList (V.mkPoint x y) = callP f.toList x y := by simp [callO, callP, V.mkPoint]
    rw [e]
    clear e
    generalize callP f.toList x y = o at *
    obtain ⟨⟨k, n, t, re, im⟩, hq⟩ : ∃ q, o.getD vZ = q := ⟨_, rfl⟩
    simp only [optV, hq, V.val, V.mkPoint] at *
    generalize o.isSome = q2 at *
    clear hq hv
    go_enter Tryz.func171, Tryz.ntmps171
    go_wp2_with (go_at_call 176; refine (kT _).mono ?_; rintro e w1 ⟨rfl, os1, n1, rfl⟩)
    exact bodyPost_ret (v := .tuple #[.agg #[.int .i64 k, .int .i64 n, .string t, .int .i64 re, .int .i64 im], .bool q2]) (by simp [results, Tryz.results171, go_sem]) rfl ⟨rfl, by repeat (first | with_reducible exact Adds.refl _ | with_reducible refine Adds.alloc ?_ _ | with_reducible refine Adds.more ?_ _ _ | with_reducible refine Adds.drew ?_ | with_reducible refine Adds.drewN ?_ _)⟩

end Go.Proofs.YtiacnmcdfpmcfaaGreatDoor

namespace Go.Proofs.YtiacnmcdfpmcfaaGreatDoor
open Go.RowKit
attribute [local go_sem] cell?_more frozen?_more setCell_more size_more tape_more drew_more drewN_more more_drew more_drewN one_out plus_out plus_end lt_one le_p2 le_p3 le_p4 le_p5 le_p6 le_p7 le_p8 le_p9 le_p10 le_p11 le_p12 le_p13 le_p14 le_p15 le_p16 le_p17 le_p18 le_p19 le_p20 le_p21 le_p22 le_p23 le_p24 le_q0 le_q1 lt_q1 le_q2 lt_q2 le_q3 lt_q3 le_q4 lt_q4 le_q5 lt_q5 le_q6 lt_q6 le_q7 lt_q7 le_q8 lt_q8 le_q9 lt_q9 le_q10 lt_q10 le_q11 lt_q11 le_q12 lt_q12 le_q13 lt_q13 le_q14 lt_q14 le_q15 lt_q15 le_q16 lt_q16 le_q17 lt_q17 le_q18 lt_q18 le_q19 lt_q19 le_q20 lt_q20 le_q21 lt_q21 le_q22 lt_q22 le_q23 lt_q23 le_q24 lt_q24


theorem new_block (w : World) (o : Obj) : (w.alloc o).heap[w.heap.size]? = some o := by
  show (w.heap.push o)[w.heap.size]? = _
  simp

def sumA (d : Nat) (ts : List N) : Nat := (ts.map fun t => cntN d t.args).sum

theorem sumA_take (d : Nat) (ts : List N) {k : Nat} (hk : k < ts.length) : sumA d (ts.take (k + 1)) = sumA d (ts.take k) + cntN d ts[k].args := by
  rw [List.take_succ_eq_append_getElem hk]
  simp only [sumA, List.map_append, List.map_cons, List.map_nil, List.sum_append, List.sum_cons, List.sum_nil, Nat.add_zero]

theorem sumA_le (d : Nat) (ts : List N) : sumA d ts + ts.length = cntN (d + 1) ts := by
  simp [sumA, cntN]
  omega

def wts (d : Nat) (xs : List (Value × List N)) : Nat := (xs.map fun x => sumA d x.2).sum

theorem wts_take (d : Nat) (xs : List (Value × List N)) {k : Nat} (hk : k < xs.length) : wts d (xs.take (k + 1)) = wts d (xs.take k) + sumA d xs[k].2 := by
  rw [List.take_succ_eq_append_getElem hk]
  simp only [wts, List.map_append, List.map_cons, List.map_nil, List.sum_append, List.sum_cons, List.sum_nil, Nat.add_zero]

theorem sumA_take_le (d : Nat) (ts : List N) (k : Nat) : sumA d (ts.take k) ≤ sumA d ts := by
  have e : sumA d (ts.take k ++ ts.drop k) = sumA d (ts.take k) + sumA d (ts.drop k) := by simp only [sumA, List.map_append, List.sum_append]
  rw [List.take_append_drop] at e
  omega

theorem wts_take_le (d : Nat) (xs : List (Value × List N)) (k : Nat) : wts d (xs.take k) ≤ wts d xs := by
  have e : wts d (xs.take k ++ xs.drop k) = wts d (xs.take k) + wts d (xs.drop k) := by simp only [wts, List.map_append, List.sum_append]
  rw [List.take_append_drop] at e
  omega

theorem wts_le (d : Nat) (xs : List (Value × List N)) : wts d xs ≤ wt (d + 1) xs := by
  induction xs with
  | nil => simp [wts, wt]
  | cons x r ih =>
    have := sumA_le d x.2
    simp only [wts, wt, List.map_cons, List.sum_cons] at *
    omega

theorem wt_mem {d : Nat} {xs : List (Value × List N)} {x : Value × List N} (h : x ∈ xs) : cntN d x.2 ≤ wt d xs := by
  induction xs with
  | nil => simp at h
  | cons y r ih =>
    simp only [wt, List.map_cons, List.sum_cons]
    rcases List.mem_cons.1 h with rfl | h
    · omega
    · have := ih h
      simp only [wt] at this
      omega

/-- The arguments of a node that has some. -/
theorem Tn.args {ok : Nat → Prop} {d : Nat} {w : World} {s : Value} {ts : List N} (h : Tn ok (d + 1) w s ts) {k : Nat} (hk : k < ts.length) : ∃ b off cap x, s = .slice (some ⟨b, off, none⟩) ts.length cap ∧ ts.length ≤ cap ∧ b < w.heap.size ∧ (w.cell? ⟨b, off + k * 4, none⟩ = some (.int .i64 ts[k].kind) ∧ w.cell? ⟨b, off + k * 4 + 1, none⟩ = some (.string ts[k].text) ∧ w.cell? ⟨b, off + k * 4 + 2, none⟩ = some (.int .i64 ts[k].num) ∧ w.cell? ⟨b, off + k * 4 + 3, none⟩ = some x) ∧ Tn ok d w x ts[k].args := by
  obtain ⟨ao, cap, rfl, hc, h | ⟨b, off, rfl, hlt, hb, hz, hx⟩⟩ := h
  · rw [h] at hk
    simp at hk
  · obtain ⟨x, hcs, _, ht⟩ := hx k hk
    exact ⟨b, off, cap, x, rfl, hc, hlt, hcs, ht⟩

theorem Outs.own5 {B r d : Nat} {w X w5 : World} {v : Value} {ys : List (Value × List N)} (h : Outs B r d w X v ys) (hg : X.grownBy w5 (some r)) (hr : r = B) (o : Obj) : (w5.alloc o).ownsRow (B + 1) 51 1 v (ys.map Prod.fst).length (ys.map Prod.fst) ∧ B + 1 ≤ (w5.alloc o).heap.size := by
  have h1 := h.own.kept hg (by
    cases hv : v.ownBlock with
    | none => exact .inl rfl
    | some k =>
      right
      rcases h.own.2 with ⟨rfl, _⟩ | ⟨g, cap, cur, rfl, hb, _⟩
      · cases hv
      · simp only [Value.ownBlock, Option.some.injEq] at hv
        simp only [ne_eq, Option.some.injEq]
        omega)
  have hb := ((Adds.refl w5).alloc o).below
  have h2 := h1.kept (w' := w5.alloc o) (row := none) ⟨hb.os, hb.tape, hb.output, hb.size, fun k hk _ => hb.block k hk⟩ (by
    cases v.ownBlock with
    | none => exact .inl rfl
    | some k => exact .inr (by simp))
  refine ⟨by rw [List.length_map]; exact h2, ?_⟩
  have := hg.size
  have := h.size
  simp
  omega

theorem box3 {X w5 : World} {r k : Nat} {x : Value} (hg : X.grownBy w5 (some r)) (hk : k < X.heap.size) (hne : k ≠ r) (h : X.cell? ⟨k, 3, none⟩ = some x) : w5.cell? ⟨k, 3, none⟩ = some x :=
  (World.cell?_of_block (w := X) (a := ⟨k, 3, none⟩) (hg.block k hk (by simpa using hne))).trans h

set_option maxHeartbeats 8000000 in
set_option maxRecDepth 20000 in
theorem below_any {d : Nat} (v : Value) (xs : List (Value × List N)) (w : World) (h : Lvs (fun _ => True) (d + 1) w v xs) (hw : wt (d + 1) xs ≤ 10000) (hxl : xs.length ≤ 10000) :
    Calls Tryz.prog 123 #[v] w fun e w' => ∃ v' ys, e = .returned v' ∧ Lvs (fun _ => True) d w' v' ys ∧ wt d ys ≤ wt (d + 1) xs ∧ ys.length ≤ wt d ys ∧ Adds w w' := by
  obtain ⟨ao, cap, rfl, hcap, hT, ho⟩ := h
  have HT : Hid (∀ x ∈ xs, Tn (fun b => b < w.heap.size) (d + 1) w x.1 x.2) := fun x hx => (hT x hx).weak (fun _ _ h => h)
  have HWL : Hid (wts d xs ≤ wt (d + 1) xs) := wts_le d xs
  have h0 : Hid (Outs w.heap.size w.heap.size d w (w.alloc (.map #[] 0)) (.slice none 0 0) []) := by
    refine ⟨World.ownsRow_nil _ _ _ _, ⟨#[], 0, new_block _ _, fun e he => by simp at he⟩, ((Adds.refl w).alloc _).below, fun y hy => by simp at hy, by simp⟩
  clear hT
  have HW : Hid (wt (d + 1) xs ≤ 10000) := hw
  clear hw
  have hmm := @run_makeMap Tryz.prog
  go_enter Tryz.func123, Tryz.ntmps123
  go_wp2
  go_loopw [3, 15] (fun ov iv wr => ∃ (k : Nat) (ys : List (Value × List N)), k ≤ xs.length ∧ iv = .int .i64 k ∧ Hid (Outs w.heap.size w.heap.size d w wr ov ys) ∧ Hid (wt d ys ≤ wts d (xs.take k))) (fun _ iv _ => xs.length - (intOf iv).toNat)
  case atStart => exact ⟨0, [], Nat.zero_le _, rfl, h0, Nat.le_refl _⟩
  case round =>
    obtain ⟨k, ys, hk, rfl, hO, hWt⟩ := hrel
    clear h0
    by_cases hlt : k < xs.length
    · rcases ho with rfl | ⟨b, off, rfl, hb, hcs⟩
      · simp at hlt
      have cx := hcs k hlt
      have cx' : wr.cell? ⟨b, off + k, none⟩ = some xs[k].1 := (hO.out.bel.cell (p := ⟨b, off + k, none⟩) hb).trans cx
      have hTk := HT.out xs[k] (List.getElem_mem hlt)
      have htl : xs[k].2.length ≤ 10000 := by
        have h1 := cntN_len (d + 1) xs[k].2
        have h2 := wt_mem (d := d + 1) (List.getElem_mem hlt)
        have h3 := HW.out
        omega
      have HNX : Hid (wts d (xs.take (k + 1)) = wts d (xs.take k) + sumA d xs[k].2) := wts_take d xs hlt
      have HLE : Hid (wts d (xs.take (k + 1)) ≤ wts d xs) := wts_take_le d xs (k + 1)
      have hbr : b < wr.heap.size := Nat.lt_trans hb hO.out.size
      obtain ⟨ao1, cap1, hs1⟩ := hTk.shape
      have HTK : Hid (Tn (fun b => b < w.heap.size) (d + 1) w xs[k].1 xs[k].2) := hTk
      clear hTk cx hcs
      rw [hs1] at cx' HTK
      clear hs1
      generalize xs[k].2 = ts at *
      go_wp2
      go_loopw [3, 21] (fun ov iv wr => ∃ (i : Nat) (zs : List (Value × List N)), i ≤ ts.length ∧ iv = .int .i64 i ∧ Hid (Outs w.heap.size w.heap.size d w wr ov zs) ∧ Hid (wt d zs ≤ wts d (xs.take k) + sumA d (ts.take i))) (fun _ iv _ => ts.length - (intOf iv).toNat)
      case atStart => exact ⟨0, ys, Nat.zero_le _, rfl, hO, by simpa [sumA] using hWt⟩
      case round =>
        clear hO hWt cx' ys
        obtain ⟨i, zs, hi, rfl, hO, hWt⟩ := hrel
        have hlen : zs.length ≤ 100000 := by
          have h1 := wt_len (d := d) (fun y hy => (hO.out.trees y hy).2)
          have h2 := hWt.out
          have h3 := sumA_take_le d ts i
          have h4 := HNX.out
          have h5 := HLE.out
          have h6 := HWL.out
          have h7 := HW.out
          omega
        obtain ⟨vo, vc, hvs⟩ : ∃ vo vc, u3 = .slice vo zs.length vc := by
          rcases hO.out.own.2 with ⟨rfl, h0⟩ | ⟨g, cap, cur, rfl, _⟩
          · exact ⟨none, 0, by rw [h0]⟩
          · exact ⟨_, _, rfl⟩
        subst hvs
        by_cases hlt2 : i < ts.length
        · obtain ⟨b1, o1, c1, x, hsl, hcap1, hb1, ⟨c0, c1', c2, c3⟩, hTx⟩ := HTK.out.args hlt2
          simp only [Value.slice.injEq] at hsl
          obtain ⟨rfl, _, rfl⟩ := hsl
          have hbel := hO.out.bel
          have e0 := (hbel.cell (p := ⟨b1, o1 + i * 4, none⟩) hb1).trans c0
          have e1 := (hbel.cell (p := ⟨b1, o1 + i * 4 + 1, none⟩) hb1).trans c1'
          have e2 := (hbel.cell (p := ⟨b1, o1 + i * 4 + 2, none⟩) hb1).trans c2
          have e3 := (hbel.cell (p := ⟨b1, o1 + i * 4 + 3, none⟩) hb1).trans c3
          have hb1r : b1 < wr.heap.size := Nat.lt_trans hb1 hO.out.size
          have HSI : Hid (sumA d (ts.take (i + 1)) = sumA d (ts.take i) + cntN d ts[i].args) := sumA_take d ts hlt2
          obtain ⟨xo, xc, hxs⟩ := hTx.shape
          rw [hxs] at e3 hTx
          have HTX : Hid (Tn (fun b => b < w.heap.size) d w (.slice xo ts[i].args.length xc) ts[i].args) := hTx
          clear c0 c1' c2 c3 hxs hbel hTx
          by_cases hz : ts[i].args = []
          · have hz' : ts[i].args.length = 0 := by rw [hz]; rfl
            rw [hz'] at e3
            clear hz
            generalize ts[i].kind = nk at *
            generalize ts[i].text = nt at *
            generalize ts[i].num = nn at *
            have HC0 : Hid (0 ≤ cntN d ts[i].args) := Nat.zero_le _
            go_wp2
            go_roundw
            case rel =>
              exact ⟨i + 1, zs, by omega, by go_num, hO.out.adds (by repeat (first | with_reducible exact Adds.refl _ | with_reducible refine Adds.alloc ?_ _ | with_reducible refine Adds.more ?_ _ _ | with_reducible refine Adds.drew ?_ | with_reducible refine Adds.drewN ?_ _)), by show _ ≤ _; rw [HSI.out]; have := hWt.out; omega⟩
            case measure => simp [intOf]; omega
          · obtain ⟨b2, o2, c2, hx2, hc2, hpk⟩ := HTX.out.pk hz
            simp only [Value.slice.injEq] at hx2
            obtain ⟨rfl, _, rfl⟩ := hx2
            have hpos : 0 < ts[i].args.length := List.length_pos_iff.2 hz
            have hne0 : (((ts[i].args.length : Nat) : Int) == 0) = false := by simp; omega
            have kP := placeOf_any b2 o2 ts[i].args.length xc hpos
            have HZ : Hid (ts[i].args ≠ []) := hz
            have HPK : Hid (PK w.heap.size w (.agg #[.pointer (some ⟨b2, o2, none⟩), .int .i64 (ts[i].args.length : Int)])) := hpk
            clear hz hpk
            generalize ts[i].kind = nk at *
            generalize ts[i].text = nt at *
            generalize ts[i].num = nn at *
            generalize ts[i].args = ars at *
            have HO : Hid (Outs w.heap.size w.heap.size d w wr (.slice vo zs.length vc) zs) := hO
            have hBr := hO.out.size
            clear hO
            go_wp2_with (first
              | (go_at_call 145; refine (kP _).mono ?_; rintro e w2 ⟨rfl, os2, n2, rfl⟩)
              | (at_lookup; refine place_look rfl (.tmp 33) (.tmp 34) rfl rfl (Outs.seen (Outs.adds HO.out (by repeat (first | with_reducible exact Adds.refl _ | with_reducible refine Adds.alloc ?_ _ | with_reducible refine Adds.more ?_ _ _ | with_reducible refine Adds.drew ?_ | with_reducible refine Adds.drewN ?_ _)))) rfl (Outs.pk (Outs.adds HO.out (by repeat (first | with_reducible exact Adds.refl _ | with_reducible refine Adds.alloc ?_ _ | with_reducible refine Adds.more ?_ _ _ | with_reducible refine Adds.drew ?_ | with_reducible refine Adds.drewN ?_ _))) HPK.out) ?_; intro z1 q1 j1; cases q1)
              | (at_mapUpdate; refine place_set rfl (.tmp 40) (.tmp 41) (.tmp 43) rfl rfl (Outs.seen (Outs.adds HO.out (by repeat (first | with_reducible exact Adds.refl _ | with_reducible refine Adds.alloc ?_ _ | with_reducible refine Adds.more ?_ _ _ | with_reducible refine Adds.drew ?_ | with_reducible refine Adds.drewN ?_ _)))) rfl (Outs.pk (Outs.adds HO.out (by repeat (first | with_reducible exact Adds.refl _ | with_reducible refine Adds.alloc ?_ _ | with_reducible refine Adds.more ?_ _ _ | with_reducible refine Adds.drew ?_ | with_reducible refine Adds.drewN ?_ _))) HPK.out) rfl ?_; intro w5 hs5 hg5 hz5; have hq5 := box3 (k := wr.heap.size) (x := .slice (some ⟨b2, o2, none⟩) ars.length xc) hg5 (by simp [size_more]; omega) (by omega) (by simp [go_sem]); have hz6 : wr.heap.size < w5.heap.size := (by rw [hz5]; simp [size_more]; omega); have HZ5 : Hid _ := hz5; clear hz5)
              | (at_builtin; refine list_app rfl (.tmp 44) (.tmp 47) rfl (xs := zs.map Prod.fst) (Outs.own5 (Outs.adds HO.out (by repeat (first | with_reducible exact Adds.refl _ | with_reducible refine Adds.alloc ?_ _ | with_reducible refine Adds.more ?_ _ _ | with_reducible refine Adds.drew ?_ | with_reducible refine Adds.drewN ?_ _))) hg5 rfl _).1 (Outs.own5 (Outs.adds HO.out (by repeat (first | with_reducible exact Adds.refl _ | with_reducible refine Adds.alloc ?_ _ | with_reducible refine Adds.more ?_ _ _ | with_reducible refine Adds.drew ?_ | with_reducible refine Adds.drewN ?_ _))) hg5 rfl _).2 rfl (u := .slice (some ⟨b2, o2, none⟩) ars.length xc) rfl rfl (by simp) (by simpa using hlen) ?_; intro v6 w6 ho6 hg6))
            · go_roundw
              case rel =>
                refine ⟨i + 1, zs ++ [(.slice (some ⟨b2, o2, none⟩) ars.length xc, ars)], by omega, by go_num, Outs.push (Outs.adds HO.out (by repeat (first | with_reducible exact Adds.refl _ | with_reducible refine Adds.alloc ?_ _ | with_reducible refine Adds.more ?_ _ _ | with_reducible refine Adds.drew ?_ | with_reducible refine Adds.drewN ?_ _))) hs5 hg5 HZ5.out rfl (by simpa using ho6) hg6 ⟨HTX.out, HZ.out⟩, ?_⟩
                show _ ≤ _
                rw [wt_append, HSI.out]
                have h1 := hWt.out
                have h2 : wt d [((.slice (some ⟨b2, o2, none⟩) ars.length xc : Value), ars)] = cntN d ars := by simp [wt]
                omega
              case measure => simp [intOf]; omega
            · go_roundw
              case rel =>
                refine ⟨i + 1, zs, by omega, by go_num, Outs.adds HO.out (by repeat (first | with_reducible exact Adds.refl _ | with_reducible refine Adds.alloc ?_ _ | with_reducible refine Adds.more ?_ _ _ | with_reducible refine Adds.drew ?_ | with_reducible refine Adds.drewN ?_ _)), ?_⟩
                show _ ≤ _
                rw [HSI.out]
                have h1 := hWt.out
                omega
              case measure => simp [intOf]; omega
        · have hi' : i = ts.length := by omega
          subst hi'
          have hfin : Hid (wt d zs ≤ wts d (xs.take (k + 1))) := by
            show _ ≤ _
            rw [HNX.out]
            have := hWt.out
            rw [List.take_length] at this
            exact this
          clear hWt
          go_wp2
          go_roundw
          case rel => exact ⟨k + 1, zs, by omega, by go_num, hO, hfin⟩
          case measure => simp [intOf]; omega
    · have hk' : k = xs.length := by omega
      subst hk'
      obtain ⟨z1, z2⟩ := hO.out.lv rfl
      have z3 : wt d ys ≤ wt (d + 1) xs := by
        have h1 := hWt.out
        have h2 := HWL.out
        rw [List.take_length] at h1
        omega
      have HZ1 : Hid (Lvs (fun _ => True) d wr u3 ys) := z1
      have z4 := wt_len (d := d) (fun y hy => (hO.out.trees y hy).2)
      clear hWt hO z1
      go_wp2
      go_ret
      exact ⟨u3, ys, rfl, HZ1.out, z3, z4, z2⟩

end Go.Proofs.YtiacnmcdfpmcfaaGreatDoor

namespace Go.Proofs.YtiacnmcdfpmcfaaGreatDoor
open Go.RowKit
attribute [local go_sem] cell?_more frozen?_more setCell_more size_more tape_more drew_more drewN_more more_drew more_drewN one_out plus_out plus_end lt_one le_p2 le_p3 le_p4 le_p5 le_p6 le_p7 le_p8 le_p9 le_p10 le_p11 le_p12 le_p13 le_p14 le_p15 le_p16 le_p17 le_p18 le_p19 le_p20 le_p21 le_p22 le_p23 le_p24 le_q0 le_q1 lt_q1 le_q2 lt_q2 le_q3 lt_q3 le_q4 lt_q4 le_q5 lt_q5 le_q6 lt_q6 le_q7 lt_q7 le_q8 lt_q8 le_q9 lt_q9 le_q10 lt_q10 le_q11 lt_q11 le_q12 lt_q12 le_q13 lt_q13 le_q14 lt_q14 le_q15 lt_q15 le_q16 lt_q16 le_q17 lt_q17 le_q18 lt_q18 le_q19 lt_q19 le_q20 lt_q20 le_q21 lt_q21 le_q22 lt_q22 le_q23 lt_q23 le_q24 lt_q24


set_option maxHeartbeats 4000000 in
theorem deep_any {D : Nat} (n : N) (s : Value) (w : World) (hT : Tn (fun _ => True) D w s n.args) (hx : n.text.size ≤ 9223372036854775807) (hc : ∀ d, cntN d [n] ≤ 10000) :
    Calls Tryz.prog 97 #[nodeV n s] w fun e w' => ∃ q, e = .returned (.bool q) ∧ Adds w w' := by
  obtain ⟨ao, cap, rfl⟩ := hT.shape
  have h0 : ∀ W, Adds ((w.alloc (.cells #[.int .i64 n.kind, .string n.text, .int .i64 n.num, .slice ao n.args.length cap] 81)).alloc (.cells #[.int .i64 n.kind, .string n.text, .int .i64 n.num, .slice ao n.args.length cap] 81)) W → W.cell? ⟨w.heap.size + 1 + 1, 0, none⟩ = some (.slice (some ⟨w.heap.size + 1, 0, none⟩) 1 1) → w.heap.size + 1 + 1 < W.heap.size → Lvs (fun _ => True) (D + 9) W (.slice (some ⟨w.heap.size + 1 + 1, 0, none⟩) 1 1) [(.slice (some ⟨w.heap.size + 1, 0, none⟩) 1 1, [n])] := by
    intro W hA hcell hlt
    refine ⟨_, 1, rfl, Nat.le_refl _, ?_, .inr ⟨w.heap.size + 1 + 1, 0, rfl, hlt, ?_⟩⟩
    · intro x hx'
      simp only [List.mem_singleton] at hx'
      subst hx'
      have := tn_one (ok := fun _ => True) (d := D + 8) (k := w.heap.size + 1) (w' := (w.alloc (.cells #[.int .i64 n.kind, .string n.text, .int .i64 n.num, .slice ao n.args.length cap] 81)).alloc (.cells #[.int .i64 n.kind, .string n.text, .int .i64 n.num, .slice ao n.args.length cap] 81)) (by simp) trivial (fun o => by simp) ((hT.adds (by repeat (first | with_reducible exact Adds.refl _ | with_reducible refine Adds.alloc ?_ _ | with_reducible refine Adds.more ?_ _ _ | with_reducible refine Adds.drew ?_ | with_reducible refine Adds.drewN ?_ _))).up (by omega)) hx ⟨by simp, by simp, by simp, by simp⟩
      exact this.adds hA
    · intro j hj
      have : j = 0 := by simpa using hj
      subst this
      simpa using hcell
  have hw0 : ∀ d, wt d [((.slice (some ⟨w.heap.size + 1, 0, none⟩) 1 1 : Value), [n])] ≤ 10000 := fun d => by simpa [wt] using hc d
  have HB : Hid (∀ (d : Nat) (v : Value) (xs : List (Value × List N)) (W : World), Lvs (fun _ => True) (d + 1) W v xs → wt (d + 1) xs ≤ 10000 → xs.length ≤ 10000 → Calls Tryz.prog 123 #[v] W fun e w' => ∃ v' ys, e = .returned v' ∧ Lvs (fun _ => True) d w' v' ys ∧ wt d ys ≤ wt (d + 1) xs ∧ ys.length ≤ wt d ys ∧ Adds W w') := fun d v xs W h1 h2 h3 => below_any v xs W h1 h2 h3
  have H0 : Hid _ := h0
  have HW0 : Hid _ := hw0
  clear hT hx hc h0 hw0
  obtain ⟨nk, nt, nm, na⟩ := n
  simp only [nodeV, N.kind, N.text, N.num, N.args] at *
  generalize na.length = nl at *
  go_enter Tryz.func97, Tryz.ntmps97
  go_wp2
  go_loopw [3, 7] (fun v iv wr => ∃ (j D' : Nat) (xs : List (Value × List N)), j ≤ 8 ∧ iv = .int .i64 j ∧ D' + j = D + 9 ∧ Hid (Lvs (fun _ => True) D' wr v xs) ∧ Hid (wt D' xs ≤ 10000) ∧ xs.length ≤ 10000 ∧ Hid (Adds w wr)) (fun _ iv _ => 8 - (intOf iv).toNat)
  case atStart =>
    refine ⟨0, D + 9, _, by omega, rfl, rfl, H0.out _ (by repeat (first | with_reducible exact Adds.refl _ | with_reducible refine Adds.alloc ?_ _ | with_reducible refine Adds.more ?_ _ _ | with_reducible refine Adds.drew ?_ | with_reducible refine Adds.drewN ?_ _)) ?_ ?_, HW0.out _, by simp, ?_⟩
    · exact cell_new (cs := [_]) (by rw [World.size_alloc, World.size_alloc]) rfl
    · rw [World.size_alloc, World.size_alloc, World.size_alloc]; omega
    · show Adds _ _
      repeat (first | with_reducible exact Adds.refl _ | with_reducible refine Adds.alloc ?_ _ | with_reducible refine Adds.more ?_ _ _ | with_reducible refine Adds.drew ?_ | with_reducible refine Adds.drewN ?_ _)
  case round =>
    obtain ⟨j, D', xs, hj, rfl, hD, hL, hWt, hxl, hA⟩ := hrel
    by_cases hlt : j < 8
    · obtain ⟨d, rfl⟩ : ∃ d, D' = d + 1 := ⟨D' - 1, by omega⟩
      have kB := HB.out d u3 xs wr hL.out hWt.out hxl
      clear HB H0 HW0
      have hlt' : (j : Int) < 8 := by omega
      go_wp2_with (go_at_call 123; refine kB.mono ?_; rintro e w1 ⟨v', ys, rfl, hL1, hw1, hl1, hA1⟩)
      go_roundw
      case rel => exact ⟨j + 1, d, ys, by omega, by go_num, by omega, hL1, Nat.le_trans hw1 hWt.out, Nat.le_trans hl1 (Nat.le_trans hw1 hWt.out), hA.out.trans hA1⟩
      case measure => simp [intOf]; omega
    · have hj8 : j = 8 := by omega
      subst hj8
      obtain ⟨vo, vc, hv, _⟩ := hL.out
      have HA : Hid (Adds w wr) := hA
      clear hL hWt HB H0 HW0 hA
      subst hv
      go_wp2
      go_ret
      exact ⟨_, rfl, HA.out⟩

theorem checkE_any {D : Nat} (n : N) (s : Value) (w : World) (hT : Tn (fun _ => True) D w s n.args) (hx : n.text.size ≤ 9223372036854775807) (hc : ∀ d, cntN d [n] ≤ 10000) :
    Calls Tryz.prog 66 #[nodeV n s] w fun e w' => (∃ x : Int, e = .returned (.int .i64 x) ∧ (x = 0 ↔ fitsN 8 n = true)) ∧ Adds w w' := by
  have kF := fun W hA => fits_node (ok := fun _ => True) 8 D n s W (Nat.le_refl _) (hT.adds hA) hx
  have kD := fun W hA => deep_any (D := D) n s W (hT.adds hA) hx hc
  obtain ⟨ao, cap, rfl⟩ := hT.shape
  have h8 : ((8 : Nat) : Int) = 8 := rfl
  rw [h8] at kF
  generalize fitsN 8 n = q at *
  clear hT hx hc h8
  obtain ⟨nk, nt, nm, na⟩ := n
  simp only [nodeV, N.kind, N.text, N.num, N.args] at *
  generalize na.length = nl at *
  cases q
  · go_enter Tryz.func66, Tryz.ntmps66
    go_wp2_with (first
      | (go_at_call 96; refine (kF _ (by repeat (first | with_reducible exact Adds.refl _ | with_reducible refine Adds.alloc ?_ _ | with_reducible refine Adds.more ?_ _ _ | with_reducible refine Adds.drew ?_ | with_reducible refine Adds.drewN ?_ _))).mono ?_; rintro e w1 ⟨rfl, os1, n1, rfl⟩)
      | (go_at_call 97; refine (kD _ (by repeat (first | with_reducible exact Adds.refl _ | with_reducible refine Adds.alloc ?_ _ | with_reducible refine Adds.more ?_ _ _ | with_reducible refine Adds.drew ?_ | with_reducible refine Adds.drewN ?_ _))).mono ?_; rintro e w2 ⟨q2, rfl, os2, n2, rfl⟩; cases q2))
    all_goals
      go_ret
      exact ⟨⟨_, rfl, by simp⟩, by repeat (first | with_reducible exact Adds.refl _ | with_reducible refine Adds.alloc ?_ _ | with_reducible refine Adds.more ?_ _ _ | with_reducible refine Adds.drew ?_ | with_reducible refine Adds.drewN ?_ _)⟩
  · go_enter Tryz.func66, Tryz.ntmps66
    go_wp2_with (first
      | (go_at_call 96; refine (kF _ (by repeat (first | with_reducible exact Adds.refl _ | with_reducible refine Adds.alloc ?_ _ | with_reducible refine Adds.more ?_ _ _ | with_reducible refine Adds.drew ?_ | with_reducible refine Adds.drewN ?_ _))).mono ?_; rintro e w1 ⟨rfl, os1, n1, rfl⟩))
    go_ret
    exact ⟨⟨0, rfl, by simp⟩, by repeat (first | with_reducible exact Adds.refl _ | with_reducible refine Adds.alloc ?_ _ | with_reducible refine Adds.more ?_ _ _ | with_reducible refine Adds.drew ?_ | with_reducible refine Adds.drewN ?_ _)⟩

/-- What fits is an expression that may be. -/
theorem fits_E : ∀ (k : Nat) (n : N), fitsN k n = true → ∃ e : E, n = e.toN ∧ e.ok := by
  intro k
  induction k with
  | zero => intro n h; cases h
  | succ k ih =>
    intro n h
    obtain ⟨nk, nt, nm, na⟩ := n
    simp only [fitsN, N.kind, N.text, N.num, N.args, Bool.and_eq_true, List.all_eq_true] at h
    obtain ⟨ha, hall⟩ := h
    unfold aloneN at ha
    have hempty : ∀ t : ByteArray, t.toList = [] → t = ⟨#[]⟩ := fun t h => toList_inj (by rw [h, ByteArray.toList_eq])
    split at ha
    · rename_i h1
      simp only [Bool.and_eq_true, Bool.not_eq_true', beq_iff_eq] at ha
      obtain ⟨⟨⟨h2, h3⟩, h4⟩, h5⟩ := ha
      have h6 : na = [] := List.length_eq_zero_iff.1 (by omega)
      refine ⟨.path nt.toList, by simp only [E.toN, toB_of, h1, h4, h6], h2, ?_⟩
      cases hq : allDig nt.toList with
      | false => rfl
      | true =>
        simp only [digs, hq, Bool.true_and, Bool.not_eq_false', List.isEmpty_iff] at h3
        rw [h3] at h2
        simp [pathL, stp] at h2
    split at ha
    · rename_i h1
      simp only [Bool.and_eq_true, decide_eq_true_eq, beq_iff_eq] at ha
      obtain ⟨⟨⟨h2, h3⟩, h4⟩, h5⟩ := ha
      have h6 : na = [] := List.length_eq_zero_iff.1 (by omega)
      refine ⟨.num nm.toNat, ?_, ?_⟩
      · simp only [E.toN, h1, h6, hempty nt h4]
        rw [Int.toNat_of_nonneg h2]
      · show nm.toNat < 1000000000000000
        omega
    split at ha
    · rename_i h1
      simp only [Bool.and_eq_true, beq_iff_eq] at ha
      obtain ⟨⟨h2, h3⟩, h4⟩ := ha
      match na, hall, h4 with
      | [x, y], hall, _ =>
        obtain ⟨a, rfl, oa⟩ := ih x (hall x (by simp))
        obtain ⟨b, rfl, ob⟩ := ih y (hall y (by simp))
        rcases h1 with rfl | rfl
        · exact ⟨.sum a b, by simp only [E.toN, hempty nt h2, h3], oa, ob⟩
        · exact ⟨.mul a b, by simp only [E.toN, hempty nt h2, h3], oa, ob⟩
      | [], _, h4 => simp at h4
      | [_], _, h4 => simp at h4
      | _ :: _ :: _ :: _, _, h4 => simp at h4; omega
    split at ha
    · rename_i h1
      simp only [Bool.and_eq_true, beq_iff_eq] at ha
      obtain ⟨⟨h2, h3⟩, h4⟩ := ha
      match na, hall, h4 with
      | [x], hall, _ =>
        obtain ⟨a, rfl, oa⟩ := ih x (hall x (by simp))
        exact ⟨.call nt.toList a, by simp only [E.toN, toB_of, h1, h3], h2, oa⟩
      | [], _, h4 => simp at h4
      | _ :: _ :: _, _, h4 => simp at h4; omega
    · cases ha

end Go.Proofs.YtiacnmcdfpmcfaaGreatDoor
