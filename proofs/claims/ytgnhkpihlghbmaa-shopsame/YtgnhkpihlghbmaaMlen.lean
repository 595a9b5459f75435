/-
  The functions Check and Encode of package cell, and Light of package shop, by contracts. The function Light of package shop, by contract.
-/
import Derived.Test.YtgnhkpihlghbmaaLlk
import Derived.Test.YtgnhkpihlghbmaaLpt
import Derived.Test.YtgnhkpihlghbmaaLce
import Derived.Test.YtgnhkpihlghbmaaMfdl
namespace Go.Proofs.Ytgnhkpihlghbmaa
open Go.RowKit
attribute [local go_sem] cell?_more frozen?_more setCell_more size_more tape_more drew_more drewN_more more_drew more_drewN one_out plus_out plus_end lt_one le_p2 le_p3 le_p4 le_p5 le_p6 le_p7 le_p8 le_p9 le_p10 le_p11 le_p12 le_p13 le_p14 le_p15 le_p16 le_p17 le_p18 le_p19 le_p20 le_p21 le_p22 le_p23 le_p24 le_q0 le_q1 lt_q1 le_q2 lt_q2 le_q3 lt_q3 le_q4 lt_q4 le_q5 lt_q5 le_q6 lt_q6 le_q7 lt_q7 le_q8 lt_q8 le_q9 lt_q9 le_q10 lt_q10 le_q11 lt_q11 le_q12 lt_q12 le_q13 lt_q13 le_q14 lt_q14 le_q15 lt_q15 le_q16 lt_q16 le_q17 lt_q17 le_q18 lt_q18 le_q19 lt_q19 le_q20 lt_q20 le_q21 lt_q21 le_q22 lt_q22 le_q23 lt_q23 le_q24 lt_q24

theorem chk_new {w : World} {o : Obj} : Chk (w.heap.size + 1) ((w.alloc o).alloc (.cells #[.int .i64 0, .bool false, .bool false, .map none] 107)) 0 false false := by
  have := new_block (w.alloc o) (.cells #[.int .i64 0, .bool false, .bool false, .map none] 107)
  simp only [World.size_alloc] at this
  exact this

theorem adds_of_grown {w X w' : World} {P : Nat} (hA : Adds w X) (hg : X.grownBy w' (some P)) (hP : w.heap.size ≤ P) : Adds w w' := by
  refine Adds.of ⟨hg.os.trans hA.below.os, hg.tape.trans hA.below.tape, hg.output.trans hA.below.output, Nat.le_trans hA.below.size hg.size, fun k hk => ?_⟩
  rw [hg.block k (Nat.lt_of_lt_of_le hk hA.below.size) (fun e => by cases e; omega)]
  exact hA.below.block k hk

/-- The tree of a document, below a block. -/
theorem Tr.fresh {d : Nat} {w : World} {s : Value} {ts : List T} (h : Tr (fun _ => True) d w s ts) : Tr (fun b => b < w.heap.size) d w s ts := by
  induction d generalizing s ts with
  | zero => exact h
  | succ d ih =>
    obtain ⟨ao, cap, rfl, hc, h | ⟨b, off, rfl, hb, _, hx⟩⟩ := h
    · exact ⟨ao, cap, rfl, hc, .inl h⟩
    · refine ⟨_, cap, rfl, hc, .inr ⟨b, off, rfl, hb, hb, fun j hj => ?_⟩⟩
      obtain ⟨x, h0, h4, h5⟩ := hx j hj
      exact ⟨x, h0, h4, ih h5⟩

theorem Tr.rest {ok' : Nat → Prop} {d : Nat} {w w' : World} {s : Value} {ts : List T} (h : Tr (fun b => b < w.heap.size) d w s ts) (hA : Adds w w') (hok : ∀ b, b < w.heap.size → ok' b) : Tr ok' d w' s ts :=
  h.frame hA.below.size (fun b hb _ => hA.below.block b hb) hok

set_option maxRecDepth 20000 in
set_option maxHeartbeats 1000000 in
theorem check_tree (s : Value) (fs : List F) (w : World) (h : Tr (fun b => b < w.heap.size) 3 w s (docT fs).list) (hok : okT 4 (docT fs)) (hsz : sizeT 4 (docT fs) ≤ 113) :
    Calls Try.prog 54 #[.agg #[.int .i64 3, .int .i64 0, .string ⟨#[]⟩, s]] w fun e w' => e = .returned (.int .i64 0) ∧ Adds w w' := by
  obtain ⟨ao, cap, rfl⟩ := h.shape
  have HG : Hid _ := h
  have HK : Hid (okT 4 (docT fs)) := hok
  have HZ : Hid (sizeT 4 (docT fs) ≤ 113) := hsz
  clear h hok hsz
  go_enter Try.func54, Try.ntmps54
  go_wp2_with fail
  go_at_call 71
  refine (look_ok (w.heap.size + 1) 3 (docT fs) _ 1 0 _ chk_new (by simp) (Tr.rest (d := 3) HG.out (by repeat (first | with_reducible exact Adds.refl _ | with_reducible refine Adds.alloc ?_ _ | with_reducible refine Adds.more ?_ _ _ | with_reducible refine Adds.drew ?_ | with_reducible refine Adds.drewN ?_ _)) (fun b hb => by omega)) HK.out (by omega) (by show 0 + sizeT 4 (docT fs) ≤ 4096; have := HZ.out; omega)).mono ?_
  rintro e w3 ⟨rfl, h3, hg3⟩
  have hz : (sizeT 4 (docT fs) : Int) ≤ 4096 := by have := HZ.out; omega
  generalize sizeT 4 (docT fs) = z at *
  have d0 : w3.cell? ⟨w.heap.size + 1, 0, none⟩ = some (.int .i64 (z : Int)) := by unfold Chk at h3; simp [World.cell?, h3]
  have d1 : w3.cell? ⟨w.heap.size + 1, 1, none⟩ = some (.bool false) := by unfold Chk at h3; simp [World.cell?, h3]
  have d2 : w3.cell? ⟨w.heap.size + 1, 2, none⟩ = some (.bool false) := by unfold Chk at h3; simp [World.cell?, h3]
  have HA : Hid (Adds w w3) := adds_of_grown (by repeat (first | with_reducible exact Adds.refl _ | with_reducible refine Adds.alloc ?_ _ | with_reducible refine Adds.more ?_ _ _ | with_reducible refine Adds.drew ?_ | with_reducible refine Adds.drewN ?_ _)) hg3 (by omega)
  clear h3 hg3
  go_wp2
  go_ret
  exact ⟨rfl, HA.out⟩

theorem put_doc (w : World) (s : Value) (fs : List F) (h : Tr (fun b => b < w.heap.size) 3 w s (docT fs).list) (hok : okT 4 (docT fs)) (hln : (docBytes fs).length ≤ 8322) :
    Calls Try.prog 55 #[.slice none 0 0, .agg #[.int .i64 3, .int .i64 0, .string ⟨#[]⟩, s]] w fun e w' => (∃ vo vc, e = .returned (.slice vo (docBytes fs).length vc) ∧ (docBytes fs).length ≤ vc) ∧ Adds w w' := by
  refine (put_ok w.heap.size w 3 (docT fs) s (.slice none 0 0) [] w h (Nat.le_refl _) hok (by
    have e : (bytesT (3 + 1) (docT fs)).length = (docBytes fs).length := rfl
    rw [e]
    simp only [List.length_nil]
    omega) (OwnV.nil _ 5 _ (Nat.le_refl _))).mono ?_
  rintro e w' ⟨v, rfl, h3, _⟩
  obtain ⟨vo, vc, hv, hvc, _⟩ := Byt.open h3.lst
  rw [List.nil_append] at hv hvc
  exact ⟨⟨vo, vc, by rw [hv]; rfl, hvc⟩, Adds.of h3.2.1⟩

theorem tree_low {w w' : World} {s : Value} {fs : List F} (h : Tr (fun b => b < w.heap.size) 3 w s (docT fs).list) (hA : Adds w w') : Tr (fun b => b < w'.heap.size) 3 w' s (docT fs).list :=
  Tr.rest (d := 3) h hA (fun _ hb => Nat.lt_of_lt_of_le hb hA.below.size)

set_option maxRecDepth 20000 in
set_option maxHeartbeats 1000000 in
theorem encode_doc (s : Value) (fs : List F) (w : World) (h : Tr (fun b => b < w.heap.size) 3 w s (docT fs).list) (hok : okT 4 (docT fs)) (hsz : sizeT 4 (docT fs) ≤ 113) (hln : (docBytes fs).length ≤ 8322) :
    Calls Try.prog 35 #[.agg #[.int .i64 3, .int .i64 0, .string ⟨#[]⟩, s]] w fun e w' => (∃ vo vc, e = .returned (.tuple #[.slice vo (docBytes fs).length vc, .int .i64 0])) ∧ Adds w w' := by
  obtain ⟨ao, cap, rfl⟩ := Tr.shape h
  have kC := fun W (hA : Adds w W) => check_tree _ fs W (tree_low h hA) hok hsz
  have kP := fun W (hA : Adds w W) => put_doc W _ fs (tree_low h hA) hok hln
  have hln' : ((docBytes fs).length : Int) ≤ 65536 := by omega
  clear h hok hsz hln
  generalize (docBytes fs).length = n at *
  go_enter Try.func35, Try.ntmps35
  go_wp2_with (first
    | (go_at_call 54; refine (kC _ (by repeat (first | with_reducible exact Adds.refl _ | with_reducible refine Adds.alloc ?_ _ | with_reducible refine Adds.more ?_ _ _ | with_reducible refine Adds.drew ?_ | with_reducible refine Adds.drewN ?_ _))).mono ?_; rintro e w2 ⟨rfl, os2, n2, rfl⟩)
    | (go_at_call 55; refine (kP _ (by repeat (first | with_reducible exact Adds.refl _ | with_reducible refine Adds.alloc ?_ _ | with_reducible refine Adds.more ?_ _ _ | with_reducible refine Adds.drew ?_ | with_reducible refine Adds.drewN ?_ _))).mono ?_; rintro e w3 ⟨⟨vo, vc, rfl, hvc⟩, os3, n3, rfl⟩))
  go_ret2
  exact ⟨⟨_, _, rfl⟩, (by repeat (first | with_reducible exact Adds.refl _ | with_reducible refine Adds.alloc ?_ _ | with_reducible refine Adds.more ?_ _ _ | with_reducible refine Adds.drew ?_ | with_reducible refine Adds.drewN ?_ _))⟩

end Go.Proofs.Ytgnhkpihlghbmaa

namespace Go.Proofs.Ytgnhkpihlghbmaa
open Go.RowKit
attribute [local go_sem] cell?_more frozen?_more setCell_more size_more tape_more drew_more drewN_more more_drew more_drewN one_out plus_out plus_end lt_one le_p2 le_p3 le_p4 le_p5 le_p6 le_p7 le_p8 le_p9 le_p10 le_p11 le_p12 le_p13 le_p14 le_p15 le_p16 le_p17 le_p18 le_p19 le_p20 le_p21 le_p22 le_p23 le_p24 le_q0 le_q1 lt_q1 le_q2 lt_q2 le_q3 lt_q3 le_q4 lt_q4 le_q5 lt_q5 le_q6 lt_q6 le_q7 lt_q7 le_q8 lt_q8 le_q9 lt_q9 le_q10 lt_q10 le_q11 lt_q11 le_q12 lt_q12 le_q13 lt_q13 le_q14 lt_q14 le_q15 lt_q15 le_q16 lt_q16 le_q17 lt_q17 le_q18 lt_q18 le_q19 lt_q19 le_q20 lt_q20 le_q21 lt_q21 le_q22 lt_q22 le_q23 lt_q23 le_q24 lt_q24

theorem may_doc {fs : List F} (h : May fs) : okT 4 (docT fs) ∧ sizeT 4 (docT fs) ≤ 113 ∧ (docBytes fs).length ≤ 8322 := by
  refine doc_ok h.1 (fun f hf => ?_)
  obtain ⟨k, hk, rfl⟩ := List.mem_iff_getElem.1 hf
  have hg := h.2 k hk
  refine ⟨?_, hg.2.1⟩
  have := hg.1
  unfold isPath at this
  simp at this
  omega

set_option maxRecDepth 20000 in
set_option maxHeartbeats 1000000 in
theorem light_any (s : Value) (fs : List F) (w : World) (h : Lst w s fs) :
    Calls Try.prog 17 #[s] w fun e w' => e = .returned (.bool (lightD fs)) ∧ Adds w w' := by
  by_cases hm : May fs
  · obtain ⟨h1, h2, h3⟩ := may_doc hm
    have kC := fun W (hA : Adds w W) => cell_ok s fs W (h.adds hA) hm
    have HK : Hid (okT 4 (docT fs)) := h1
    have HZ : Hid (sizeT 4 (docT fs) ≤ 113) := h2
    have HL : Hid ((docBytes fs).length ≤ 8322) := h3
    obtain ⟨ao, cap, rfl, _, _⟩ := h
    have HD : Hid (lightD fs = decide ((docBytes fs).length ≤ 512)) := by
      show _ = _
      simp [lightD, hm]
    have kE := fun W s (hT : Tr (fun b => b < W.heap.size) 3 W s (docT fs).list) => encode_doc s fs W hT h1 h2 h3
    clear h1 h2 h3
    have HE : Hid (lightD fs = decide (((docBytes fs).length : Int) ≤ 512)) := by
      show _ = _
      rw [HD.out]
      apply decide_eq_decide.2
      omega
    clear HD hm HK HZ HL
    generalize (docBytes fs).length = n at *
    go_enter Try.func17, Try.ntmps17
    go_wp2_with (first
      | (go_at_call 34; refine (kC _ (by repeat (first | with_reducible exact Adds.refl _ | with_reducible refine Adds.alloc ?_ _ | with_reducible refine Adds.more ?_ _ _ | with_reducible refine Adds.drew ?_ | with_reducible refine Adds.drewN ?_ _))).mono ?_; rintro e w2 ⟨r, rfl, ht, os2, n2, rfl⟩; obtain ⟨ro, rc, rfl⟩ := Tr.shape ht; have HT : Hid _ := Tr.fresh ht; clear ht)
      | (go_at_call 35; refine (kE _ _ (tree_low HT.out (by repeat (first | with_reducible exact Adds.refl _ | with_reducible refine Adds.alloc ?_ _ | with_reducible refine Adds.more ?_ _ _ | with_reducible refine Adds.drew ?_ | with_reducible refine Adds.drewN ?_ _)))).mono ?_; rintro e w3 ⟨⟨vo, vc, rfl⟩, os3, n3, rfl⟩))
    go_ret
    exact ⟨by rw [HE.out]; rfl, (by repeat (first | with_reducible exact Adds.refl _ | with_reducible refine Adds.alloc ?_ _ | with_reducible refine Adds.more ?_ _ _ | with_reducible refine Adds.drew ?_ | with_reducible refine Adds.drewN ?_ _))⟩
  · have kC := fun W (hA : Adds w W) => cell_bad s fs W (h.adds hA) hm
    have HE : Hid (lightD fs = false) := by
      show _ = _
      simp [lightD, hm]
    obtain ⟨ao, cap, rfl, _, _⟩ := h
    go_enter Try.func17, Try.ntmps17
    go_wp2_with (go_at_call 34; refine (kC _ (by repeat (first | with_reducible exact Adds.refl _ | with_reducible refine Adds.alloc ?_ _ | with_reducible refine Adds.more ?_ _ _ | with_reducible refine Adds.drew ?_ | with_reducible refine Adds.drewN ?_ _))).mono ?_; rintro e w2 ⟨rfl, os2, n2, rfl⟩)
    go_ret
    exact ⟨by rw [HE.out]; rfl, (by repeat (first | with_reducible exact Adds.refl _ | with_reducible refine Adds.alloc ?_ _ | with_reducible refine Adds.more ?_ _ _ | with_reducible refine Adds.drew ?_ | with_reducible refine Adds.drewN ?_ _))⟩

end Go.Proofs.Ytgnhkpihlghbmaa
