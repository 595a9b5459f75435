/-
  The functions Check and Encode of package cell, by contracts, of any tree whose numbers may be too great.
-/
import Derived.Test.YtccddgohagakoaaLlp
import Derived.Test.YtccddgohagakoaaSnb
namespace Go.Proofs.Ytccddgohagakoaa
open Go.RowKit
attribute [local go_sem] cell?_more frozen?_more setCell_more size_more tape_more drew_more drewN_more more_drew more_drewN one_out plus_out plus_end lt_one le_p2 le_p3 le_p4 le_p5 le_p6 le_p7 le_p8 le_p9 le_p10 le_p11 le_p12 le_p13 le_p14 le_p15 le_p16 le_p17 le_p18 le_p19 le_p20 le_p21 le_p22 le_p23 le_p24 le_q0 le_q1 lt_q1 le_q2 lt_q2 le_q3 lt_q3 le_q4 lt_q4 le_q5 lt_q5 le_q6 lt_q6 le_q7 lt_q7 le_q8 lt_q8 le_q9 lt_q9 le_q10 lt_q10 le_q11 lt_q11 le_q12 lt_q12 le_q13 lt_q13 le_q14 lt_q14 le_q15 lt_q15 le_q16 lt_q16 le_q17 lt_q17 le_q18 lt_q18 le_q19 lt_q19 le_q20 lt_q20 le_q21 lt_q21 le_q22 lt_q22 le_q23 lt_q23 le_q24 lt_q24

theorem tr_lower {d : Nat} {w w' : World} {s : Value} {ts : List T} (h : Tr (fun b => b < w.heap.size) d w s ts) (hA : Adds w w') : Tr (fun b => b < w'.heap.size) d w' s ts :=
  Tr.rest h hA (fun _ hb => Nat.lt_of_lt_of_le hb hA.below.size)

def codeO (b : Bool) : Int := if b then 1 else 0

set_option maxRecDepth 20000 in
set_option maxHeartbeats 1000000 in
theorem check_pl (d : Nat) (t : T) (s : Value) (w : World) (h : Tr (fun b => b < w.heap.size) d w s t.list) (hok : plT (d + 1) t) (hd : d ≤ 11) (hsz : sizeT (d + 1) t ≤ 4096) :
    Calls Try.prog 38 #[.agg #[.int .i64 t.kind, .int .i64 t.num, .string t.text, s]] w fun e w' => e = .returned (.int .i64 (codeO (oddT (d + 1) t))) ∧ Adds w w' := by
  obtain ⟨ao, cap, rfl⟩ := h.shape
  have HG : Hid _ := h
  have HK : Hid (plT (d + 1) t) := hok
  have HZ : Hid (sizeT (d + 1) t ≤ 4096) := hsz
  clear h hok hsz
  cases ho : oddT (d + 1) t
  case' true => rw [show codeO true = 1 from rfl]
  case' false => rw [show codeO false = 0 from rfl]
  all_goals
    have HO : Hid _ := ho
    clear ho
    go_enter Try.func38, Try.ntmps38
    go_wp2_with fail
    go_at_call 51
    refine (lookP_ok (w.heap.size + 1) d t _ 1 0 false _ chk_new (by simp) (Tr.rest HG.out (by repeat (first | with_reducible exact Adds.refl _ | with_reducible refine Adds.alloc ?_ _ | with_reducible refine Adds.more ?_ _ _ | with_reducible refine Adds.drew ?_ | with_reducible refine Adds.drewN ?_ _)) (fun b hb => by omega)) HK.out (by omega) (by have := HZ.out; omega)).mono ?_
    rintro e w3 ⟨rfl, h3, hg3⟩
    have hz : ¬ (4096 : Int) < (sizeT (d + 1) t : Int) := by have := HZ.out; omega
    rw [Bool.false_or, Nat.zero_add, HO.out] at h3
    generalize sizeT (d + 1) t = z at *
    have HA : Hid (Adds w w3) := adds_of_grown (by repeat (first | with_reducible exact Adds.refl _ | with_reducible refine Adds.alloc ?_ _ | with_reducible refine Adds.more ?_ _ _ | with_reducible refine Adds.drew ?_ | with_reducible refine Adds.drewN ?_ _)) hg3 (by omega)
    unfold Chk at h3
    have d0 : w3.cell? ⟨w.heap.size + 1, 0, none⟩ = some (.int .i64 (z : Int)) := by simp [World.cell?, h3]
    have d1 := (show w3.cell? ⟨w.heap.size + 1, 1, none⟩ = some (.bool _) by simp only [World.cell?, h3]; rfl)
    have d2 : w3.cell? ⟨w.heap.size + 1, 2, none⟩ = some (.bool false) := by simp [World.cell?, h3]
    clear h3 hg3 HG HK
    go_wp2
    go_ret
    exact ⟨rfl, HA.out⟩

theorem put_new (W : World) (d : Nat) (t : T) (s : Value) (h : Tr (fun b => b < W.heap.size) d W s t.list) (hk : okT (d + 1) t) (hl : (bytesT (d + 1) t).length ≤ 65536) :
    Calls Try.prog 39 #[.slice none 0 0, .agg #[.int .i64 t.kind, .int .i64 t.num, .string t.text, s]] W fun e w' => (∃ vo vc, e = .returned (.slice vo (bytesT (d + 1) t).length vc) ∧ Hid (OwnV W.heap.size 5 (.slice vo (bytesT (d + 1) t).length vc) (cellsB (bytesT (d + 1) t)) W w')) ∧ Adds W w' :=
  (put_ok W.heap.size W d t s (.slice none 0 0) [] W h (Nat.le_refl _) hk (by simpa using hl) (OwnV.nil _ 5 _ (Nat.le_refl _))).mono (by
    rintro e w' ⟨v, rfl, h3, _⟩
    rw [List.nil_append] at h3
    obtain ⟨vo, vc, rfl, _, _⟩ := Byt.open h3.lst
    exact ⟨⟨vo, vc, rfl, h3⟩, Adds.of h3.2.1⟩)

/-- What Encode tells. -/
def EncT (l : List UInt8) (od : Bool) (w : World) (e : Ending) (w' : World) : Prop :=
  if od then e = .returned (.tuple #[.slice none 0 0, .int .i64 1]) ∧ Adds w w'
  else ∃ vo vc, e = .returned (.tuple #[.slice vo l.length vc, .int .i64 0]) ∧ Hid (OwnV w.heap.size 5 (.slice vo l.length vc) (cellsB l) w w')

set_option maxRecDepth 20000 in
set_option maxHeartbeats 1000000 in
theorem encode_pl (d : Nat) (t : T) (s : Value) (w : World) (h : Tr (fun b => b < w.heap.size) d w s t.list) (hok : plT (d + 1) t) (hd : d ≤ 11) (hsz : sizeT (d + 1) t ≤ 4096) (hln : oddT (d + 1) t = false → (bytesT (d + 1) t).length ≤ 65536) :
    Calls Try.prog 17 #[.agg #[.int .i64 t.kind, .int .i64 t.num, .string t.text, s]] w fun e w' => EncT (bytesT (d + 1) t) (oddT (d + 1) t) w e w' := by
  obtain ⟨ao, cap, rfl⟩ := Tr.shape h
  have kC := fun W (hA : Adds w W) => check_pl d t _ W (tr_lower h hA) hok hd hsz
  cases ho : oddT (d + 1) t with
  | true =>
    rw [ho] at kC
    simp only [codeO, if_true] at kC
    simp only [EncT, if_true]
    clear h
    go_enter Try.func17, Try.ntmps17
    go_wp2_with (go_at_call 38; refine (kC _ (by repeat (first | with_reducible exact Adds.refl _ | with_reducible refine Adds.alloc ?_ _ | with_reducible refine Adds.more ?_ _ _ | with_reducible refine Adds.drew ?_ | with_reducible refine Adds.drewN ?_ _))).mono ?_; rintro e w2 ⟨rfl, os2, n2, rfl⟩)
    go_ret2
    exact ⟨rfl, (by repeat (first | with_reducible exact Adds.refl _ | with_reducible refine Adds.alloc ?_ _ | with_reducible refine Adds.more ?_ _ _ | with_reducible refine Adds.drew ?_ | with_reducible refine Adds.drewN ?_ _))⟩
  | false =>
    rw [ho] at kC
    simp only [codeO] at kC
    have hk := okT_of _ _ hok ho
    have hl := hln ho
    have kP := fun (W : World) (hA : Adds w W) => put_new W d t _ (tr_lower h hA) hk hl
    have hl' : ¬ (65536 : Int) < ((bytesT (d + 1) t).length : Int) := by omega
    simp only [EncT]
    clear h hk hl hln ho
    generalize bytesT (d + 1) t = l at *
    go_enter Try.func17, Try.ntmps17
    go_wp2_with (first
      | (go_at_call 38; refine (kC _ (by repeat (first | with_reducible exact Adds.refl _ | with_reducible refine Adds.alloc ?_ _ | with_reducible refine Adds.more ?_ _ _ | with_reducible refine Adds.drew ?_ | with_reducible refine Adds.drewN ?_ _))).mono ?_; rintro e w2 ⟨rfl, os2, n2, rfl⟩)
      | (go_at_call 39; refine (kP _ (by repeat (first | with_reducible exact Adds.refl _ | with_reducible refine Adds.alloc ?_ _ | with_reducible refine Adds.more ?_ _ _ | with_reducible refine Adds.drew ?_ | with_reducible refine Adds.drewN ?_ _))).mono ?_; rintro e w3 ⟨⟨vo, vc, rfl, hO⟩, os3, n3, rfl⟩))
    go_ret2
    exact ⟨_, _, rfl, OwnV.back hO.out (by repeat (first | with_reducible exact Adds.refl _ | with_reducible refine Adds.alloc ?_ _ | with_reducible refine Adds.more ?_ _ _ | with_reducible refine Adds.drew ?_ | with_reducible refine Adds.drewN ?_ _)) (Adds.below (by repeat (first | with_reducible exact Adds.refl _ | with_reducible refine Adds.alloc ?_ _ | with_reducible refine Adds.more ?_ _ _ | with_reducible refine Adds.drew ?_ | with_reducible refine Adds.drewN ?_ _))).size⟩

end Go.Proofs.Ytccddgohagakoaa
