/-
  The functions sealed and length by contracts.
-/
import Derived.Test.YtmbnpglnanfdoaaNum
namespace Go.Proofs.Ytmbnpglnanfdoaa
open Go.RowKit
attribute [local go_sem] cell?_more frozen?_more setCell_more size_more tape_more drew_more drewN_more more_drew more_drewN more_more one_out plus_out plus_end lt_one le_p2 le_p3 le_p4 le_p5 le_p6 le_p7 le_p8 le_p9 le_p10 le_p11 le_p12 le_p13 le_p14 le_p15 le_p16 le_p17 le_p18 le_p19 le_p20 le_p21 le_p22 le_p23 le_p24 le_q0 le_q1 lt_q1 le_q2 lt_q2 le_q3 lt_q3 le_q4 lt_q4 le_q5 lt_q5 le_q6 lt_q6 le_q7 lt_q7 le_q8 lt_q8 le_q9 lt_q9 le_q10 lt_q10 le_q11 lt_q11 le_q12 lt_q12 le_q13 lt_q13 le_q14 lt_q14 le_q15 lt_q15 le_q16 lt_q16 le_q17 lt_q17 le_q18 lt_q18 le_q19 lt_q19 le_q20 lt_q20 le_q21 lt_q21 le_q22 lt_q22 le_q23 lt_q23 le_q24 lt_q24

theorem Byt.take {w : World} {ao : Option Addr} {cap hi n : Nat} {l : List UInt8} (h : Byt w (.slice ao n cap) l) (h2 : hi ≤ l.length) : Byt w (.slice ao hi cap) (l.take hi) := by
  have := h.cut (lo := 0) (hi := hi) (by omega) h2
  rw [List.drop_zero, Nat.sub_zero, Nat.sub_zero] at this
  have e : ao.map (·.add 0) = ao := by cases ao <;> simp [Addr.add]
  rw [e] at this
  simpa using this

theorem Byt.plus {w : World} {v : Value} {l : List UInt8} (h : Byt w v l) (p : Plus) : Byt (addTo w p) v l := h.adds ⟨p.os, p.draws, rfl⟩

theorem Calls.plus_of {P : Program} {f : FuncId} {args : Array Value} {w : World} {p : Plus} {v : Value}
    (h : Calls P f args (addTo w p) fun e w' => e = .returned v ∧ w' = addTo w p) : Calls P f args (addTo w p) fun e w'' => e = .returned v ∧ ∃ p : Plus, w'' = addTo w p :=
  h.mono fun _ _ ⟨he, hw⟩ => ⟨he, p, hw⟩

theorem beq_cast (a b : Nat) : ((a : Int) == (b : Int)) = decide (a = b) := by
  by_cases h : a = b
  · subst h
    simp
  · have : ¬ ((a : Int) = (b : Int)) := by omega
    rw [decide_eq_false h]
    simpa using this

theorem sealed_any (v : Value) (l : List UInt8) (w : World) (h : Byt w v l) (h3 : 3 ≤ l.length) (hlen : l.length ≤ 1000000) :
    Calls Try.prog 20 #[v] w fun e w' => e = .returned (.bool (decide (sum (l.take (l.length - 3)) = num3 (l.drop (l.length - 3))))) ∧ Adds w w' := by
  have h' := h
  obtain ⟨ao, cap, rfl, hcap, _⟩ := h.open
  have hA := h'.take (hi := l.length - 3) (by omega)
  have hB := h'.cut (lo := l.length - 3) (hi := l.length) (by omega) (by omega)
  rw [List.take_length, if_neg (by omega)] at hB
  generalize hS : sum (l.take (l.length - 3)) = S
  generalize hM : num3 (l.drop (l.length - 3)) = M
  have k1 : ∀ p, Calls Try.prog 11 #[.slice ao (l.length - 3) cap] (addTo w p) fun e w'' => e = .returned (.int .u32 (S : Nat)) ∧ ∃ p : Plus, w'' = addTo w p := fun p => by
    rw [← hS]
    exact Calls.plus_of (sum_any _ _ _ (hA.plus _) (by simp; omega))
  have k2 : ∀ p, Calls Try.prog 25 #[.slice (ao.map (·.add (l.length - 3))) (l.length - (l.length - 3)) (cap - (l.length - 3))] (addTo w p) fun e w'' => e = .returned (.int .u32 (M : Nat)) ∧ ∃ p : Plus, w'' = addTo w p := fun p => by
    rw [← hM]
    exact Calls.adds_of (number_any _ _ _ (hB.plus _) (by simp; omega))
  go_enter Try.func20, Try.ntmps20
  go_wp2
  refine wp_region_adds (by kernel_rfl) (by kernel_rfl) ?_
  repeat (go_big_quiet_step ((first | (go_at_call 11; exact k1 _) | (go_at_call 25; exact k2 _))))
  refine wpQuiet_nil ?_
  rintro _ ⟨pl, rfl⟩
  unfold addTo
  go_wp2
  go_ret
  refine ⟨?_, ?_⟩
  · show Ending.returned (.bool ((S : Int) == (M : Int))) = _
    rw [beq_cast]
  repeat (first | with_reducible exact Adds.refl _ | with_reducible refine Adds.alloc ?_ _ | with_reducible refine Adds.more ?_ _ _ | with_reducible refine Adds.drew ?_ | with_reducible refine Adds.drewN ?_ _)

/-- .. as the register tells it. -/
theorem sealed_reg (l : List UInt8) (h3 : 3 ≤ l.length) : (sum (l.take (l.length - 3)) = num3 (l.drop (l.length - 3))) ↔ run start (bitsL l) = 0 := by
  rw [← sealed_iff _ _ (by simp; omega), List.take_append_drop]

theorem length_any (v : Value) (l : List UInt8) (w : World) (h : Byt w v l) (hlen : l.length ≤ 1000000) :
    Calls Try.prog 19 #[v] w fun e w' => e = .returned (.tuple #[.int .i64 ((lengthOf l).1 : Nat), .int .i64 (lengthOf l).2]) ∧ Adds w w' := by
  have h' := h
  obtain ⟨ao, cap, rfl, hcap, _⟩ := h.open
  unfold lengthOf
  by_cases h6 : l.length < 6
  · rw [if_pos h6]
    go_enter Try.func19, Try.ntmps19
    go_wp2
    go_ret2
    refine ⟨rfl, ?_⟩
    repeat (first | with_reducible exact Adds.refl _ | with_reducible refine Adds.alloc ?_ _ | with_reducible refine Adds.more ?_ _ _ | with_reducible refine Adds.drew ?_ | with_reducible refine Adds.drewN ?_ _)
  rw [if_neg h6]
  have hA := h'.take (hi := 6) (by omega)
  have hT : (l.take 6).length = 6 := by simp; omega
  have hE : (sum ((l.take 6).take ((l.take 6).length - 3)) = num3 ((l.take 6).drop ((l.take 6).length - 3))) ↔ sum (l.take 3) = num3 (l.drop 3) := by
    rw [hT, List.take_take, List.drop_take, num3_take _ _ (by omega)]
    rfl
  have k1 : ∀ W, Adds w W → Calls Try.prog 20 #[.slice ao 6 cap] W fun e w' => e = .returned (.bool (decide (sum (l.take 3) = num3 (l.drop 3)))) ∧ Adds W w' := fun W hW => by
    have := sealed_any _ _ W (hA.adds hW) (by omega) (by omega)
    rw [decide_eq_decide.2 hE] at this
    exact this
  have k2 : ∀ W, Adds w W → Calls Try.prog 25 #[.slice ao l.length cap] W fun e w' => e = .returned (.int .u32 (num3 l : Nat)) ∧ Adds W w' := fun W hW => number_any _ _ _ (h'.adds hW) (by omega)
  by_cases hs : sum (l.take 3) = num3 (l.drop 3)
  · rw [if_neg (by simpa using hs)]
    rw [decide_eq_true hs] at k1
    have hlt := num3_lt l
    generalize num3 l = n at *
    clear hs hE
    by_cases hn : 16384 < n
    · rw [if_pos hn]
      go_enter Try.func19, Try.ntmps19
      go_wp2_with (first
        | (go_at_call 20; refine (k1 _ (by repeat (first | with_reducible exact Adds.refl _ | with_reducible refine Adds.alloc ?_ _ | with_reducible refine Adds.more ?_ _ _ | with_reducible refine Adds.drew ?_ | with_reducible refine Adds.drewN ?_ _))).mono ?_; rintro e w1 ⟨rfl, os1, n1, rfl⟩)
        | (go_at_call 25; refine (k2 _ (by repeat (first | with_reducible exact Adds.refl _ | with_reducible refine Adds.alloc ?_ _ | with_reducible refine Adds.more ?_ _ _ | with_reducible refine Adds.drew ?_ | with_reducible refine Adds.drewN ?_ _))).mono ?_; rintro e w1 ⟨rfl, os2, n2, rfl⟩))
      go_ret2
      refine ⟨rfl, ?_⟩
      repeat (first | with_reducible exact Adds.refl _ | with_reducible refine Adds.alloc ?_ _ | with_reducible refine Adds.more ?_ _ _ | with_reducible refine Adds.drew ?_ | with_reducible refine Adds.drewN ?_ _)
    · rw [if_neg hn]
      go_enter Try.func19, Try.ntmps19
      go_wp2_with (first
        | (go_at_call 20; refine (k1 _ (by repeat (first | with_reducible exact Adds.refl _ | with_reducible refine Adds.alloc ?_ _ | with_reducible refine Adds.more ?_ _ _ | with_reducible refine Adds.drew ?_ | with_reducible refine Adds.drewN ?_ _))).mono ?_; rintro e w1 ⟨rfl, os1, n1, rfl⟩)
        | (go_at_call 25; refine (k2 _ (by repeat (first | with_reducible exact Adds.refl _ | with_reducible refine Adds.alloc ?_ _ | with_reducible refine Adds.more ?_ _ _ | with_reducible refine Adds.drew ?_ | with_reducible refine Adds.drewN ?_ _))).mono ?_; rintro e w1 ⟨rfl, os2, n2, rfl⟩))
      go_ret2
      refine ⟨rfl, ?_⟩
      repeat (first | with_reducible exact Adds.refl _ | with_reducible refine Adds.alloc ?_ _ | with_reducible refine Adds.more ?_ _ _ | with_reducible refine Adds.drew ?_ | with_reducible refine Adds.drewN ?_ _)
  · rw [if_pos (by simpa using hs)]
    rw [decide_eq_false hs] at k1
    clear hs hE
    go_enter Try.func19, Try.ntmps19
    go_wp2_with (first
      | (go_at_call 20; refine (k1 _ (by repeat (first | with_reducible exact Adds.refl _ | with_reducible refine Adds.alloc ?_ _ | with_reducible refine Adds.more ?_ _ _ | with_reducible refine Adds.drew ?_ | with_reducible refine Adds.drewN ?_ _))).mono ?_; rintro e w1 ⟨rfl, os1, n1, rfl⟩)
      | (go_at_call 25; refine (k2 _ (by repeat (first | with_reducible exact Adds.refl _ | with_reducible refine Adds.alloc ?_ _ | with_reducible refine Adds.more ?_ _ _ | with_reducible refine Adds.drew ?_ | with_reducible refine Adds.drewN ?_ _))).mono ?_; rintro e w1 ⟨rfl, os2, n2, rfl⟩))
    go_ret2
    refine ⟨rfl, ?_⟩
    repeat (first | with_reducible exact Adds.refl _ | with_reducible refine Adds.alloc ?_ _ | with_reducible refine Adds.more ?_ _ _ | with_reducible refine Adds.drew ?_ | with_reducible refine Adds.drewN ?_ _)

end Go.Proofs.Ytmbnpglnanfdoaa
