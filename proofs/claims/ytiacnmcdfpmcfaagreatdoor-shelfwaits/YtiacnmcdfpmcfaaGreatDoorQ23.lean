/-
  The reference's read of a text in parentheses.
  The reference's read of a call.
  The reference's read of a word.
-/
import Derived.Test.YtiacnmcdfpmcfaaGreatDoorQ22
namespace Go.Proofs.YtiacnmcdfpmcfaaGreatDoor
open Go.RowKit
attribute [local go_sem] cell?_more frozen?_more setCell_more size_more tape_more drew_more drewN_more more_drew more_drewN one_out plus_out plus_end lt_one le_p2 le_p3 le_p4 le_p5 le_p6 le_p7 le_p8 le_p9 le_p10 le_p11 le_p12 le_p13 le_p14 le_p15 le_p16 le_p17 le_p18 le_p19 le_p20 le_p21 le_p22 le_p23 le_p24 le_q0 le_q1 lt_q1 le_q2 lt_q2 le_q3 lt_q3 le_q4 lt_q4 le_q5 lt_q5 le_q6 lt_q6 le_q7 lt_q7 le_q8 lt_q8 le_q9 lt_q9 le_q10 lt_q10 le_q11 lt_q11 le_q12 lt_q12 le_q13 lt_q13 le_q14 lt_q14 le_q15 lt_q15 le_q16 lt_q16 le_q17 lt_q17 le_q18 lt_q18 le_q19 lt_q19 le_q20 lt_q20 le_q21 lt_q21 le_q22 lt_q22 le_q23 lt_q23 le_q24 lt_q24


theorem ext_in {a : List UInt8} : (toB (40 :: (a ++ [41]))).extract 1 ((toB (40 :: (a ++ [41]))).size - 1) = toB a := toList_inj (by rw [extract_L, toB_toList, toB_toList, toB_size]; simp)

theorem rt_same {W : World} {o o' : Obj} {os2 : Array Obj} {d2 : Nat} {l p : List UInt8} {k1 m1 : Int} {t1 : ByteArray} {s1 : Value} {q : Bool}
    (hI : ∀ e, G .sum l e ↔ G .sum p e) (h1 : RT (W.alloc o).heap.size p k1 t1 m1 s1 q (more (W.alloc o) os2 d2)) :
    RT W.heap.size l k1 t1 m1 s1 q (more (W.alloc o') os2 d2) := by
  have e1 : W.heap.size < (W.alloc o).heap.size := by simp
  have h1' := (h1.but1 ((But1.box W o o').more os2 d2) e1).low (Nat.le_of_lt e1)
  exact ⟨fun e => by obtain ⟨x, D, g, h⟩ := h1'.1 e; exact ⟨x, D, (hI x).2 g, h⟩, fun e x g => h1'.2 e x ((hI x).1 g)⟩

set_option maxHeartbeats 4000000 in
set_option maxRecDepth 20000 in
theorem reads_paren {m : Nat} {a : List UInt8} (hm : m ≤ 300) (hl : (40 :: (a ++ [41])).length ≤ 1000) (h1 : noTop 43 0 (40 :: (a ++ [41]))) (h2 : noTop 42 0 (40 :: (a ++ [41]))) (hw : wholeL (40 :: (a ++ [41])) = true) (kA : Reads m a) : Reads (m + 1) (40 :: (a ++ [41])) := by
  intro W
  have HI : Hid (∀ e, G .sum (40 :: (a ++ [41])) e ↔ G .sum a e) := fun e => G_paren h1 h2
  have kN := fun W => rLast_any (toB (40 :: (a ++ [41]))) (by rw [toB_size]; exact hl) 43 W
  rw [toB_toList, lastL_none (by decide) h1] at kN
  have kM := fun W => rLast_any (toB (40 :: (a ++ [41]))) (by rw [toB_size]; exact hl) 42 W
  rw [toB_toList, lastL_none (by decide) h2] at kM
  have hn43 : (((43 : UInt8).toNat : Nat) : Int) = 43 := rfl
  have hn42 : (((42 : UInt8).toNat : Nat) : Int) = 42 := rfl
  rw [hn43] at kN
  rw [hn42] at kM
  clear hn43 hn42
  have kW := fun W => rWhole_any (toB (40 :: (a ++ [41]))) (by rw [toB_size]; exact hl) W
  rw [toB_toList, hw] at kW
  have hsz : (toB (40 :: (a ++ [41]))).size ≤ 1000 := by rw [toB_size]; exact hl
  have he : ((toB (40 :: (a ++ [41]))).toList == []) = false := by rw [toB_toList]; rfl
  have hm1 : ((m + 1 : Nat) : Int) = (m : Int) + 1 := by omega
  rw [hm1]
  have hmz : ((m : Int) + 1 == 0) = false := by simp; omega

  unfold Reads at kA
  rw [← ext_in (a := a)] at kA
  have h2s : 2 ≤ (toB (40 :: (a ++ [41]))).size := by rw [toB_size]; simp
  clear h1 h2 hl hm1 hw
  generalize toB (40 :: (a ++ [41])) = S at *
  go_enter Tryz.func52, Tryz.ntmps52
  go_wp2_with (first
    | (go_at_call 69; (with_reducible refine (kN _).mono ?_); rintro e w1 ⟨rfl, hw⟩; subst w1)
    | (go_at_call 69; (with_reducible refine (kM _).mono ?_); rintro e w1 ⟨rfl, hw⟩; subst w1)
    | (go_at_call 70; (with_reducible refine (kW _).mono ?_); rintro e w1 ⟨rfl, hw⟩; subst w1)
    | (go_at_call 52; (with_reducible refine (kA _).mono ?_); rintro e w2 ⟨⟨k1, t1, m1, a1, n1, c1, q1, rfl, hR1⟩, os2, d2, rfl⟩))
  refine bodyPost_ret (v := .tuple #[.agg #[.int .i64 k1, .string t1, .int .i64 m1, .slice a1 n1 c1], .bool q1]) (by simp [results, Tryz.results52, go_sem]) rfl ⟨⟨_, _, _, _, _, _, _, rfl, ?_⟩, by repeat (first | with_reducible exact Adds.refl _ | with_reducible refine Adds.alloc ?_ _ | with_reducible refine Adds.more ?_ _ _ | with_reducible refine Adds.drew ?_ | with_reducible refine Adds.drewN ?_ _)⟩
  exact rt_same HI.out hR1.out

end Go.Proofs.YtiacnmcdfpmcfaaGreatDoor

namespace Go.Proofs.YtiacnmcdfpmcfaaGreatDoor
open Go.RowKit
attribute [local go_sem] cell?_more frozen?_more setCell_more size_more tape_more drew_more drewN_more more_drew more_drewN one_out plus_out plus_end lt_one le_p2 le_p3 le_p4 le_p5 le_p6 le_p7 le_p8 le_p9 le_p10 le_p11 le_p12 le_p13 le_p14 le_p15 le_p16 le_p17 le_p18 le_p19 le_p20 le_p21 le_p22 le_p23 le_p24 le_q0 le_q1 lt_q1 le_q2 lt_q2 le_q3 lt_q3 le_q4 lt_q4 le_q5 lt_q5 le_q6 lt_q6 le_q7 lt_q7 le_q8 lt_q8 le_q9 lt_q9 le_q10 lt_q10 le_q11 lt_q11 le_q12 lt_q12 le_q13 lt_q13 le_q14 lt_q14 le_q15 lt_q15 le_q16 lt_q16 le_q17 lt_q17 le_q18 lt_q18 le_q19 lt_q19 le_q20 lt_q20 le_q21 lt_q21 le_q22 lt_q22 le_q23 lt_q23 le_q24 lt_q24


theorem get_toB {l : List UInt8} {j : Nat} (h : j < (toB l).size) (h' : j < l.length) : (toB l)[j]'h = l[j]'h' := by
  have e : (toB l).toList[j]'(by rw [toB_toList]; exact h') = (toB l)[j]'h := toList_get ..
  rw [← e]
  simp only [toB_toList]
theorem ext_to {f r : List UInt8} : (toB (f ++ r)).extract 0 f.length = toB f := toList_inj (by rw [extract_L, toB_toList, toB_toList]; simp)
theorem ext_from {f r : List UInt8} : (toB (f ++ r)).extract f.length (toB (f ++ r)).size = toB r := toList_inj (by rw [extract_L, toB_toList, toB_toList, toB_size, List.take_length, List.drop_left])
theorem ext_arg {f a : List UInt8} : (toB (f ++ 40 :: (a ++ [41]))).extract (f.length + 1) ((toB (f ++ 40 :: (a ++ [41]))).size - 1) = toB a := by
  refine toList_inj ?_
  rw [extract_L, toB_toList, toB_toList, toB_size]
  have e1 : f ++ 40 :: (a ++ [41]) = ((f ++ [40]) ++ a) ++ [41] := by simp
  have e2 : (f ++ 40 :: (a ++ [41])).length - 1 = ((f ++ [40]) ++ a).length := by simp
  have e3 : f.length + 1 = (f ++ [40]).length := by simp
  rw [e2, e1, List.take_left, e3, List.drop_left]

/-- Of a call: the argument, and the box of the answer set anew. -/
theorem rt_call {W : World} {o o' : Obj} {os2 : Array Obj} {d2 : Nat} {l p f : List UInt8} {oa : Obj} {k1 m1 : Int} {t1 : ByteArray} {s1 : Value} {q : Bool} {g : Nat}
    (hI : ∀ e, G .sum l e ↔ ∃ x, e = .call f x ∧ G .sum p x)
    (h1 : RT (W.alloc o).heap.size p k1 t1 m1 s1 q (more (W.alloc o) os2 d2)) (hg : g = ((more (W.alloc o) os2 d2).alloc oa).heap.size) :
    RT W.heap.size l 5 (toB f) 0 (.slice (some ⟨g, 0, none⟩) 1 1) q (((more (W.alloc o') os2 d2).alloc oa).alloc (.cells #[.int .i64 k1, .string t1, .int .i64 m1, s1] 81)) := by
  have hb := ((But1.box W o o').more os2 d2)
  have e1 : W.heap.size < (W.alloc o).heap.size := by simp
  have h1' := (h1.but1 hb e1).low (Nat.le_of_lt e1)
  cases q with
  | true =>
    obtain ⟨x, D, g1, T⟩ := rt_one (X := (more (W.alloc o') os2 d2).alloc oa) (g := g) h1' ((Adds.refl _).alloc oa) (by rw [hg]; simp [size_more]) (by rw [hg]; simp [size_more]; omega)
    exact ⟨fun _ => ⟨.call f x, D, (hI _).2 ⟨x, rfl, g1⟩, rfl, rfl, rfl, T⟩, fun h => by cases h⟩
  | false =>
    refine RT.no (fun e he => ?_)
    obtain ⟨x, rfl, g1⟩ := (hI e).1 he
    exact h1.2 rfl x g1

set_option maxHeartbeats 4000000 in
set_option maxRecDepth 20000 in
theorem reads_call {m : Nat} {f a : List UInt8} (hm : m ≤ 300) (hl : (f ++ 40 :: (a ++ [41])).length ≤ 1000) (h1 : noTop 43 0 (f ++ 40 :: (a ++ [41]))) (h2 : noTop 42 0 (f ++ 40 :: (a ++ [41]))) (hf : (40 : UInt8) ∉ f) (hw : wholeL (f ++ 40 :: (a ++ [41])) = false)
    (hn : isName f = true) (hw2 : wholeL (40 :: (a ++ [41])) = true) (kA : Reads m a) : Reads (m + 1) (f ++ 40 :: (a ++ [41])) := by
  intro W
  have HI : Hid (∀ e, G .sum (f ++ 40 :: (a ++ [41])) e ↔ ∃ x, e = .call f x ∧ G .sum a x) := by
    intro e
    rw [G_call h1 h2 hf hw]
    constructor
    · rintro ⟨_, _, b, x, e1, rfl, g⟩
      have : a = b := by simpa using e1
      subst this
      exact ⟨x, rfl, g⟩
    · rintro ⟨x, rfl, g⟩
      exact ⟨hn, hw2, a, x, rfl, rfl, g⟩
  have kN := fun W => rLast_any (toB (f ++ 40 :: (a ++ [41]))) (by rw [toB_size]; exact hl) 43 W
  rw [toB_toList, lastL_none (by decide) h1] at kN
  have kM := fun W => rLast_any (toB (f ++ 40 :: (a ++ [41]))) (by rw [toB_size]; exact hl) 42 W
  rw [toB_toList, lastL_none (by decide) h2] at kM
  have hn43 : (((43 : UInt8).toNat : Nat) : Int) = 43 := rfl
  have hn42 : (((42 : UInt8).toNat : Nat) : Int) = 42 := rfl
  rw [hn43] at kN
  rw [hn42] at kM
  clear hn43 hn42
  have kW := fun W => rWhole_any (toB (f ++ 40 :: (a ++ [41]))) (by rw [toB_size]; exact hl) W
  rw [toB_toList, hw] at kW
  have hsz : (toB (f ++ 40 :: (a ++ [41]))).size ≤ 1000 := by rw [toB_size]; exact hl
  have he : ((toB (f ++ 40 :: (a ++ [41]))).toList == []) = false := by rw [toB_toList]; simp
  have hm1 : ((m + 1 : Nat) : Int) = (m : Int) + 1 := by omega
  rw [hm1]
  have hmz : ((m : Int) + 1 == 0) = false := by simp; omega

  unfold Reads at kA
  rw [← ext_arg (f := f) (a := a)] at kA
  have kI := fun W => rName_any (toB f) W
  rw [toB_toList, hn] at kI
  have kV := fun W => rWhole_any (toB (40 :: (a ++ [41]))) (by rw [toB_size]; simp at hl ⊢; omega) W
  rw [toB_toList, hw2] at kV
  rw [← ext_from (f := f) (r := 40 :: (a ++ [41]))] at kV
  have hsF : f.length + 2 ≤ (toB (f ++ 40 :: (a ++ [41]))).size := by rw [toB_size]; simp
  have hne : ∀ j (h : j < (toB (f ++ 40 :: (a ++ [41]))).size), j < f.length → (((toB (f ++ 40 :: (a ++ [41])))[j].toNat : Int) == 40) = false := by
    intro j h hj
    rw [get_toB h (by simp; omega), List.getElem_append_left hj]
    have hne : f[j] ≠ 40 := fun e => hf (by rw [← e]; exact List.getElem_mem hj)
    have : f[j].toNat ≠ 40 := fun e => hne (UInt8.toNat_inj.1 (by rw [e]; rfl))
    simp
    omega
  have hat : ∀ (h : f.length < (toB (f ++ 40 :: (a ++ [41]))).size), ((toB (f ++ 40 :: (a ++ [41])))[f.length].toNat : Int) = 40 := by
    intro h
    rw [get_toB h (by simp), List.getElem_append_right (Nat.le_refl _)]
    simp
  clear h1 h2 hl hm1 hw hf hw2 hn
  have hx : toB f = (toB (f ++ 40 :: (a ++ [41]))).extract 0 f.length := ext_to.symm
  rw [hx] at kI
  have HX : Hid (toB f = (toB (f ++ 40 :: (a ++ [41]))).extract 0 f.length) := hx
  clear hx
  generalize toB (f ++ 40 :: (a ++ [41])) = S at *
  generalize hF : f.length = F at *
  clear hF
  have hFs : F < S.size := by omega
  have hat := hat hFs
  go_enter Tryz.func52, Tryz.ntmps52
  go_wp2_with (first
    | (go_at_call 69; (with_reducible refine (kN _).mono ?_); rintro e w1 ⟨rfl, hw⟩; subst w1)
    | (go_at_call 69; (with_reducible refine (kM _).mono ?_); rintro e w1 ⟨rfl, hw⟩; subst w1)
    | (go_at_call 70; (with_reducible refine (kW _).mono ?_); rintro e w1 ⟨rfl, hw⟩; subst w1))
  go_loopw [12] (fun iv wr => ∃ j : Nat, j ≤ F ∧ iv = .int .i64 j ∧ wr = W.alloc (.cells #[.int .i64 0, .string ⟨#[]⟩, .int .i64 0, .slice none 0 0] 81)) (fun iv _ => F - (intOf iv).toNat)
  case atStart => exact ⟨0, Nat.zero_le _, rfl, rfl⟩
  case round =>
    obtain ⟨j, hj, rfl, rfl⟩ := hrel
    by_cases hlt : j < F
    · have hjs : j < S.size := by omega
      have hjb := hne j hjs hlt
      clear hne
      go_wp2
      go_roundw
      case rel => exact ⟨j + 1, by omega, by go_num, by first | rfl | trivial⟩
      case measure => simp [intOf]; omega
    · have hj' : j = F := by omega
      subst hj'
      clear hne hlt

      go_wp2_with (first
        | (go_at_call 71; (with_reducible refine (kI _).mono ?_); rintro e w1 ⟨rfl, hw⟩; subst w1)
        | (go_at_call 70; (with_reducible refine (kV _).mono ?_); rintro e w1 ⟨rfl, hw⟩; subst w1)
        | (go_at_call 52; (with_reducible refine (kA _).mono ?_); rintro e w2 ⟨⟨k1, t1, m1, a1, n1, c1, q1, rfl, hR1⟩, os2, d2, rfl⟩))
      go_region
      all_goals go_wp2
      refine bodyPost_ret (v := .tuple #[.agg #[.int .i64 5, .string (S.extract 0 j), .int .i64 0, .slice (some ⟨W.heap.size + os2.size + 1 + 1, 0, none⟩) 1 1], .bool q1]) (by simp [results, Tryz.results52, go_sem]) rfl ⟨⟨_, _, _, _, _, _, _, rfl, ?_⟩, by repeat (first | with_reducible exact Adds.refl _ | with_reducible refine Adds.alloc ?_ _ | with_reducible refine Adds.more ?_ _ _ | with_reducible refine Adds.drew ?_ | with_reducible refine Adds.drewN ?_ _)⟩
      have hz := RT.adds (rt_call (o' := .cells #[.int .i64 5, .string (S.extract 0 j), .int .i64 0, .slice (some ⟨W.heap.size + os2.size + 1 + 1, 0, none⟩) 1 1] 81) (oa := .cells #[.int .i64 k1, .string t1, .int .i64 m1, .slice a1 n1 c1] 81) (g := W.heap.size + os2.size + 1 + 1) HI.out hR1.out (by simp [size_more]; omega)) (Adds.drew (Adds.refl _))
      rw [HX.out] at hz
      exact hz

set_option maxHeartbeats 4000000 in
set_option maxRecDepth 20000 in
theorem reads_none {m : Nat} {f t : List UInt8} (hm : m ≤ 300) (hl : (f ++ 40 :: t).length ≤ 1000) (h1 : noTop 43 0 (f ++ 40 :: t)) (h2 : noTop 42 0 (f ++ 40 :: t)) (hf : (40 : UInt8) ∉ f) (hw : wholeL (f ++ 40 :: t) = false)
    (hn : isName f = true → wholeL (40 :: t) = false) : Reads (m + 1) (f ++ 40 :: t) := by
  intro W
  have HI : Hid (∀ e, ¬ G .sum (f ++ 40 :: t) e) := by
    intro e he
    obtain ⟨h3, h4, _⟩ := (G_call h1 h2 hf hw).1 he
    rw [hn h3] at h4
    cases h4
  have kN := fun W => rLast_any (toB (f ++ 40 :: t)) (by rw [toB_size]; exact hl) 43 W
  rw [toB_toList, lastL_none (by decide) h1] at kN
  have kM := fun W => rLast_any (toB (f ++ 40 :: t)) (by rw [toB_size]; exact hl) 42 W
  rw [toB_toList, lastL_none (by decide) h2] at kM
  have hn43 : (((43 : UInt8).toNat : Nat) : Int) = 43 := rfl
  have hn42 : (((42 : UInt8).toNat : Nat) : Int) = 42 := rfl
  rw [hn43] at kN
  rw [hn42] at kM
  clear hn43 hn42
  have kW := fun W => rWhole_any (toB (f ++ 40 :: t)) (by rw [toB_size]; exact hl) W
  rw [toB_toList, hw] at kW
  have hsz : (toB (f ++ 40 :: t)).size ≤ 1000 := by rw [toB_size]; exact hl
  have he : ((toB (f ++ 40 :: t)).toList == []) = false := by rw [toB_toList]; simp
  have hm1 : ((m + 1 : Nat) : Int) = (m : Int) + 1 := by omega
  rw [hm1]
  have hmz : ((m : Int) + 1 == 0) = false := by simp; omega

  have kI := fun W => rName_any (toB f) W
  rw [toB_toList] at kI
  have kV := fun W => rWhole_any (toB (40 :: t)) (by rw [toB_size]; simp at hl ⊢; omega) W
  rw [toB_toList] at kV
  rw [← ext_from (f := f) (r := 40 :: t)] at kV
  have hsF : f.length + 1 ≤ (toB (f ++ 40 :: t)).size := by rw [toB_size]; simp
  have hne : ∀ j (h : j < (toB (f ++ 40 :: t)).size), j < f.length → (((toB (f ++ 40 :: t))[j].toNat : Int) == 40) = false := by
    intro j h hj
    rw [get_toB h (by simp; omega), List.getElem_append_left hj]
    have hne : f[j] ≠ 40 := fun e => hf (by rw [← e]; exact List.getElem_mem hj)
    have : f[j].toNat ≠ 40 := fun e => hne (UInt8.toNat_inj.1 (by rw [e]; rfl))
    simp
    omega
  have hat : ∀ (h : f.length < (toB (f ++ 40 :: t)).size), ((toB (f ++ 40 :: t))[f.length].toNat : Int) = 40 := by
    intro h
    rw [get_toB h (by simp), List.getElem_append_right (Nat.le_refl _)]
    simp
  clear h1 h2 hl hm1 hw hf
  have hx : toB f = (toB (f ++ 40 :: t)).extract 0 f.length := ext_to.symm
  rw [hx] at kI
  clear hx
  generalize toB (f ++ 40 :: t) = S at *
  generalize isName f = qn at *
  generalize wholeL (40 :: t) = qw at *
  generalize hF : f.length = F at *
  clear hF
  have hFs : F < S.size := by omega
  have hat := hat hFs
  go_enter Tryz.func52, Tryz.ntmps52
  go_wp2_with (first
    | (go_at_call 69; (with_reducible refine (kN _).mono ?_); rintro e w1 ⟨rfl, hw⟩; subst w1)
    | (go_at_call 69; (with_reducible refine (kM _).mono ?_); rintro e w1 ⟨rfl, hw⟩; subst w1)
    | (go_at_call 70; (with_reducible refine (kW _).mono ?_); rintro e w1 ⟨rfl, hw⟩; subst w1))
  go_loopw [12] (fun iv wr => ∃ j : Nat, j ≤ F ∧ iv = .int .i64 j ∧ wr = W.alloc (.cells #[.int .i64 0, .string ⟨#[]⟩, .int .i64 0, .slice none 0 0] 81)) (fun iv _ => F - (intOf iv).toNat)
  case atStart => exact ⟨0, Nat.zero_le _, rfl, rfl⟩
  case round =>
    obtain ⟨j, hj, rfl, rfl⟩ := hrel
    by_cases hlt : j < F
    · have hjs : j < S.size := by omega
      have hjb := hne j hjs hlt
      clear hne
      go_wp2
      go_roundw
      case rel => exact ⟨j + 1, by omega, by go_num, by first | rfl | trivial⟩
      case measure => simp [intOf]; omega
    · have hj' : j = F := by omega
      subst hj'
      clear hne hlt

      cases qn
      · clear hn kV
        go_wp2_with (first
          | (go_at_call 71; (with_reducible refine (kI _).mono ?_); rintro e w1 ⟨rfl, hw⟩; subst w1))
        refine bodyPost_ret (v := .tuple #[.agg #[.int .i64 0, .string ⟨#[]⟩, .int .i64 0, .slice none 0 0], .bool false]) (by simp [results, Tryz.results52, go_sem]) rfl ⟨⟨_, _, _, _, _, _, _, rfl, RT.no HI.out⟩, by repeat (first | with_reducible exact Adds.refl _ | with_reducible refine Adds.alloc ?_ _ | with_reducible refine Adds.more ?_ _ _ | with_reducible refine Adds.drew ?_ | with_reducible refine Adds.drewN ?_ _)⟩
      · have hq := hn rfl
        subst hq
        clear hn
        go_wp2_with (first
          | (go_at_call 71; (with_reducible refine (kI _).mono ?_); rintro e w1 ⟨rfl, hw⟩; subst w1)
          | (go_at_call 70; (with_reducible refine (kV _).mono ?_); rintro e w1 ⟨rfl, hw⟩; subst w1))
        refine bodyPost_ret (v := .tuple #[.agg #[.int .i64 0, .string ⟨#[]⟩, .int .i64 0, .slice none 0 0], .bool false]) (by simp [results, Tryz.results52, go_sem]) rfl ⟨⟨_, _, _, _, _, _, _, rfl, RT.no HI.out⟩, by repeat (first | with_reducible exact Adds.refl _ | with_reducible refine Adds.alloc ?_ _ | with_reducible refine Adds.more ?_ _ _ | with_reducible refine Adds.drew ?_ | with_reducible refine Adds.drewN ?_ _)⟩

end Go.Proofs.YtiacnmcdfpmcfaaGreatDoor

namespace Go.Proofs.YtiacnmcdfpmcfaaGreatDoor
open Go.RowKit
attribute [local go_sem] cell?_more frozen?_more setCell_more size_more tape_more drew_more drewN_more more_drew more_drewN one_out plus_out plus_end lt_one le_p2 le_p3 le_p4 le_p5 le_p6 le_p7 le_p8 le_p9 le_p10 le_p11 le_p12 le_p13 le_p14 le_p15 le_p16 le_p17 le_p18 le_p19 le_p20 le_p21 le_p22 le_p23 le_p24 le_q0 le_q1 lt_q1 le_q2 lt_q2 le_q3 lt_q3 le_q4 lt_q4 le_q5 lt_q5 le_q6 lt_q6 le_q7 lt_q7 le_q8 lt_q8 le_q9 lt_q9 le_q10 lt_q10 le_q11 lt_q11 le_q12 lt_q12 le_q13 lt_q13 le_q14 lt_q14 le_q15 lt_q15 le_q16 lt_q16 le_q17 lt_q17 le_q18 lt_q18 le_q19 lt_q19 le_q20 lt_q20 le_q21 lt_q21 le_q22 lt_q22 le_q23 lt_q23 le_q24 lt_q24


theorem no_whole {l : List UInt8} (h : (40 : UInt8) ∉ l) : wholeL l = false := by
  cases hw : wholeL l with
  | false => rfl
  | true =>
    obtain ⟨a, rfl⟩ := whole_sound hw
    simp at h

theorem leaf_digs {l : List UInt8} (hd : allDig l = true) (hne : l ≠ []) : leafE l = if l.length > 15 ∨ l.length > 1 ∧ l.head? = some 48 then none else some (.num (numOf l)) := by
  have : digs l = true := by simp [digs, hd, hne]
  rw [leafE, if_pos this]
theorem leaf_word {l : List UInt8} (hd : allDig l = false) : leafE l = if pathL l then some (.path l) else none := by
  have : ¬ digs l = true := by simp [digs, hd]
  rw [leafE, if_neg this]

set_option maxHeartbeats 4000000 in
set_option maxRecDepth 20000 in
theorem reads_word {m : Nat} {l : List UInt8} (hm : m ≤ 300) (hl : l.length ≤ 1000) (hnil : l ≠ []) (h1 : noTop 43 0 l) (h2 : noTop 42 0 l) (hf : (40 : UInt8) ∉ l) (hd : allDig l = false) : Reads (m + 1) l := by
  intro W
  have HI : Hid (∀ e, G .sum l e ↔ (if pathL l then some (.path l) else none) = some e) := by
    intro e
    rw [G_leaf h1 h2 hf, leaf_word hd]
  have hw := no_whole hf
  have kN := fun W => rLast_any (toB l) (by rw [toB_size]; exact hl) 43 W
  rw [toB_toList, lastL_none (by decide) h1] at kN
  have kM := fun W => rLast_any (toB l) (by rw [toB_size]; exact hl) 42 W
  rw [toB_toList, lastL_none (by decide) h2] at kM
  have hn43 : (((43 : UInt8).toNat : Nat) : Int) = 43 := rfl
  have hn42 : (((42 : UInt8).toNat : Nat) : Int) = 42 := rfl
  rw [hn43] at kN
  rw [hn42] at kM
  clear hn43 hn42
  have kW := fun W => rWhole_any (toB l) (by rw [toB_size]; exact hl) W
  rw [toB_toList, hw] at kW
  have hsz : (toB l).size ≤ 1000 := by rw [toB_size]; exact hl
  have he : ((toB l).toList == []) = false := by rw [toB_toList]; simpa using hnil
  have hm1 : ((m + 1 : Nat) : Int) = (m : Int) + 1 := by omega
  rw [hm1]
  have hmz : ((m : Int) + 1 == 0) = false := by simp; omega
  have hsF : l.length = (toB l).size := by rw [toB_size]
  have hne : ∀ j (h : j < (toB l).size), j < l.length → (((toB l)[j].toNat : Int) == 40) = false := by
    intro j h hj
    rw [get_toB h hj]
    have hne : l[j] ≠ 40 := fun e => hf (by rw [← e]; exact List.getElem_mem hj)
    have : l[j].toNat ≠ 40 := fun e => hne (UInt8.toNat_inj.1 (by rw [e]; rfl))
    simp
    omega
  have kP := fun W => rPlain_any (toB l) (by rw [toB_size]; omega) W
  rw [toB_toList, hd] at kP
  have kQ := fun W => refPath_any (toB l) (by rw [toB_size]; omega) W
  rw [isPath_L, toB_toList] at kQ
  have HT : Hid (toB l = toB l) := rfl
  clear h1 h2 hl hm1 hw hf hd hnil
  generalize hS : toB l = S at *
  have HS : Hid (toB l = S) := hS
  clear hS
  generalize hQ : pathL l = qp at *
  clear hQ
  generalize hF : l.length = F at *
  clear hF
  go_enter Tryz.func52, Tryz.ntmps52
  go_wp2_with (first
    | (go_at_call 69; (with_reducible refine (kN _).mono ?_); rintro e w1 ⟨rfl, hw⟩; subst w1)
    | (go_at_call 69; (with_reducible refine (kM _).mono ?_); rintro e w1 ⟨rfl, hw⟩; subst w1)
    | (go_at_call 70; (with_reducible refine (kW _).mono ?_); rintro e w1 ⟨rfl, hw⟩; subst w1))
  go_loopw [12] (fun iv wr => ∃ j : Nat, j ≤ F ∧ iv = .int .i64 j ∧ wr = W.alloc (.cells #[.int .i64 0, .string ⟨#[]⟩, .int .i64 0, .slice none 0 0] 81)) (fun iv _ => F - (intOf iv).toNat)
  case atStart => exact ⟨0, Nat.zero_le _, rfl, rfl⟩
  case round =>
    obtain ⟨j, hj, rfl, rfl⟩ := hrel
    by_cases hlt : j < F
    · have hjs : j < S.size := by omega
      have hjb := hne j hjs hlt
      clear hne
      go_wp2
      go_roundw
      case rel => exact ⟨j + 1, by omega, by go_num, by first | rfl | trivial⟩
      case measure => simp [intOf]; omega
    · have hj' : j = F := by omega
      subst hj'
      clear hne hlt
      go_wp2_with (first
        | (go_at_call 72; (with_reducible refine (kP _).mono ?_); rintro e w1 ⟨rfl, hw⟩; subst w1)
        | (go_at_call 39; (with_reducible refine (kQ _).mono ?_); rintro e w1 ⟨rfl, hw⟩; subst w1))
      refine bodyPost_ret (v := .tuple #[.agg #[.int .i64 1, .string S, .int .i64 0, .slice none 0 0], .bool qp]) (by simp [results, Tryz.results52, go_sem]) rfl ⟨⟨_, _, _, _, _, _, _, rfl, ?_⟩, by repeat (first | with_reducible exact Adds.refl _ | with_reducible refine Adds.alloc ?_ _ | with_reducible refine Adds.more ?_ _ _ | with_reducible refine Adds.drew ?_ | with_reducible refine Adds.drewN ?_ _)⟩
      cases qp with
      | false => exact RT.no (fun e he => by have := (HI.out e).1 he; simp at this)
      | true => exact ⟨fun _ => ⟨.path l, 0, (HI.out _).2 (by simp), rfl, HS.out, rfl, rfl, none, 0, rfl⟩, fun h => by cases h⟩

set_option maxHeartbeats 4000000 in
set_option maxRecDepth 20000 in
theorem reads_num {m : Nat} {l : List UInt8} (hm : m ≤ 300) (hl : l.length ≤ 15) (hnil : l ≠ []) (h1 : noTop 43 0 l) (h2 : noTop 42 0 l) (hf : (40 : UInt8) ∉ l) (hd : allDig l = true) : Reads (m + 1) l := by
  intro W
  have hdig : ∀ c ∈ l, isDig c = true := by simpa [allDig] using hd
  have HI : Hid (∀ e, G .sum l e ↔ (if (toB (digL (numOf l))).toList == (toB l).toList then some (E.num (numOf l)) else none) = some e) := by
    intro e
    rw [G_leaf h1 h2 hf, leaf_digs hd hnil]
    have hi := digL_iff hdig hnil
    by_cases hz : l.length > 1 ∧ l.head? = some 48
    · rw [if_pos (.inr hz)]
      have : ¬ digL (numOf l) = l := fun h => hi.1 h hz
      rw [if_neg (by simpa [toB_toList] using this)]
    · rw [if_neg (fun h => h.elim (fun h => by omega) hz)]
      rw [if_pos (by simpa [toB_toList] using hi.2 hz)]
  have hw := no_whole hf
  have hl15 := hl
  have hl : l.length ≤ 1000 := by omega
  have kN := fun W => rLast_any (toB l) (by rw [toB_size]; exact hl) 43 W
  rw [toB_toList, lastL_none (by decide) h1] at kN
  have kM := fun W => rLast_any (toB l) (by rw [toB_size]; exact hl) 42 W
  rw [toB_toList, lastL_none (by decide) h2] at kM
  have hn43 : (((43 : UInt8).toNat : Nat) : Int) = 43 := rfl
  have hn42 : (((42 : UInt8).toNat : Nat) : Int) = 42 := rfl
  rw [hn43] at kN
  rw [hn42] at kM
  clear hn43 hn42
  have kW := fun W => rWhole_any (toB l) (by rw [toB_size]; exact hl) W
  rw [toB_toList, hw] at kW
  have hsz : (toB l).size ≤ 1000 := by rw [toB_size]; exact hl
  have he : ((toB l).toList == []) = false := by rw [toB_toList]; simpa using hnil
  have hm1 : ((m + 1 : Nat) : Int) = (m : Int) + 1 := by omega
  rw [hm1]
  have hmz : ((m : Int) + 1 == 0) = false := by simp; omega
  have hsF : l.length = (toB l).size := by rw [toB_size]
  have hne : ∀ j (h : j < (toB l).size), j < l.length → (((toB l)[j].toNat : Int) == 40) = false := by
    intro j h hj
    rw [get_toB h hj]
    have hne : l[j] ≠ 40 := fun e => hf (by rw [← e]; exact List.getElem_mem hj)
    have : l[j].toNat ≠ 40 := fun e => hne (UInt8.toNat_inj.1 (by rw [e]; rfl))
    simp
    omega
  have kP := fun W => rPlain_any (toB l) (by rw [toB_size]; omega) W
  rw [toB_toList, hd] at kP
  have HB : Hid (∀ k, numOf (l.take k) < 1000000000000000) := by
    intro k
    have h1 := numOf_lt (l.take k) (fun c hc => hdig c (List.mem_of_mem_take hc)) 0
    have h2 : (l.take k).length ≤ 15 := by rw [List.length_take]; omega
    have h3 : 10 ^ (l.take k).length ≤ 10 ^ 15 := Nat.pow_le_pow_right (by decide) h2
    have h4 : (10 : Nat) ^ 15 = 1000000000000000 := by decide
    unfold numOf
    omega
  have HD : Hid (∀ k (hk : k < (toB l).size), 48 ≤ ((toB l)[k].toNat : Int) ∧ ((toB l)[k].toNat : Int) ≤ 57 ∧ numOf (l.take (k + 1)) = numOf (l.take k) * 10 + ((toB l)[k].toNat - 48)) := by
    intro k hk
    have hk' : k < l.length := by rw [toB_size] at hk; exact hk
    have h1 := hdig l[k] (List.getElem_mem hk')
    rw [get_toB hk hk']
    simp [isDig] at h1
    refine ⟨by omega, by omega, ?_⟩
    rw [List.take_succ_eq_append_getElem hk', numOf_app]
  have HN : Hid (l.take (toB l).size = l) := by
    show _ = _
    rw [toB_size]
    exact List.take_length
  have kG := fun W => rDigits_any 15 (numOf l) (by have := HB.out (toB l).size; rw [HN.out] at this; have h4 : (10 : Nat) ^ 16 = 10000000000000000 := (by decide); rw [h4]; omega) (by omega) W
  clear h1 h2 hl hm1 hw hf hd hnil hdig
  have hs15 : (toB l).size ≤ 15 := by rw [toB_size]; exact hl15
  have hs15' : ((toB l).size : Int) ≤ 15 := by omega
  have hs16 : ∀ k, k < (toB l).size → (k : Int) < 16 := by omega
  generalize hS : toB l = S at *
  clear hS
  generalize toB (digL (numOf l)) = R at *
  generalize hF : l.length = F at *
  clear hF
  go_enter Tryz.func52, Tryz.ntmps52
  go_wp2_with (first
    | (go_at_call 69; (with_reducible refine (kN _).mono ?_); rintro e w1 ⟨rfl, hw⟩; subst w1)
    | (go_at_call 69; (with_reducible refine (kM _).mono ?_); rintro e w1 ⟨rfl, hw⟩; subst w1)
    | (go_at_call 70; (with_reducible refine (kW _).mono ?_); rintro e w1 ⟨rfl, hw⟩; subst w1))
  go_loopw [12] (fun iv wr => ∃ j : Nat, j ≤ F ∧ iv = .int .i64 j ∧ wr = W.alloc (.cells #[.int .i64 0, .string ⟨#[]⟩, .int .i64 0, .slice none 0 0] 81)) (fun iv _ => F - (intOf iv).toNat)
  case atStart => exact ⟨0, Nat.zero_le _, rfl, rfl⟩
  case round =>
    obtain ⟨j, hj, rfl, rfl⟩ := hrel
    by_cases hlt : j < F
    · have hjs : j < S.size := by omega
      have hjb := hne j hjs hlt
      clear hne
      go_wp2
      go_roundw
      case rel => exact ⟨j + 1, by omega, by go_num, by first | rfl | trivial⟩
      case measure => simp [intOf]; omega
    · have hj' : j = F := by omega
      subst hj'
      clear hne hlt
      go_wp2_with (first
        | (go_at_call 72; (with_reducible refine (kP _).mono ?_); rintro e w1 ⟨rfl, hw⟩; subst w1))
      go_loopw [15, 16] (fun nv iv wr => ∃ k : Nat, k ≤ S.size ∧ iv = .int .i64 k ∧ nv = .int .i64 (numOf (l.take k) : Int) ∧ wr = W.alloc (.cells #[.int .i64 0, .string ⟨#[]⟩, .int .i64 0, .slice none 0 0] 81)) (fun _ iv _ => S.size - (intOf iv).toNat)
      case atStart => exact ⟨0, Nat.zero_le _, rfl, by simp [numOf], rfl⟩
      case round =>
        obtain ⟨k, hk, rfl, rfl, rfl⟩ := hrel
        by_cases hlt : k < S.size
        · obtain ⟨d1, d2, d3⟩ := HD.out k hlt
          have b1 := HB.out k
          have b16 := hs16 k hlt
          have H3 : Hid _ := d3
          clear d3 HD hs16 kG
          generalize numOf (l.take k) = nn at *
          have hsub : IntKind.u8.wrap ((S[k].toNat : Int) - 48) = (S[k].toNat : Int) - 48 := by
            rw [IntKind.wrap_u8]
            omega
          go_wp2
          go_roundw
          case rel =>
            refine ⟨k + 1, by omega, by go_num, ?_, by first | rfl | trivial⟩
            rw [H3.out]
            congr 1
            omega
          case measure => simp [intOf]; omega
        · have hk' : k = S.size := by omega
          subst hk'
          rw [HN.out]
          clear HD HB HN hs16
          generalize numOf l = nn at *
          go_wp2_with (first
            | (go_at_call 73; (with_reducible refine (kG _).mono ?_); rintro e w1 ⟨rfl, os2, d2, rfl⟩))
          refine bodyPost_ret (v := .tuple #[.agg #[.int .i64 2, .string ⟨#[]⟩, .int .i64 (nn : Int), .slice none 0 0], .bool (R.toList == S.toList)]) (by simp [results, Tryz.results52, go_sem]) rfl ⟨⟨_, _, _, _, _, _, _, rfl, ?_⟩, by repeat (first | with_reducible exact Adds.refl _ | with_reducible refine Adds.alloc ?_ _ | with_reducible refine Adds.more ?_ _ _ | with_reducible refine Adds.drew ?_ | with_reducible refine Adds.drewN ?_ _)⟩
          refine ⟨fun hq => ⟨.num nn, 0, (HI.out _).2 (by rw [hq]; rfl), rfl, rfl, rfl, rfl, none, 0, rfl⟩, fun hq e he => ?_⟩
          have := (HI.out e).1 he
          rw [hq] at this
          simp at this

set_option maxHeartbeats 4000000 in
set_option maxRecDepth 20000 in
theorem reads_long {m : Nat} {l : List UInt8} (hm : m ≤ 300) (hl : l.length ≤ 1000) (hl16 : 16 ≤ l.length) (h1 : noTop 43 0 l) (h2 : noTop 42 0 l) (hf : (40 : UInt8) ∉ l) (hd : allDig l = true) : Reads (m + 1) l := by
  intro W
  have hnil : l ≠ [] := by rintro rfl; simp at hl16
  have hdig : ∀ c ∈ l, isDig c = true := by simpa [allDig] using hd
  have HI : Hid (∀ e, ¬ G .sum l e) := by
    intro e
    rw [G_leaf h1 h2 hf, leaf_digs hd hnil, if_pos (.inl (by omega))]
    intro h
    cases h
  have hw := no_whole hf
  have kN := fun W => rLast_any (toB l) (by rw [toB_size]; exact hl) 43 W
  rw [toB_toList, lastL_none (by decide) h1] at kN
  have kM := fun W => rLast_any (toB l) (by rw [toB_size]; exact hl) 42 W
  rw [toB_toList, lastL_none (by decide) h2] at kM
  have hn43 : (((43 : UInt8).toNat : Nat) : Int) = 43 := rfl
  have hn42 : (((42 : UInt8).toNat : Nat) : Int) = 42 := rfl
  rw [hn43] at kN
  rw [hn42] at kM
  clear hn43 hn42
  have kW := fun W => rWhole_any (toB l) (by rw [toB_size]; exact hl) W
  rw [toB_toList, hw] at kW
  have hsz : (toB l).size ≤ 1000 := by rw [toB_size]; exact hl
  have he : ((toB l).toList == []) = false := by rw [toB_toList]; simpa using hnil
  have hm1 : ((m + 1 : Nat) : Int) = (m : Int) + 1 := by omega
  rw [hm1]
  have hmz : ((m : Int) + 1 == 0) = false := by simp; omega
  have hsF : l.length = (toB l).size := by rw [toB_size]
  have hne : ∀ j (h : j < (toB l).size), j < l.length → (((toB l)[j].toNat : Int) == 40) = false := by
    intro j h hj
    rw [get_toB h hj]
    have hne : l[j] ≠ 40 := fun e => hf (by rw [← e]; exact List.getElem_mem hj)
    have : l[j].toNat ≠ 40 := fun e => hne (UInt8.toNat_inj.1 (by rw [e]; rfl))
    simp
    omega
  have kP := fun W => rPlain_any (toB l) (by rw [toB_size]; omega) W
  rw [toB_toList, hd] at kP
  have HB : Hid (∀ k, k ≤ 16 → numOf (l.take k) < 10000000000000000) := by
    intro k hk
    have h1 := numOf_lt (l.take k) (fun c hc => hdig c (List.mem_of_mem_take hc)) 0
    have h2 : (l.take k).length ≤ 16 := by rw [List.length_take]; omega
    have h3 : 10 ^ (l.take k).length ≤ 10 ^ 16 := Nat.pow_le_pow_right (by decide) h2
    have h4 : (10 : Nat) ^ 16 = 10000000000000000 := by decide
    unfold numOf
    omega
  have HD : Hid (∀ k (hk : k < (toB l).size), 48 ≤ ((toB l)[k].toNat : Int) ∧ ((toB l)[k].toNat : Int) ≤ 57 ∧ numOf (l.take (k + 1)) = numOf (l.take k) * 10 + ((toB l)[k].toNat - 48)) := by
    intro k hk
    have hk' : k < l.length := by rw [toB_size] at hk; exact hk
    have h1 := hdig l[k] (List.getElem_mem hk')
    rw [get_toB hk hk']
    simp [isDig] at h1
    refine ⟨by omega, by omega, ?_⟩
    rw [List.take_succ_eq_append_getElem hk', numOf_app]
  have hs15 : 16 ≤ (toB l).size := by rw [toB_size]; exact hl16
  have hs15' : ¬ ((toB l).size : Int) ≤ 15 := by omega
  clear h1 h2 hl hm1 hw hf hd hnil hdig hl16
  generalize hS : toB l = S at *
  clear hS
  generalize hF : l.length = F at *
  clear hF
  go_enter Tryz.func52, Tryz.ntmps52
  go_wp2_with (first
    | (go_at_call 69; (with_reducible refine (kN _).mono ?_); rintro e w1 ⟨rfl, hw⟩; subst w1)
    | (go_at_call 69; (with_reducible refine (kM _).mono ?_); rintro e w1 ⟨rfl, hw⟩; subst w1)
    | (go_at_call 70; (with_reducible refine (kW _).mono ?_); rintro e w1 ⟨rfl, hw⟩; subst w1))
  go_loopw [12] (fun iv wr => ∃ j : Nat, j ≤ F ∧ iv = .int .i64 j ∧ wr = W.alloc (.cells #[.int .i64 0, .string ⟨#[]⟩, .int .i64 0, .slice none 0 0] 81)) (fun iv _ => F - (intOf iv).toNat)
  case atStart => exact ⟨0, Nat.zero_le _, rfl, rfl⟩
  case round =>
    obtain ⟨j, hj, rfl, rfl⟩ := hrel
    by_cases hlt : j < F
    · have hjs : j < S.size := by omega
      have hjb := hne j hjs hlt
      clear hne
      go_wp2
      go_roundw
      case rel => exact ⟨j + 1, by omega, by go_num, by first | rfl | trivial⟩
      case measure => simp [intOf]; omega
    · have hj' : j = F := by omega
      subst hj'
      clear hne hlt
      go_wp2_with (first
        | (go_at_call 72; (with_reducible refine (kP _).mono ?_); rintro e w1 ⟨rfl, hw⟩; subst w1))
      go_loopw [15, 16] (fun nv iv wr => ∃ k : Nat, k ≤ 16 ∧ iv = .int .i64 k ∧ nv = .int .i64 (numOf (l.take k) : Int) ∧ wr = W.alloc (.cells #[.int .i64 0, .string ⟨#[]⟩, .int .i64 0, .slice none 0 0] 81)) (fun _ iv _ => 16 - (intOf iv).toNat)
      case atStart => exact ⟨0, Nat.zero_le _, rfl, by simp [numOf], rfl⟩
      case round =>
        obtain ⟨k, hk, rfl, rfl, rfl⟩ := hrel
        by_cases hlt : k < 16
        · have hks : k < S.size := by omega
          obtain ⟨d1, d2, d3⟩ := HD.out k hks
          have b1 := HB.out k hk
          have b16 : (k : Int) < 16 := by omega
          have H3 : Hid _ := d3
          clear d3 HD
          generalize numOf (l.take k) = nn at *
          have hsub : IntKind.u8.wrap ((S[k].toNat : Int) - 48) = (S[k].toNat : Int) - 48 := by
            rw [IntKind.wrap_u8]
            omega
          go_wp2
          go_roundw
          case rel =>
            refine ⟨k + 1, by omega, by go_num, ?_, by first | rfl | trivial⟩
            rw [H3.out]
            congr 1
            omega
          case measure => simp [intOf]; omega
        · have hk' : k = 16 := by omega
          subst hk'
          clear HD HB
          generalize numOf (l.take 16) = nn at *
          by_cases h16 : (16 : Int) < (S.size : Int)
          · go_wp2
            refine bodyPost_ret (v := .tuple #[.agg #[.int .i64 2, .string ⟨#[]⟩, .int .i64 (nn : Int), .slice none 0 0], .bool false]) (by simp [results, Tryz.results52, go_sem]) rfl ⟨⟨_, _, _, _, _, _, .inl ⟨rfl, RT.no HI.out⟩⟩, by repeat (first | with_reducible exact Adds.refl _ | with_reducible refine Adds.alloc ?_ _ | with_reducible refine Adds.more ?_ _ _ | with_reducible refine Adds.drew ?_ | with_reducible refine Adds.drewN ?_ _)⟩
          · go_wp2
            refine bodyPost_ret (v := .tuple #[.agg #[.int .i64 2, .string ⟨#[]⟩, .int .i64 (nn : Int), .slice none 0 0], .bool false]) (by simp [results, Tryz.results52, go_sem]) rfl ⟨⟨_, _, _, _, _, _, .inl ⟨rfl, RT.no HI.out⟩⟩, by repeat (first | with_reducible exact Adds.refl _ | with_reducible refine Adds.alloc ?_ _ | with_reducible refine Adds.more ?_ _ _ | with_reducible refine Adds.drew ?_ | with_reducible refine Adds.drewN ?_ _)⟩

end Go.Proofs.YtiacnmcdfpmcfaaGreatDoor
