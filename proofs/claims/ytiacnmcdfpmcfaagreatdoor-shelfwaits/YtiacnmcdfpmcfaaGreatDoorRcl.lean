/-
  The reference's read of a call.
-/
import Derived.Test.YtiacnmcdfpmcfaaGreatDoorQ29
namespace Go.Proofs.YtiacnmcdfpmcfaaGreatDoor
open Go.RowKit
attribute [local go_sem] cell?_more frozen?_more setCell_more size_more tape_more drew_more drewN_more more_drew more_drewN one_out plus_out plus_end lt_one le_p2 le_p3 le_p4 le_p5 le_p6 le_p7 le_p8 le_p9 le_p10 le_p11 le_p12 le_p13 le_p14 le_p15 le_p16 le_p17 le_p18 le_p19 le_p20 le_p21 le_p22 le_p23 le_p24 le_q0 le_q1 lt_q1 le_q2 lt_q2 le_q3 lt_q3 le_q4 lt_q4 le_q5 lt_q5 le_q6 lt_q6 le_q7 lt_q7 le_q8 lt_q8 le_q9 lt_q9 le_q10 lt_q10 le_q11 lt_q11 le_q12 lt_q12 le_q13 lt_q13 le_q14 lt_q14 le_q15 lt_q15 le_q16 lt_q16 le_q17 lt_q17 le_q18 lt_q18 le_q19 lt_q19 le_q20 lt_q20 le_q21 lt_q21 le_q22 lt_q22 le_q23 lt_q23 le_q24 lt_q24


theorem get_toB {l : List UInt8} {j : Nat} (h : j < (toB l).size) (h' : j < l.length) : (toB l)[j]'h = l[j]'h' := by
  have e : (toB l).toList[j]'(by rw [toB_toList]; exact h') = (toB l)[j]'h := toList_get ..
  rw [← e]
  simp only [toB_toList]
theorem ext_to {f r : List UInt8} : (toB (f ++ r)).extract 0 f.length = toB f := toList_inj (by rw [extract_L, toB_toList, toB_toList]; simp)
theorem ext_from {f r : List UInt8} : (toB (f ++ r)).extract f.length (toB (f ++ r)).size = toB r := toList_inj (by rw [extract_L, toB_toList, toB_toList, toB_size, List.take_length, List.drop_left])
theorem ext_arg {f a : List UInt8} : (toB (f ++ 40 :: (a ++ [41]))).extract (f.length + 1) ((toB (f ++ 40 :: (a ++ [41]))).size - 1) = toB a := by
  refine toList_inj ?_
  rw [extract_L, toB_toList, toB_toList, toB_size]
  have e1 : f ++ 40 :: (a ++ [41]) = ((f ++ [40]) ++ a) ++ [41] := by simp
  have e2 : (f ++ 40 :: (a ++ [41])).length - 1 = ((f ++ [40]) ++ a).length := by simp
  have e3 : f.length + 1 = (f ++ [40]).length := by simp
  rw [e2, e1, List.take_left, e3, List.drop_left]

/-- Of a call: the argument, and the box of the answer set anew. -/
theorem rt_call {W : World} {o o' : Obj} {os2 : Array Obj} {d2 : Nat} {l p f : List UInt8} {oa : Obj} {k1 m1 : Int} {t1 : ByteArray} {s1 : Value} {q : Bool} {g : Nat}
    (hI : ∀ e, G .sum l e ↔ ∃ x, e = .call f x ∧ G .sum p x)
    (h1 : RT (W.alloc o).heap.size p k1 t1 m1 s1 q (more (W.alloc o) os2 d2)) (hg : g = ((more (W.alloc o) os2 d2).alloc oa).heap.size) :
    RT W.heap.size l 5 (toB f) 0 (.slice (some ⟨g, 0, none⟩) 1 1) q (((more (W.alloc o') os2 d2).alloc oa).alloc (.cells #[.int .i64 k1, .string t1, .int .i64 m1, s1] 81)) := by
  have hb := ((But1.box W o o').more os2 d2)
  have e1 : W.heap.size < (W.alloc o).heap.size := by simp
  have h1' := (h1.but1 hb e1).low (Nat.le_of_lt e1)
  cases q with
  | true =>
    obtain ⟨x, D, g1, T⟩ := rt_one (X := (more (W.alloc o') os2 d2).alloc oa) (g := g) h1' ((Adds.refl _).alloc oa) (by rw [hg]; simp [size_more]) (by rw [hg]; simp [size_more]; omega)
    exact ⟨fun _ => ⟨.call f x, D, (hI _).2 ⟨x, rfl, g1⟩, rfl, rfl, rfl, T⟩, fun h => by cases h⟩
  | false =>
    refine RT.no (fun e he => ?_)
    obtain ⟨x, rfl, g1⟩ := (hI e).1 he
    exact h1.2 rfl x g1

set_option maxHeartbeats 4000000 in
set_option maxRecDepth 20000 in
theorem reads_call {m : Nat} {f a : List UInt8} (hm : m ≤ 300) (hl : (f ++ 40 :: (a ++ [41])).length ≤ 1000) (h1 : noTop 43 0 (f ++ 40 :: (a ++ [41]))) (h2 : noTop 42 0 (f ++ 40 :: (a ++ [41]))) (hf : (40 : UInt8) ∉ f) (hw : wholeL (f ++ 40 :: (a ++ [41])) = false)
    (hn : isName f = true) (hw2 : wholeL (40 :: (a ++ [41])) = true) (kA : Reads m a) : Reads (m + 1) (f ++ 40 :: (a ++ [41])) := by
  intro W
  have HI : Hid (∀ e, G .sum (f ++ 40 :: (a ++ [41])) e ↔ ∃ x, e = .call f x ∧ G .sum a x) := by
    intro e
    rw [G_call h1 h2 hf hw]
    constructor
    · rintro ⟨_, _, b, x, e1, rfl, g⟩
      have : a = b := by simpa using e1
      subst this
      exact ⟨x, rfl, g⟩
    · rintro ⟨x, rfl, g⟩
      exact ⟨hn, hw2, a, x, rfl, rfl, g⟩
  have kN := fun W => rLast_any (toB (f ++ 40 :: (a ++ [41]))) (by rw [toB_size]; exact hl) 43 W
  rw [toB_toList, lastL_none (by decide) h1] at kN
  have kM := fun W => rLast_any (toB (f ++ 40 :: (a ++ [41]))) (by rw [toB_size]; exact hl) 42 W
  rw [toB_toList, lastL_none (by decide) h2] at kM
  have hn43 : (((43 : UInt8).toNat : Nat) : Int) = 43 := rfl
  have hn42 : (((42 : UInt8).toNat : Nat) : Int) = 42 := rfl
  rw [hn43] at kN
  rw [hn42] at kM
  clear hn43 hn42
  have kW := fun W => rWhole_any (toB (f ++ 40 :: (a ++ [41]))) (by rw [toB_size]; exact hl) W
  rw [toB_toList, hw] at kW
  have hsz : (toB (f ++ 40 :: (a ++ [41]))).size ≤ 1000 := by rw [toB_size]; exact hl
  have he : ((toB (f ++ 40 :: (a ++ [41]))).toList == []) = false := by rw [toB_toList]; simp
  have hm1 : ((m + 1 : Nat) : Int) = (m : Int) + 1 := by omega
  rw [hm1]
  have hmz : ((m : Int) + 1 == 0) = false := by simp; omega

  unfold Reads at kA
  rw [← ext_arg (f := f) (a := a)] at kA
  have kI := fun W => rName_any (toB f) W
  rw [toB_toList, hn] at kI
  have kV := fun W => rWhole_any (toB (40 :: (a ++ [41]))) (by rw [toB_size]; simp at hl ⊢; omega) W
  rw [toB_toList, hw2] at kV
  rw [← ext_from (f := f) (r := 40 :: (a ++ [41]))] at kV
  have hsF : f.length + 2 ≤ (toB (f ++ 40 :: (a ++ [41]))).size := by rw [toB_size]; simp
  have hne : ∀ j (h : j < (toB (f ++ 40 :: (a ++ [41]))).size), j < f.length → (((toB (f ++ 40 :: (a ++ [41])))[j].toNat : Int) == 40) = false := by
    intro j h hj
    rw [get_toB h (by simp; omega), List.getElem_append_left hj]
    have hne : f[j] ≠ 40 := fun e => hf (by rw [← e]; exact List.getElem_mem hj)
    have : f[j].toNat ≠ 40 := fun e => hne (UInt8.toNat_inj.1 (by rw [e]; rfl))
    simp
    omega
  have hat : ∀ (h : f.length < (toB (f ++ 40 :: (a ++ [41]))).size), ((toB (f ++ 40 :: (a ++ [41])))[f.length].toNat : Int) = 40 := by
    intro h
    rw [get_toB h (by simp), List.getElem_append_right (Nat.le_refl _)]
    simp
  clear h1 h2 hl hm1 hw hf hw2 hn
  have hx : toB f = (toB (f ++ 40 :: (a ++ [41]))).extract 0 f.length := ext_to.symm
  rw [hx] at kI
  have HX : Hid (toB f = (toB (f ++ 40 :: (a ++ [41]))).extract 0 f.length) := hx
  clear hx
  generalize toB (f ++ 40 :: (a ++ [41])) = S at *
  generalize hF : f.length = F at *
  clear hF
  have hFs : F < S.size := by omega
  have hat := hat hFs
  go_enter Tryz.func52, Tryz.ntmps52
  go_wp2_with (first
    | (go_at_call 69; (with_reducible refine (kN _).mono ?_); rintro e w1 ⟨rfl, hw⟩; subst w1)
    | (go_at_call 69; (with_reducible refine (kM _).mono ?_); rintro e w1 ⟨rfl, hw⟩; subst w1)
    | (go_at_call 70; (with_reducible refine (kW _).mono ?_); rintro e w1 ⟨rfl, hw⟩; subst w1))
  go_loopw [12] (fun iv wr => ∃ j : Nat, j ≤ F ∧ iv = .int .i64 j ∧ wr = W.alloc (.cells #[.int .i64 0, .string ⟨#[]⟩, .int .i64 0, .slice none 0 0] 81)) (fun iv _ => F - (intOf iv).toNat)
  case atStart => exact ⟨0, Nat.zero_le _, rfl, rfl⟩
  case round =>
    obtain ⟨j, hj, rfl, rfl⟩ := hrel
    by_cases hlt : j < F
    · have hjs : j < S.size := by omega
      have hjb := hne j hjs hlt
      clear hne
      go_wp2
      go_roundw
      case rel => exact ⟨j + 1, by omega, by go_num, by first | rfl | trivial⟩
      case measure => simp [intOf]; omega
    · have hj' : j = F := by omega
      subst hj'
      clear hne hlt

      go_wp2_with (first
        | (go_at_call 71; (with_reducible refine (kI _).mono ?_); rintro e w1 ⟨rfl, hw⟩; subst w1)
        | (go_at_call 70; (with_reducible refine (kV _).mono ?_); rintro e w1 ⟨rfl, hw⟩; subst w1)
        | (go_at_call 52; (with_reducible refine (kA _).mono ?_); rintro e w2 ⟨⟨k1, t1, m1, a1, n1, c1, q1, rfl, hR1⟩, os2, d2, rfl⟩))
      go_region
      all_goals go_wp2
      refine bodyPost_ret (v := .tuple #[.agg #[.int .i64 5, .string (S.extract 0 j), .int .i64 0, .slice (some ⟨W.heap.size + os2.size + 1 + 1, 0, none⟩) 1 1], .bool q1]) (by simp [results, Tryz.results52, go_sem]) rfl ⟨⟨_, _, _, _, _, _, _, rfl, ?_⟩, by repeat (first | with_reducible exact Adds.refl _ | with_reducible refine Adds.alloc ?_ _ | with_reducible refine Adds.more ?_ _ _ | with_reducible refine Adds.drew ?_ | with_reducible refine Adds.drewN ?_ _)⟩
      have hz := RT.adds (rt_call (o' := .cells #[.int .i64 5, .string (S.extract 0 j), .int .i64 0, .slice (some ⟨W.heap.size + os2.size + 1 + 1, 0, none⟩) 1 1] 81) (oa := .cells #[.int .i64 k1, .string t1, .int .i64 m1, .slice a1 n1 c1] 81) (g := W.heap.size + os2.size + 1 + 1) HI.out hR1.out (by simp [size_more]; omega)) (Adds.drew (Adds.refl _))
      rw [HX.out] at hz
      exact hz

set_option maxHeartbeats 4000000 in
set_option maxRecDepth 20000 in
theorem reads_none {m : Nat} {f t : List UInt8} (hm : m ≤ 300) (hl : (f ++ 40 :: t).length ≤ 1000) (h1 : noTop 43 0 (f ++ 40 :: t)) (h2 : noTop 42 0 (f ++ 40 :: t)) (hf : (40 : UInt8) ∉ f) (hw : wholeL (f ++ 40 :: t) = false)
    (hn : isName f = true → wholeL (40 :: t) = false) : Reads (m + 1) (f ++ 40 :: t) := by
  intro W
  have HI : Hid (∀ e, ¬ G .sum (f ++ 40 :: t) e) := by
    intro e he
    obtain ⟨h3, h4, _⟩ := (G_call h1 h2 hf hw).1 he
    rw [hn h3] at h4
    cases h4
  have kN := fun W => rLast_any (toB (f ++ 40 :: t)) (by rw [toB_size]; exact hl) 43 W
  rw [toB_toList, lastL_none (by decide) h1] at kN
  have kM := fun W => rLast_any (toB (f ++ 40 :: t)) (by rw [toB_size]; exact hl) 42 W
  rw [toB_toList, lastL_none (by decide) h2] at kM
  have hn43 : (((43 : UInt8).toNat : Nat) : Int) = 43 := rfl
  have hn42 : (((42 : UInt8).toNat : Nat) : Int) = 42 := rfl
  rw [hn43] at kN
  rw [hn42] at kM
  clear hn43 hn42
  have kW := fun W => rWhole_any (toB (f ++ 40 :: t)) (by rw [toB_size]; exact hl) W
  rw [toB_toList, hw] at kW
  have hsz : (toB (f ++ 40 :: t)).size ≤ 1000 := by rw [toB_size]; exact hl
  have he : ((toB (f ++ 40 :: t)).toList == []) = false := by rw [toB_toList]; simp
  have hm1 : ((m + 1 : Nat) : Int) = (m : Int) + 1 := by omega
  rw [hm1]
  have hmz : ((m : Int) + 1 == 0) = false := by simp; omega

  have kI := fun W => rName_any (toB f) W
  rw [toB_toList] at kI
  have kV := fun W => rWhole_any (toB (40 :: t)) (by rw [toB_size]; simp at hl ⊢; omega) W
  rw [toB_toList] at kV
  rw [← ext_from (f := f) (r := 40 :: t)] at kV
  have hsF : f.length + 1 ≤ (toB (f ++ 40 :: t)).size := by rw [toB_size]; simp
  have hne : ∀ j (h : j < (toB (f ++ 40 :: t)).size), j < f.length → (((toB (f ++ 40 :: t))[j].toNat : Int) == 40) = false := by
    intro j h hj
    rw [get_toB h (by simp; omega), List.getElem_append_left hj]
    have hne : f[j] ≠ 40 := fun e => hf (by rw [← e]; exact List.getElem_mem hj)
    have : f[j].toNat ≠ 40 := fun e => hne (UInt8.toNat_inj.1 (by rw [e]; rfl))
    simp
    omega
  have hat : ∀ (h : f.length < (toB (f ++ 40 :: t)).size), ((toB (f ++ 40 :: t))[f.length].toNat : Int) = 40 := by
    intro h
    rw [get_toB h (by simp), List.getElem_append_right (Nat.le_refl _)]
    simp
  clear h1 h2 hl hm1 hw hf
  have hx : toB f = (toB (f ++ 40 :: t)).extract 0 f.length := ext_to.symm
  rw [hx] at kI
  clear hx
  generalize toB (f ++ 40 :: t) = S at *
  generalize isName f = qn at *
  generalize wholeL (40 :: t) = qw at *
  generalize hF : f.length = F at *
  clear hF
  have hFs : F < S.size := by omega
  have hat := hat hFs
  go_enter Tryz.func52, Tryz.ntmps52
  go_wp2_with (first
    | (go_at_call 69; (with_reducible refine (kN _).mono ?_); rintro e w1 ⟨rfl, hw⟩; subst w1)
    | (go_at_call 69; (with_reducible refine (kM _).mono ?_); rintro e w1 ⟨rfl, hw⟩; subst w1)
    | (go_at_call 70; (with_reducible refine (kW _).mono ?_); rintro e w1 ⟨rfl, hw⟩; subst w1))
  go_loopw [12] (fun iv wr => ∃ j : Nat, j ≤ F ∧ iv = .int .i64 j ∧ wr = W.alloc (.cells #[.int .i64 0, .string ⟨#[]⟩, .int .i64 0, .slice none 0 0] 81)) (fun iv _ => F - (intOf iv).toNat)
  case atStart => exact ⟨0, Nat.zero_le _, rfl, rfl⟩
  case round =>
    obtain ⟨j, hj, rfl, rfl⟩ := hrel
    by_cases hlt : j < F
    · have hjs : j < S.size := by omega
      have hjb := hne j hjs hlt
      clear hne
      go_wp2
      go_roundw
      case rel => exact ⟨j + 1, by omega, by go_num, by first | rfl | trivial⟩
      case measure => simp [intOf]; omega
    · have hj' : j = F := by omega
      subst hj'
      clear hne hlt

      cases qn
      · clear hn kV
        go_wp2_with (first
          | (go_at_call 71; (with_reducible refine (kI _).mono ?_); rintro e w1 ⟨rfl, hw⟩; subst w1))
        refine bodyPost_ret (v := .tuple #[.agg #[.int .i64 0, .string ⟨#[]⟩, .int .i64 0, .slice none 0 0], .bool false]) (by simp [results, Tryz.results52, go_sem]) rfl ⟨⟨_, _, _, _, _, _, _, rfl, RT.no HI.out⟩, by repeat (first | with_reducible exact Adds.refl _ | with_reducible refine Adds.alloc ?_ _ | with_reducible refine Adds.more ?_ _ _ | with_reducible refine Adds.drew ?_ | with_reducible refine Adds.drewN ?_ _)⟩
      · have hq := hn rfl
        subst hq
        clear hn
        go_wp2_with (first
          | (go_at_call 71; (with_reducible refine (kI _).mono ?_); rintro e w1 ⟨rfl, hw⟩; subst w1)
          | (go_at_call 70; (with_reducible refine (kV _).mono ?_); rintro e w1 ⟨rfl, hw⟩; subst w1))
        refine bodyPost_ret (v := .tuple #[.agg #[.int .i64 0, .string ⟨#[]⟩, .int .i64 0, .slice none 0 0], .bool false]) (by simp [results, Tryz.results52, go_sem]) rfl ⟨⟨_, _, _, _, _, _, _, rfl, RT.no HI.out⟩, by repeat (first | with_reducible exact Adds.refl _ | with_reducible refine Adds.alloc ?_ _ | with_reducible refine Adds.more ?_ _ _ | with_reducible refine Adds.drew ?_ | with_reducible refine Adds.drewN ?_ _)⟩

end Go.Proofs.YtiacnmcdfpmcfaaGreatDoor
