/-
  The printing of expressions: what is printed is read back, and is no longer than what was read.
-/
import Derived.Test.YtdlkpkldlljhcaaDoorGref
import Derived.Test.YtdlkpkldlljhcaaDoorSums
namespace Go.Proofs.YtdlkpkldlljhcaaDoor
open Go.RowKit
attribute [local go_sem] cell?_more frozen?_more setCell_more size_more tape_more drew_more drewN_more more_drew more_drewN one_out plus_out plus_end lt_one le_p2 le_p3 le_p4 le_p5 le_p6 le_p7 le_p8 le_p9 le_p10 le_p11 le_p12 le_p13 le_p14 le_p15 le_p16 le_p17 le_p18 le_p19 le_p20 le_p21 le_p22 le_p23 le_p24 le_q0 le_q1 lt_q1 le_q2 lt_q2 le_q3 lt_q3 le_q4 lt_q4 le_q5 lt_q5 le_q6 lt_q6 le_q7 lt_q7 le_q8 lt_q8 le_q9 lt_q9 le_q10 lt_q10 le_q11 lt_q11 le_q12 lt_q12 le_q13 lt_q13 le_q14 lt_q14 le_q15 lt_q15 le_q16 lt_q16 le_q17 lt_q17 le_q18 lt_q18 le_q19 lt_q19 le_q20 lt_q20 le_q21 lt_q21 le_q22 lt_q22 le_q23 lt_q23 le_q24 lt_q24

def E.isSum : E → Bool | .sum _ _ => true | _ => false
def E.isMul : E → Bool | .mul _ _ => true | _ => false

def parL (b : Bool) (l : List UInt8) : List UInt8 := if b then 40 :: (l ++ [41]) else l

/-- An expression's text. -/
def E.print : E → List UInt8
  | .path t => t
  | .num n => digL n
  | .sum a b => a.print ++ 43 :: parL b.isSum b.print
  | .mul a b => parL a.isSum a.print ++ 42 :: parL (b.isSum || b.isMul) b.print
  | .call f a => f ++ 40 :: (a.print ++ [41])

theorem digL_dig : ∀ (n : Nat), ∀ c ∈ digL n, isDig c = true := by
  intro n
  induction n using Nat.strongRecOn with
  | _ n ih =>
    intro c hc
    by_cases h : n < 10
    · rw [digL_one h] at hc
      simp only [List.mem_singleton] at hc
      subst hc
      simp [isDig]
      omega
    · rw [digL_more h] at hc
      rcases List.mem_append.1 hc with hc | hc
      · exact ih (n / 10) (by omega) c hc
      · simp only [List.mem_singleton] at hc
        subst hc
        simp [isDig]
        omega

theorem numOf_append (a : List UInt8) (c : UInt8) : numOf (a ++ [c]) = numOf a * 10 + (c.toNat - 48) := by simp [numOf]

theorem numOf_digL : ∀ (n : Nat), numOf (digL n) = n := by
  intro n
  induction n using Nat.strongRecOn with
  | _ n ih =>
    by_cases h : n < 10
    · rw [digL_one h]
      simp [numOf]
      omega
    · rw [digL_more h, numOf_append, ih (n / 10) (by omega)]
      simp
      omega

theorem leaf_digL {n : Nat} (h : n < 1000000000000000) : leafE (digL n) = some (.num n) := by
  have hd := digL_dig n
  have hne := digL_ne n
  unfold leafE
  rw [if_pos (by simp only [digs, allDig, Bool.and_eq_true, List.all_eq_true]; exact ⟨hd, by simpa using hne⟩)]
  have hl := digL_len 15 n (by simpa using h)
  have hz : ¬ ((digL n).length > 1 ∧ (digL n).head? = some 48) := (digL_iff hd hne).1 (by rw [numOf_digL])
  have hn : ¬ ((digL n).length > 15 ∨ (digL n).length > 1 ∧ (digL n).head? = some 48) := by
    rintro (h | h)
    · omega
    · exact hz h
  rw [if_neg hn, numOf_digL]

/-- How high an expression stands. -/
def E.lv : E → Lv | .sum _ _ => .sum | .mul _ _ => .mul | _ => .part

theorem G_par {s : List UInt8} {e : E} (h : G .sum s e) : G .part (parL true s) e := .paren h

theorem G_up {lv : Lv} {s : List UInt8} {e : E} (h : G lv s e) : G .sum s e := by
  cases lv with
  | part => exact .up2 (.up1 h)
  | mul => exact .up2 h
  | sum => exact h

theorem G_mulOf {s : List UInt8} {e : E} (h : G e.lv s e) : G .mul (parL e.isSum s) e := by
  cases e with
  | sum a b => exact .up1 (G_par h)
  | mul a b => exact h
  | path t => exact .up1 h
  | num n => exact .up1 h
  | call f a => exact .up1 h

theorem G_partOf {s : List UInt8} {e : E} (h : G e.lv s e) : G .part (parL (e.isSum || e.isMul) s) e := by
  cases e with
  | sum a b => exact G_par h
  | mul a b => exact G_par (.up2 h)
  | path t => exact h
  | num n => exact h
  | call f a => exact h

theorem G_print : ∀ (e : E), e.ok → G e.lv e.print e
  | .path t, h => by
    refine .leaf ?_
    show leafE t = _
    unfold leafE
    have h2 : digs t = false := by
      have : allDig t = false := h.2
      simp [digs, this]
    rw [if_neg (by rw [h2]; simp), if_pos h.1]
  | .num n, h => .leaf (leaf_digL h)
  | .sum a b, h => .add (G_up (G_print a h.1)) (G_mulOf (G_print b h.2))
  | .mul a b, h => .mul (G_mulOf (G_print a h.1)) (G_partOf (G_print b h.2))
  | .call f a, h => .call h.1 (G_up (G_print a h.2))

theorem parL_len (b : Bool) (l : List UInt8) : (parL b l).length = l.length + (if b then 2 else 0) := by
  cases b <;> simp [parL]

/-- What an expression's text is at a place. -/
def E.at (lv : Lv) (e : E) : List UInt8 :=
  match lv with
  | .part => parL (e.isSum || e.isMul) e.print
  | .mul => parL e.isSum e.print
  | .sum => e.print

/-- No text is shorter. -/
theorem print_least {lv : Lv} {s : List UInt8} {e : E} (h : G lv s e) : (e.at lv).length ≤ s.length := by
  induction h with
  | @leaf s e h =>
    unfold leafE at h
    split at h
    · rename_i hd
      split at h
      · cases h
      · rename_i hl
        simp only [Option.some.injEq] at h
        subst h
        simp only [digs, allDig, Bool.and_eq_true, List.all_eq_true] at hd
        have := digL_back s.length s rfl hd.1 (by rintro rfl; simp at hd) (fun h => hl (.inr h))
        simp [E.at, E.isSum, E.isMul, parL, E.print, this]
    · split at h
      · simp only [Option.some.injEq] at h
        subst h
        simp [E.at, E.isSum, E.isMul, parL, E.print]
      · cases h
  | @paren a x _ ih =>
    simp only [E.at] at ih ⊢
    rw [parL_len]
    simp only [List.length_cons, List.length_append, List.length_nil]
    split <;> omega
  | @call f a x _ _ ih =>
    simp only [E.at] at ih
    simp only [E.at, E.isSum, E.isMul, Bool.or_self, parL, Bool.false_eq_true, if_false, E.print, List.length_append, List.length_cons, List.length_nil]
    omega
  | @up1 s e _ ih =>
    simp only [E.at, parL_len] at ih ⊢
    generalize e.isSum = p at *
    generalize e.isMul = q at *
    cases p <;> cases q <;> simp only [Bool.or_self, Bool.or_true, Bool.or_false, Bool.false_eq_true, if_false, if_true] at ih ⊢ <;> omega
  | @mul a x b y _ _ iha ihb =>
    simp only [E.at] at iha ihb
    have e1 : (E.mul x y).at .mul = parL x.isSum x.print ++ 42 :: parL (y.isSum || y.isMul) y.print := rfl
    rw [e1]
    simp only [List.length_append, List.length_cons]
    omega
  | @up2 s e _ ih =>
    simp only [E.at, parL_len] at ih ⊢
    omega
  | @add a x b y _ _ iha ihb =>
    simp only [E.at] at iha ihb
    simp only [E.at, E.print, List.length_append, List.length_cons]
    omega

end Go.Proofs.YtdlkpkldlljhcaaDoor
