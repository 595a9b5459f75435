/-
  More of the walk's side conditions: sums of many parts.
-/
import Derived.Test.YtccddgohagakoaaGrow
namespace Go.Proofs.Ytccddgohagakoaa

theorem plus_end (a b : Nat) (os : Array Obj) : a + (b + os.size) = a + b + os.size := by omega
theorem le_p13 (a x1 x2 x3 x4 x5 x6 x7 x8 x9 x10 x11 x12 x13 : Nat) : (a ≤ a + x1 + x2 + x3 + x4 + x5 + x6 + x7 + x8 + x9 + x10 + x11 + x12 + x13) = True := by simp only [eq_iff_iff, iff_true]; omega
theorem le_p14 (a x1 x2 x3 x4 x5 x6 x7 x8 x9 x10 x11 x12 x13 x14 : Nat) : (a ≤ a + x1 + x2 + x3 + x4 + x5 + x6 + x7 + x8 + x9 + x10 + x11 + x12 + x13 + x14) = True := by simp only [eq_iff_iff, iff_true]; omega
theorem le_p15 (a x1 x2 x3 x4 x5 x6 x7 x8 x9 x10 x11 x12 x13 x14 x15 : Nat) : (a ≤ a + x1 + x2 + x3 + x4 + x5 + x6 + x7 + x8 + x9 + x10 + x11 + x12 + x13 + x14 + x15) = True := by simp only [eq_iff_iff, iff_true]; omega
theorem le_p16 (a x1 x2 x3 x4 x5 x6 x7 x8 x9 x10 x11 x12 x13 x14 x15 x16 : Nat) : (a ≤ a + x1 + x2 + x3 + x4 + x5 + x6 + x7 + x8 + x9 + x10 + x11 + x12 + x13 + x14 + x15 + x16) = True := by simp only [eq_iff_iff, iff_true]; omega
theorem le_p17 (a x1 x2 x3 x4 x5 x6 x7 x8 x9 x10 x11 x12 x13 x14 x15 x16 x17 : Nat) : (a ≤ a + x1 + x2 + x3 + x4 + x5 + x6 + x7 + x8 + x9 + x10 + x11 + x12 + x13 + x14 + x15 + x16 + x17) = True := by simp only [eq_iff_iff, iff_true]; omega
theorem le_p18 (a x1 x2 x3 x4 x5 x6 x7 x8 x9 x10 x11 x12 x13 x14 x15 x16 x17 x18 : Nat) : (a ≤ a + x1 + x2 + x3 + x4 + x5 + x6 + x7 + x8 + x9 + x10 + x11 + x12 + x13 + x14 + x15 + x16 + x17 + x18) = True := by simp only [eq_iff_iff, iff_true]; omega
theorem le_p19 (a x1 x2 x3 x4 x5 x6 x7 x8 x9 x10 x11 x12 x13 x14 x15 x16 x17 x18 x19 : Nat) : (a ≤ a + x1 + x2 + x3 + x4 + x5 + x6 + x7 + x8 + x9 + x10 + x11 + x12 + x13 + x14 + x15 + x16 + x17 + x18 + x19) = True := by simp only [eq_iff_iff, iff_true]; omega
theorem le_p20 (a x1 x2 x3 x4 x5 x6 x7 x8 x9 x10 x11 x12 x13 x14 x15 x16 x17 x18 x19 x20 : Nat) : (a ≤ a + x1 + x2 + x3 + x4 + x5 + x6 + x7 + x8 + x9 + x10 + x11 + x12 + x13 + x14 + x15 + x16 + x17 + x18 + x19 + x20) = True := by simp only [eq_iff_iff, iff_true]; omega
theorem le_p21 (a x1 x2 x3 x4 x5 x6 x7 x8 x9 x10 x11 x12 x13 x14 x15 x16 x17 x18 x19 x20 x21 : Nat) : (a ≤ a + x1 + x2 + x3 + x4 + x5 + x6 + x7 + x8 + x9 + x10 + x11 + x12 + x13 + x14 + x15 + x16 + x17 + x18 + x19 + x20 + x21) = True := by simp only [eq_iff_iff, iff_true]; omega
theorem le_p22 (a x1 x2 x3 x4 x5 x6 x7 x8 x9 x10 x11 x12 x13 x14 x15 x16 x17 x18 x19 x20 x21 x22 : Nat) : (a ≤ a + x1 + x2 + x3 + x4 + x5 + x6 + x7 + x8 + x9 + x10 + x11 + x12 + x13 + x14 + x15 + x16 + x17 + x18 + x19 + x20 + x21 + x22) = True := by simp only [eq_iff_iff, iff_true]; omega
theorem le_p23 (a x1 x2 x3 x4 x5 x6 x7 x8 x9 x10 x11 x12 x13 x14 x15 x16 x17 x18 x19 x20 x21 x22 x23 : Nat) : (a ≤ a + x1 + x2 + x3 + x4 + x5 + x6 + x7 + x8 + x9 + x10 + x11 + x12 + x13 + x14 + x15 + x16 + x17 + x18 + x19 + x20 + x21 + x22 + x23) = True := by simp only [eq_iff_iff, iff_true]; omega
theorem le_p24 (a x1 x2 x3 x4 x5 x6 x7 x8 x9 x10 x11 x12 x13 x14 x15 x16 x17 x18 x19 x20 x21 x22 x23 x24 : Nat) : (a ≤ a + x1 + x2 + x3 + x4 + x5 + x6 + x7 + x8 + x9 + x10 + x11 + x12 + x13 + x14 + x15 + x16 + x17 + x18 + x19 + x20 + x21 + x22 + x23 + x24) = True := by simp only [eq_iff_iff, iff_true]; omega
theorem le_q1 (a n x1 : Nat) (h : a < n) : (a ≤ n + x1) = True := by simp only [eq_iff_iff, iff_true]; omega
theorem lt_q1 (a n x1 : Nat) (h : a < n) : (a < n + x1) = True := by simp only [eq_iff_iff, iff_true]; omega
theorem le_q2 (a n x1 x2 : Nat) (h : a < n) : (a ≤ n + x1 + x2) = True := by simp only [eq_iff_iff, iff_true]; omega
theorem lt_q2 (a n x1 x2 : Nat) (h : a < n) : (a < n + x1 + x2) = True := by simp only [eq_iff_iff, iff_true]; omega
theorem le_q3 (a n x1 x2 x3 : Nat) (h : a < n) : (a ≤ n + x1 + x2 + x3) = True := by simp only [eq_iff_iff, iff_true]; omega
theorem lt_q3 (a n x1 x2 x3 : Nat) (h : a < n) : (a < n + x1 + x2 + x3) = True := by simp only [eq_iff_iff, iff_true]; omega
theorem le_q4 (a n x1 x2 x3 x4 : Nat) (h : a < n) : (a ≤ n + x1 + x2 + x3 + x4) = True := by simp only [eq_iff_iff, iff_true]; omega
theorem lt_q4 (a n x1 x2 x3 x4 : Nat) (h : a < n) : (a < n + x1 + x2 + x3 + x4) = True := by simp only [eq_iff_iff, iff_true]; omega
theorem le_q5 (a n x1 x2 x3 x4 x5 : Nat) (h : a < n) : (a ≤ n + x1 + x2 + x3 + x4 + x5) = True := by simp only [eq_iff_iff, iff_true]; omega
theorem lt_q5 (a n x1 x2 x3 x4 x5 : Nat) (h : a < n) : (a < n + x1 + x2 + x3 + x4 + x5) = True := by simp only [eq_iff_iff, iff_true]; omega
theorem le_q6 (a n x1 x2 x3 x4 x5 x6 : Nat) (h : a < n) : (a ≤ n + x1 + x2 + x3 + x4 + x5 + x6) = True := by simp only [eq_iff_iff, iff_true]; omega
theorem lt_q6 (a n x1 x2 x3 x4 x5 x6 : Nat) (h : a < n) : (a < n + x1 + x2 + x3 + x4 + x5 + x6) = True := by simp only [eq_iff_iff, iff_true]; omega
theorem le_q7 (a n x1 x2 x3 x4 x5 x6 x7 : Nat) (h : a < n) : (a ≤ n + x1 + x2 + x3 + x4 + x5 + x6 + x7) = True := by simp only [eq_iff_iff, iff_true]; omega
theorem lt_q7 (a n x1 x2 x3 x4 x5 x6 x7 : Nat) (h : a < n) : (a < n + x1 + x2 + x3 + x4 + x5 + x6 + x7) = True := by simp only [eq_iff_iff, iff_true]; omega
theorem le_q8 (a n x1 x2 x3 x4 x5 x6 x7 x8 : Nat) (h : a < n) : (a ≤ n + x1 + x2 + x3 + x4 + x5 + x6 + x7 + x8) = True := by simp only [eq_iff_iff, iff_true]; omega
theorem lt_q8 (a n x1 x2 x3 x4 x5 x6 x7 x8 : Nat) (h : a < n) : (a < n + x1 + x2 + x3 + x4 + x5 + x6 + x7 + x8) = True := by simp only [eq_iff_iff, iff_true]; omega
theorem le_q9 (a n x1 x2 x3 x4 x5 x6 x7 x8 x9 : Nat) (h : a < n) : (a ≤ n + x1 + x2 + x3 + x4 + x5 + x6 + x7 + x8 + x9) = True := by simp only [eq_iff_iff, iff_true]; omega
theorem lt_q9 (a n x1 x2 x3 x4 x5 x6 x7 x8 x9 : Nat) (h : a < n) : (a < n + x1 + x2 + x3 + x4 + x5 + x6 + x7 + x8 + x9) = True := by simp only [eq_iff_iff, iff_true]; omega
theorem le_q10 (a n x1 x2 x3 x4 x5 x6 x7 x8 x9 x10 : Nat) (h : a < n) : (a ≤ n + x1 + x2 + x3 + x4 + x5 + x6 + x7 + x8 + x9 + x10) = True := by simp only [eq_iff_iff, iff_true]; omega
theorem lt_q10 (a n x1 x2 x3 x4 x5 x6 x7 x8 x9 x10 : Nat) (h : a < n) : (a < n + x1 + x2 + x3 + x4 + x5 + x6 + x7 + x8 + x9 + x10) = True := by simp only [eq_iff_iff, iff_true]; omega
theorem le_q11 (a n x1 x2 x3 x4 x5 x6 x7 x8 x9 x10 x11 : Nat) (h : a < n) : (a ≤ n + x1 + x2 + x3 + x4 + x5 + x6 + x7 + x8 + x9 + x10 + x11) = True := by simp only [eq_iff_iff, iff_true]; omega
theorem lt_q11 (a n x1 x2 x3 x4 x5 x6 x7 x8 x9 x10 x11 : Nat) (h : a < n) : (a < n + x1 + x2 + x3 + x4 + x5 + x6 + x7 + x8 + x9 + x10 + x11) = True := by simp only [eq_iff_iff, iff_true]; omega
theorem le_q12 (a n x1 x2 x3 x4 x5 x6 x7 x8 x9 x10 x11 x12 : Nat) (h : a < n) : (a ≤ n + x1 + x2 + x3 + x4 + x5 + x6 + x7 + x8 + x9 + x10 + x11 + x12) = True := by simp only [eq_iff_iff, iff_true]; omega
theorem lt_q12 (a n x1 x2 x3 x4 x5 x6 x7 x8 x9 x10 x11 x12 : Nat) (h : a < n) : (a < n + x1 + x2 + x3 + x4 + x5 + x6 + x7 + x8 + x9 + x10 + x11 + x12) = True := by simp only [eq_iff_iff, iff_true]; omega
theorem le_q13 (a n x1 x2 x3 x4 x5 x6 x7 x8 x9 x10 x11 x12 x13 : Nat) (h : a < n) : (a ≤ n + x1 + x2 + x3 + x4 + x5 + x6 + x7 + x8 + x9 + x10 + x11 + x12 + x13) = True := by simp only [eq_iff_iff, iff_true]; omega
theorem lt_q13 (a n x1 x2 x3 x4 x5 x6 x7 x8 x9 x10 x11 x12 x13 : Nat) (h : a < n) : (a < n + x1 + x2 + x3 + x4 + x5 + x6 + x7 + x8 + x9 + x10 + x11 + x12 + x13) = True := by simp only [eq_iff_iff, iff_true]; omega
theorem le_q14 (a n x1 x2 x3 x4 x5 x6 x7 x8 x9 x10 x11 x12 x13 x14 : Nat) (h : a < n) : (a ≤ n + x1 + x2 + x3 + x4 + x5 + x6 + x7 + x8 + x9 + x10 + x11 + x12 + x13 + x14) = True := by simp only [eq_iff_iff, iff_true]; omega
theorem lt_q14 (a n x1 x2 x3 x4 x5 x6 x7 x8 x9 x10 x11 x12 x13 x14 : Nat) (h : a < n) : (a < n + x1 + x2 + x3 + x4 + x5 + x6 + x7 + x8 + x9 + x10 + x11 + x12 + x13 + x14) = True := by simp only [eq_iff_iff, iff_true]; omega
theorem le_q15 (a n x1 x2 x3 x4 x5 x6 x7 x8 x9 x10 x11 x12 x13 x14 x15 : Nat) (h : a < n) : (a ≤ n + x1 + x2 + x3 + x4 + x5 + x6 + x7 + x8 + x9 + x10 + x11 + x12 + x13 + x14 + x15) = True := by simp only [eq_iff_iff, iff_true]; omega
theorem lt_q15 (a n x1 x2 x3 x4 x5 x6 x7 x8 x9 x10 x11 x12 x13 x14 x15 : Nat) (h : a < n) : (a < n + x1 + x2 + x3 + x4 + x5 + x6 + x7 + x8 + x9 + x10 + x11 + x12 + x13 + x14 + x15) = True := by simp only [eq_iff_iff, iff_true]; omega
theorem le_q16 (a n x1 x2 x3 x4 x5 x6 x7 x8 x9 x10 x11 x12 x13 x14 x15 x16 : Nat) (h : a < n) : (a ≤ n + x1 + x2 + x3 + x4 + x5 + x6 + x7 + x8 + x9 + x10 + x11 + x12 + x13 + x14 + x15 + x16) = True := by simp only [eq_iff_iff, iff_true]; omega
theorem lt_q16 (a n x1 x2 x3 x4 x5 x6 x7 x8 x9 x10 x11 x12 x13 x14 x15 x16 : Nat) (h : a < n) : (a < n + x1 + x2 + x3 + x4 + x5 + x6 + x7 + x8 + x9 + x10 + x11 + x12 + x13 + x14 + x15 + x16) = True := by simp only [eq_iff_iff, iff_true]; omega
theorem le_q17 (a n x1 x2 x3 x4 x5 x6 x7 x8 x9 x10 x11 x12 x13 x14 x15 x16 x17 : Nat) (h : a < n) : (a ≤ n + x1 + x2 + x3 + x4 + x5 + x6 + x7 + x8 + x9 + x10 + x11 + x12 + x13 + x14 + x15 + x16 + x17) = True := by simp only [eq_iff_iff, iff_true]; omega
theorem lt_q17 (a n x1 x2 x3 x4 x5 x6 x7 x8 x9 x10 x11 x12 x13 x14 x15 x16 x17 : Nat) (h : a < n) : (a < n + x1 + x2 + x3 + x4 + x5 + x6 + x7 + x8 + x9 + x10 + x11 + x12 + x13 + x14 + x15 + x16 + x17) = True := by simp only [eq_iff_iff, iff_true]; omega
theorem le_q18 (a n x1 x2 x3 x4 x5 x6 x7 x8 x9 x10 x11 x12 x13 x14 x15 x16 x17 x18 : Nat) (h : a < n) : (a ≤ n + x1 + x2 + x3 + x4 + x5 + x6 + x7 + x8 + x9 + x10 + x11 + x12 + x13 + x14 + x15 + x16 + x17 + x18) = True := by simp only [eq_iff_iff, iff_true]; omega
theorem lt_q18 (a n x1 x2 x3 x4 x5 x6 x7 x8 x9 x10 x11 x12 x13 x14 x15 x16 x17 x18 : Nat) (h : a < n) : (a < n + x1 + x2 + x3 + x4 + x5 + x6 + x7 + x8 + x9 + x10 + x11 + x12 + x13 + x14 + x15 + x16 + x17 + x18) = True := by simp only [eq_iff_iff, iff_true]; omega
theorem le_q19 (a n x1 x2 x3 x4 x5 x6 x7 x8 x9 x10 x11 x12 x13 x14 x15 x16 x17 x18 x19 : Nat) (h : a < n) : (a ≤ n + x1 + x2 + x3 + x4 + x5 + x6 + x7 + x8 + x9 + x10 + x11 + x12 + x13 + x14 + x15 + x16 + x17 + x18 + x19) = True := by simp only [eq_iff_iff, iff_true]; omega
theorem lt_q19 (a n x1 x2 x3 x4 x5 x6 x7 x8 x9 x10 x11 x12 x13 x14 x15 x16 x17 x18 x19 : Nat) (h : a < n) : (a < n + x1 + x2 + x3 + x4 + x5 + x6 + x7 + x8 + x9 + x10 + x11 + x12 + x13 + x14 + x15 + x16 + x17 + x18 + x19) = True := by simp only [eq_iff_iff, iff_true]; omega
theorem le_q20 (a n x1 x2 x3 x4 x5 x6 x7 x8 x9 x10 x11 x12 x13 x14 x15 x16 x17 x18 x19 x20 : Nat) (h : a < n) : (a ≤ n + x1 + x2 + x3 + x4 + x5 + x6 + x7 + x8 + x9 + x10 + x11 + x12 + x13 + x14 + x15 + x16 + x17 + x18 + x19 + x20) = True := by simp only [eq_iff_iff, iff_true]; omega
theorem lt_q20 (a n x1 x2 x3 x4 x5 x6 x7 x8 x9 x10 x11 x12 x13 x14 x15 x16 x17 x18 x19 x20 : Nat) (h : a < n) : (a < n + x1 + x2 + x3 + x4 + x5 + x6 + x7 + x8 + x9 + x10 + x11 + x12 + x13 + x14 + x15 + x16 + x17 + x18 + x19 + x20) = True := by simp only [eq_iff_iff, iff_true]; omega
theorem le_q21 (a n x1 x2 x3 x4 x5 x6 x7 x8 x9 x10 x11 x12 x13 x14 x15 x16 x17 x18 x19 x20 x21 : Nat) (h : a < n) : (a ≤ n + x1 + x2 + x3 + x4 + x5 + x6 + x7 + x8 + x9 + x10 + x11 + x12 + x13 + x14 + x15 + x16 + x17 + x18 + x19 + x20 + x21) = True := by simp only [eq_iff_iff, iff_true]; omega
theorem lt_q21 (a n x1 x2 x3 x4 x5 x6 x7 x8 x9 x10 x11 x12 x13 x14 x15 x16 x17 x18 x19 x20 x21 : Nat) (h : a < n) : (a < n + x1 + x2 + x3 + x4 + x5 + x6 + x7 + x8 + x9 + x10 + x11 + x12 + x13 + x14 + x15 + x16 + x17 + x18 + x19 + x20 + x21) = True := by simp only [eq_iff_iff, iff_true]; omega
theorem le_q22 (a n x1 x2 x3 x4 x5 x6 x7 x8 x9 x10 x11 x12 x13 x14 x15 x16 x17 x18 x19 x20 x21 x22 : Nat) (h : a < n) : (a ≤ n + x1 + x2 + x3 + x4 + x5 + x6 + x7 + x8 + x9 + x10 + x11 + x12 + x13 + x14 + x15 + x16 + x17 + x18 + x19 + x20 + x21 + x22) = True := by simp only [eq_iff_iff, iff_true]; omega
theorem lt_q22 (a n x1 x2 x3 x4 x5 x6 x7 x8 x9 x10 x11 x12 x13 x14 x15 x16 x17 x18 x19 x20 x21 x22 : Nat) (h : a < n) : (a < n + x1 + x2 + x3 + x4 + x5 + x6 + x7 + x8 + x9 + x10 + x11 + x12 + x13 + x14 + x15 + x16 + x17 + x18 + x19 + x20 + x21 + x22) = True := by simp only [eq_iff_iff, iff_true]; omega
theorem le_q23 (a n x1 x2 x3 x4 x5 x6 x7 x8 x9 x10 x11 x12 x13 x14 x15 x16 x17 x18 x19 x20 x21 x22 x23 : Nat) (h : a < n) : (a ≤ n + x1 + x2 + x3 + x4 + x5 + x6 + x7 + x8 + x9 + x10 + x11 + x12 + x13 + x14 + x15 + x16 + x17 + x18 + x19 + x20 + x21 + x22 + x23) = True := by simp only [eq_iff_iff, iff_true]; omega
theorem lt_q23 (a n x1 x2 x3 x4 x5 x6 x7 x8 x9 x10 x11 x12 x13 x14 x15 x16 x17 x18 x19 x20 x21 x22 x23 : Nat) (h : a < n) : (a < n + x1 + x2 + x3 + x4 + x5 + x6 + x7 + x8 + x9 + x10 + x11 + x12 + x13 + x14 + x15 + x16 + x17 + x18 + x19 + x20 + x21 + x22 + x23) = True := by simp only [eq_iff_iff, iff_true]; omega
theorem le_q24 (a n x1 x2 x3 x4 x5 x6 x7 x8 x9 x10 x11 x12 x13 x14 x15 x16 x17 x18 x19 x20 x21 x22 x23 x24 : Nat) (h : a < n) : (a ≤ n + x1 + x2 + x3 + x4 + x5 + x6 + x7 + x8 + x9 + x10 + x11 + x12 + x13 + x14 + x15 + x16 + x17 + x18 + x19 + x20 + x21 + x22 + x23 + x24) = True := by simp only [eq_iff_iff, iff_true]; omega
theorem lt_q24 (a n x1 x2 x3 x4 x5 x6 x7 x8 x9 x10 x11 x12 x13 x14 x15 x16 x17 x18 x19 x20 x21 x22 x23 x24 : Nat) (h : a < n) : (a < n + x1 + x2 + x3 + x4 + x5 + x6 + x7 + x8 + x9 + x10 + x11 + x12 + x13 + x14 + x15 + x16 + x17 + x18 + x19 + x20 + x21 + x22 + x23 + x24) = True := by simp only [eq_iff_iff, iff_true]; omega
theorem le_q0 (a n : Nat) (h : a < n) : (a ≤ n) = True := by simp only [eq_iff_iff, iff_true]; omega

end Go.Proofs.Ytccddgohagakoaa
