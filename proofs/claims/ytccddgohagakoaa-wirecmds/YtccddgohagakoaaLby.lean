/-
  Cells' bytes in plain trees: how many cells, which may be, and their bytes.
-/
import Derived.Test.YtccddgohagakoaaTree
namespace Go.Proofs.Ytccddgohagakoaa
open Go.RowKit
attribute [local go_sem] cell?_more frozen?_more setCell_more size_more tape_more drew_more drewN_more more_drew more_drewN one_out plus_out plus_end lt_one le_p2 le_p3 le_p4 le_p5 le_p6 le_p7 le_p8 le_p9 le_p10 le_p11 le_p12 le_p13 le_p14 le_p15 le_p16 le_p17 le_p18 le_p19 le_p20 le_p21 le_p22 le_p23 le_p24 le_q0 le_q1 lt_q1 le_q2 lt_q2 le_q3 lt_q3 le_q4 lt_q4 le_q5 lt_q5 le_q6 lt_q6 le_q7 lt_q7 le_q8 lt_q8 le_q9 lt_q9 le_q10 lt_q10 le_q11 lt_q11 le_q12 lt_q12 le_q13 lt_q13 le_q14 lt_q14 le_q15 lt_q15 le_q16 lt_q16 le_q17 lt_q17 le_q18 lt_q18 le_q19 lt_q19 le_q20 lt_q20 le_q21 lt_q21 le_q22 lt_q22 le_q23 lt_q23 le_q24 lt_q24

/-- A count's bytes. -/
def number (n : Nat) : List UInt8 := if n < 128 then [UInt8.ofNat n] else UInt8.ofNat (n % 128 + 128) :: number (n / 128)
termination_by n
decreasing_by omega

theorem number_small {n : Nat} (h : n < 128) : number n = [UInt8.ofNat n] := by
  rw [number, if_pos h]
theorem number_big {n : Nat} (h : ¬ n < 128) : number n = UInt8.ofNat (n % 128 + 128) :: number (n / 128) := by
  rw [number, if_neg h]

/-- A number's count. -/
def zig (n : Int) : Nat := if n < 0 then (-2 * n - 1).toNat else (2 * n).toNat

theorem number_len : ∀ (f n : Nat), n < 128 ^ (f + 1) → (number n).length ≤ f + 1
  | 0, n, h => by rw [number_small (by omega)]; simp
  | f + 1, n, h => by
    by_cases hn : n < 128
    · rw [number_small hn]; simp
    · rw [number_big hn]
      have := number_len f (n / 128) (by rw [Nat.pow_succ] at h; omega)
      simp only [List.length_cons]
      omega

/-- A cell's bytes, as deep as that. -/
def bytesT : Nat → T → List UInt8
  | 0, _ => []
  | lv + 1, t =>
    if t.kind = 1 then 1 :: number (zig t.num)
    else if t.kind = 2 then 2 :: (number t.text.size ++ t.text.data.toList)
    else 3 :: (number t.list.length ++ t.list.flatMap (bytesT lv))

/-- How many cells, as deep as that. -/
def sizeT : Nat → T → Nat
  | 0, _ => 1
  | lv + 1, t => 1 + (t.list.map (sizeT lv)).sum

/-- A cell with no part too many, no deeper than that. -/
def okT : Nat → T → Prop
  | 0, _ => False
  | lv + 1, t => (t.kind = 1 ∧ -9007199254740992 ≤ t.num ∧ t.num ≤ 9007199254740992 ∧ t.text = ⟨#[]⟩ ∧ t.list = []) ∨ (t.kind = 2 ∧ t.num = 0 ∧ t.text.size ≤ 65536 ∧ t.list = []) ∨ (t.kind = 3 ∧ t.num = 0 ∧ t.text = ⟨#[]⟩ ∧ ∀ x ∈ t.list, okT lv x)

theorem sum_le {α : Type} (f : α → Nat) (m : Nat) : ∀ (l : List α), (∀ x ∈ l, f x ≤ m) → (l.map f).sum ≤ l.length * m
  | [], _ => by simp
  | x :: l, h => by
    have h1 := sum_le f m l (fun y hy => h y (by simp [hy]))
    have h2 := h x (by simp)
    simp only [List.map_cons, List.sum_cons, List.length_cons, Nat.add_mul, Nat.one_mul]
    omega

theorem flat_le {α : Type} (f : α → List UInt8) (m : Nat) : ∀ (l : List α), (∀ x ∈ l, (f x).length ≤ m) → (l.flatMap f).length ≤ l.length * m
  | [], _ => by simp
  | x :: l, h => by
    have h1 := flat_le f m l (fun y hy => h y (by simp [hy]))
    have h2 := h x (by simp)
    simp only [List.flatMap_cons, List.length_append, List.length_cons, Nat.add_mul, Nat.one_mul]
    omega

theorem zig_le {n : Int} {m : Nat} (h1 : -(m : Int) ≤ n) (h2 : n ≤ m) : zig n ≤ 2 * m := by
  unfold zig
  split <;> omega

theorem num_ok {n : Int} (lv : Nat) (h1 : -9007199254740992 ≤ n) (h2 : n ≤ 9007199254740992) : okT (lv + 1) (tNum n) ∧ sizeT (lv + 1) (tNum n) = 1 ∧ (bytesT (lv + 1) (tNum n)).length ≤ 9 := by
  refine ⟨.inl ⟨rfl, h1, h2, rfl, rfl⟩, rfl, ?_⟩
  have hz : zig n ≤ 18014398509481984 := by
    have := zig_le (n := n) (m := 9007199254740992) h1 h2
    omega
  have := number_len 7 (zig n) (by omega)
  have e : bytesT (lv + 1) (tNum n) = 1 :: number (zig n) := rfl
  rw [e, List.length_cons]
  omega

theorem text_ok {s : ByteArray} (lv : Nat) (h : s.size ≤ 256) : okT (lv + 1) (tText s) ∧ sizeT (lv + 1) (tText s) = 1 ∧ (bytesT (lv + 1) (tText s)).length ≤ 259 := by
  refine ⟨.inr (.inl ⟨rfl, rfl, by show s.size ≤ _; omega, rfl⟩), rfl, ?_⟩
  have := number_len 1 s.size (by omega)
  have e : bytesT (lv + 1) (tText s) = 2 :: (number s.size ++ s.data.toList) := rfl
  have e2 : s.data.toList.length = s.size := rfl
  rw [e, List.length_cons, List.length_append, e2]
  omega

theorem list_ok {l : List T} {lv k m n : Nat} (h : ∀ x ∈ l, okT (lv + 1) x ∧ sizeT (lv + 1) x ≤ k ∧ (bytesT (lv + 1) x).length ≤ m) (hn : l.length ≤ n) (hn2 : n ≤ 127) : okT (lv + 2) (tList l) ∧ sizeT (lv + 2) (tList l) ≤ 1 + n * k ∧ (bytesT (lv + 2) (tList l)).length ≤ 2 + n * m := by
  refine ⟨.inr (.inr ⟨rfl, rfl, rfl, fun x hx => (h x hx).1⟩), ?_, ?_⟩
  · have e : sizeT (lv + 2) (tList l) = 1 + (l.map (sizeT (lv + 1))).sum := rfl
    have := sum_le (sizeT (lv + 1)) k l (fun x hx => (h x hx).2.1)
    have := Nat.mul_le_mul_right k hn
    rw [e]
    omega
  · have e : bytesT (lv + 2) (tList l) = 3 :: (number l.length ++ l.flatMap (bytesT (lv + 1))) := rfl
    have := flat_le (bytesT (lv + 1)) m l (fun x hx => (h x hx).2.2)
    have := Nat.mul_le_mul_right m hn
    rw [e, number_small (by omega)]
    simp only [List.length_cons, List.length_append, List.length_nil]
    omega

end Go.Proofs.Ytccddgohagakoaa
