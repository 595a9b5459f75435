/-
  Paths and keys: the functions inWord, Key and Path of package paper, and the document's own Path, by contracts.
  More of the walk's side conditions: sums of many parts.
  Documents in memory, and which may be: the function Check of package paper, by a contract.
-/
import Derived.Test.YtiacnmcdfpmcfaaGreatDoorQ00
namespace Go.Proofs.YtiacnmcdfpmcfaaGreatDoor
open Go.RowKit

def inW (c : UInt8) : Bool := decide ((97 ≤ (c.toNat : Int) ∧ (c.toNat : Int) ≤ 122) ∨ (48 ≤ (c.toNat : Int) ∧ (c.toNat : Int) ≤ 57))

/-- What is left of a path, a word begun or not. -/
def stp : Bool → List UInt8 → Bool
  | b, [] => b
  | b, c :: r => if (c.toNat : Int) = 46 then b && stp false r else inW c && stp true r

def isKey (s : ByteArray) : Bool := decide (1 ≤ s.size ∧ s.size ≤ 64)
def isPath (s : ByteArray) : Bool := decide (s.size ≤ 64) && stp false s.toList

theorem toList_length (s : ByteArray) : s.toList.length = s.size := by
  rw [ByteArray.toList_eq]; rfl

theorem toList_get (t : ByteArray) (k : Nat) (hk : k < t.toList.length) : t.toList[k] = t[k]'(by rwa [toList_length] at hk) := by
  have h : t.toList = t.data.toList := by rw [ByteArray.toList_eq]
  simp only [h]
  rfl

theorem stp_next (s : ByteArray) (b : Bool) {k : Nat} (hk : k < s.size) : stp b (s.toList.drop k) = if (s[k].toNat : Int) = 46 then b && stp false (s.toList.drop (k + 1)) else inW s[k] && stp true (s.toList.drop (k + 1)) := by
  have hk' : k < s.toList.length := by rw [toList_length]; exact hk
  rw [List.drop_eq_getElem_cons hk', toList_get]
  rfl

theorem stp_end (s : ByteArray) (b : Bool) : stp b (s.toList.drop s.size) = b := by
  rw [← toList_length, List.drop_length]
  rfl

theorem isPath_key {s : ByteArray} (h : isKey s = true) : isPath s = stp false s.toList := by
  have : s.size ≤ 64 := by simp [isKey] at h; exact h.2
  simp [isPath, this]

theorem isPath_not {s : ByteArray} (h : ¬ isKey s = true) : isPath s = false := by
  simp only [isKey, decide_eq_true_eq] at h
  by_cases h1 : s.size ≤ 64
  · have h0 : s.size = 0 := by omega
    have : s.toList = [] := List.eq_nil_of_length_eq_zero (by rw [toList_length]; exact h0)
    simp [isPath, this, stp]
  · simp [isPath, h1]

theorem inWord_any (c : UInt8) (w : World) :
    Calls Tryz.prog 144 #[.int .u8 c.toNat] w fun e w' => e = .returned (.bool (inW c)) ∧ w' = w := by
  unfold inW
  by_cases h1 : 97 ≤ (c.toNat : Int) <;> by_cases h2 : (c.toNat : Int) ≤ 122 <;> by_cases h3 : 48 ≤ (c.toNat : Int) <;> by_cases h4 : (c.toNat : Int) ≤ 57
  all_goals
    go_enter Tryz.func144, Tryz.ntmps144
    go_wp2
    all_goals
      go_ret
      refine ⟨?_, rfl⟩
      simp [h1, h2, h3, h4]

theorem key_any (s : ByteArray) (w : World) :
    Calls Tryz.prog 103 #[.string s] w fun e w' => e = .returned (.bool (isKey s)) ∧ w' = w := by
  unfold isKey
  by_cases h1 : 1 ≤ s.size <;> by_cases h2 : s.size ≤ 64
  all_goals
    have h1' : (1 ≤ (s.size : Int)) = (1 ≤ s.size) := by simp; omega
    have h2' : ((s.size : Int) ≤ 64) = (s.size ≤ 64) := by simp; omega
    go_enter Tryz.func103, Tryz.ntmps103
    go_wp2
    all_goals
      go_ret
      refine ⟨?_, rfl⟩
      simp [h1, h2]

theorem path_any (s : ByteArray) (w : World) :
    Calls Tryz.prog 121 #[.string s] w fun e w' => e = .returned (.bool (isPath s)) ∧ w' = w := by
  have hk := key_any s
  by_cases h : isKey s = true
  · rw [h] at hk
    rw [isPath_key h]
    have h64 : s.size ≤ 64 := by simp [isKey] at h; exact h.2
    clear h
    go_enter Tryz.func121, Tryz.ntmps121
    go_wp2_with (go_at_call 103; refine (hk _).mono ?_; rintro e w1 ⟨rfl, hw⟩; subst w1)
    go_loopw [3, 4] (fun bv i wr => ∃ (k : Nat) (b : Bool), k ≤ s.size ∧ i = .int .i64 k ∧ bv = .bool b ∧ stp b (s.toList.drop k) = stp false s.toList ∧ wr = w) (fun _ i _ => s.size - (intOf i).toNat)
    case atStart => exact ⟨0, false, Nat.zero_le _, rfl, rfl, by simp, rfl⟩
    case round =>
      obtain ⟨k, b, hk, rfl, rfl, hst, rfl⟩ := hrel
      by_cases hlt : k < s.size
      · have hn := stp_next s b hlt
        rw [hst] at hn
        clear hst
        by_cases h46 : (s[k].toNat : Int) = 46
        · rw [if_pos h46] at hn
          have HN : Hid _ := hn
          clear hn
          cases b
          · go_wp2
            go_ret
            exact ⟨by rw [HN.out]; rfl, rfl⟩
          · go_wp2
            go_roundw
            case rel => exact ⟨k + 1, false, by omega, by go_num, by simp, by rw [HN.out]; rfl, trivial⟩
            case measure => simp [intOf]; omega
        · rw [if_neg h46] at hn
          have HN : Hid _ := hn
          clear hn
          have hi := inWord_any s[k]
          have hb46 : ((s[k].toNat : Int) == 46) = false := by simp [h46]
          generalize inW s[k] = q at *
          cases q
          · go_wp2_with (go_at_call 144; refine (hi _).mono ?_; rintro e w1 ⟨rfl, hw⟩; subst w1)
            go_ret
            exact ⟨by rw [HN.out]; rfl, rfl⟩
          · go_wp2_with (go_at_call 144; refine (hi _).mono ?_; rintro e w1 ⟨rfl, hw⟩; subst w1)
            go_roundw
            case rel => exact ⟨k + 1, true, by omega, by go_num, by simp, by rw [HN.out]; rfl, trivial⟩
            case measure => simp [intOf]; omega
      · have hk' : k = s.size := by omega
        subst hk'
        rw [stp_end] at hst
        subst hst
        go_wp2
        go_ret
        exact ⟨rfl, rfl⟩
  · rw [Bool.not_eq_true] at h
    rw [h] at hk
    rw [isPath_not (by simp [h])]
    go_enter Tryz.func121, Tryz.ntmps121
    go_wp2_with (go_at_call 103; refine (hk _).mono ?_; rintro e w1 ⟨rfl, hw⟩; subst w1)
    go_ret
    exact ⟨rfl, rfl⟩

theorem refPath_any (s : ByteArray) (hs : s.size ≤ 9223372036854775807) (w : World) :
    Calls Tryz.prog 39 #[.string s] w fun e w' => e = .returned (.bool (isPath s)) ∧ w' = w := by
  go_enter Tryz.func39, Tryz.ntmps39
  go_wp2
  go_loopw [3, 4] (fun m i wr => ∃ (k n : Nat), k ≤ s.size ∧ n ≤ k ∧ i = .int .i64 k ∧ m = .int .i64 n ∧ stp (decide (0 < n)) (s.toList.drop k) = stp false s.toList ∧ wr = w) (fun _ i _ => s.size - (intOf i).toNat)
  case atStart => exact ⟨0, 0, Nat.zero_le _, Nat.zero_le _, rfl, rfl, by simp, rfl⟩
  case round =>
    obtain ⟨k, n, hk, hnk, rfl, rfl, hst, rfl⟩ := hrel
    by_cases hlt : k < s.size
    · have hn := stp_next s (decide (0 < n)) hlt
      rw [hst] at hn
      clear hst
      by_cases h46 : (s[k].toNat : Int) = 46
      · rw [if_pos h46] at hn
        have HN : Hid _ := hn
        clear hn
        by_cases h0 : n = 0
        · subst h0
          go_wp2
          go_ret
          exact ⟨by simp [isPath, HN.out], rfl⟩
        · have h0' : 0 < n := by omega
          go_wp2
          go_roundw
          case rel => exact ⟨k + 1, 0, by omega, by omega, by go_num, rfl, by rw [HN.out]; simp [h0'], trivial⟩
          case measure => simp [intOf]; omega
      · rw [if_neg h46] at hn
        have HN : Hid _ := hn
        clear hn
        by_cases h1 : 97 ≤ (s[k].toNat : Int) <;> by_cases h2 : (s[k].toNat : Int) ≤ 122 <;> by_cases h3 : 48 ≤ (s[k].toNat : Int) <;> by_cases h4 : (s[k].toNat : Int) ≤ 57
        all_goals
          go_wp2
          first
            | (go_ret
               have hq : inW s[k] = false := decide_eq_false (by omega)
               exact ⟨by simp [isPath, HN.out, hq], rfl⟩)
            | (go_roundw
               case rel => exact ⟨k + 1, n + 1, by omega, by omega, by go_num, by go_num, by rw [HN.out, show inW s[k] = true from decide_eq_true (by omega)]; simp, trivial⟩
               case measure => simp [intOf]; omega)
            | (exfalso; omega)
    · have hk' : k = s.size := by omega
      subst hk'
      rw [stp_end] at hst
      have HN : Hid _ := hst
      clear hst
      by_cases h0 : 0 < n <;> by_cases h64 : s.size ≤ 64
      all_goals
        have h64' : ((s.size : Int) ≤ 64) = (s.size ≤ 64) := by simp; omega
        go_wp2
        go_ret
        exact ⟨by simp [isPath, ← HN.out, h0, h64], rfl⟩

end Go.Proofs.YtiacnmcdfpmcfaaGreatDoor

namespace Go.Proofs.YtiacnmcdfpmcfaaGreatDoor

theorem plus_end (a b : Nat) (os : Array Obj) : a + (b + os.size) = a + b + os.size := by omega
theorem le_p13 (a x1 x2 x3 x4 x5 x6 x7 x8 x9 x10 x11 x12 x13 : Nat) : (a ≤ a + x1 + x2 + x3 + x4 + x5 + x6 + x7 + x8 + x9 + x10 + x11 + x12 + x13) = True := by simp only [eq_iff_iff, iff_true]; omega
theorem le_p14 (a x1 x2 x3 x4 x5 x6 x7 x8 x9 x10 x11 x12 x13 x14 : Nat) : (a ≤ a + x1 + x2 + x3 + x4 + x5 + x6 + x7 + x8 + x9 + x10 + x11 + x12 + x13 + x14) = True := by simp only [eq_iff_iff, iff_true]; omega
theorem le_p15 (a x1 x2 x3 x4 x5 x6 x7 x8 x9 x10 x11 x12 x13 x14 x15 : Nat) : (a ≤ a + x1 + x2 + x3 + x4 + x5 + x6 + x7 + x8 + x9 + x10 + x11 + x12 + x13 + x14 + x15) = True := by simp only [eq_iff_iff, iff_true]; omega
theorem le_p16 (a x1 x2 x3 x4 x5 x6 x7 x8 x9 x10 x11 x12 x13 x14 x15 x16 : Nat) : (a ≤ a + x1 + x2 + x3 + x4 + x5 + x6 + x7 + x8 + x9 + x10 + x11 + x12 + x13 + x14 + x15 + x16) = True := by simp only [eq_iff_iff, iff_true]; omega
theorem le_p17 (a x1 x2 x3 x4 x5 x6 x7 x8 x9 x10 x11 x12 x13 x14 x15 x16 x17 : Nat) : (a ≤ a + x1 + x2 + x3 + x4 + x5 + x6 + x7 + x8 + x9 + x10 + x11 + x12 + x13 + x14 + x15 + x16 + x17) = True := by simp only [eq_iff_iff, iff_true]; omega
theorem le_p18 (a x1 x2 x3 x4 x5 x6 x7 x8 x9 x10 x11 x12 x13 x14 x15 x16 x17 x18 : Nat) : (a ≤ a + x1 + x2 + x3 + x4 + x5 + x6 + x7 + x8 + x9 + x10 + x11 + x12 + x13 + x14 + x15 + x16 + x17 + x18) = True := by simp only [eq_iff_iff, iff_true]; omega
theorem le_p19 (a x1 x2 x3 x4 x5 x6 x7 x8 x9 x10 x11 x12 x13 x14 x15 x16 x17 x18 x19 : Nat) : (a ≤ a + x1 + x2 + x3 + x4 + x5 + x6 + x7 + x8 + x9 + x10 + x11 + x12 + x13 + x14 + x15 + x16 + x17 + x18 + x19) = True := by simp only [eq_iff_iff, iff_true]; omega
theorem le_p20 (a x1 x2 x3 x4 x5 x6 x7 x8 x9 x10 x11 x12 x13 x14 x15 x16 x17 x18 x19 x20 : Nat) : (a ≤ a + x1 + x2 + x3 + x4 + x5 + x6 + x7 + x8 + x9 + x10 + x11 + x12 + x13 + x14 + x15 + x16 + x17 + x18 + x19 + x20) = True := by simp only [eq_iff_iff, iff_true]; omega
theorem le_p21 (a x1 x2 x3 x4 x5 x6 x7 x8 x9 x10 x11 x12 x13 x14 x15 x16 x17 x18 x19 x20 x21 : Nat) : (a ≤ a + x1 + x2 + x3 + x4 + x5 + x6 + x7 + x8 + x9 + x10 + x11 + x12 + x13 + x14 + x15 + x16 + x17 + x18 + x19 + x20 + x21) = True := by simp only [eq_iff_iff, iff_true]; omega
theorem le_p22 (a x1 x2 x3 x4 x5 x6 x7 x8 x9 x10 x11 x12 x13 x14 x15 x16 x17 x18 x19 x20 x21 x22 : Nat) : (a ≤ a + x1 + x2 + x3 + x4 + x5 + x6 + x7 + x8 + x9 + x10 + x11 + x12 + x13 + x14 + x15 + x16 + x17 + x18 + x19 + x20 + x21 + x22) = True := by simp only [eq_iff_iff, iff_true]; omega
theorem le_p23 (a x1 x2 x3 x4 x5 x6 x7 x8 x9 x10 x11 x12 x13 x14 x15 x16 x17 x18 x19 x20 x21 x22 x23 : Nat) : (a ≤ a + x1 + x2 + x3 + x4 + x5 + x6 + x7 + x8 + x9 + x10 + x11 + x12 + x13 + x14 + x15 + x16 + x17 + x18 + x19 + x20 + x21 + x22 + x23) = True := by simp only [eq_iff_iff, iff_true]; omega
theorem le_p24 (a x1 x2 x3 x4 x5 x6 x7 x8 x9 x10 x11 x12 x13 x14 x15 x16 x17 x18 x19 x20 x21 x22 x23 x24 : Nat) : (a ≤ a + x1 + x2 + x3 + x4 + x5 + x6 + x7 + x8 + x9 + x10 + x11 + x12 + x13 + x14 + x15 + x16 + x17 + x18 + x19 + x20 + x21 + x22 + x23 + x24) = True := by simp only [eq_iff_iff, iff_true]; omega
theorem le_q1 (a n x1 : Nat) (h : a < n) : (a ≤ n + x1) = True := by simp only [eq_iff_iff, iff_true]; omega
theorem lt_q1 (a n x1 : Nat) (h : a < n) : (a < n + x1) = True := by simp only [eq_iff_iff, iff_true]; omega
theorem le_q2 (a n x1 x2 : Nat) (h : a < n) : (a ≤ n + x1 + x2) = True := by simp only [eq_iff_iff, iff_true]; omega
theorem lt_q2 (a n x1 x2 : Nat) (h : a < n) : (a < n + x1 + x2) = True := by simp only [eq_iff_iff, iff_true]; omega
theorem le_q3 (a n x1 x2 x3 : Nat) (h : a < n) : (a ≤ n + x1 + x2 + x3) = True := by simp only [eq_iff_iff, iff_true]; omega
theorem lt_q3 (a n x1 x2 x3 : Nat) (h : a < n) : (a < n + x1 + x2 + x3) = True := by simp only [eq_iff_iff, iff_true]; omega
theorem le_q4 (a n x1 x2 x3 x4 : Nat) (h : a < n) : (a ≤ n + x1 + x2 + x3 + x4) = True := by simp only [eq_iff_iff, iff_true]; omega
theorem lt_q4 (a n x1 x2 x3 x4 : Nat) (h : a < n) : (a < n + x1 + x2 + x3 + x4) = True := by simp only [eq_iff_iff, iff_true]; omega
theorem le_q5 (a n x1 x2 x3 x4 x5 : Nat) (h : a < n) : (a ≤ n + x1 + x2 + x3 + x4 + x5) = True := by simp only [eq_iff_iff, iff_true]; omega
theorem lt_q5 (a n x1 x2 x3 x4 x5 : Nat) (h : a < n) : (a < n + x1 + x2 + x3 + x4 + x5) = True := by simp only [eq_iff_iff, iff_true]; omega
theorem le_q6 (a n x1 x2 x3 x4 x5 x6 : Nat) (h : a < n) : (a ≤ n + x1 + x2 + x3 + x4 + x5 + x6) = True := by simp only [eq_iff_iff, iff_true]; omega
theorem lt_q6 (a n x1 x2 x3 x4 x5 x6 : Nat) (h : a < n) : (a < n + x1 + x2 + x3 + x4 + x5 + x6) = True := by simp only [eq_iff_iff, iff_true]; omega
theorem le_q7 (a n x1 x2 x3 x4 x5 x6 x7 : Nat) (h : a < n) : (a ≤ n + x1 + x2 + x3 + x4 + x5 + x6 + x7) = True := by simp only [eq_iff_iff, iff_true]; omega
theorem lt_q7 (a n x1 x2 x3 x4 x5 x6 x7 : Nat) (h : a < n) : (a < n + x1 + x2 + x3 + x4 + x5 + x6 + x7) = True := by simp only [eq_iff_iff, iff_true]; omega
theorem le_q8 (a n x1 x2 x3 x4 x5 x6 x7 x8 : Nat) (h : a < n) : (a ≤ n + x1 + x2 + x3 + x4 + x5 + x6 + x7 + x8) = True := by simp only [eq_iff_iff, iff_true]; omega
theorem lt_q8 (a n x1 x2 x3 x4 x5 x6 x7 x8 : Nat) (h : a < n) : (a < n + x1 + x2 + x3 + x4 + x5 + x6 + x7 + x8) = True := by simp only [eq_iff_iff, iff_true]; omega
theorem le_q9 (a n x1 x2 x3 x4 x5 x6 x7 x8 x9 : Nat) (h : a < n) : (a ≤ n + x1 + x2 + x3 + x4 + x5 + x6 + x7 + x8 + x9) = True := by simp only [eq_iff_iff, iff_true]; omega
theorem lt_q9 (a n x1 x2 x3 x4 x5 x6 x7 x8 x9 : Nat) (h : a < n) : (a < n + x1 + x2 + x3 + x4 + x5 + x6 + x7 + x8 + x9) = True := by simp only [eq_iff_iff, iff_true]; omega
theorem le_q10 (a n x1 x2 x3 x4 x5 x6 x7 x8 x9 x10 : Nat) (h : a < n) : (a ≤ n + x1 + x2 + x3 + x4 + x5 + x6 + x7 + x8 + x9 + x10) = True := by simp only [eq_iff_iff, iff_true]; omega
theorem lt_q10 (a n x1 x2 x3 x4 x5 x6 x7 x8 x9 x10 : Nat) (h : a < n) : (a < n + x1 + x2 + x3 + x4 + x5 + x6 + x7 + x8 + x9 + x10) = True := by simp only [eq_iff_iff, iff_true]; omega
theorem le_q11 (a n x1 x2 x3 x4 x5 x6 x7 x8 x9 x10 x11 : Nat) (h : a < n) : (a ≤ n + x1 + x2 + x3 + x4 + x5 + x6 + x7 + x8 + x9 + x10 + x11) = True := by simp only [eq_iff_iff, iff_true]; omega
theorem lt_q11 (a n x1 x2 x3 x4 x5 x6 x7 x8 x9 x10 x11 : Nat) (h : a < n) : (a < n + x1 + x2 + x3 + x4 + x5 + x6 + x7 + x8 + x9 + x10 + x11) = True := by simp only [eq_iff_iff, iff_true]; omega
theorem le_q12 (a n x1 x2 x3 x4 x5 x6 x7 x8 x9 x10 x11 x12 : Nat) (h : a < n) : (a ≤ n + x1 + x2 + x3 + x4 + x5 + x6 + x7 + x8 + x9 + x10 + x11 + x12) = True := by simp only [eq_iff_iff, iff_true]; omega
theorem lt_q12 (a n x1 x2 x3 x4 x5 x6 x7 x8 x9 x10 x11 x12 : Nat) (h : a < n) : (a < n + x1 + x2 + x3 + x4 + x5 + x6 + x7 + x8 + x9 + x10 + x11 + x12) = True := by simp only [eq_iff_iff, iff_true]; omega
theorem le_q13 (a n x1 x2 x3 x4 x5 x6 x7 x8 x9 x10 x11 x12 x13 : Nat) (h : a < n) : (a ≤ n + x1 + x2 + x3 + x4 + x5 + x6 + x7 + x8 + x9 + x10 + x11 + x12 + x13) = True := by simp only [eq_iff_iff, iff_true]; omega
theorem lt_q13 (a n x1 x2 x3 x4 x5 x6 x7 x8 x9 x10 x11 x12 x13 : Nat) (h : a < n) : (a < n + x1 + x2 + x3 + x4 + x5 + x6 + x7 + x8 + x9 + x10 + x11 + x12 + x13) = True := by simp only [eq_iff_iff, iff_true]; omega
theorem le_q14 (a n x1 x2 x3 x4 x5 x6 x7 x8 x9 x10 x11 x12 x13 x14 : Nat) (h : a < n) : (a ≤ n + x1 + x2 + x3 + x4 + x5 + x6 + x7 + x8 + x9 + x10 + x11 + x12 + x13 + x14) = True := by simp only [eq_iff_iff, iff_true]; omega
theorem lt_q14 (a n x1 x2 x3 x4 x5 x6 x7 x8 x9 x10 x11 x12 x13 x14 : Nat) (h : a < n) : (a < n + x1 + x2 + x3 + x4 + x5 + x6 + x7 + x8 + x9 + x10 + x11 + x12 + x13 + x14) = True := by simp only [eq_iff_iff, iff_true]; omega
theorem le_q15 (a n x1 x2 x3 x4 x5 x6 x7 x8 x9 x10 x11 x12 x13 x14 x15 : Nat) (h : a < n) : (a ≤ n + x1 + x2 + x3 + x4 + x5 + x6 + x7 + x8 + x9 + x10 + x11 + x12 + x13 + x14 + x15) = True := by simp only [eq_iff_iff, iff_true]; omega
theorem lt_q15 (a n x1 x2 x3 x4 x5 x6 x7 x8 x9 x10 x11 x12 x13 x14 x15 : Nat) (h : a < n) : (a < n + x1 + x2 + x3 + x4 + x5 + x6 + x7 + x8 + x9 + x10 + x11 + x12 + x13 + x14 + x15) = True := by simp only [eq_iff_iff, iff_true]; omega
theorem le_q16 (a n x1 x2 x3 x4 x5 x6 x7 x8 x9 x10 x11 x12 x13 x14 x15 x16 : Nat) (h : a < n) : (a ≤ n + x1 + x2 + x3 + x4 + x5 + x6 + x7 + x8 + x9 + x10 + x11 + x12 + x13 + x14 + x15 + x16) = True := by simp only [eq_iff_iff, iff_true]; omega
theorem lt_q16 (a n x1 x2 x3 x4 x5 x6 x7 x8 x9 x10 x11 x12 x13 x14 x15 x16 : Nat) (h : a < n) : (a < n + x1 + x2 + x3 + x4 + x5 + x6 + x7 + x8 + x9 + x10 + x11 + x12 + x13 + x14 + x15 + x16) = True := by simp only [eq_iff_iff, iff_true]; omega
theorem le_q17 (a n x1 x2 x3 x4 x5 x6 x7 x8 x9 x10 x11 x12 x13 x14 x15 x16 x17 : Nat) (h : a < n) : (a ≤ n + x1 + x2 + x3 + x4 + x5 + x6 + x7 + x8 + x9 + x10 + x11 + x12 + x13 + x14 + x15 + x16 + x17) = True := by simp only [eq_iff_iff, iff_true]; omega
theorem lt_q17 (a n x1 x2 x3 x4 x5 x6 x7 x8 x9 x10 x11 x12 x13 x14 x15 x16 x17 : Nat) (h : a < n) : (a < n + x1 + x2 + x3 + x4 + x5 + x6 + x7 + x8 + x9 + x10 + x11 + x12 + x13 + x14 + x15 + x16 + x17) = True := by simp only [eq_iff_iff, iff_true]; omega
theorem le_q18 (a n x1 x2 x3 x4 x5 x6 x7 x8 x9 x10 x11 x12 x13 x14 x15 x16 x17 x18 : Nat) (h : a < n) : (a ≤ n + x1 + x2 + x3 + x4 + x5 + x6 + x7 + x8 + x9 + x10 + x11 + x12 + x13 + x14 + x15 + x16 + x17 + x18) = True := by simp only [eq_iff_iff, iff_true]; omega
theorem lt_q18 (a n x1 x2 x3 x4 x5 x6 x7 x8 x9 x10 x11 x12 x13 x14 x15 x16 x17 x18 : Nat) (h : a < n) : (a < n + x1 + x2 + x3 + x4 + x5 + x6 + x7 + x8 + x9 + x10 + x11 + x12 + x13 + x14 + x15 + x16 + x17 + x18) = True := by simp only [eq_iff_iff, iff_true]; omega
theorem le_q19 (a n x1 x2 x3 x4 x5 x6 x7 x8 x9 x10 x11 x12 x13 x14 x15 x16 x17 x18 x19 : Nat) (h : a < n) : (a ≤ n + x1 + x2 + x3 + x4 + x5 + x6 + x7 + x8 + x9 + x10 + x11 + x12 + x13 + x14 + x15 + x16 + x17 + x18 + x19) = True := by simp only [eq_iff_iff, iff_true]; omega
theorem lt_q19 (a n x1 x2 x3 x4 x5 x6 x7 x8 x9 x10 x11 x12 x13 x14 x15 x16 x17 x18 x19 : Nat) (h : a < n) : (a < n + x1 + x2 + x3 + x4 + x5 + x6 + x7 + x8 + x9 + x10 + x11 + x12 + x13 + x14 + x15 + x16 + x17 + x18 + x19) = True := by simp only [eq_iff_iff, iff_true]; omega
theorem le_q20 (a n x1 x2 x3 x4 x5 x6 x7 x8 x9 x10 x11 x12 x13 x14 x15 x16 x17 x18 x19 x20 : Nat) (h : a < n) : (a ≤ n + x1 + x2 + x3 + x4 + x5 + x6 + x7 + x8 + x9 + x10 + x11 + x12 + x13 + x14 + x15 + x16 + x17 + x18 + x19 + x20) = True := by simp only [eq_iff_iff, iff_true]; omega
theorem lt_q20 (a n x1 x2 x3 x4 x5 x6 x7 x8 x9 x10 x11 x12 x13 x14 x15 x16 x17 x18 x19 x20 : Nat) (h : a < n) : (a < n + x1 + x2 + x3 + x4 + x5 + x6 + x7 + x8 + x9 + x10 + x11 + x12 + x13 + x14 + x15 + x16 + x17 + x18 + x19 + x20) = True := by simp only [eq_iff_iff, iff_true]; omega
theorem le_q21 (a n x1 x2 x3 x4 x5 x6 x7 x8 x9 x10 x11 x12 x13 x14 x15 x16 x17 x18 x19 x20 x21 : Nat) (h : a < n) : (a ≤ n + x1 + x2 + x3 + x4 + x5 + x6 + x7 + x8 + x9 + x10 + x11 + x12 + x13 + x14 + x15 + x16 + x17 + x18 + x19 + x20 + x21) = True := by simp only [eq_iff_iff, iff_true]; omega
theorem lt_q21 (a n x1 x2 x3 x4 x5 x6 x7 x8 x9 x10 x11 x12 x13 x14 x15 x16 x17 x18 x19 x20 x21 : Nat) (h : a < n) : (a < n + x1 + x2 + x3 + x4 + x5 + x6 + x7 + x8 + x9 + x10 + x11 + x12 + x13 + x14 + x15 + x16 + x17 + x18 + x19 + x20 + x21) = True := by simp only [eq_iff_iff, iff_true]; omega
theorem le_q22 (a n x1 x2 x3 x4 x5 x6 x7 x8 x9 x10 x11 x12 x13 x14 x15 x16 x17 x18 x19 x20 x21 x22 : Nat) (h : a < n) : (a ≤ n + x1 + x2 + x3 + x4 + x5 + x6 + x7 + x8 + x9 + x10 + x11 + x12 + x13 + x14 + x15 + x16 + x17 + x18 + x19 + x20 + x21 + x22) = True := by simp only [eq_iff_iff, iff_true]; omega
theorem lt_q22 (a n x1 x2 x3 x4 x5 x6 x7 x8 x9 x10 x11 x12 x13 x14 x15 x16 x17 x18 x19 x20 x21 x22 : Nat) (h : a < n) : (a < n + x1 + x2 + x3 + x4 + x5 + x6 + x7 + x8 + x9 + x10 + x11 + x12 + x13 + x14 + x15 + x16 + x17 + x18 + x19 + x20 + x21 + x22) = True := by simp only [eq_iff_iff, iff_true]; omega
theorem le_q23 (a n x1 x2 x3 x4 x5 x6 x7 x8 x9 x10 x11 x12 x13 x14 x15 x16 x17 x18 x19 x20 x21 x22 x23 : Nat) (h : a < n) : (a ≤ n + x1 + x2 + x3 + x4 + x5 + x6 + x7 + x8 + x9 + x10 + x11 + x12 + x13 + x14 + x15 + x16 + x17 + x18 + x19 + x20 + x21 + x22 + x23) = True := by simp only [eq_iff_iff, iff_true]; omega
theorem lt_q23 (a n x1 x2 x3 x4 x5 x6 x7 x8 x9 x10 x11 x12 x13 x14 x15 x16 x17 x18 x19 x20 x21 x22 x23 : Nat) (h : a < n) : (a < n + x1 + x2 + x3 + x4 + x5 + x6 + x7 + x8 + x9 + x10 + x11 + x12 + x13 + x14 + x15 + x16 + x17 + x18 + x19 + x20 + x21 + x22 + x23) = True := by simp only [eq_iff_iff, iff_true]; omega
theorem le_q24 (a n x1 x2 x3 x4 x5 x6 x7 x8 x9 x10 x11 x12 x13 x14 x15 x16 x17 x18 x19 x20 x21 x22 x23 x24 : Nat) (h : a < n) : (a ≤ n + x1 + x2 + x3 + x4 + x5 + x6 + x7 + x8 + x9 + x10 + x11 + x12 + x13 + x14 + x15 + x16 + x17 + x18 + x19 + x20 + x21 + x22 + x23 + x24) = True := by simp only [eq_iff_iff, iff_true]; omega
theorem lt_q24 (a n x1 x2 x3 x4 x5 x6 x7 x8 x9 x10 x11 x12 x13 x14 x15 x16 x17 x18 x19 x20 x21 x22 x23 x24 : Nat) (h : a < n) : (a < n + x1 + x2 + x3 + x4 + x5 + x6 + x7 + x8 + x9 + x10 + x11 + x12 + x13 + x14 + x15 + x16 + x17 + x18 + x19 + x20 + x21 + x22 + x23 + x24) = True := by simp only [eq_iff_iff, iff_true]; omega
theorem le_q0 (a n : Nat) (h : a < n) : (a ≤ n) = True := by simp only [eq_iff_iff, iff_true]; omega

end Go.Proofs.YtiacnmcdfpmcfaaGreatDoor

namespace Go.Proofs.YtiacnmcdfpmcfaaGreatDoor
open Go.RowKit
attribute [local go_sem] cell?_more frozen?_more setCell_more size_more tape_more drew_more drewN_more more_drew more_drewN more_more one_out plus_out plus_end lt_one le_p2 le_p3 le_p4 le_p5 le_p6 le_p7 le_p8 le_p9 le_p10 le_p11 le_p12 le_p13 le_p14 le_p15 le_p16 le_p17 le_p18 le_p19 le_p20 le_p21 le_p22 le_p23 le_p24 le_q0 le_q1 lt_q1 le_q2 lt_q2 le_q3 lt_q3 le_q4 lt_q4 le_q5 lt_q5 le_q6 lt_q6 le_q7 lt_q7 le_q8 lt_q8 le_q9 lt_q9 le_q10 lt_q10 le_q11 lt_q11 le_q12 lt_q12 le_q13 lt_q13 le_q14 lt_q14 le_q15 lt_q15 le_q16 lt_q16 le_q17 lt_q17 le_q18 lt_q18 le_q19 lt_q19 le_q20 lt_q20 le_q21 lt_q21 le_q22 lt_q22 le_q23 lt_q23 le_q24 lt_q24

/-- A field of a document. -/
structure F where
  path : ByteArray
  val : V
  fits : path.size ≤ 9223372036854775807

/-- The cells of the fields fs, from ⟨b, off⟩ on. -/
def Lies (w : World) (b off : Nat) (fs : List F) : Prop := ∀ j (h : j < fs.length),
  w.cell? ⟨b, off + j * 6, none⟩ = some (.string fs[j].path) ∧ w.cell? ⟨b, off + j * 6 + 1, none⟩ = some (.int .i64 fs[j].val.kind) ∧ w.cell? ⟨b, off + j * 6 + 2, none⟩ = some (.int .i64 fs[j].val.num) ∧
  w.cell? ⟨b, off + j * 6 + 3, none⟩ = some (.string fs[j].val.text) ∧ w.cell? ⟨b, off + j * 6 + 4, none⟩ = some (.int .i64 fs[j].val.re) ∧ w.cell? ⟨b, off + j * 6 + 5, none⟩ = some (.int .i64 fs[j].val.im)

/-- The slice value s reads as the fields fs. -/
def Lst (w : World) (s : Value) (fs : List F) : Prop :=
  ∃ ao cap, s = .slice ao fs.length cap ∧ fs.length ≤ cap ∧ (fs = [] ∨ ∃ b off, ao = some ⟨b, off, none⟩ ∧ b < w.heap.size ∧ Lies w b off fs)

theorem Lies.below {w w' : World} {B b off : Nat} {fs : List F} (h : Lies w b off fs) (hb : Below B w w') (hB : b < B) : Lies w' b off fs := by
  intro j hj
  obtain ⟨h0, h1, h2, h3, h4, h5⟩ := h j hj
  exact ⟨(hb.cell (by exact hB)).trans h0, (hb.cell (by exact hB)).trans h1, (hb.cell (by exact hB)).trans h2, (hb.cell (by exact hB)).trans h3, (hb.cell (by exact hB)).trans h4, (hb.cell (by exact hB)).trans h5⟩

theorem Lst.below {w w' : World} {s : Value} {fs : List F} (h : Lst w s fs) (hb : Below w.heap.size w w') : Lst w' s fs := by
  obtain ⟨ao, cap, rfl, hc, h | ⟨b, off, rfl, hlt, hl⟩⟩ := h
  · exact ⟨ao, cap, rfl, hc, .inl h⟩
  · exact ⟨_, cap, rfl, hc, .inr ⟨b, off, rfl, Nat.lt_of_lt_of_le hlt hb.size, hl.below hb hlt⟩⟩

theorem Lst.adds {w w' : World} {s : Value} {fs : List F} (h : Lst w s fs) (hb : Adds w w') : Lst w' s fs := h.below hb.below

/-- One path ahead of another. -/
def lessP (x y : ByteArray) : Bool := Op.bytesLess x.toList y.toList

/-- A document's field, and what stands ahead of it. -/
def Good (fs : List F) (k : Nat) (h : k < fs.length) : Prop := isPath fs[k].path = true ∧ fs[k].val.check = 0 ∧ (0 < k → lessP fs[k - 1].path fs[k].path = true)

def May (fs : List F) : Prop := fs.length ≤ 16 ∧ ∀ k (h : k < fs.length), Good fs k h

instance (fs : List F) : Decidable (May fs) := by unfold May Good; infer_instance

def errOf (p : Prop) [Decidable p] (e : Int) : Int := if p then 0 else e

theorem may_bad {fs : List F} {k : Nat} {h : k < fs.length} (hb : ¬ Good fs k h) : ¬ May fs := fun hm => hb (hm.2 k h)

theorem err_bad {p : Prop} [Decidable p] (h : ¬ p) (e : Int) : errOf p e = e := if_neg h
theorem err_ok {p : Prop} [Decidable p] (h : p) (e : Int) : errOf p e = 0 := if_pos h

set_option maxHeartbeats 2000000 in
theorem check_doc (s : Value) (fs : List F) (w : World) (h : Lst w s fs) :
    Calls Tryz.prog 104 #[s] w fun e w' => e = .returned (.int .i64 (errOf (May fs) 1)) ∧ Adds w w' := by
  obtain ⟨ao, cap, rfl, hcap, hlo⟩ := h
  by_cases h16 : fs.length ≤ 16
  · have h16' : ¬ (16 : Int) < (fs.length : Int) := by omega
    go_enter Tryz.func104, Tryz.ntmps104
    go_wp2
    go_loopw [10] (fun i wr => ∃ k : Nat, k ≤ fs.length ∧ i = .int .i64 k ∧ (∀ j (hj : j < fs.length), j < k → Good fs j hj) ∧ Adds w wr) (fun i _ => fs.length - (intOf i).toNat)
    case atStart => exact ⟨0, Nat.zero_le _, rfl, fun j _ hj => absurd hj (by omega), Adds.refl _⟩
    case round =>
      obtain ⟨k, hk, rfl, hgood, os, n, rfl⟩ := hrel
      by_cases hlt : k < fs.length
      · rcases hlo with rfl | ⟨b, off, rfl, hb, hl⟩
        · simp at hlt
        obtain ⟨c0, c1, c2, c3, c4, c5⟩ := hl k hlt
        have hG : Good fs k hlt = (isPath fs[k].path = true ∧ fs[k].val.check = 0 ∧ (0 < k → lessP fs[k - 1].path fs[k].path = true)) := rfl
        obtain ⟨x, hx⟩ : ∃ x, x = fs[k] := ⟨_, rfl⟩
        rw [← hx] at hG c0 c1 c2 c3 c4 c5
        clear hx
        have hp := path_any x.path
        have hv := check_any x.val
        obtain ⟨p, ⟨kind, num, text, re, im⟩, hpf⟩ := x
        simp only [V.val] at hp hv c0 c1 c2 c3 c4 c5 hG
        generalize isPath p = q1 at *
        generalize V.check ⟨kind, num, text, re, im⟩ = q2 at *
        have HG : Hid _ := hG
        clear hG
        cases q1
        · go_wp2_with (first
            | (go_at_call 121; refine (hp _).mono ?_; rintro e w1 ⟨rfl, hw⟩; subst w1))
          go_ret
          refine ⟨by rw [err_bad (may_bad (h := hlt) (by rw [HG.out]; simp))]; rfl, ?_⟩
          repeat (first | with_reducible exact Adds.refl _ | with_reducible refine Adds.alloc ?_ _ | with_reducible refine Adds.more ?_ _ _ | with_reducible refine Adds.drew ?_ | with_reducible refine Adds.drewN ?_ _)
        by_cases hq2 : q2 = 0
        · subst hq2
          by_cases hk0 : k = 0
          · subst hk0
            simp only [Nat.zero_mul, Nat.add_zero] at c0 c1 c2 c3 c4 c5
            go_wp2_with (first
              | (go_at_call 121; refine (hp _).mono ?_; rintro e w1 ⟨rfl, hw⟩; subst w1)
              | (go_at_call 127; refine (hv _).mono ?_; rintro e w1 ⟨rfl, os1, n1, rfl⟩))
            go_quiet (fail)
            go_wp2
            go_roundw
            case rel =>
              refine ⟨1, by omega, by go_num, ?_, ?_⟩
              · intro j hj hj1
                have : j = 0 := by omega
                subst this
                rw [HG.out]
                simp
              · repeat (first | with_reducible exact Adds.refl _ | with_reducible refine Adds.alloc ?_ _ | with_reducible refine Adds.more ?_ _ _ | with_reducible refine Adds.drew ?_ | with_reducible refine Adds.drewN ?_ _)
            case measure => simp [intOf]; omega
          · obtain ⟨m, rfl⟩ : ∃ m, k = m + 1 := ⟨k - 1, by omega⟩
            have hd := (hl m (by omega)).1
            have hG' : Good fs (m + 1) hlt = (lessP fs[m].path p = true) := by simpa using HG.out
            have HG' : Hid _ := hG'
            clear hG'
            clear HG
            generalize hP : fs[m].path = pm at *
            clear hP
            have hL : lessP pm p = Op.bytesLess pm.toList p.toList := rfl
            obtain ⟨q, hq⟩ : ∃ q, lessP pm p = q := ⟨_, rfl⟩
            rw [hq] at hL
            have hm1 : ((m + 1 : Nat) : Int) = (m : Int) + 1 := by omega
            have hw1 : IntKind.i64.wrap (m : Int) = m := by rw [IntKind.wrap_i64]; omega
            have hml : m < fs.length := by omega
            have hq' : Op.bytesLess pm.toList p.toList = q := hL.symm
            clear hL
            go_wp2_with (first
              | (go_at_call 121; refine (hp _).mono ?_; rintro e w1 ⟨rfl, hw⟩; subst w1)
              | (go_at_call 127; refine (hv _).mono ?_; rintro e w1 ⟨rfl, os1, n1, rfl⟩))
            go_quiet (fail)
            cases q
            · go_wp2
              go_ret
              refine ⟨by rw [err_bad (may_bad (h := hlt) (by rw [HG'.out, hq]; simp))]; rfl, ?_⟩
              repeat (first | with_reducible exact Adds.refl _ | with_reducible refine Adds.alloc ?_ _ | with_reducible refine Adds.more ?_ _ _ | with_reducible refine Adds.drew ?_ | with_reducible refine Adds.drewN ?_ _)
            · go_wp2
              go_roundw
              case rel =>
                refine ⟨m + 2, by omega, by go_num, ?_, ?_⟩
                · intro j hj hj2
                  by_cases e : j = m + 1
                  · subst e
                    rw [HG'.out, hq]
                  · exact hgood j hj (by omega)
                · repeat (first | with_reducible exact Adds.refl _ | with_reducible refine Adds.alloc ?_ _ | with_reducible refine Adds.more ?_ _ _ | with_reducible refine Adds.drew ?_ | with_reducible refine Adds.drewN ?_ _)
              case measure => simp [intOf]; omega
        · have hq2' : (q2 != 0) = true := by simp [hq2]
          go_wp2_with (first
            | (go_at_call 121; refine (hp _).mono ?_; rintro e w1 ⟨rfl, hw⟩; subst w1)
            | (go_at_call 127; refine (hv _).mono ?_; rintro e w1 ⟨rfl, os1, n1, rfl⟩))
          go_ret
          refine ⟨by rw [err_bad (may_bad (h := hlt) (by rw [HG.out]; simp [hq2]))]; rfl, ?_⟩
          repeat (first | with_reducible exact Adds.refl _ | with_reducible refine Adds.alloc ?_ _ | with_reducible refine Adds.more ?_ _ _ | with_reducible refine Adds.drew ?_ | with_reducible refine Adds.drewN ?_ _)
      · have hk' : k = fs.length := by omega
        subst hk'
        go_wp2
        go_ret
        refine ⟨by rw [err_ok ⟨h16, fun j hj => hgood j hj hj⟩]; rfl, ?_⟩
        repeat (first | with_reducible exact Adds.refl _ | with_reducible refine Adds.alloc ?_ _ | with_reducible refine Adds.more ?_ _ _ | with_reducible refine Adds.drew ?_ | with_reducible refine Adds.drewN ?_ _)
  · have h16' : (16 : Int) < (fs.length : Int) := by omega
    go_enter Tryz.func104, Tryz.ntmps104
    go_wp2
    go_ret
    exact ⟨by rw [err_bad (fun hm => h16 hm.1)]; rfl, Adds.refl _⟩

end Go.Proofs.YtiacnmcdfpmcfaaGreatDoor
