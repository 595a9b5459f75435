/-
  Paths and keys: the functions inWord, Key and Path of package paper, and the document's own Path, by contracts.
-/
import Derived.Test.YtiacnmcdfpmcfaaGreatDoorQ00
namespace Go.Proofs.YtiacnmcdfpmcfaaGreatDoor
open Go.RowKit

def inW (c : UInt8) : Bool := decide ((97 ≤ (c.toNat : Int) ∧ (c.toNat : Int) ≤ 122) ∨ (48 ≤ (c.toNat : Int) ∧ (c.toNat : Int) ≤ 57))

/-- What is left of a path, a word begun or not. -/
def stp : Bool → List UInt8 → Bool
  | b, [] => b
  | b, c :: r => if (c.toNat : Int) = 46 then b && stp false r else inW c && stp true r

def isKey (s : ByteArray) : Bool := decide (1 ≤ s.size ∧ s.size ≤ 64)
def isPath (s : ByteArray) : Bool := decide (s.size ≤ 64) && stp false s.toList

theorem toList_length (s : ByteArray) : s.toList.length = s.size := by
  rw [ByteArray.toList_eq]; rfl

theorem toList_get (t : ByteArray) (k : Nat) (hk : k < t.toList.length) : t.toList[k] = t[k]'(by rwa [toList_length] at hk) := by
  have h : t.toList = t.data.toList := by rw [ByteArray.toList_eq]
  simp only [h]
  rfl

theorem stp_next (s : ByteArray) (b : Bool) {k : Nat} (hk : k < s.size) : stp b (s.toList.drop k) = if (s[k].toNat : Int) = 46 then b && stp false (s.toList.drop (k + 1)) else inW s[k] && stp true (s.toList.drop (k + 1)) := by
  have hk' : k < s.toList.length := by rw [toList_length]; exact hk
  rw [List.drop_eq_getElem_cons hk', toList_get]
  rfl

theorem stp_end (s : ByteArray) (b : Bool) : stp b (s.toList.drop s.size) = b := by
  rw [← toList_length, List.drop_length]
  rfl

theorem isPath_key {s : ByteArray} (h : isKey s = true) : isPath s = stp false s.toList := by
  have : s.size ≤ 64 := by simp [isKey] at h; exact h.2
  simp [isPath, this]

theorem isPath_not {s : ByteArray} (h : ¬ isKey s = true) : isPath s = false := by
  simp only [isKey, decide_eq_true_eq] at h
  by_cases h1 : s.size ≤ 64
  · have h0 : s.size = 0 := by omega
    have : s.toList = [] := List.eq_nil_of_length_eq_zero (by rw [toList_length]; exact h0)
    simp [isPath, this, stp]
  · simp [isPath, h1]

theorem inWord_any (c : UInt8) (w : World) :
    Calls Tryz.prog 144 #[.int .u8 c.toNat] w fun e w' => e = .returned (.bool (inW c)) ∧ w' = w := by
  unfold inW
  by_cases h1 : 97 ≤ (c.toNat : Int) <;> by_cases h2 : (c.toNat : Int) ≤ 122 <;> by_cases h3 : 48 ≤ (c.toNat : Int) <;> by_cases h4 : (c.toNat : Int) ≤ 57
  all_goals
    go_enter Tryz.func144, Tryz.ntmps144
    go_wp2
    all_goals
      go_ret
      refine ⟨?_, rfl⟩
      simp [h1, h2, h3, h4]

theorem key_any (s : ByteArray) (w : World) :
    Calls Tryz.prog 103 #[.string s] w fun e w' => e = .returned (.bool (isKey s)) ∧ w' = w := by
  unfold isKey
  by_cases h1 : 1 ≤ s.size <;> by_cases h2 : s.size ≤ 64
  all_goals
    have h1' : (1 ≤ (s.size : Int)) = (1 ≤ s.size) := by simp; omega
    have h2' : ((s.size : Int) ≤ 64) = (s.size ≤ 64) := by simp; omega
    go_enter Tryz.func103, Tryz.ntmps103
    go_wp2
    all_goals
      go_ret
      refine ⟨?_, rfl⟩
      simp [h1, h2]

theorem path_any (s : ByteArray) (w : World) :
    Calls Tryz.prog 121 #[.string s] w fun e w' => e = .returned (.bool (isPath s)) ∧ w' = w := by
  have hk := key_any s
  by_cases h : isKey s = true
  · rw [h] at hk
    rw [isPath_key h]
    have h64 : s.size ≤ 64 := by simp [isKey] at h; exact h.2
    clear h
    go_enter Tryz.func121, Tryz.ntmps121
    go_wp2_with (go_at_call 103; refine (hk _).mono ?_; rintro e w1 ⟨rfl, hw⟩; subst w1)
    go_loopw [3, 4] (fun bv i wr => ∃ (k : Nat) (b : Bool), k ≤ s.size ∧ i = .int .i64 k ∧ bv = .bool b ∧ stp b (s.toList.drop k) = stp false s.toList ∧ wr = w) (fun _ i _ => s.size - (intOf i).toNat)
    case atStart => exact ⟨0, false, Nat.zero_le _, rfl, rfl, by simp, rfl⟩
    case round =>
      obtain ⟨k, b, hk, rfl, rfl, hst, rfl⟩ := hrel
      by_cases hlt : k < s.size
      · have hn := stp_next s b hlt
        rw [hst] at hn
        clear hst
        by_cases h46 : (s[k].toNat : Int) = 46
        · rw [if_pos h46] at hn
          have HN : Hid _ := hn
          clear hn
          cases b
          · go_wp2
            go_ret
            exact ⟨by rw [HN.out]; rfl, rfl⟩
          · go_wp2
            go_roundw
            case rel => exact ⟨k + 1, false, by omega, by go_num, by simp, by rw [HN.out]; rfl, trivial⟩
            case measure => simp [intOf]; omega
        · rw [if_neg h46] at hn
          have HN : Hid _ := hn
          clear hn
          have hi := inWord_any s[k]
          have hb46 : ((s[k].toNat : Int) == 46) = false := by simp [h46]
          generalize inW s[k] = q at *
          cases q
          · go_wp2_with (go_at_call 144; refine (hi _).mono ?_; rintro e w1 ⟨rfl, hw⟩; subst w1)
            go_ret
            exact ⟨by rw [HN.out]; rfl, rfl⟩
          · go_wp2_with (go_at_call 144; refine (hi _).mono ?_; rintro e w1 ⟨rfl, hw⟩; subst w1)
            go_roundw
            case rel => exact ⟨k + 1, true, by omega, by go_num, by simp, by rw [HN.out]; rfl, trivial⟩
            case measure => simp [intOf]; omega
      · have hk' : k = s.size := by omega
        subst hk'
        rw [stp_end] at hst
        subst hst
        go_wp2
        go_ret
        exact ⟨rfl, rfl⟩
  · rw [Bool.not_eq_true] at h
    rw [h] at hk
    rw [isPath_not (by simp [h])]
    go_enter Tryz.func121, Tryz.ntmps121
    go_wp2_with (go_at_call 103; refine (hk _).mono ?_; rintro e w1 ⟨rfl, hw⟩; subst w1)
    go_ret
    exact ⟨rfl, rfl⟩

theorem refPath_any (s : ByteArray) (hs : s.size ≤ 9223372036854775807) (w : World) :
    Calls Tryz.prog 39 #[.string s] w fun e w' => e = .returned (.bool (isPath s)) ∧ w' = w := by
  go_enter Tryz.func39, Tryz.ntmps39
  go_wp2
  go_loopw [3, 4] (fun m i wr => ∃ (k n : Nat), k ≤ s.size ∧ n ≤ k ∧ i = .int .i64 k ∧ m = .int .i64 n ∧ stp (decide (0 < n)) (s.toList.drop k) = stp false s.toList ∧ wr = w) (fun _ i _ => s.size - (intOf i).toNat)
  case atStart => exact ⟨0, 0, Nat.zero_le _, Nat.zero_le _, rfl, rfl, by simp, rfl⟩
  case round =>
    obtain ⟨k, n, hk, hnk, rfl, rfl, hst, rfl⟩ := hrel
    by_cases hlt : k < s.size
    · have hn := stp_next s (decide (0 < n)) hlt
      rw [hst] at hn
      clear hst
      by_cases h46 : (s[k].toNat : Int) = 46
      · rw [if_pos h46] at hn
        have HN : Hid _ := hn
        clear hn
        by_cases h0 : n = 0
        · subst h0
          go_wp2
          go_ret
          exact ⟨by simp [isPath, HN.out], rfl⟩
        · have h0' : 0 < n := by omega
          go_wp2
          go_roundw
          case rel => exact ⟨k + 1, 0, by omega, by omega, by go_num, rfl, by rw [HN.out]; simp [h0'], trivial⟩
          case measure => simp [intOf]; omega
      · rw [if_neg h46] at hn
        have HN : Hid _ := hn
        clear hn
        by_cases h1 : 97 ≤ (s[k].toNat : Int) <;> by_cases h2 : (s[k].toNat : Int) ≤ 122 <;> by_cases h3 : 48 ≤ (s[k].toNat : Int) <;> by_cases h4 : (s[k].toNat : Int) ≤ 57
        all_goals
          go_wp2
          first
            | (go_ret
               have hq : inW s[k] = false := decide_eq_false (by omega)
               exact ⟨by simp [isPath, HN.out, hq], rfl⟩)
            | (go_roundw
               case rel => exact ⟨k + 1, n + 1, by omega, by omega, by go_num, by go_num, by rw [HN.out, show inW s[k] = true from decide_eq_true (by omega)]; simp, trivial⟩
               case measure => simp [intOf]; omega)
            | (exfalso; omega)
    · have hk' : k = s.size := by omega
      subst hk'
      rw [stp_end] at hst
      have HN : Hid _ := hst
      clear hst
      by_cases h0 : 0 < n <;> by_cases h64 : s.size ≤ 64
      all_goals
        have h64' : ((s.size : Int) ≤ 64) = (s.size ≤ 64) := by simp; omega
        go_wp2
        go_ret
        exact ⟨by simp [isPath, ← HN.out, h0, h64], rfl⟩

end Go.Proofs.YtiacnmcdfpmcfaaGreatDoor
