/-
  The reference's last and whole, by contracts.
-/
import Derived.Test.YtiacnmcdfpmcfaaGreatDoorGref
import Derived.Test.YtiacnmcdfpmcfaaGreatDoorNode
namespace Go.Proofs.YtiacnmcdfpmcfaaGreatDoor
open Go.RowKit
attribute [local go_sem] cell?_more frozen?_more setCell_more size_more tape_more drew_more drewN_more more_drew more_drewN one_out plus_out plus_end lt_one le_p2 le_p3 le_p4 le_p5 le_p6 le_p7 le_p8 le_p9 le_p10 le_p11 le_p12 le_p13 le_p14 le_p15 le_p16 le_p17 le_p18 le_p19 le_p20 le_p21 le_p22 le_p23 le_p24 le_q0 le_q1 lt_q1 le_q2 lt_q2 le_q3 lt_q3 le_q4 lt_q4 le_q5 lt_q5 le_q6 lt_q6 le_q7 lt_q7 le_q8 lt_q8 le_q9 lt_q9 le_q10 lt_q10 le_q11 lt_q11 le_q12 lt_q12 le_q13 lt_q13 le_q14 lt_q14 le_q15 lt_q15 le_q16 lt_q16 le_q17 lt_q17 le_q18 lt_q18 le_q19 lt_q19 le_q20 lt_q20 le_q21 lt_q21 le_q22 lt_q22 le_q23 lt_q23 le_q24 lt_q24


theorem dl_40 {x : UInt8} (h : (x.toNat : Int) = 40) : dl x = 1 := by
  have : x = 40 := UInt8.toNat_inj.1 (by simpa using (by omega : x.toNat = 40))
  subst this
  decide
theorem dl_41 {x : UInt8} (h : (x.toNat : Int) = 41) : dl x = -1 := by
  have : x = 41 := UInt8.toNat_inj.1 (by simpa using (by omega : x.toNat = 41))
  subst this
  decide
theorem dl_no {x : UInt8} (h : ¬ (x.toNat : Int) = 40) (h' : ¬ (x.toNat : Int) = 41) : dl x = 0 := by
  have h1 : x ≠ 40 := by rintro rfl; exact h rfl
  have h2 : x ≠ 41 := by rintro rfl; exact h' rfl
  simp [dl, h1, h2]
theorem u8_eq {x c : UInt8} : x = c ↔ (x.toNat : Int) = (c.toNat : Int) := by
  constructor
  · rintro rfl; rfl
  · intro h; exact UInt8.toNat_inj.1 (by omega)
theorem drop_at (s : ByteArray) {k : Nat} (hk : k < s.size) : s.toList.drop k = s[k] :: s.toList.drop (k + 1) := by
  have hk' : k < s.toList.length := by rw [toList_length]; exact hk
  rw [List.drop_eq_getElem_cons hk', toList_get]

set_option maxHeartbeats 4000000 in
theorem rLast_any (s : ByteArray) (hs : s.size ≤ 1000) (c : UInt8) (w : World) :
    Calls Tryz.prog 69 #[.string s, .int .u8 (c.toNat : Int)] w fun e w' => e = .returned (.int .i64 (lastL c s.toList)) ∧ w' = w := by
  go_enter Tryz.func69, Tryz.ntmps69
  go_wp2
  go_loopw [5, 6, 7] (fun ov av iv wr => ∃ (k : Nat) (o a : Int), k ≤ s.size ∧ ov = .int .i64 o ∧ av = .int .i64 a ∧ iv = .int .i64 k ∧ -(k : Int) ≤ o ∧ o ≤ k ∧ Hid (lastF c o a k (s.toList.drop k) = lastL c s.toList) ∧ wr = w) (fun _ _ iv _ => s.size - (intOf iv).toNat)
  case atStart => exact ⟨0, 0, -1, Nat.zero_le _, rfl, rfl, rfl, by omega, by omega, by show _ = _; rfl, rfl⟩
  case round =>
    obtain ⟨k, o, a, hk, rfl, rfl, rfl, ho1, ho2, hL, rfl⟩ := hrel
    by_cases hlt : k < s.size
    · have HN : Hid (lastF c (o + dl s[k]) (if o + dl s[k] = 0 ∧ s[k] = c then (k : Int) else a) (k + 1) (s.toList.drop (k + 1)) = lastL c s.toList) := by
        have := hL.out
        rw [drop_at s hlt] at this
        exact this
      clear hL
      by_cases h40 : (s[k].toNat : Int) = 40
      · have hd : dl s[k] = 1 := dl_40 h40
        have hb0 : ((s[k].toNat : Int) == 40) = true := by simp [h40]
        have hb1 : ((s[k].toNat : Int) == 41) = false := by simp [h40]
        clear h40
        by_cases e0 : (o + 1) = 0
        · have e0b : ((o + 1) == 0) = true := by simpa using e0
          by_cases ec : (s[k].toNat : Int) = (c.toNat : Int)
          · have HF : Hid (lastF c (o + 1) (k : Int) (k + 1) (s.toList.drop (k + 1)) = lastL c s.toList) := by
                have h1 := HN.out
                rw [if_pos ⟨by omega, u8_eq.2 ec⟩, hd] at h1
                exact h1
            have ecb : ((s[k].toNat : Int) == (c.toNat : Int)) = true := by simpa using ec
            clear HN ec hd
            have E0 : Hid ((o + 1) = 0) := e0
            clear e0
            go_wp2
            go_roundw
            case rel => exact ⟨k + 1, (o + 1), (k : Int), by omega, by go_num, by go_num, by go_num, by omega, by omega, HF, by first | rfl | trivial⟩
            case measure => simp [intOf]; omega
          · have HF : Hid (lastF c (o + 1) a (k + 1) (s.toList.drop (k + 1)) = lastL c s.toList) := by
                have h1 := HN.out
                rw [if_neg (fun h => ec (u8_eq.1 h.2)), hd] at h1
                exact h1
            have ecb : ((s[k].toNat : Int) == (c.toNat : Int)) = false := by simpa using ec
            clear HN ec hd
            have E0 : Hid ((o + 1) = 0) := e0
            clear e0
            go_wp2
            go_roundw
            case rel => exact ⟨k + 1, (o + 1), a, by omega, by go_num, by go_num, by go_num, by omega, by omega, HF, by first | rfl | trivial⟩
            case measure => simp [intOf]; omega
        · have e0b : ((o + 1) == 0) = false := by simpa using e0
          by_cases ec : (s[k].toNat : Int) = (c.toNat : Int)
          · have HF : Hid (lastF c (o + 1) a (k + 1) (s.toList.drop (k + 1)) = lastL c s.toList) := by
                have h1 := HN.out
                rw [if_neg (fun h => by omega), hd] at h1
                exact h1
            have ecb : ((s[k].toNat : Int) == (c.toNat : Int)) = true := by simpa using ec
            clear HN ec hd e0
            go_wp2
            go_roundw
            case rel => exact ⟨k + 1, (o + 1), a, by omega, by go_num, by go_num, by go_num, by omega, by omega, HF, by first | rfl | trivial⟩
            case measure => simp [intOf]; omega
          · have HF : Hid (lastF c (o + 1) a (k + 1) (s.toList.drop (k + 1)) = lastL c s.toList) := by
                have h1 := HN.out
                rw [if_neg (fun h => ec (u8_eq.1 h.2)), hd] at h1
                exact h1
            have ecb : ((s[k].toNat : Int) == (c.toNat : Int)) = false := by simpa using ec
            clear HN ec hd e0
            go_wp2
            go_roundw
            case rel => exact ⟨k + 1, (o + 1), a, by omega, by go_num, by go_num, by go_num, by omega, by omega, HF, by first | rfl | trivial⟩
            case measure => simp [intOf]; omega
      by_cases h41 : (s[k].toNat : Int) = 41
      · have hd : dl s[k] = -1 := dl_41 h41
        have hb0 : ((s[k].toNat : Int) == 40) = false := by simpa using h40
        have hb1 : ((s[k].toNat : Int) == 41) = true := by simp [h41]
        clear h40
        clear h41
        by_cases e0 : (o - 1) = 0
        · have e0b : ((o - 1) == 0) = true := by simpa using e0
          by_cases ec : (s[k].toNat : Int) = (c.toNat : Int)
          · have HF : Hid (lastF c (o - 1) (k : Int) (k + 1) (s.toList.drop (k + 1)) = lastL c s.toList) := by
                have h1 := HN.out
                rw [if_pos ⟨by omega, u8_eq.2 ec⟩, hd] at h1
                exact h1
            have ecb : ((s[k].toNat : Int) == (c.toNat : Int)) = true := by simpa using ec
            clear HN ec hd
            have E0 : Hid ((o - 1) = 0) := e0
            clear e0
            go_wp2
            go_roundw
            case rel => exact ⟨k + 1, (o - 1), (k : Int), by omega, by go_num, by go_num, by go_num, by omega, by omega, HF, by first | rfl | trivial⟩
            case measure => simp [intOf]; omega
          · have HF : Hid (lastF c (o - 1) a (k + 1) (s.toList.drop (k + 1)) = lastL c s.toList) := by
                have h1 := HN.out
                rw [if_neg (fun h => ec (u8_eq.1 h.2)), hd] at h1
                exact h1
            have ecb : ((s[k].toNat : Int) == (c.toNat : Int)) = false := by simpa using ec
            clear HN ec hd
            have E0 : Hid ((o - 1) = 0) := e0
            clear e0
            go_wp2
            go_roundw
            case rel => exact ⟨k + 1, (o - 1), a, by omega, by go_num, by go_num, by go_num, by omega, by omega, HF, by first | rfl | trivial⟩
            case measure => simp [intOf]; omega
        · have e0b : ((o - 1) == 0) = false := by simpa using e0
          by_cases ec : (s[k].toNat : Int) = (c.toNat : Int)
          · have HF : Hid (lastF c (o - 1) a (k + 1) (s.toList.drop (k + 1)) = lastL c s.toList) := by
                have h1 := HN.out
                rw [if_neg (fun h => by omega), hd] at h1
                exact h1
            have ecb : ((s[k].toNat : Int) == (c.toNat : Int)) = true := by simpa using ec
            clear HN ec hd e0
            go_wp2
            go_roundw
            case rel => exact ⟨k + 1, (o - 1), a, by omega, by go_num, by go_num, by go_num, by omega, by omega, HF, by first | rfl | trivial⟩
            case measure => simp [intOf]; omega
          · have HF : Hid (lastF c (o - 1) a (k + 1) (s.toList.drop (k + 1)) = lastL c s.toList) := by
                have h1 := HN.out
                rw [if_neg (fun h => ec (u8_eq.1 h.2)), hd] at h1
                exact h1
            have ecb : ((s[k].toNat : Int) == (c.toNat : Int)) = false := by simpa using ec
            clear HN ec hd e0
            go_wp2
            go_roundw
            case rel => exact ⟨k + 1, (o - 1), a, by omega, by go_num, by go_num, by go_num, by omega, by omega, HF, by first | rfl | trivial⟩
            case measure => simp [intOf]; omega
      · have hd : dl s[k] = 0 := dl_no h40 h41
        have hb0 : ((s[k].toNat : Int) == 40) = false := by simpa using h40
        have hb1 : ((s[k].toNat : Int) == 41) = false := by simpa using h41
        clear h40
        clear h41
        by_cases e0 : o = 0
        · have e0b : (o == 0) = true := by simpa using e0
          by_cases ec : (s[k].toNat : Int) = (c.toNat : Int)
          · have HF : Hid (lastF c o (k : Int) (k + 1) (s.toList.drop (k + 1)) = lastL c s.toList) := by
                have h1 := HN.out
                rw [if_pos ⟨by omega, u8_eq.2 ec⟩, hd, Int.add_zero] at h1
                exact h1
            have ecb : ((s[k].toNat : Int) == (c.toNat : Int)) = true := by simpa using ec
            clear HN ec hd
            have E0 : Hid (o = 0) := e0
            clear e0
            go_wp2
            go_roundw
            case rel => exact ⟨k + 1, o, (k : Int), by omega, by go_num, by go_num, by go_num, by omega, by omega, HF, by first | rfl | trivial⟩
            case measure => simp [intOf]; omega
          · have HF : Hid (lastF c o a (k + 1) (s.toList.drop (k + 1)) = lastL c s.toList) := by
                have h1 := HN.out
                rw [if_neg (fun h => ec (u8_eq.1 h.2)), hd, Int.add_zero] at h1
                exact h1
            have ecb : ((s[k].toNat : Int) == (c.toNat : Int)) = false := by simpa using ec
            clear HN ec hd
            have E0 : Hid (o = 0) := e0
            clear e0
            go_wp2
            go_roundw
            case rel => exact ⟨k + 1, o, a, by omega, by go_num, by go_num, by go_num, by omega, by omega, HF, by first | rfl | trivial⟩
            case measure => simp [intOf]; omega
        · have e0b : (o == 0) = false := by simpa using e0
          by_cases ec : (s[k].toNat : Int) = (c.toNat : Int)
          · have HF : Hid (lastF c o a (k + 1) (s.toList.drop (k + 1)) = lastL c s.toList) := by
                have h1 := HN.out
                rw [if_neg (fun h => by omega), hd, Int.add_zero] at h1
                exact h1
            have ecb : ((s[k].toNat : Int) == (c.toNat : Int)) = true := by simpa using ec
            clear HN ec hd e0
            go_wp2
            go_roundw
            case rel => exact ⟨k + 1, o, a, by omega, by go_num, by go_num, by go_num, by omega, by omega, HF, by first | rfl | trivial⟩
            case measure => simp [intOf]; omega
          · have HF : Hid (lastF c o a (k + 1) (s.toList.drop (k + 1)) = lastL c s.toList) := by
                have h1 := HN.out
                rw [if_neg (fun h => ec (u8_eq.1 h.2)), hd, Int.add_zero] at h1
                exact h1
            have ecb : ((s[k].toNat : Int) == (c.toNat : Int)) = false := by simpa using ec
            clear HN ec hd e0
            go_wp2
            go_roundw
            case rel => exact ⟨k + 1, o, a, by omega, by go_num, by go_num, by go_num, by omega, by omega, HF, by first | rfl | trivial⟩
            case measure => simp [intOf]; omega
    · have hk' : k = s.size := by omega
      subst hk'
      have HE : Hid (a = lastL c s.toList) := by
        have := hL.out
        rw [← toList_length, List.drop_length] at this
        exact this
      clear hL
      go_wp2
      go_ret
      exact ⟨congrArg (fun z => Ending.returned (.int .i64 z)) HE.out, rfl⟩

set_option maxHeartbeats 4000000 in
theorem rWhole_any (s : ByteArray) (hs : s.size ≤ 1000) (w : World) :
    Calls Tryz.prog 70 #[.string s] w fun e w' => e = .returned (.bool (wholeL s.toList)) ∧ w' = w := by
  go_enter Tryz.func70, Tryz.ntmps70
  go_wp2
  go_loopw [3, 4] (fun ov iv wr => ∃ (k : Nat) (o : Int), k ≤ s.size ∧ ov = .int .i64 o ∧ iv = .int .i64 k ∧ -(k : Int) ≤ o ∧ o ≤ k ∧ Hid (whl o (s.toList.drop k) = whl 0 s.toList) ∧ wr = w) (fun _ iv _ => s.size - (intOf iv).toNat)
  case atStart => exact ⟨0, 0, Nat.zero_le _, rfl, rfl, by omega, by omega, by show _ = _; rfl, rfl⟩
  case round =>
    obtain ⟨k, o, hk, rfl, rfl, ho1, ho2, hL, rfl⟩ := hrel
    by_cases hlt : k < s.size
    · have HN : Hid ((if o + dl s[k] ≤ 0 ∧ s.toList.drop (k + 1) ≠ [] then false else whl (o + dl s[k]) (s.toList.drop (k + 1))) = whl 0 s.toList) := by
        have := hL.out
        rw [drop_at s hlt] at this
        exact this
      have HR : Hid (s.toList.drop (k + 1) ≠ [] ↔ (k : Int) < (s.size : Int) - 1) := by
        show _ ↔ _
        rw [ne_eq, List.drop_eq_nil_iff, toList_length]
        omega
      clear hL
      by_cases h40 : (s[k].toNat : Int) = 40
      · have hd : dl s[k] = 1 := dl_40 h40
        have hb0 : ((s[k].toNat : Int) == 40) = true := by simp [h40]
        have hb1 : ((s[k].toNat : Int) == 41) = false := by simp [h40]
        clear h40
        by_cases e0 : (o + 1) ≤ 0
        · by_cases er : (k : Int) < (s.size : Int) - 1
          · have HF : Hid (whl 0 s.toList = false) := by
                have h1 := HN.out
                rw [hd, if_pos ⟨by omega, HR.out.2 er⟩] at h1
                exact h1.symm
            clear HN HR hd
            go_wp2
            go_ret
            exact ⟨by rw [wholeL, HF.out]; rfl, rfl⟩
          · have HF : Hid (whl (o + 1) (s.toList.drop (k + 1)) = whl 0 s.toList) := by
                have h1 := HN.out
                rw [hd, if_neg (fun h => er (HR.out.1 h.2))] at h1
                exact h1
            clear HN HR hd
            go_wp2
            go_roundw
            case rel => exact ⟨k + 1, (o + 1), by omega, by go_num, by go_num, by omega, by omega, HF, by first | rfl | trivial⟩
            case measure => simp [intOf]; omega
        · by_cases er : (k : Int) < (s.size : Int) - 1
          · have HF : Hid (whl (o + 1) (s.toList.drop (k + 1)) = whl 0 s.toList) := by
                have h1 := HN.out
                rw [hd, if_neg (fun h => by omega)] at h1
                exact h1
            clear HN HR hd
            go_wp2
            go_roundw
            case rel => exact ⟨k + 1, (o + 1), by omega, by go_num, by go_num, by omega, by omega, HF, by first | rfl | trivial⟩
            case measure => simp [intOf]; omega
          · have HF : Hid (whl (o + 1) (s.toList.drop (k + 1)) = whl 0 s.toList) := by
                have h1 := HN.out
                rw [hd, if_neg (fun h => by omega)] at h1
                exact h1
            clear HN HR hd
            go_wp2
            go_roundw
            case rel => exact ⟨k + 1, (o + 1), by omega, by go_num, by go_num, by omega, by omega, HF, by first | rfl | trivial⟩
            case measure => simp [intOf]; omega
      by_cases h41 : (s[k].toNat : Int) = 41
      · have hd : dl s[k] = -1 := dl_41 h41
        have hb0 : ((s[k].toNat : Int) == 40) = false := by simpa using h40
        have hb1 : ((s[k].toNat : Int) == 41) = true := by simp [h41]
        clear h40
        clear h41
        by_cases e0 : (o - 1) ≤ 0
        · by_cases er : (k : Int) < (s.size : Int) - 1
          · have HF : Hid (whl 0 s.toList = false) := by
                have h1 := HN.out
                rw [hd, if_pos ⟨by omega, HR.out.2 er⟩] at h1
                exact h1.symm
            clear HN HR hd
            go_wp2
            go_ret
            exact ⟨by rw [wholeL, HF.out]; rfl, rfl⟩
          · have HF : Hid (whl (o - 1) (s.toList.drop (k + 1)) = whl 0 s.toList) := by
                have h1 := HN.out
                rw [hd, if_neg (fun h => er (HR.out.1 h.2))] at h1
                exact h1
            clear HN HR hd
            go_wp2
            go_roundw
            case rel => exact ⟨k + 1, (o - 1), by omega, by go_num, by go_num, by omega, by omega, HF, by first | rfl | trivial⟩
            case measure => simp [intOf]; omega
        · by_cases er : (k : Int) < (s.size : Int) - 1
          · have HF : Hid (whl (o - 1) (s.toList.drop (k + 1)) = whl 0 s.toList) := by
                have h1 := HN.out
                rw [hd, if_neg (fun h => by omega)] at h1
                exact h1
            clear HN HR hd
            go_wp2
            go_roundw
            case rel => exact ⟨k + 1, (o - 1), by omega, by go_num, by go_num, by omega, by omega, HF, by first | rfl | trivial⟩
            case measure => simp [intOf]; omega
          · have HF : Hid (whl (o - 1) (s.toList.drop (k + 1)) = whl 0 s.toList) := by
                have h1 := HN.out
                rw [hd, if_neg (fun h => by omega)] at h1
                exact h1
            clear HN HR hd
            go_wp2
            go_roundw
            case rel => exact ⟨k + 1, (o - 1), by omega, by go_num, by go_num, by omega, by omega, HF, by first | rfl | trivial⟩
            case measure => simp [intOf]; omega
      · have hd : dl s[k] = 0 := dl_no h40 h41
        have hb0 : ((s[k].toNat : Int) == 40) = false := by simpa using h40
        have hb1 : ((s[k].toNat : Int) == 41) = false := by simpa using h41
        clear h40
        clear h41
        by_cases e0 : o ≤ 0
        · by_cases er : (k : Int) < (s.size : Int) - 1
          · have HF : Hid (whl 0 s.toList = false) := by
                have h1 := HN.out
                rw [hd, if_pos ⟨by omega, HR.out.2 er⟩] at h1
                exact h1.symm
            clear HN HR hd
            go_wp2
            go_ret
            exact ⟨by rw [wholeL, HF.out]; rfl, rfl⟩
          · have HF : Hid (whl o (s.toList.drop (k + 1)) = whl 0 s.toList) := by
                have h1 := HN.out
                rw [hd, if_neg (fun h => er (HR.out.1 h.2)), Int.add_zero] at h1
                exact h1
            clear HN HR hd
            go_wp2
            go_roundw
            case rel => exact ⟨k + 1, o, by omega, by go_num, by go_num, by omega, by omega, HF, by first | rfl | trivial⟩
            case measure => simp [intOf]; omega
        · by_cases er : (k : Int) < (s.size : Int) - 1
          · have HF : Hid (whl o (s.toList.drop (k + 1)) = whl 0 s.toList) := by
                have h1 := HN.out
                rw [hd, if_neg (fun h => by omega), Int.add_zero] at h1
                exact h1
            clear HN HR hd
            go_wp2
            go_roundw
            case rel => exact ⟨k + 1, o, by omega, by go_num, by go_num, by omega, by omega, HF, by first | rfl | trivial⟩
            case measure => simp [intOf]; omega
          · have HF : Hid (whl o (s.toList.drop (k + 1)) = whl 0 s.toList) := by
                have h1 := HN.out
                rw [hd, if_neg (fun h => by omega), Int.add_zero] at h1
                exact h1
            clear HN HR hd
            go_wp2
            go_roundw
            case rel => exact ⟨k + 1, o, by omega, by go_num, by go_num, by omega, by omega, HF, by first | rfl | trivial⟩
            case measure => simp [intOf]; omega
    · have hk' : k = s.size := by omega
      subst hk'
      have HE : Hid (decide (o = 0) = whl 0 s.toList) := by
        have := hL.out
        rw [← toList_length, List.drop_length] at this
        exact this
      clear hL
      have HW : Hid (wholeL s.toList = (decide (o = 0) && decide (2 ≤ s.size))) := by
        show _ = _
        rw [HE.out, wholeL, toList_length]
      by_cases h0 : o = 0
      · subst h0
        by_cases h2 : (2 : Int) ≤ (s.size : Int)
        · go_wp2
          go_ret
          exact ⟨by rw [HW.out]; simp; omega, rfl⟩
        · go_wp2
          go_ret
          exact ⟨by rw [HW.out]; simp; omega, rfl⟩
      · have h0' : (o == 0) = false := by simpa using h0
        go_wp2
        go_ret
        exact ⟨by rw [HW.out]; simp [h0], rfl⟩

end Go.Proofs.YtiacnmcdfpmcfaaGreatDoor
