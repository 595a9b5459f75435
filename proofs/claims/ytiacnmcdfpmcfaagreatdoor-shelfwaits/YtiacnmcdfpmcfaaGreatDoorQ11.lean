/-
  A text cut at its commas; Count and Index of package strings at a comma, by contracts.
  Split of package strings at a comma, by a contract.
-/
import Derived.Test.YtiacnmcdfpmcfaaGreatDoorQ02
import Derived.Lib.Bytealg
import Derived.Test.YtiacnmcdfpmcfaaGreatDoorQ03
import Derived.Lib.Split
import Derived.Deep.OwnRows
import Derived.Deep.LoopGhost
namespace Go.Proofs.YtiacnmcdfpmcfaaGreatDoor
open Go.RowKit


/-- A text cut at its commas. -/
def spl : List UInt8 → List (List UInt8)
  | [] => [[]]
  | c :: r => if c = 44 then [] :: spl r else match spl r with
    | [] => [[c]]
    | h :: t => (c :: h) :: t

theorem spl_ne (s : List UInt8) : spl s ≠ [] := by
  cases s with
  | nil => simp [spl]
  | cons c r =>
    simp only [spl]
    split
    · simp
    · split <;> simp

theorem spl_none {s : List UInt8} (h : (44 : UInt8) ∉ s) : spl s = [s] := by
  induction s with
  | nil => rfl
  | cons c r ih =>
    have hc : c ≠ 44 := fun e => h (by simp [e])
    simp only [spl]
    rw [if_neg hc, ih (fun hm => h (by simp [hm]))]

theorem spl_at {p q : List UInt8} (h : (44 : UInt8) ∉ p) : spl (p ++ 44 :: q) = p :: spl q := by
  induction p with
  | nil => simp [spl]
  | cons c r ih =>
    have hc : c ≠ 44 := fun e => h (by simp [e])
    simp only [List.cons_append, spl]
    rw [if_neg hc, ih (fun hm => h (by simp [hm]))]

theorem spl_len (s : List UInt8) : (spl s).length = s.count 44 + 1 := by
  induction s with
  | nil => simp [spl]
  | cons c r ih =>
    simp only [spl]
    by_cases hc : c = 44
    · rw [if_pos hc, hc]
      simp [ih]
    · rw [if_neg hc]
      have : (c :: r).count 44 = r.count 44 := by rw [List.count_cons]; simp [hc]
      rw [this]
      split
      · rename_i e
        exact absurd e (spl_ne r)
      · rename_i h t e
        rw [e] at ih
        simpa using ih

theorem first_comma {l : List UInt8} (h : (44 : UInt8) ∈ l) : ∃ f t, l = f ++ 44 :: t ∧ (44 : UInt8) ∉ f := by
  induction l with
  | nil => cases h
  | cons x r ih =>
    by_cases hx : x = 44
    · subst hx
      exact ⟨[], r, rfl, by simp⟩
    · obtain ⟨f, t, rfl, hf⟩ := ih (by simpa [Ne.symm hx] using h)
      exact ⟨x :: f, t, rfl, by simp [Ne.symm hx, hf]⟩

theorem idx_none {s : List UInt8} (h : (44 : UInt8) ∉ s) : Lib.indexByte s 44 = -1 := by
  induction s with
  | nil => rfl
  | cons c r ih =>
    have hc : c ≠ 44 := fun e => h (by simp [e])
    unfold Lib.indexByte
    rw [if_neg (by simpa using hc), ih (fun hm => h (by simp [hm]))]
    rfl
theorem idx_at {p q : List UInt8} (h : (44 : UInt8) ∉ p) : Lib.indexByte (p ++ 44 :: q) 44 = (p.length : Int) := by
  induction p with
  | nil => simp [Lib.indexByte]
  | cons c r ih =>
    have hc : c ≠ 44 := fun e => h (by simp [e])
    have hi := ih (fun hm => h (by simp [hm]))
    simp only [List.cons_append]
    unfold Lib.indexByte
    rw [if_neg (by simpa using hc), hi, if_neg (by simp)]
    simp

set_option maxHeartbeats 1000000 in
set_option maxRecDepth 100000 in
theorem count_any (s : ByteArray) (w : World) : Calls Tryz.prog 46 #[.string s, .string ⟨#[44]⟩] w fun e w' => e = .returned (.int .i64 ((s.toList.count 44 : Nat) : Int)) ∧ w' = w := by
  have e0 : s.data.toList = s.toList := (ByteArray.toList_eq s).symm
  go_enter Tryz.func46, Tryz.ntmps46
  go_wp2
  rw [run_callFunc_extern Tryz.func62 (by kernel_rfl) (by kernel_rfl) (by kernel_rfl) (e := Extern.BytealgCount.count) (by kernel_rfl), Lib.run_countString]
  simp only [Result.andThen]
  rw [Oper.upon_value]
  go_wp2
  go_ret
  exact ⟨by rw [← e0]; rfl, rfl⟩

set_option maxHeartbeats 1000000 in
set_option maxRecDepth 100000 in
theorem idxByte_any (s : ByteArray) (w : World) : Calls Tryz.prog 114 #[.string s, .int .u8 44] w fun e w' => e = .returned (.int .i64 (Lib.indexByte s.toList 44)) ∧ w' = w := by
  have e0 : s.data.toList = s.toList := (ByteArray.toList_eq s).symm
  go_enter Tryz.func114, Tryz.ntmps114
  go_wp2
  rw [run_callFunc_extern Tryz.func141 (by kernel_rfl) (by kernel_rfl) (by kernel_rfl) (e := Extern.BytealgIndexByte.indexByte) (by kernel_rfl), Lib.run_indexByteString]
  simp only [Result.andThen]
  rw [Oper.upon_value]
  go_wp2
  go_ret
  exact ⟨by rw [← e0]; rfl, rfl⟩

set_option maxHeartbeats 1000000 in
set_option maxRecDepth 100000 in
theorem slIndex_any (s : ByteArray) (w : World) : Calls Tryz.prog 86 #[.string s, .string ⟨#[44]⟩] w fun e w' => e = .returned (.int .i64 (Lib.indexByte s.toList 44)) ∧ w' = w := by
  have kI := idxByte_any s
  have q : (⟨#[44]⟩ : ByteArray).toList = [44] := by rw [ByteArray.toList_eq]
  by_cases he : s.toList = [44]
  · have he' : ([44] == s.toList) = true := by rw [he]; rfl
    have hx : Lib.indexByte s.toList 44 = 0 := by rw [he]; rfl
    rw [hx]
    clear hx he kI
    go_enter Tryz.func86, Tryz.ntmps86
    go_wp2
    go_ret
    exact ⟨rfl, rfl⟩
  · have he' : ([44] == s.toList) = false := by
      cases h : ([44] == s.toList) with
      | false => rfl
      | true => exact absurd (beq_iff_eq.1 h).symm he
    clear he
    go_enter Tryz.func86, Tryz.ntmps86
    go_wp2_with (go_at_call 114; refine (kI _).mono ?_; rintro e w1 ⟨rfl, hw⟩; subst w1)
    go_ret
    exact ⟨rfl, rfl⟩

theorem index_any (s : ByteArray) (w : World) : Calls Tryz.prog 63 #[.string s, .string ⟨#[44]⟩] w fun e w' => e = .returned (.int .i64 (Lib.indexByte s.toList 44)) ∧ w' = w := by
  have kI := slIndex_any s
  go_enter Tryz.func63, Tryz.ntmps63
  go_wp2_with (go_at_call 86; refine (kI _).mono ?_; rintro e w1 ⟨rfl, hw⟩; subst w1)
  go_ret
  exact ⟨rfl, rfl⟩

end Go.Proofs.YtiacnmcdfpmcfaaGreatDoor

namespace Go.Proofs.YtiacnmcdfpmcfaaGreatDoor
open Go.RowKit


theorem spl_last {s : List UInt8} (h : (spl s).length = 1) : spl s = [s] := by
  rw [spl_len] at h
  exact spl_none (List.count_eq_zero.1 (by omega))
theorem spl_more {s : List UInt8} (h : 1 < (spl s).length) : ∃ p q, s = p ++ 44 :: q ∧ (44 : UInt8) ∉ p := by
  rw [spl_len] at h
  exact first_comma (List.count_pos_iff.1 (by omega))

theorem pieces_cells {l : List ByteArray} {n : Nat} (h : n = l.length) : Lib.cellsOf l n = (l.map Value.string).toArray := by
  subst h
  simp [Lib.cellsOf]

set_option maxHeartbeats 4000000 in
set_option maxRecDepth 1000000 in
theorem genSplit_any (s : ByteArray) (hs : s.size ≤ 2000) (w : World) : Calls Tryz.prog 64 #[.string s, .string ⟨#[44]⟩, .int .i64 0, .int .i64 (-1)] w fun e w' =>
    e = .returned (.slice (some ⟨w.heap.size, 0, none⟩) (spl s.toList).length (spl s.toList).length) ∧ w' = w.alloc (.cells ((spl s.toList).map (fun l => Value.string (toB l))).toArray 9) := by
  obtain ⟨cn, hcn⟩ : ∃ cn : Nat, s.toList.count 44 = cn := ⟨_, rfl⟩
  have kC := count_any s
  rw [hcn] at kC
  have kI := fun x w => index_any x w
  have hle : cn ≤ s.size := by rw [← hcn, ← toList_length]; exact List.count_le_length
  have hN : (spl s.toList).length = cn + 1 := by rw [spl_len, hcn]
  have hmin : min ((cn : Int) + 1) ((s.size : Int) + 1) = (cn : Int) + 1 := by omega
  have q : (⟨#[44]⟩ : ByteArray).toList = [44] := by rw [ByteArray.toList_eq]
  have hmk := run_make_row' (P := Tryz.prog) 79 9 (.string ByteArray.empty) 16 Tryz.underlying79 (by kernel_rfl) rfl .i64 .i64 (cn + 1) (by omega) (by omega)
  rw [hN]
  have hc1 : ((cn + 1 : Nat) : Int) = (cn : Int) + 1 := by omega
  rw [hc1] at hmk
  clear hcn
  go_enter Tryz.func64, Tryz.ntmps64
  go_wp2_with (go_at_call 46; refine (kC _).mono ?_; rintro e w1 ⟨rfl, hw⟩; subst w1)
  clear hmk kC hmin hc1
  have HN : Hid ((spl s.toList).length = cn + 1) := hN
  clear hN
  go_loopw [0, 10] (fun sv iv wr => ∃ (done : List ByteArray) (rest : ByteArray), sv = .string rest ∧ iv = .int .i64 (done.length : Int) ∧ done.length ≤ cn ∧ rest.size ≤ 2000 ∧ wr = w.alloc (.cells (Lib.cellsOf done (cn + 1)) 9) ∧ Hid (done.map ByteArray.toList ++ spl rest.toList = spl s.toList)) (fun _ iv _ => cn - (intOf iv).toNat)
  case atStart => exact ⟨[], s, rfl, rfl, Nat.zero_le _, hs, by rw [Lib.cellsOf_nil], rfl⟩
  case round =>
    obtain ⟨done, rest, rfl, rfl, hd, hrs, rfl, HS⟩ := hrel
    have hnext : (Lib.cellsOf done (cn + 1))[done.length]? = some (.string ByteArray.empty) := Lib.cellsOf_next (by omega)
    have hlen : done.length + (spl rest.toList).length = cn + 1 := by
      have h1 := congrArg List.length HS.out
      rw [List.length_append, List.length_map, HN.out] at h1
      exact h1
    by_cases hlt : done.length < cn
    · have hltz : ((done.length : Nat) : Int) < (cn : Int) := by omega
      obtain ⟨p, r, hp, hno⟩ := spl_more (s := rest.toList) (by omega)
      have hix : Lib.indexByte rest.toList 44 = (p.length : Int) := by rw [hp]; exact idx_at hno
      have kJ := fun w => kI rest w
      rw [hix] at kJ
      have hpl : p.length + 1 ≤ rest.size := by
        rw [← toList_length, hp]
        simp
      have c0 : ¬ ((p.length : Int) < 0) := by omega
      have HP : Hid ((rest.extract 0 p.length).toList = p ∧ (rest.extract (p.length + 1) rest.size).toList = r) := by
        constructor
        · rw [extract_L, hp]; simp
        · rw [extract_L, ← toList_length, List.take_length, hp, show p ++ 44 :: r = (p ++ [44]) ++ r by simp, show p.length + 1 = (p ++ [44]).length by simp, List.drop_left]
      have HQ : Hid (spl rest.toList = p :: spl r) := by
        show _ = _
        rw [hp]
        exact spl_at hno
      have HX : Hid (done.length + (spl rest.toList).length = cn + 1) := hlen
      clear hlen hp hno kI hix
      generalize p.length = P at *
      go_wp2_with (go_at_call 63; refine (kJ _).mono ?_; rintro e w1 ⟨rfl, hw⟩; subst w1)
      go_roundw
      case rel =>
        refine ⟨done ++ [rest.extract 0 P], rest.extract (P + 1) rest.size, rfl, by simp, by simp; omega, by rw [ByteArray.size_extract]; omega, by rw [← Lib.cellsOf_set (by omega)], ?_⟩
        show _ = _
        rw [← HS.out, HQ.out, List.map_append, List.map_cons, List.map_nil, HP.out.1, HP.out.2]
        simp
      case measure => simp [intOf]; omega
    · have hltz : ¬ (((done.length : Nat) : Int) < (cn : Int)) := by omega
      have hfin : Hid ((w.alloc (.cells ((Lib.cellsOf done (cn + 1)).setIfInBounds done.length (.string rest)) 9)) = w.alloc (.cells ((spl s.toList).map (fun l => Value.string (toB l))).toArray 9)) := by
        show _ = _
        have h1 := spl_last (s := rest.toList) (by omega)
        rw [Lib.cellsOf_set (by omega), ← HS.out, h1, pieces_cells (by simp; omega)]
        simp [Function.comp_def, toB_of]
      have hdc : Hid (done.length = cn) := by
        show _ = _
        omega
      clear hlen HS HN kI
      go_wp2
      go_ret
      refine ⟨?_, hfin.out⟩
      rw [← hdc.out]
      first | rfl | (congr 2 <;> omega)

set_option maxHeartbeats 1000000 in
theorem split_any (s : ByteArray) (hs : s.size ≤ 2000) (w : World) : Calls Tryz.prog 47 #[.string s, .string ⟨#[44]⟩] w fun e w' =>
    e = .returned (.slice (some ⟨w.heap.size, 0, none⟩) (spl s.toList).length (spl s.toList).length) ∧ w' = w.alloc (.cells ((spl s.toList).map (fun l => Value.string (toB l))).toArray 9) := by
  have kG := genSplit_any s hs
  go_enter Tryz.func47, Tryz.ntmps47
  go_wp2_with (go_at_call 64; refine (kG _).mono ?_; rintro e w1 ⟨rfl, hw⟩; subst w1)
  go_ret
  exact ⟨rfl, rfl⟩

end Go.Proofs.YtiacnmcdfpmcfaaGreatDoor
