/-
  What lies below a path: HasPrefix, CutPrefix, and the functions within and Under of package paper, and the document's own Under, by contracts.
-/
import Derived.Test.YtcgbhbbljjdejaaJoin
namespace Go.Proofs.Ytcgbhbbljjdejaa
open Go.RowKit
attribute [local go_sem] cell?_more frozen?_more setCell_more size_more tape_more drew_more drewN_more more_drew more_drewN more_more one_out plus_out plus_end lt_one le_p2 le_p3 le_p4 le_p5 le_p6 le_p7 le_p8 le_p9 le_p10 le_p11 le_p12 le_p13 le_p14 le_p15 le_p16 le_p17 le_p18 le_p19 le_p20 le_p21 le_p22 le_p23 le_p24 le_q0 le_q1 lt_q1 le_q2 lt_q2 le_q3 lt_q3 le_q4 lt_q4 le_q5 lt_q5 le_q6 lt_q6 le_q7 lt_q7 le_q8 lt_q8 le_q9 lt_q9 le_q10 lt_q10 le_q11 lt_q11 le_q12 lt_q12 le_q13 lt_q13 le_q14 lt_q14 le_q15 lt_q15 le_q16 lt_q16 le_q17 lt_q17 le_q18 lt_q18 le_q19 lt_q19 le_q20 lt_q20 le_q21 lt_q21 le_q22 lt_q22 le_q23 lt_q23 le_q24 lt_q24

/-- Does a text begin with another? -/
def begins (x p : ByteArray) : Bool := decide (p.size ≤ x.size ∧ (x.extract 0 p.size).toList = p.toList)

/-- Is a path another one, or does it begin with it and a point? -/
def isUnder (x p : ByteArray) : Bool := begins x p && (decide (x.size = p.size) || decide (∃ h : p.size < x.size, (x[p.size].toNat : Int) = 46))

theorem hasPrefix_any (x p : ByteArray) (w : World) :
    Calls Try.prog 60 #[.string x, .string p] w fun e w' => e = .returned (.bool (begins x p)) ∧ w' = w := by
  by_cases h1 : p.size ≤ x.size
  · by_cases h2 : (x.extract 0 p.size).toList = p.toList
    · have hb : begins x p = true := decide_eq_true ⟨h1, h2⟩
      rw [hb]
      go_enter Try.func60, Try.ntmps60
      go_wp2
      go_ret
      exact ⟨rfl, rfl⟩
    · have hb : begins x p = false := decide_eq_false (fun h => h2 h.2)
      have h3 : ((x.extract 0 p.size).toList == p.toList) = false := by simpa using h2
      rw [hb]
      go_enter Try.func60, Try.ntmps60
      go_wp2
      go_ret
      exact ⟨rfl, rfl⟩
  · have hb : begins x p = false := decide_eq_false (fun h => h1 h.1)
    rw [hb]
    go_enter Try.func60, Try.ntmps60
    go_wp2
    go_ret
    exact ⟨rfl, rfl⟩

theorem cutPrefix_any (x p : ByteArray) (w : World) :
    Calls Try.prog 57 #[.string x, .string p] w fun e w' => e = .returned (.tuple #[.string (if begins x p then x.extract p.size x.size else x), .bool (begins x p)]) ∧ w' = w := by
  have h := hasPrefix_any x p
  have hle : begins x p = true → p.size ≤ x.size := fun h => (of_decide_eq_true h).1
  generalize begins x p = q at *
  cases q
  · go_enter Try.func57, Try.ntmps57
    go_wp2_with (go_at_call 60; refine (h _).mono ?_; rintro e w1 ⟨rfl, hw⟩; subst w1)
    go_ret2
    exact ⟨rfl, rfl⟩
  · have h1 := hle rfl
    go_enter Try.func57, Try.ntmps57
    go_wp2_with (go_at_call 60; refine (h _).mono ?_; rintro e w1 ⟨rfl, hw⟩; subst w1)
    go_ret2
    exact ⟨rfl, rfl⟩

theorem cutPrefix2_any (x p : ByteArray) (w : World) :
    Calls Try.prog 48 #[.string x, .string p] w fun e w' => e = .returned (.tuple #[.string (if begins x p then x.extract p.size x.size else x), .bool (begins x p)]) ∧ w' = w := by
  have h := cutPrefix_any x p
  generalize (if begins x p = true then x.extract p.size x.size else x) = y at *
  go_enter Try.func48, Try.ntmps48
  go_wp2_with (go_at_call 57; refine (h _).mono ?_; rintro e w1 ⟨rfl, hw⟩; subst w1)
  go_ret2
  exact ⟨rfl, rfl⟩

theorem within_path (x p : ByteArray) (w : World) :
    Calls Try.prog 37 #[.string x, .string p] w fun e w' => e = .returned (.bool (isUnder x p)) ∧ w' = w := by
  have h := cutPrefix2_any x p
  have hle : begins x p = true → p.size ≤ x.size := fun h => (of_decide_eq_true h).1
  unfold isUnder
  generalize begins x p = q at *
  cases q
  · go_enter Try.func37, Try.ntmps37
    go_wp2_with (go_at_call 48; refine (h _).mono ?_; rintro e w1 ⟨rfl, hw⟩; subst w1)
    go_ret
    exact ⟨rfl, rfl⟩
  · have h1 := hle rfl
    rw [if_pos rfl] at h
    by_cases he : x.size = p.size
    · have hr : (x.extract p.size x.size).toList = [] := by
        rw [ByteArray.toList_eq]
        simp [he]
      go_enter Try.func37, Try.ntmps37
      go_wp2_with (go_at_call 48; refine (h _).mono ?_; rintro e w1 ⟨rfl, hw⟩; subst w1)
      go_ret
      exact ⟨by simp [he], rfl⟩
    · have hlt : p.size < x.size := by omega
      have hsz : (x.extract p.size x.size).size = x.size - p.size := by simp
      have hpos : 0 < (x.extract p.size x.size).size := by rw [hsz]; omega
      have hg : (x.extract p.size x.size)[0]'hpos = x[p.size] := by rw [ByteArray.getElem_extract]; simp
      have hne : ((x.extract p.size x.size).toList == ([] : List UInt8)) = false := by
        have : (x.extract p.size x.size).toList ≠ [] := by
          intro e
          have h2 := toList_length (x.extract p.size x.size)
          rw [e, hsz] at h2
          simp at h2
          omega
        simpa using this
      clear hsz
      generalize x.extract p.size x.size = y at *
      have hy : 0 < y.size := hpos
      by_cases h46 : (x[p.size].toNat : Int) = 46
      · have hy46 : ((y[0]'hy).toNat : Int) = 46 := by rw [hg]; exact h46
        go_enter Try.func37, Try.ntmps37
        go_wp2_with (go_at_call 48; refine (h _).mono ?_; rintro e w1 ⟨rfl, hw⟩; subst w1)
        all_goals
          go_ret
          exact ⟨by simp [he, hlt, h46], rfl⟩
      · have hy46 : ¬ ((y[0]'hy).toNat : Int) = 46 := by rw [hg]; exact h46
        go_enter Try.func37, Try.ntmps37
        go_wp2_with (go_at_call 48; refine (h _).mono ?_; rintro e w1 ⟨rfl, hw⟩; subst w1)
        all_goals
          go_ret
          exact ⟨by simp [he, hlt, h46], rfl⟩

end Go.Proofs.Ytcgbhbbljjdejaa
