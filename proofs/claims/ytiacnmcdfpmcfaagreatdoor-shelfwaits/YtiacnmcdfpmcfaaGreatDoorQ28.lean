/-
  Shelves: what they are, which may be; count, Check, New, and the reference's May and Same, by contracts.
  The reference's Same of two answers of a code alone, and of two shelves that read alike, by contracts.
-/
import Derived.Test.YtiacnmcdfpmcfaaGreatDoorQ26
import Derived.Test.YtiacnmcdfpmcfaaGreatDoorQ27
import Derived.Test.YtiacnmcdfpmcfaaGreatDoorQ07
namespace Go.Proofs.YtiacnmcdfpmcfaaGreatDoor
open Go.RowKit
attribute [local go_sem] cell?_more frozen?_more setCell_more size_more tape_more drew_more drewN_more more_drew more_drewN one_out plus_out plus_end lt_one le_p2 le_p3 le_p4 le_p5 le_p6 le_p7 le_p8 le_p9 le_p10 le_p11 le_p12 le_p13 le_p14 le_p15 le_p16 le_p17 le_p18 le_p19 le_p20 le_p21 le_p22 le_p23 le_p24 le_q0 le_q1 lt_q1 le_q2 lt_q2 le_q3 lt_q3 le_q4 lt_q4 le_q5 lt_q5 le_q6 lt_q6 le_q7 lt_q7 le_q8 lt_q8 le_q9 lt_q9 le_q10 lt_q10 le_q11 lt_q11 le_q12 lt_q12 le_q13 lt_q13 le_q14 lt_q14 le_q15 lt_q15 le_q16 lt_q16 le_q17 lt_q17 le_q18 lt_q18 le_q19 lt_q19 le_q20 lt_q20 le_q21 lt_q21 le_q22 lt_q22 le_q23 lt_q23 le_q24 lt_q24

/-- A shelf. -/
structure Shl where
  df : ByteArray
  rdy : Bool
  mark : Int
  es : List Sh.F

def Shl.val (s : Shl) (v : Value) : Value := .agg #[.string s.df, .bool s.rdy, .int .i64 s.mark, v]

def isOk {α : Type} (R : Except Int α) : Bool := match R with | .ok _ => true | .error _ => false

def countB (n : Int) : Bool := decide (0 ≤ n) && decide (n ≤ 2147483647)

/-- A shelf that may be. -/
def MayS (s : Shl) : Prop := isOk (parseA s.df.toList) = true ∧ Sh.May s.es ∧ countB s.mark = true
instance (s : Shl) : Decidable (MayS s) := by unfold MayS; infer_instance

theorem shCount_any (n : Int) (w : World) : Calls Tryz.prog 30 #[.int .i64 n] w fun e w' => e = .returned (.bool (countB n)) ∧ Adds w w' := by
  by_cases h1 : 0 ≤ n
  · by_cases h2 : n ≤ 2147483647
    · have hb : countB n = true := by simp [countB, h1, h2]
      rw [hb]
      clear hb
      go_enter Tryz.func30, Tryz.ntmps30
      go_wp2
      go_ret
      exact ⟨rfl, (by repeat (first | with_reducible exact Adds.refl _ | with_reducible refine Adds.alloc ?_ _ | with_reducible refine Adds.more ?_ _ _ | with_reducible refine Adds.drew ?_ | with_reducible refine Adds.drewN ?_ _))⟩
    · have hb : countB n = false := by simp [countB, h2]
      rw [hb]
      clear hb
      go_enter Tryz.func30, Tryz.ntmps30
      go_wp2
      go_ret
      exact ⟨rfl, (by repeat (first | with_reducible exact Adds.refl _ | with_reducible refine Adds.alloc ?_ _ | with_reducible refine Adds.more ?_ _ _ | with_reducible refine Adds.drew ?_ | with_reducible refine Adds.drewN ?_ _))⟩
  · have hb : countB n = false := by simp [countB, h1]
    rw [hb]
    clear hb
    go_enter Tryz.func30, Tryz.ntmps30
    go_wp2
    go_ret
    exact ⟨rfl, (by repeat (first | with_reducible exact Adds.refl _ | with_reducible refine Adds.alloc ?_ _ | with_reducible refine Adds.more ?_ _ _ | with_reducible refine Adds.drew ?_ | with_reducible refine Adds.drewN ?_ _))⟩

set_option maxRecDepth 20000 in
set_option maxHeartbeats 2000000 in
theorem shCheck_any (s : Shl) (v : Value) (w : World) (hd : s.df.size ≤ 2000) (hv : Sh.Lst w v s.es) (he : s.es.length ≤ 900) :
    Calls Tryz.prog 11 #[s.val v] w fun e w' => e = .returned (.int .i64 (if MayS s then 0 else 1)) ∧ Adds w w' := by
  have kP := fun W => parseAll_any s.df hd W
  have kC := fun W (hA : Adds w W) => Sh.check_any v s.es W (hv.adds hA) (by omega)
  have kN := fun W => shCount_any s.mark W
  obtain ⟨df, rdy, mk, es⟩ := s
  simp only [Shl.val] at *
  obtain ⟨ao, cap, rfl, _, _⟩ := hv
  cases hp : parseA df.toList with
  | error c =>
    have hc := parseA_err hp
    have hcb : (c != 0) = true := by simpa using hc
    have hcb' : (c == 0) = false := by simpa using hc
    have hno : ¬ MayS ⟨df, rdy, mk, es⟩ := fun h => by simpa [isOk, hp] using h.1
    rw [hp] at kP
    simp only [GaveR] at kP
    rw [if_neg hno]
    clear hp hc hno kC kN
    generalize es.length = n at *
    go_enter Tryz.func11, Tryz.ntmps11
    go_wp2_with (go_at_call 28; refine (kP _).mono ?_; rintro e w1 ⟨rfl, os1, n1, rfl⟩)
    go_ret
    exact ⟨rfl, (by repeat (first | with_reducible exact Adds.refl _ | with_reducible refine Adds.alloc ?_ _ | with_reducible refine Adds.more ?_ _ _ | with_reducible refine Adds.drew ?_ | with_reducible refine Adds.drewN ?_ _))⟩
  | ok xs =>
    rw [hp] at kP
    simp only [GaveR] at kP
    by_cases hm : Sh.May es
    · rw [Sh.err_ok hm] at kC
      cases hn : countB mk with
      | true =>
        rw [hn] at kN
        have hM : MayS ⟨df, rdy, mk, es⟩ := ⟨by simp [isOk, hp], hm, hn⟩
        rw [if_pos hM]
        clear hM
        clear hp hm hn
        generalize es.length = n at *
        go_enter Tryz.func11, Tryz.ntmps11
        go_wp2_with (first
          | (go_at_call 28; refine (kP _).mono ?_; rintro e w1 ⟨⟨pa, pc, D, rfl, _, _⟩, os1, n1, rfl⟩)
          | (go_at_call 29; refine (kC _ (by repeat (first | with_reducible exact Adds.refl _ | with_reducible refine Adds.alloc ?_ _ | with_reducible refine Adds.more ?_ _ _ | with_reducible refine Adds.drew ?_ | with_reducible refine Adds.drewN ?_ _))).mono ?_; rintro e w2 ⟨rfl, os2, n2, rfl⟩)
          | (go_at_call 30; refine (kN _).mono ?_; rintro e w3 ⟨rfl, os3, n3, rfl⟩))
        go_ret
        exact ⟨rfl, (by repeat (first | with_reducible exact Adds.refl _ | with_reducible refine Adds.alloc ?_ _ | with_reducible refine Adds.more ?_ _ _ | with_reducible refine Adds.drew ?_ | with_reducible refine Adds.drewN ?_ _))⟩
      | false =>
        rw [hn] at kN
        rw [if_neg (fun h : MayS ⟨df, rdy, mk, es⟩ => by have := h.2.2; simp only [hn] at this; cases this)]
        clear hp hm hn
        generalize es.length = n at *
        go_enter Tryz.func11, Tryz.ntmps11
        go_wp2_with (first
          | (go_at_call 28; refine (kP _).mono ?_; rintro e w1 ⟨⟨pa, pc, D, rfl, _, _⟩, os1, n1, rfl⟩)
          | (go_at_call 29; refine (kC _ (by repeat (first | with_reducible exact Adds.refl _ | with_reducible refine Adds.alloc ?_ _ | with_reducible refine Adds.more ?_ _ _ | with_reducible refine Adds.drew ?_ | with_reducible refine Adds.drewN ?_ _))).mono ?_; rintro e w2 ⟨rfl, os2, n2, rfl⟩)
          | (go_at_call 30; refine (kN _).mono ?_; rintro e w3 ⟨rfl, os3, n3, rfl⟩))
        go_ret
        exact ⟨rfl, (by repeat (first | with_reducible exact Adds.refl _ | with_reducible refine Adds.alloc ?_ _ | with_reducible refine Adds.more ?_ _ _ | with_reducible refine Adds.drew ?_ | with_reducible refine Adds.drewN ?_ _))⟩
    · rw [Sh.err_bad hm] at kC
      rw [if_neg (fun h : MayS ⟨df, rdy, mk, es⟩ => hm h.2.1)]
      clear hp hm kN
      generalize es.length = n at *
      go_enter Tryz.func11, Tryz.ntmps11
      go_wp2_with (first
        | (go_at_call 28; refine (kP _).mono ?_; rintro e w1 ⟨⟨pa, pc, D, rfl, _, _⟩, os1, n1, rfl⟩)
        | (go_at_call 29; refine (kC _ (by repeat (first | with_reducible exact Adds.refl _ | with_reducible refine Adds.alloc ?_ _ | with_reducible refine Adds.more ?_ _ _ | with_reducible refine Adds.drew ?_ | with_reducible refine Adds.drewN ?_ _))).mono ?_; rintro e w2 ⟨rfl, os2, n2, rfl⟩))
      go_ret
      exact ⟨rfl, (by repeat (first | with_reducible exact Adds.refl _ | with_reducible refine Adds.alloc ?_ _ | with_reducible refine Adds.more ?_ _ _ | with_reducible refine Adds.drew ?_ | with_reducible refine Adds.drewN ?_ _))⟩

set_option maxRecDepth 20000 in
set_option maxHeartbeats 2000000 in
theorem rMayS_any (s : Shl) (v : Value) (w : World) (hd : s.df.size ≤ 2000) (hv : Sh.Lst w v s.es) (he : s.es.length ≤ 900) :
    Calls Tryz.prog 12 #[s.val v] w fun e w' => e = .returned (.bool (decide (MayS s))) ∧ Adds w w' := by
  have kP := fun W => rParseAll_any s.df hd W
  have kC := fun W (hA : Adds w W) => Sh.refMay_any v s.es W (hv.adds hA) (by omega)
  obtain ⟨df, rdy, mk, es⟩ := s
  simp only [Shl.val] at *
  obtain ⟨ao, cap, rfl, _, _⟩ := hv
  cases hp : parseA df.toList with
  | error c =>
    have hc := parseA_err hp
    have hcb : (c != 0) = true := by simpa using hc
    have hcb' : (c == 0) = false := by simpa using hc
    have hno : ¬ MayS ⟨df, rdy, mk, es⟩ := fun h => by simpa [isOk, hp] using h.1
    rw [hp] at kP
    simp only [GaveR] at kP
    rw [decide_eq_false hno]
    clear hp hc hno kC
    generalize es.length = n at *
    go_enter Tryz.func12, Tryz.ntmps12
    go_wp2_with (go_at_call 18; refine (kP _).mono ?_; rintro e w1 ⟨rfl, os1, n1, rfl⟩)
    go_ret
    exact ⟨rfl, (by repeat (first | with_reducible exact Adds.refl _ | with_reducible refine Adds.alloc ?_ _ | with_reducible refine Adds.more ?_ _ _ | with_reducible refine Adds.drew ?_ | with_reducible refine Adds.drewN ?_ _))⟩
  | ok xs =>
    rw [hp] at kP
    simp only [GaveR] at kP
    by_cases hm : Sh.May es
    · rw [decide_eq_true hm] at kC
      by_cases h1 : 0 ≤ mk
      · by_cases h2 : mk ≤ 2147483647
        · have hM : MayS ⟨df, rdy, mk, es⟩ := ⟨by simp [isOk, hp], hm, by simp [countB, h1, h2]⟩
          rw [decide_eq_true hM]
          clear hM
          clear hp hm
          generalize es.length = n at *
          go_enter Tryz.func12, Tryz.ntmps12
          go_wp2_with (first
            | (go_at_call 18; refine (kP _).mono ?_; rintro e w1 ⟨⟨pa, pc, D, rfl, _, _⟩, os1, n1, rfl⟩)
            | (go_at_call 31; refine (kC _ (by repeat (first | with_reducible exact Adds.refl _ | with_reducible refine Adds.alloc ?_ _ | with_reducible refine Adds.more ?_ _ _ | with_reducible refine Adds.drew ?_ | with_reducible refine Adds.drewN ?_ _))).mono ?_; rintro e w2 ⟨rfl, os2, n2, rfl⟩))
          go_ret
          exact ⟨rfl, (by repeat (first | with_reducible exact Adds.refl _ | with_reducible refine Adds.alloc ?_ _ | with_reducible refine Adds.more ?_ _ _ | with_reducible refine Adds.drew ?_ | with_reducible refine Adds.drewN ?_ _))⟩
        · rw [decide_eq_false (fun h : MayS ⟨df, rdy, mk, es⟩ => by have := h.2.2; simp [countB, h2] at this)]
          have h2' : decide (mk ≤ 2147483647) = false := decide_eq_false h2
          clear hp hm
          generalize es.length = n at *
          go_enter Tryz.func12, Tryz.ntmps12
          go_wp2_with (first
            | (go_at_call 18; refine (kP _).mono ?_; rintro e w1 ⟨⟨pa, pc, D, rfl, _, _⟩, os1, n1, rfl⟩)
            | (go_at_call 31; refine (kC _ (by repeat (first | with_reducible exact Adds.refl _ | with_reducible refine Adds.alloc ?_ _ | with_reducible refine Adds.more ?_ _ _ | with_reducible refine Adds.drew ?_ | with_reducible refine Adds.drewN ?_ _))).mono ?_; rintro e w2 ⟨rfl, os2, n2, rfl⟩))
          go_ret
          exact ⟨rfl, (by repeat (first | with_reducible exact Adds.refl _ | with_reducible refine Adds.alloc ?_ _ | with_reducible refine Adds.more ?_ _ _ | with_reducible refine Adds.drew ?_ | with_reducible refine Adds.drewN ?_ _))⟩
      · rw [decide_eq_false (fun h : MayS ⟨df, rdy, mk, es⟩ => by have := h.2.2; simp [countB, h1] at this)]
        clear hp hm
        generalize es.length = n at *
        go_enter Tryz.func12, Tryz.ntmps12
        go_wp2_with (first
          | (go_at_call 18; refine (kP _).mono ?_; rintro e w1 ⟨⟨pa, pc, D, rfl, _, _⟩, os1, n1, rfl⟩)
          | (go_at_call 31; refine (kC _ (by repeat (first | with_reducible exact Adds.refl _ | with_reducible refine Adds.alloc ?_ _ | with_reducible refine Adds.more ?_ _ _ | with_reducible refine Adds.drew ?_ | with_reducible refine Adds.drewN ?_ _))).mono ?_; rintro e w2 ⟨rfl, os2, n2, rfl⟩))
        go_ret
        exact ⟨rfl, (by repeat (first | with_reducible exact Adds.refl _ | with_reducible refine Adds.alloc ?_ _ | with_reducible refine Adds.more ?_ _ _ | with_reducible refine Adds.drew ?_ | with_reducible refine Adds.drewN ?_ _))⟩
    · rw [decide_eq_false hm] at kC
      rw [decide_eq_false (fun h : MayS ⟨df, rdy, mk, es⟩ => hm h.2.1)]
      clear hp hm
      generalize es.length = n at *
      go_enter Tryz.func12, Tryz.ntmps12
      go_wp2_with (first
        | (go_at_call 18; refine (kP _).mono ?_; rintro e w1 ⟨⟨pa, pc, D, rfl, _, _⟩, os1, n1, rfl⟩)
        | (go_at_call 31; refine (kC _ (by repeat (first | with_reducible exact Adds.refl _ | with_reducible refine Adds.alloc ?_ _ | with_reducible refine Adds.more ?_ _ _ | with_reducible refine Adds.drew ?_ | with_reducible refine Adds.drewN ?_ _))).mono ?_; rintro e w2 ⟨rfl, os2, n2, rfl⟩))
      go_ret
      exact ⟨rfl, (by repeat (first | with_reducible exact Adds.refl _ | with_reducible refine Adds.alloc ?_ _ | with_reducible refine Adds.more ?_ _ _ | with_reducible refine Adds.drew ?_ | with_reducible refine Adds.drewN ?_ _))⟩

/-- What New tells. -/
def GaveN (s : ByteArray) (e : Ending) : Prop :=
  match parseA s.toList with
  | .error c => e = .returned (.tuple #[.agg #[.string ⟨#[]⟩, .bool false, .int .i64 0, .slice none 0 0], .int .i64 c])
  | .ok _ => e = .returned (.tuple #[.agg #[.string s, .bool false, .int .i64 0, .slice none 0 0], .int .i64 0])

set_option maxRecDepth 20000 in
theorem new_any (s : ByteArray) (w : World) (hs : s.size ≤ 2000) : Calls Tryz.prog 17 #[.string s] w fun e w' => GaveN s e ∧ Adds w w' := by
  have kP := fun W => parseAll_any s hs W
  unfold GaveN
  cases hp : parseA s.toList with
  | error c =>
    have hc := parseA_err hp
    have hcb : (c != 0) = true := by simpa using hc
    have hcb' : (c == 0) = false := by simpa using hc
    rw [hp] at kP
    simp only [GaveR] at kP
    clear hp hc
    go_enter Tryz.func17, Tryz.ntmps17
    go_wp2_with (go_at_call 28; refine (kP _).mono ?_; rintro e w1 ⟨rfl, os1, n1, rfl⟩)
    refine bodyPost_ret (v := .tuple #[.agg #[.string ⟨#[]⟩, .bool false, .int .i64 0, .slice none 0 0], .int .i64 c]) (by simp [results, Tryz.results17, go_sem]) rfl ⟨rfl, (by repeat (first | with_reducible exact Adds.refl _ | with_reducible refine Adds.alloc ?_ _ | with_reducible refine Adds.more ?_ _ _ | with_reducible refine Adds.drew ?_ | with_reducible refine Adds.drewN ?_ _))⟩
  | ok xs =>
    rw [hp] at kP
    simp only [GaveR] at kP
    clear hp
    go_enter Tryz.func17, Tryz.ntmps17
    go_wp2_with (go_at_call 28; refine (kP _).mono ?_; rintro e w1 ⟨⟨pa, pc, D, rfl, _, _⟩, os1, n1, rfl⟩)
    refine bodyPost_ret (v := .tuple #[.agg #[.string s, .bool false, .int .i64 0, .slice none 0 0], .int .i64 0]) (by simp [results, Tryz.results17, go_sem]) rfl ⟨rfl, (by repeat (first | with_reducible exact Adds.refl _ | with_reducible refine Adds.alloc ?_ _ | with_reducible refine Adds.more ?_ _ _ | with_reducible refine Adds.drew ?_ | with_reducible refine Adds.drewN ?_ _))⟩

end Go.Proofs.YtiacnmcdfpmcfaaGreatDoor

namespace Go.Proofs.YtiacnmcdfpmcfaaGreatDoor
open Go.RowKit
attribute [local go_sem] cell?_more frozen?_more setCell_more size_more tape_more drew_more drewN_more more_drew more_drewN one_out plus_out plus_end lt_one le_p2 le_p3 le_p4 le_p5 le_p6 le_p7 le_p8 le_p9 le_p10 le_p11 le_p12 le_p13 le_p14 le_p15 le_p16 le_p17 le_p18 le_p19 le_p20 le_p21 le_p22 le_p23 le_p24 le_q0 le_q1 lt_q1 le_q2 lt_q2 le_q3 lt_q3 le_q4 lt_q4 le_q5 lt_q5 le_q6 lt_q6 le_q7 lt_q7 le_q8 lt_q8 le_q9 lt_q9 le_q10 lt_q10 le_q11 lt_q11 le_q12 lt_q12 le_q13 lt_q13 le_q14 lt_q14 le_q15 lt_q15 le_q16 lt_q16 le_q17 lt_q17 le_q18 lt_q18 le_q19 lt_q19 le_q20 lt_q20 le_q21 lt_q21 le_q22 lt_q22 le_q23 lt_q23 le_q24 lt_q24

/-- An answer of a code, entries and a number alone. -/
def ansV (c : Int) (n : Int) (kv : Value) : Value := .agg #[.int .i64 c, .bool false, .slice none 0 0, .slice none 0 0, .slice none 0 0, .int .i64 n, .int .i64 0, kv]

theorem nilDoc_any (w : World) : Calls Tryz.prog 32 #[.slice none 0 0, .slice none 0 0] w fun e w' => e = .returned (.bool true) ∧ Adds w w' := by
  go_enter Tryz.func32, Tryz.ntmps32
  go_wp2
  go_loopw [5] (fun i wr => i = .int .i64 0 ∧ wr = w) (fun _ _ => 0)
  case atStart => exact ⟨rfl, rfl⟩
  case round =>
    obtain ⟨rfl, rfl⟩ := hrel
    go_wp2
    go_ret
    exact ⟨rfl, (by repeat (first | with_reducible exact Adds.refl _ | with_reducible refine Adds.alloc ?_ _ | with_reducible refine Adds.more ?_ _ _ | with_reducible refine Adds.drew ?_ | with_reducible refine Adds.drewN ?_ _))⟩

theorem nilDocs_any (w : World) : Calls Tryz.prog 33 #[.slice none 0 0, .slice none 0 0] w fun e w' => e = .returned (.bool true) ∧ Adds w w' := by
  go_enter Tryz.func33, Tryz.ntmps33
  go_wp2
  go_loopw [5] (fun i wr => i = .int .i64 0 ∧ wr = w) (fun _ _ => 0)
  case atStart => exact ⟨rfl, rfl⟩
  case round =>
    obtain ⟨rfl, rfl⟩ := hrel
    go_wp2
    go_ret
    exact ⟨rfl, (by repeat (first | with_reducible exact Adds.refl _ | with_reducible refine Adds.alloc ?_ _ | with_reducible refine Adds.more ?_ _ _ | with_reducible refine Adds.drew ?_ | with_reducible refine Adds.drewN ?_ _))⟩

theorem nilNews_any (w : World) : Calls Tryz.prog 34 #[.slice none 0 0, .slice none 0 0] w fun e w' => e = .returned (.bool true) ∧ Adds w w' := by
  go_enter Tryz.func34, Tryz.ntmps34
  go_wp2
  go_loopw [5] (fun i wr => i = .int .i64 0 ∧ wr = w) (fun _ _ => 0)
  case atStart => exact ⟨rfl, rfl⟩
  case round =>
    obtain ⟨rfl, rfl⟩ := hrel
    go_wp2
    go_ret
    exact ⟨rfl, (by repeat (first | with_reducible exact Adds.refl _ | with_reducible refine Adds.alloc ?_ _ | with_reducible refine Adds.more ?_ _ _ | with_reducible refine Adds.drew ?_ | with_reducible refine Adds.drewN ?_ _))⟩

set_option maxRecDepth 20000 in
set_option maxHeartbeats 2000000 in
theorem sameC_any (c : Int) (w : World) :
    Calls Tryz.prog 14 #[ansV c 0 (.slice none 0 0), ansV c 0 (.slice none 0 0)] w fun e w' => e = .returned (.bool true) ∧ Adds w w' := by
  have kK := fun W => Sh.refSame_any (.slice none 0 0) (.slice none 0 0) [] [] W ⟨none, 0, rfl, Nat.le_refl _, .inl rfl⟩ ⟨none, 0, rfl, Nat.le_refl _, .inl rfl⟩ (by simp) (by simp)
  rw [decide_eq_true rfl] at kK
  unfold ansV
  go_enter Tryz.func14, Tryz.ntmps14
  go_wp2_with (first
    | (go_at_call 32; refine (nilDoc_any _).mono ?_; rintro e w1 ⟨rfl, os1, n1, rfl⟩)
    | (go_at_call 33; refine (nilDocs_any _).mono ?_; rintro e w2 ⟨rfl, os2, n2, rfl⟩)
    | (go_at_call 34; refine (nilNews_any _).mono ?_; rintro e w3 ⟨rfl, os3, n3, rfl⟩)
    | (go_at_call 24; refine (kK _).mono ?_; rintro e w4 ⟨rfl, os4, n4, rfl⟩))
  go_ret
  exact ⟨rfl, (by repeat (first | with_reducible exact Adds.refl _ | with_reducible refine Adds.alloc ?_ _ | with_reducible refine Adds.more ?_ _ _ | with_reducible refine Adds.drew ?_ | with_reducible refine Adds.drewN ?_ _))⟩

set_option maxRecDepth 20000 in
set_option maxHeartbeats 2000000 in
theorem rSameS_any (s : Shl) (v v' : Value) (w : World) (hv : Sh.Lst w v s.es) (hv' : Sh.Lst w v' s.es) (he : s.es.length ≤ 900) :
    Calls Tryz.prog 13 #[s.val v, s.val v'] w fun e w' => e = .returned (.bool true) ∧ Adds w w' := by
  have kK := fun W (hA : Adds w W) => Sh.refSame_any v v' s.es s.es W (hv.adds hA) (hv'.adds hA) (by omega) (by omega)
  rw [decide_eq_true rfl] at kK
  obtain ⟨df, rdy, mk, es⟩ := s
  simp only [Shl.val] at *
  obtain ⟨ao, cap, rfl, _, _⟩ := hv
  obtain ⟨ao', cap', rfl, _, _⟩ := hv'
  generalize es.length = n at *
  go_enter Tryz.func13, Tryz.ntmps13
  go_wp2_with (go_at_call 24; refine (kK _ (by repeat (first | with_reducible exact Adds.refl _ | with_reducible refine Adds.alloc ?_ _ | with_reducible refine Adds.more ?_ _ _ | with_reducible refine Adds.drew ?_ | with_reducible refine Adds.drewN ?_ _))).mono ?_; rintro e w4 ⟨rfl, os4, n4, rfl⟩)
  go_ret
  exact ⟨rfl, (by repeat (first | with_reducible exact Adds.refl _ | with_reducible refine Adds.alloc ?_ _ | with_reducible refine Adds.more ?_ _ _ | with_reducible refine Adds.drew ?_ | with_reducible refine Adds.drewN ?_ _))⟩

end Go.Proofs.YtiacnmcdfpmcfaaGreatDoor
