/-
  The walk of the statement RankParses: it returns true, whatever key is handed in, and leaves all that was there as it was.
-/
import Derived.Test.YtgjcienechfapaaDoorRefParse
namespace Go.Proofs.YtgjcienechfapaaDoor
open Go.RowKit

theorem decAll_of_loose_none {s : List UInt8} (h : looseAll [] s = none) : decAll [] s = none := by
  cases hd : decAll [] s with
  | none => rfl
  | some l =>
    obtain ⟨_, _, _, _, _, hl⟩ := decAll_sound hd (by simp)
    rw [h] at hl
    cases hl

theorem decAll_of_loose_bad {s : List UInt8} {l : List V} (h : looseAll [] s = some l) (hbad : ¬ (l.length ≤ 16 ∧ firstBad l = 0 ∧ keyBytes l = s)) : decAll [] s = none := by
  cases hd : decAll [] s with
  | none => rfl
  | some l' =>
    obtain ⟨x, hx, hok, hlen, hk, hl⟩ := decAll_sound hd (by simp)
    rw [h] at hl
    simp only [Option.some.injEq, List.nil_append] at hl hx
    subst hl hx
    exact absurd ⟨hlen, firstBad_of hok, hk.symm⟩ hbad

set_option maxHeartbeats 2000000 in
theorem rankParses_any (key : ByteArray) (w : World) (hmax : key.size ≤ 9223372036854775807) :
    Calls Tryd.prog 4 #[.string key] w fun e w' => e = .returned (.bool true) ∧ Below w.heap.size w w' := by
  by_cases h3 : key.size ≤ 3000
  · have h3i : (key.size : Int) ≤ 3000 := by omega
    have c10 := parse_any key
    have c12 := refparse_any key h3
    cases hL : looseAll [] key.toList with
    | none =>
      rw [decAll_of_loose_none hL] at c10
      simp only [RefSays, hL] at c12
      simp only [ParseSays] at c10
      clear hL
      go_enter Tryd.func4, Tryd.ntmps4
      go_wp2_with (first
        | (go_at_call 10; refine (c10 _).mono ?_; rintro e w1 ⟨rfl, hb1⟩)
        | (go_at_call 12; refine (c12 _).mono ?_; rintro e w2 ⟨rfl, hb2⟩; replace hb2 := since_on hb1 hb2)
        | (go_at_call 5; refine (awake_any _).mono ?_; rintro e w3 ⟨rfl, hb3⟩; replace hb3 := since_on hb2 hb3))
      go_ret
      exact ⟨rfl, hb3⟩
    | some l =>
      by_cases hok : l.length ≤ 16 ∧ firstBad l = 0 ∧ keyBytes l = key.toList
      · rw [loose_ok hok.2.1 hok.1 hok.2.2] at c10
        simp only [RefSays, hL, hok, and_self, decide_true] at c12
        simp only [ParseSays] at c10
        have h16 := hok.1
        clear hL hok
        go_enter Tryd.func4, Tryd.ntmps4
        go_wp2_with (first
          | (go_at_call 10; refine (c10 _).mono ?_; rintro e w1 ⟨⟨v1, rfl, ho1⟩, hb1⟩)
          | (go_at_call 12; refine (c12 _).mono ?_; rintro e w2 ⟨⟨v2, rfl, ho2⟩, hb2⟩; have hl1 := (lst_of_row ho1).below hb2; have hl2 := lst_of_row ho2; replace hb2 := since_on hb1 hb2)
          | (go_at_call 11; refine (same_any _ _ _ _ _ hl1 hl2 (by omega) (by omega)).mono ?_; rintro e w6 ⟨rfl, hb6⟩; replace hb6 := since_on hb2 hb6; simp only [sameAll_eq, decide_true])
          | (go_at_call 5; refine (awake_any _).mono ?_; rintro e w3 ⟨rfl, hb3⟩; replace hb3 := since_on hb6 hb3))
        go_ret
        exact ⟨rfl, hb3⟩
      · rw [decAll_of_loose_bad hL hok] at c10
        simp only [RefSays, hL, hok, decide_false] at c12
        simp only [ParseSays] at c10
        clear hL hok
        go_enter Tryd.func4, Tryd.ntmps4
        go_wp2_with (first
          | (go_at_call 10; refine (c10 _).mono ?_; rintro e w1 ⟨rfl, hb1⟩)
          | (go_at_call 12; refine (c12 _).mono ?_; rintro e w2 ⟨⟨v2, rfl, ho2⟩, hb2⟩; replace hb2 := since_on hb1 hb2)
          | (go_at_call 5; refine (awake_any _).mono ?_; rintro e w3 ⟨rfl, hb3⟩; replace hb3 := since_on hb2 hb3))
        go_ret
        exact ⟨rfl, hb3⟩
  · have h3i : (3000 : Int) < (key.size : Int) := by omega
    go_enter Tryd.func4, Tryd.ntmps4
    go_wp2_with (go_at_call 5; refine (awake_any _).mono ?_; rintro e w3 ⟨rfl, hb3⟩)
    go_ret
    exact ⟨rfl, hb3⟩

end Go.Proofs.YtgjcienechfapaaDoor
