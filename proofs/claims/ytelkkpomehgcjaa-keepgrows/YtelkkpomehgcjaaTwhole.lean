/-
  Which rows are segments: the function whole by contract, and what a file's segment is.
-/
import Derived.Test.YtelkkpomehgcjaaTdrop
namespace Go.Proofs.Ytelkkpomehgcjaa
open Go.RowKit Go.Maps
attribute [local go_sem] cell?_more frozen?_more setCell_more size_more tape_more drew_more drewN_more more_drew more_drewN more_more one_out plus_out plus_end lt_one le_p2 le_p3 le_p4 le_p5 le_p6 le_p7 le_p8 le_p9 le_p10 le_p11 le_p12 le_p13 le_p14 le_p15 le_p16 le_p17 le_p18 le_p19 le_p20 le_p21 le_p22 le_p23 le_p24 le_q0 le_q1 lt_q1 le_q2 lt_q2 le_q3 lt_q3 le_q4 lt_q4 le_q5 lt_q5 le_q6 lt_q6 le_q7 lt_q7 le_q8 lt_q8 le_q9 lt_q9 le_q10 lt_q10 le_q11 lt_q11 le_q12 lt_q12 le_q13 lt_q13 le_q14 lt_q14 le_q15 lt_q15 le_q16 lt_q16 le_q17 lt_q17 le_q18 lt_q18 le_q19 lt_q19 le_q20 lt_q20 le_q21 lt_q21 le_q22 lt_q22 le_q23 lt_q23 le_q24 lt_q24

def wholeB : List (List UInt8) → Bool
  | [] => false
  | b :: r => decide (b.length = 4) && decide (num4 b < r.length + 1)

theorem wholeB_cons (b : List UInt8) (r : List (List UInt8)) : wholeB (b :: r) = (decide (b.length = 4) && decide (num4 b < r.length + 1)) := rfl

theorem whole_any (v : Value) (ls : List (List UInt8)) (w : World) (h : Rws w v ls) (hlen : ls.length ≤ 1000000) :
    Calls Try.prog 49 #[v] w fun e w' => e = .returned (.bool (wholeB ls)) ∧ Adds w w' := by
  obtain ⟨ao, cap, rfl, hcap⟩ := h.slice
  rcases ls with _ | ⟨b, r⟩
  · go_enter Try.func49, Try.ntmps49
    go_wp2
    go_ret
    exact ⟨rfl, Adds.refl _⟩
  · obtain ⟨g, off, x, rfl, hg, hc, hx⟩ := h.at (k := 0) (by simp)
    simp only [List.getElem_cons_zero] at hx
    obtain ⟨xo, xc, rfl, hxc, _⟩ := hx.open
    rw [Nat.add_zero] at hc
    have hl : (b :: r).length = r.length + 1 := rfl
    rw [hl] at hcap hlen ⊢
    have k4 := fun h4 => number4_any _ b w hx h4
    rw [wholeB_cons]
    have hlt := num4_lt b
    by_cases h4 : b.length = 4
    · have kn := k4 (by omega)
      clear k4
      obtain ⟨n, hn⟩ : ∃ n, n = r.length + 1 := ⟨_, rfl⟩
      rw [← hn] at hcap hlen ⊢
      clear hl h
      rw [h4] at hc kn ⊢
      generalize num4 b = m at *
      go_enter Try.func49, Try.ntmps49
      go_wp2_with (go_at_call 50; refine kn.mono ?_; rintro e w1 ⟨rfl, a1⟩)
      go_ret
      refine ⟨?_, a1⟩
      simp
      omega
    · have h4' : ((b.length : Int) == 4) = false := by
        simp
        omega
      clear k4 h
      have e0 : decide (b.length = 4) = false := decide_eq_false h4
      rw [e0]
      generalize b.length = L at *
      go_enter Try.func49, Try.ntmps49
      go_wp2
      go_ret
      exact ⟨rfl, Adds.refl _⟩

/-- What segment a file is: its base, its records, whether it is clean. -/
def segOf (b : List UInt8) : Option (Nat × List (List UInt8) × Bool) :=
  if wholeB (rows b).1 then some (num4 ((rows b).1.headD []), (rows b).1.drop 1, decide ((rows b).2 = b.length)) else none

/-- The newest whole segment. -/
def newK : Kf → Option (Int × Nat × List (List UInt8) × Bool)
  | [] => none
  | p :: r => match newK r with
    | some s => some s
    | none => (segOf p.2).map fun s => (p.1, s)

theorem rows_few (b : List UInt8) : (rows b).1.length ≤ b.length ∧ fits (rows b).1 ∧ (rows b).2 ≤ b.length := by
  induction hn : b.length using Nat.strongRecOn generalizing b with
  | ind n ih =>
    subst hn
    by_cases h : (first b).2.2 = 0
    · have h9 := first_ok h
      rw [rows_some h]
      obtain ⟨i1, i2, i3⟩ := ih (b.drop (first b).2.1).length (by simp; omega) (b.drop (first b).2.1) rfl
      have hl : (b.drop (first b).2.1).length = b.length - (first b).2.1 := by simp
      refine ⟨?_, ?_, ?_⟩
      · simp only [List.length_cons]
        omega
      · intro x hx
        rcases List.mem_cons.1 hx with rfl | hx
        · unfold first at h ⊢
          split at h
          · exact absurd h ‹_›
          · rename_i h0
            rw [if_neg h0]
            split at h
            · simp at h
            · rename_i h1
              rw [if_neg h1]
              split at h
              · simp at h
              · rename_i h2
                rw [if_neg h2]
                have : (lengthOf b).1 ≤ 16384 := by
                  unfold lengthOf
                  repeat' split
                  all_goals simp
                  omega
                simp
                omega
        · exact i2 x hx
      · simp only
        omega
    · rw [rows_stop h]
      exact ⟨by simp, by simp [fits], by simp⟩

end Go.Proofs.Ytelkkpomehgcjaa
