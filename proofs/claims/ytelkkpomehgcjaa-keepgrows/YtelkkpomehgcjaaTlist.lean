/-
  Lists of records read: sizes, lengths, the row of a segment, copies.
-/
import Derived.Test.YtelkkpomehgcjaaTnum
namespace Go.Proofs.Ytelkkpomehgcjaa
open Go.RowKit Go.Maps
attribute [local go_sem] cell?_more frozen?_more setCell_more size_more tape_more drew_more drewN_more more_drew more_drewN more_more one_out plus_out plus_end lt_one le_p2 le_p3 le_p4 le_p5 le_p6 le_p7 le_p8 le_p9 le_p10 le_p11 le_p12 le_p13 le_p14 le_p15 le_p16 le_p17 le_p18 le_p19 le_p20 le_p21 le_p22 le_p23 le_p24 le_q0 le_q1 lt_q1 le_q2 lt_q2 le_q3 lt_q3 le_q4 lt_q4 le_q5 lt_q5 le_q6 lt_q6 le_q7 lt_q7 le_q8 lt_q8 le_q9 lt_q9 le_q10 lt_q10 le_q11 lt_q11 le_q12 lt_q12 le_q13 lt_q13 le_q14 lt_q14 le_q15 lt_q15 le_q16 lt_q16 le_q17 lt_q17 le_q18 lt_q18 le_q19 lt_q19 le_q20 lt_q20 le_q21 lt_q21 le_q22 lt_q22 le_q23 lt_q23 le_q24 lt_q24

theorem Rws.slice {w : World} {v : Value} {ls : List (List UInt8)} (h : Rws w v ls) : ∃ ao cap, v = .slice ao ls.length cap ∧ ls.length ≤ cap := by
  obtain ⟨xs, ⟨ao, cap, rfl, hc, _⟩, he⟩ := h
  rw [he.length] at hc ⊢
  exact ⟨ao, cap, rfl, hc⟩

/-- At record k. -/
theorem Rws.at {w : World} {ao : Option Addr} {n cap : Nat} {ls : List (List UInt8)} (h : Rws w (.slice ao n cap) ls) {k : Nat} (hk : k < ls.length) :
    ∃ b off x, ao = some ⟨b, off, none⟩ ∧ b < w.heap.size ∧ w.cell? ⟨b, off + k, none⟩ = some x ∧ Byt w x ls[k] := by
  obtain ⟨xs, ⟨ao', cap', e, hc, h⟩, he⟩ := h
  have hl := he.length
  simp only [Value.slice.injEq] at e
  obtain ⟨rfl, rfl, rfl⟩ := e
  rcases h with rfl | ⟨b, off, rfl, hb, hl'⟩
  · simp at hl
    omega
  · exact ⟨b, off, xs[k]'(by omega), rfl, hb, hl' k (by omega), (he.get k (by omega) hk).byt⟩

theorem above_any (v : Value) (l : List Int) (w : World) {B : Nat} (h : w.ownsRow B 3 1 v l.length (cellsZ l)) (hl : ∀ k ∈ l, 0 ≤ k ∧ k ≤ 1048576) :
    Calls Try.prog 52 #[v] w fun e w' => e = .returned (.int .i64 (match l.getLast? with | some k => k + 1 | none => 0)) ∧ Adds w w' := by
  have hcl : (cellsZ l).length = l.length := by simp [cellsZ]
  have hlen := h.2
  rcases List.eq_nil_or_concat l with rfl | ⟨r, k, rfl⟩
  · obtain ⟨ao, cap, rfl⟩ : ∃ ao cap, v = .slice ao 0 cap := by
      rcases hlen with ⟨rfl, _⟩ | ⟨g, cap, cur, rfl, _⟩
      · exact ⟨none, 0, rfl⟩
      · exact ⟨_, cap, rfl⟩
    clear h hlen hcl
    go_enter Try.func52, Try.ntmps52
    go_wp2
    go_ret
    exact ⟨rfl, Adds.refl _⟩
  · rw [List.concat_eq_append] at h hlen hcl hl ⊢
    have hk := hl k (by simp)
    have hr := row_at (xs := cellsZ (r ++ [k])) (j := r.length) (by rw [hcl]; exact h) (by rw [hcl]; simp)
    obtain ⟨g, cap, rfl, hcap, _, hg, hc, _⟩ := hr
    have e1 : (cellsZ (r ++ [k]))[r.length]'(by rw [hcl]; simp) = .int .i64 k := by simp [cellsZ]
    rw [e1] at hc
    have e2 : (cellsZ (r ++ [k])).length = r.length + 1 := by rw [hcl]; simp
    have hm : r.length + 1 ≤ 9223372036854775807 := by
      rcases hlen with ⟨e, _⟩ | ⟨g', cap', cur, e, _, _, _, hm, _⟩
      · cases e
      · simp only [Value.slice.injEq] at e
        unfold maxLen at hm
        omega
    rw [e2] at hcap ⊢
    clear h hlen hcl e1 e2 hl
    simp only [List.getLast?_append, List.getLast?_singleton, Option.some_or]
    generalize r.length = n at *
    go_enter Try.func52, Try.ntmps52
    go_wp2
    go_ret
    exact ⟨rfl, Adds.refl _⟩

def segLen (ls : List (List UInt8)) : Nat := 13 + tot ls + 9 * ls.length

theorem size_any (v : Value) (ls : List (List UInt8)) (w : World) (h : Rws w v ls) (hlen : ls.length ≤ 1000000) (htot : tot ls ≤ 1099511627776) :
    Calls Try.prog 53 #[v] w fun e w' => e = .returned (.int .i64 (segLen ls : Nat)) ∧ Adds w w' := by
  obtain ⟨ao, cap, rfl, hcap⟩ := h.slice
  go_enter Try.func53, Try.ntmps53
  go_wp2
  go_loopw [3, 8] (fun s i W => ∃ k : Nat, k ≤ ls.length ∧ i = .int .i64 k ∧ s = .int .i64 (segLen (ls.take k) : Nat) ∧ W = w) (fun _ i _ => (ls.length - intOf i).toNat)
  case atStart => exact ⟨0, by omega, rfl, rfl, rfl⟩
  case round =>
    obtain ⟨k, hk, rfl, rfl, rfl⟩ := hrel
    by_cases hlt : k < ls.length
    · obtain ⟨b, off, x, rfl, hb, hc, hx⟩ := h.at hlt
      obtain ⟨xo, xc, rfl, hxc, _⟩ := hx.open
      have hn : segLen (ls.take (k + 1)) = segLen (ls.take k) + (9 + ls[k].length) := by
        unfold segLen
        rw [tot_next hlt]
        simp
        omega
      have hle : segLen (ls.take (k + 1)) ≤ 1099511627776 + 13 + 9000009 := by
        have := tot_take ls (k + 1)
        unfold segLen
        simp
        omega
      have HN : Hid _ := hn
      rw [hn] at hle
      clear hn
      generalize ls[k].length = L at *
      generalize segLen (ls.take k) = S at *
      go_wp2
      go_roundw
      case rel => exact ⟨k + 1, by omega, by go_num, by rw [HN.out]; go_num, trivial⟩
      case measure => simp [intOf]; omega
    · obtain rfl : k = ls.length := by omega
      rw [List.take_length]
      go_wp2
      go_ret
      exact ⟨rfl, Adds.refl _⟩

def fits (ls : List (List UInt8)) : Prop := ∀ b ∈ ls, b.length ≤ 16384

instance (ls : List (List UInt8)) : Decidable (fits ls) := by unfold fits; infer_instance

theorem tooLong_any (v : Value) (ls : List (List UInt8)) (w : World) (h : Rws w v ls) (hlen : ls.length ≤ 1000000) :
    Calls Try.prog 66 #[v] w fun e w' => e = .returned (.bool (!decide (fits ls))) ∧ Adds w w' := by
  obtain ⟨ao, cap, rfl, hcap⟩ := h.slice
  go_enter Try.func66, Try.ntmps66
  go_wp2
  go_loopw [7] (fun i W => ∃ k : Nat, k ≤ ls.length ∧ i = .int .i64 k ∧ fits (ls.take k) ∧ W = w) (fun i _ => (ls.length - intOf i).toNat)
  case atStart => exact ⟨0, by omega, rfl, by simp [fits], rfl⟩
  case round =>
    obtain ⟨k, hk, rfl, hf, rfl⟩ := hrel
    have HF : Hid (fits (ls.take k)) := hf
    clear hf
    by_cases hlt : k < ls.length
    · obtain ⟨b, off, x, rfl, hb, hc, hx⟩ := h.at hlt
      obtain ⟨xo, xc, rfl, hxc, _⟩ := hx.open
      by_cases hb' : ls[k].length ≤ 16384
      · have HN : Hid (fits (ls.take (k + 1))) := by
          show fits _
          rw [List.take_succ_eq_append_getElem hlt]
          intro y hy
          rcases List.mem_append.1 hy with hy | hy
          · exact HF.out y hy
          · simp only [List.mem_singleton] at hy
            rw [hy]
            exact hb'
        generalize ls[k].length = L at *
        go_wp2
        go_roundw
        case rel => exact ⟨k + 1, by omega, by go_num, HN.out, trivial⟩
        case measure => simp [intOf]; omega
      · have HN : Hid (¬ fits ls) := by
          show ¬ fits ls
          exact fun hh => hb' (hh _ (List.getElem_mem hlt))
        generalize ls[k].length = L at *
        go_wp2
        go_ret
        refine ⟨by rw [decide_eq_false HN.out]; rfl, Adds.refl _⟩
    · obtain rfl : k = ls.length := by omega
      rw [List.take_length] at HF
      go_wp2
      go_ret
      exact ⟨by rw [decide_eq_true HF.out]; rfl, Adds.refl _⟩

end Go.Proofs.Ytelkkpomehgcjaa
