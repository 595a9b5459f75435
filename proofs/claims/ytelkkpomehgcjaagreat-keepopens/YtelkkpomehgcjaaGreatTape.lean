/-
  The tape of layer 7 in memory: numbers, rows, segments, opening, reading, by contracts.
-/
import Derived.Test.YtelkkpomehgcjaaGreatDisk
import Derived.Deep.RegionHeld3
namespace Go.Proofs.YtelkkpomehgcjaaGreat
open Go.RowKit Go.Maps
attribute [local go_sem] cell?_more frozen?_more setCell_more size_more tape_more drew_more drewN_more more_drew more_drewN more_more one_out plus_out plus_end lt_one le_p2 le_p3 le_p4 le_p5 le_p6 le_p7 le_p8 le_p9 le_p10 le_p11 le_p12 le_p13 le_p14 le_p15 le_p16 le_p17 le_p18 le_p19 le_p20 le_p21 le_p22 le_p23 le_p24 le_q0 le_q1 lt_q1 le_q2 lt_q2 le_q3 lt_q3 le_q4 lt_q4 le_q5 lt_q5 le_q6 lt_q6 le_q7 lt_q7 le_q8 lt_q8 le_q9 lt_q9 le_q10 lt_q10 le_q11 lt_q11 le_q12 lt_q12 le_q13 lt_q13 le_q14 lt_q14 le_q15 lt_q15 le_q16 lt_q16 le_q17 lt_q17 le_q18 lt_q18 le_q19 lt_q19 le_q20 lt_q20 le_q21 lt_q21 le_q22 lt_q22 le_q23 lt_q23 le_q24 lt_q24

def num4 (l : List UInt8) : Nat := (l.getD 0 0).toNat * 16777216 + (l.getD 1 0).toNat * 65536 + (l.getD 2 0).toNat * 256 + (l.getD 3 0).toNat
def four (n : Nat) : List UInt8 := [UInt8.ofNat (n / 16777216), UInt8.ofNat (n / 65536), UInt8.ofNat (n / 256), UInt8.ofNat n]

theorem four_length (n : Nat) : (four n).length = 4 := rfl
theorem num4_four (n : Nat) (h : n < 4294967296) : num4 (four n) = n := by
  simp [num4, four]
  omega

theorem num4_lt (l : List UInt8) : num4 l < 4294967296 := by
  have h0 := (l.getD 0 0).toNat_lt
  have h1 := (l.getD 1 0).toNat_lt
  have h2 := (l.getD 2 0).toNat_lt
  have h3 := (l.getD 3 0).toNat_lt
  unfold num4
  omega

theorem num4_of {l : List UInt8} (h : 4 ≤ l.length) : num4 l = l[0].toNat * 16777216 + l[1].toNat * 65536 + l[2].toNat * 256 + l[3].toNat := by
  match l, h with
  | a :: b :: c :: d :: r, _ => rfl

theorem number4_any (v : Value) (l : List UInt8) (w : World) (h : Byt w v l) (h4 : 4 ≤ l.length) :
    Calls Tryz.prog 84 #[v] w fun e w' => e = .returned (.int .u32 (num4 l : Nat)) ∧ Adds w w' := by
  obtain ⟨ao, cap, rfl, hcap, h⟩ := h.open
  rcases h with rfl | ⟨b, off, rfl, hb, hl⟩
  · simp at h4
  rw [num4_of h4]
  have c0 := hl 0 (by omega)
  have c1 := hl 1 (by omega)
  have c2 := hl 2 (by omega)
  have c3 := hl 3 (by omega)
  rw [Nat.add_zero] at c0
  have a0 := l[0].toNat_lt
  have a1 := l[1].toNat_lt
  have a2 := l[2].toNat_lt
  have a3 := l[3].toNat_lt
  generalize l[0].toNat = x at *
  generalize l[1].toNat = y at *
  generalize l[2].toNat = z at *
  generalize l[3].toNat = t at *
  have h1 : bits .or .u32 ((x : Int) * 16777216) ((y : Int) * 65536) = (x : Int) * 16777216 + (y : Int) * 65536 :=
    bits_join .u32 32 (by decide) wraps32 24 _ _ (by omega) (by omega) (by omega) (by omega) (by omega) (by omega)
  have h2 : bits .or .u32 ((x : Int) * 16777216 + (y : Int) * 65536) ((z : Int) * 256) = (x : Int) * 16777216 + (y : Int) * 65536 + (z : Int) * 256 :=
    bits_join .u32 32 (by decide) wraps32 16 _ _ (by omega) (by omega) (by omega) (by omega) (by omega) (by omega)
  have h3 : bits .or .u32 ((x : Int) * 16777216 + (y : Int) * 65536 + (z : Int) * 256) (t : Int) = (x : Int) * 16777216 + (y : Int) * 65536 + (z : Int) * 256 + (t : Int) :=
    bits_join .u32 32 (by decide) wraps32 8 _ _ (by omega) (by omega) (by omega) (by omega) (by omega) (by omega)
  go_enter Tryz.func84, Tryz.ntmps84
  go_wp2
  go_quiet (fail)
  go_wp2
  go_ret
  refine ⟨?_, ?_⟩
  · rfl
  repeat (first | with_reducible exact Adds.refl _ | with_reducible refine Adds.alloc ?_ _ | with_reducible refine Adds.more ?_ _ _ | with_reducible refine Adds.drew ?_ | with_reducible refine Adds.drewN ?_ _)

theorem numbered_any (n : Nat) (w : World) (hn : n < 4294967296) :
    Calls Tryz.prog 98 #[.int .i64 (n : Int)] w fun e w' => ∃ v, e = .returned v ∧ Adds w w' ∧ Byt w' v (four n) := by
  go_enter Tryz.func98, Tryz.ntmps98
  go_wp2
  go_ret
  refine ⟨_, rfl, ?_, ?_⟩
  · repeat (first | with_reducible exact Adds.refl _ | with_reducible refine Adds.alloc ?_ _ | with_reducible refine Adds.more ?_ _ _ | with_reducible refine Adds.drew ?_ | with_reducible refine Adds.drewN ?_ _)
  · refine byt_new rfl ?_ rfl
    simp [four, cellsB]
    omega

end Go.Proofs.YtelkkpomehgcjaaGreat

namespace Go.Proofs.YtelkkpomehgcjaaGreat
open Go.RowKit Go.Maps
attribute [local go_sem] cell?_more frozen?_more setCell_more size_more tape_more drew_more drewN_more more_drew more_drewN more_more one_out plus_out plus_end lt_one le_p2 le_p3 le_p4 le_p5 le_p6 le_p7 le_p8 le_p9 le_p10 le_p11 le_p12 le_p13 le_p14 le_p15 le_p16 le_p17 le_p18 le_p19 le_p20 le_p21 le_p22 le_p23 le_p24 le_q0 le_q1 lt_q1 le_q2 lt_q2 le_q3 lt_q3 le_q4 lt_q4 le_q5 lt_q5 le_q6 lt_q6 le_q7 lt_q7 le_q8 lt_q8 le_q9 lt_q9 le_q10 lt_q10 le_q11 lt_q11 le_q12 lt_q12 le_q13 lt_q13 le_q14 lt_q14 le_q15 lt_q15 le_q16 lt_q16 le_q17 lt_q17 le_q18 lt_q18 le_q19 lt_q19 le_q20 lt_q20 le_q21 lt_q21 le_q22 lt_q22 le_q23 lt_q23 le_q24 lt_q24

theorem Rws.slice {w : World} {v : Value} {ls : List (List UInt8)} (h : Rws w v ls) : ∃ ao cap, v = .slice ao ls.length cap ∧ ls.length ≤ cap := by
  obtain ⟨xs, ⟨ao, cap, rfl, hc, _⟩, he⟩ := h
  rw [he.length] at hc ⊢
  exact ⟨ao, cap, rfl, hc⟩

/-- At record k. -/
theorem Rws.at {w : World} {ao : Option Addr} {n cap : Nat} {ls : List (List UInt8)} (h : Rws w (.slice ao n cap) ls) {k : Nat} (hk : k < ls.length) :
    ∃ b off x, ao = some ⟨b, off, none⟩ ∧ b < w.heap.size ∧ w.cell? ⟨b, off + k, none⟩ = some x ∧ Byt w x ls[k] := by
  obtain ⟨xs, ⟨ao', cap', e, hc, h⟩, he⟩ := h
  have hl := he.length
  simp only [Value.slice.injEq] at e
  obtain ⟨rfl, rfl, rfl⟩ := e
  rcases h with rfl | ⟨b, off, rfl, hb, hl'⟩
  · simp at hl
    omega
  · exact ⟨b, off, xs[k]'(by omega), rfl, hb, hl' k (by omega), (he.get k (by omega) hk).byt⟩

theorem above_any (v : Value) (l : List Int) (w : World) {B : Nat} (h : w.ownsRow B 3 1 v l.length (cellsZ l)) (hl : ∀ k ∈ l, 0 ≤ k ∧ k ≤ 1048576) :
    Calls Tryz.prog 85 #[v] w fun e w' => e = .returned (.int .i64 (match l.getLast? with | some k => k + 1 | none => 0)) ∧ Adds w w' := by
  have hcl : (cellsZ l).length = l.length := by simp [cellsZ]
  have hlen := h.2
  rcases List.eq_nil_or_concat l with rfl | ⟨r, k, rfl⟩
  · obtain ⟨ao, cap, rfl⟩ : ∃ ao cap, v = .slice ao 0 cap := by
      rcases hlen with ⟨rfl, _⟩ | ⟨g, cap, cur, rfl, _⟩
      · exact ⟨none, 0, rfl⟩
      · exact ⟨_, cap, rfl⟩
    clear h hlen hcl
    go_enter Tryz.func85, Tryz.ntmps85
    go_wp2
    go_ret
    exact ⟨rfl, Adds.refl _⟩
  · rw [List.concat_eq_append] at h hlen hcl hl ⊢
    have hk := hl k (by simp)
    have hr := row_at (xs := cellsZ (r ++ [k])) (j := r.length) (by rw [hcl]; exact h) (by rw [hcl]; simp)
    obtain ⟨g, cap, rfl, hcap, _, hg, hc, _⟩ := hr
    have e1 : (cellsZ (r ++ [k]))[r.length]'(by rw [hcl]; simp) = .int .i64 k := by simp [cellsZ]
    rw [e1] at hc
    have e2 : (cellsZ (r ++ [k])).length = r.length + 1 := by rw [hcl]; simp
    have hm : r.length + 1 ≤ 9223372036854775807 := by
      rcases hlen with ⟨e, _⟩ | ⟨g', cap', cur, e, _, _, _, hm, _⟩
      · cases e
      · simp only [Value.slice.injEq] at e
        unfold maxLen at hm
        omega
    rw [e2] at hcap ⊢
    clear h hlen hcl e1 e2 hl
    simp only [List.getLast?_append, List.getLast?_singleton, Option.some_or]
    generalize r.length = n at *
    go_enter Tryz.func85, Tryz.ntmps85
    go_wp2
    go_ret
    exact ⟨rfl, Adds.refl _⟩

def segLen (ls : List (List UInt8)) : Nat := 13 + tot ls + 9 * ls.length

theorem size_any (v : Value) (ls : List (List UInt8)) (w : World) (h : Rws w v ls) (hlen : ls.length ≤ 1000000) (htot : tot ls ≤ 1099511627776) :
    Calls Tryz.prog 86 #[v] w fun e w' => e = .returned (.int .i64 (segLen ls : Nat)) ∧ Adds w w' := by
  obtain ⟨ao, cap, rfl, hcap⟩ := h.slice
  go_enter Tryz.func86, Tryz.ntmps86
  go_wp2
  go_loopw [3, 8] (fun s i W => ∃ k : Nat, k ≤ ls.length ∧ i = .int .i64 k ∧ s = .int .i64 (segLen (ls.take k) : Nat) ∧ W = w) (fun _ i _ => (ls.length - intOf i).toNat)
  case atStart => exact ⟨0, by omega, rfl, rfl, rfl⟩
  case round =>
    obtain ⟨k, hk, rfl, rfl, rfl⟩ := hrel
    by_cases hlt : k < ls.length
    · obtain ⟨b, off, x, rfl, hb, hc, hx⟩ := h.at hlt
      obtain ⟨xo, xc, rfl, hxc, _⟩ := hx.open
      have hn : segLen (ls.take (k + 1)) = segLen (ls.take k) + (9 + ls[k].length) := by
        unfold segLen
        rw [tot_next hlt]
        simp
        omega
      have hle : segLen (ls.take (k + 1)) ≤ 1099511627776 + 13 + 9000009 := by
        have := tot_take ls (k + 1)
        unfold segLen
        simp
        omega
      have HN : Hid _ := hn
      rw [hn] at hle
      clear hn
      generalize ls[k].length = L at *
      generalize segLen (ls.take k) = S at *
      go_wp2
      go_roundw
      case rel => exact ⟨k + 1, by omega, by go_num, by rw [HN.out]; go_num, trivial⟩
      case measure => simp [intOf]; omega
    · obtain rfl : k = ls.length := by omega
      rw [List.take_length]
      go_wp2
      go_ret
      exact ⟨rfl, Adds.refl _⟩

def fits (ls : List (List UInt8)) : Prop := ∀ b ∈ ls, b.length ≤ 16384

instance (ls : List (List UInt8)) : Decidable (fits ls) := by unfold fits; infer_instance

theorem tooLong_any (v : Value) (ls : List (List UInt8)) (w : World) (h : Rws w v ls) (hlen : ls.length ≤ 1000000) :
    Calls Tryz.prog 102 #[v] w fun e w' => e = .returned (.bool (!decide (fits ls))) ∧ Adds w w' := by
  obtain ⟨ao, cap, rfl, hcap⟩ := h.slice
  go_enter Tryz.func102, Tryz.ntmps102
  go_wp2
  go_loopw [7] (fun i W => ∃ k : Nat, k ≤ ls.length ∧ i = .int .i64 k ∧ fits (ls.take k) ∧ W = w) (fun i _ => (ls.length - intOf i).toNat)
  case atStart => exact ⟨0, by omega, rfl, by simp [fits], rfl⟩
  case round =>
    obtain ⟨k, hk, rfl, hf, rfl⟩ := hrel
    have HF : Hid (fits (ls.take k)) := hf
    clear hf
    by_cases hlt : k < ls.length
    · obtain ⟨b, off, x, rfl, hb, hc, hx⟩ := h.at hlt
      obtain ⟨xo, xc, rfl, hxc, _⟩ := hx.open
      by_cases hb' : ls[k].length ≤ 16384
      · have HN : Hid (fits (ls.take (k + 1))) := by
          show fits _
          rw [List.take_succ_eq_append_getElem hlt]
          intro y hy
          rcases List.mem_append.1 hy with hy | hy
          · exact HF.out y hy
          · simp only [List.mem_singleton] at hy
            rw [hy]
            exact hb'
        generalize ls[k].length = L at *
        go_wp2
        go_roundw
        case rel => exact ⟨k + 1, by omega, by go_num, HN.out, trivial⟩
        case measure => simp [intOf]; omega
      · have HN : Hid (¬ fits ls) := by
          show ¬ fits ls
          exact fun hh => hb' (hh _ (List.getElem_mem hlt))
        generalize ls[k].length = L at *
        go_wp2
        go_ret
        refine ⟨by rw [decide_eq_false HN.out]; rfl, Adds.refl _⟩
    · obtain rfl : k = ls.length := by omega
      rw [List.take_length] at HF
      go_wp2
      go_ret
      exact ⟨by rw [decide_eq_true HF.out]; rfl, Adds.refl _⟩

end Go.Proofs.YtelkkpomehgcjaaGreat

namespace Go.Proofs.YtelkkpomehgcjaaGreat
open Go.RowKit Go.Maps
attribute [local go_sem] cell?_more frozen?_more setCell_more size_more tape_more drew_more drewN_more more_drew more_drewN more_more one_out plus_out plus_end lt_one le_p2 le_p3 le_p4 le_p5 le_p6 le_p7 le_p8 le_p9 le_p10 le_p11 le_p12 le_p13 le_p14 le_p15 le_p16 le_p17 le_p18 le_p19 le_p20 le_p21 le_p22 le_p23 le_p24 le_q0 le_q1 lt_q1 le_q2 lt_q2 le_q3 lt_q3 le_q4 lt_q4 le_q5 lt_q5 le_q6 lt_q6 le_q7 lt_q7 le_q8 lt_q8 le_q9 lt_q9 le_q10 lt_q10 le_q11 lt_q11 le_q12 lt_q12 le_q13 lt_q13 le_q14 lt_q14 le_q15 lt_q15 le_q16 lt_q16 le_q17 lt_q17 le_q18 lt_q18 le_q19 lt_q19 le_q20 lt_q20 le_q21 lt_q21 le_q22 lt_q22 le_q23 lt_q23 le_q24 lt_q24

def seg (base : Nat) (ls : List (List UInt8)) : List UInt8 := recs (four base :: ls)

theorem seg_length (base : Nat) (ls : List (List UInt8)) : (seg base ls).length = segLen ls := by
  unfold seg segLen
  rw [recs_tot]
  show (four base).length + tot ls + 9 * (ls.length + 1) = _
  rw [four_length]
  omega

theorem recs_cons (b : List UInt8) (ls : List (List UInt8)) : recs (b :: ls) = record b ++ recs ls := rfl

set_option maxRecDepth 20000 in
theorem seg_any (v : Value) (ls : List (List UInt8)) (w : World) (h : Rws w v ls) (hf : fits ls) (hlen : segLen ls ≤ 1000000) :
    Calls Tryz.prog 87 #[v] w fun e w' => ∃ r, e = .returned r ∧ Byt w' r (seg ls.length ls) ∧ Adds w w' := by
  obtain ⟨ao, cap, rfl, hcap⟩ := h.slice
  have hn : ls.length ≤ 1000000 := by unfold segLen at hlen; omega
  go_enter Tryz.func87, Tryz.ntmps87
  go_wp2_with (first
    | (go_at_call 98; refine (numbered_any ls.length _ (by omega)).mono ?_; rintro e w1 ⟨v1, rfl, a1, hY1⟩)
    | (go_at_call 93; refine (record_any _ _ _ hY1 (by simp [four])).mono ?_; rintro e w2 ⟨v2, rfl, h2⟩))
  go_loopw [3, 18] (fun s i W => ∃ k : Nat, k ≤ ls.length ∧ i = .int .i64 k ∧ OwnV w1.heap.size 5 s (cellsB (seg ls.length (ls.take k))) w1 W) (fun _ i _ => (ls.length - intOf i).toNat)
  case atStart => exact ⟨0, by omega, rfl, by simpa [seg, recs] using h2⟩
  case round =>
    obtain ⟨k, hk, rfl, hs⟩ := hrel
    have ha : Adds w wr := a1.trans hs.added
    have HA : Hid (Adds w wr) := ha
    by_cases hlt : k < ls.length
    · obtain ⟨b, off, x, rfl, hb, hc, hx⟩ := (h.adds ha).at hlt
      have hle : ls[k].length ≤ 16384 := hf _ (List.getElem_mem hlt)
      have kR := record_any _ _ _ hx hle
      have hsl : (seg ls.length (ls.take k)).length + (record ls[k]).length ≤ 1000000 := by
        rw [seg_length, record_length]
        have h1 : tot (ls.take k) + ls[k].length ≤ tot ls := by
          rw [← tot_next hlt]
          exact tot_take ls (k + 1)
        unfold segLen at hlen ⊢
        simp
        omega
      have HN : Hid (seg ls.length (ls.take (k + 1)) = seg ls.length (ls.take k) ++ record ls[k]) := by
        show _ = _
        unfold seg
        rw [recs_cons, recs_cons, recs_next hlt, List.append_assoc]
      clear ha
      go_wp2_with (first
        | (go_at_call 93; refine kR.mono ?_; rintro e w4 ⟨v4, rfl, h4⟩)
        | (at_builtin; refine byt_app rfl (.tmp 27) (.tmp 28) rfl (hs.adds h4.added) rfl h4.byt rfl hsl ?_; intro v5 w5 h5))
      go_roundw
      case rel => exact ⟨k + 1, by omega, by go_num, by rw [HN.out]; exact h5⟩
      case measure => simp [intOf]; omega
    · obtain rfl : k = ls.length := by omega
      rw [List.take_length] at hs
      go_wp2
      go_ret
      exact ⟨_, rfl, hs.byt, HA.out⟩

theorem made_cells (n : Nat) (z : Value) (hz : z.cells = #[z]) : (madeCells z.cells n).toList = List.replicate n z := by
  rw [hz]
  unfold madeCells
  apply List.ext_getElem
  · simp
  · intro i h1 h2
    simp [Nat.mod_one]

theorem make_rows (w : World) (n : Nat) (hn : n ≤ 1000000) : ∃ w', (Instr.makeSlice 37 (.int .i64 (n : Int)) (.int .i64 (n : Int))).run Tryz.prog w = .ok (.slice (some ⟨w.heap.size, 0, none⟩) n n) w' ∧
    OwnV w.heap.size 40 (.slice (some ⟨w.heap.size, 0, none⟩) n n) (List.replicate n (.slice none 0 0)) w w' := by
  obtain ⟨i0, hi, hz0, hzs, hzb⟩ := info_parts Tryz.info40
  have hr := run_make (P := Tryz.prog) w 37 40 i0 (.slice none 0 0) Tryz.underlying37 hi hz0 .i64 .i64 n n (by omega) (by omega) (by rw [hzb]; omega) (by omega)
  simp only [Int.toNat_natCast, hzs, Nat.mul_one] at hr
  refine ⟨_, hr, ⟨by simp, .inr ⟨w.heap.size, n, _, by simp, Nat.le_refl _, new_block _ _, by simp, by unfold maxLen; omega, ?_, ?_⟩⟩, ((Adds.refl w).alloc _).below, by simp⟩
  · rw [size_madeCells]
    omega
  · rw [made_cells _ _ rfl]
    simp

theorem fr_row {B : Nat} {w : World} {v : Value} {l : List UInt8} (h : w.ownsRow B 5 1 v l.length (cellsB l)) : Fr B w v l := by
  obtain ⟨ao, cap, rfl, hc, hl⟩ := (row_byt h).open
  refine ⟨ao, cap, rfl, hc, ?_⟩
  rcases hl with hl | ⟨b, off, rfl, hb, hl⟩
  · exact .inl hl
  · rcases h.2 with ⟨e, _⟩ | ⟨g, cap', cur, e, hB, hg, _⟩
    · cases e
    · simp only [Value.slice.injEq, Option.some.injEq, Addr.mk.injEq] at e
      obtain ⟨⟨rfl, rfl, _⟩, _, _⟩ := e
      exact .inr ⟨b, 0, cur, rfl, hB, hg, hl⟩

theorem EachF.keep {B : Nat} {w w' : World} {xs : List Value} {ls : List (List UInt8)} (h : EachF B w xs ls) (hk : ∀ b C, B ≤ b → w.heap[b]? = some (.cells C 5 (0, 0)) → w'.heap[b]? = w.heap[b]?) : EachF B w' xs ls :=
  h.imp fun _ _ hx => hx.keep hk

theorem take_set_next {xs : List Value} {k : Nat} (h : k < xs.length) (x : Value) : (xs.set k x).take (k + 1) = xs.take k ++ [x] := by
  rw [List.take_succ_eq_append_getElem (by simpa using h), List.take_set_of_le (Nat.le_refl _)]
  simp

theorem copied_any (v : Value) (ls : List (List UInt8)) (w : World) (h : Rws w v ls) (hf : fits ls) (hn : ls.length ≤ 1000000) :
    Calls Tryz.prog 103 #[v] w fun e w' => ∃ r xs, e = .returned r ∧ OwnV w.heap.size 40 r xs w w' ∧ EachF w.heap.size w' xs ls := by
  obtain ⟨ao, cap, rfl, hcap⟩ := h.slice
  obtain ⟨w0, hr, ho⟩ := make_rows w ls.length hn
  go_enter Tryz.func103, Tryz.ntmps103
  go_wp2
  clear hr
  go_loopw [11] (fun i W => ∃ (k : Nat) (xs : List Value), k ≤ ls.length ∧ i = .int .i64 k ∧ xs.length = ls.length ∧ W.ownsRow w.heap.size 40 1 (.slice (some ⟨w.heap.size, 0, none⟩) ls.length ls.length) xs.length xs ∧ EachF w.heap.size W (xs.take k) (ls.take k) ∧ Adds w W) (fun i _ => (ls.length - intOf i).toNat)
  case atStart => exact ⟨0, _, by omega, rfl, by simp, ho.1, by simp [EachF], ho.added⟩
  case round =>
    obtain ⟨k, xs, hk, rfl, hxl, hown, heach, ha⟩ := hrel
    have HA : Hid (Adds w wr) := ha
    by_cases hlt : k < ls.length
    · obtain ⟨b, off, x, rfl, hb, hc, hx⟩ := (h.adds ha).at hlt
      have hle : ls[k].length ≤ 16384 := hf _ (List.getElem_mem hlt)
      have kC := clone_any _ _ _ hx (by omega)
      clear ha
      go_wp2_with (go_at_call 65; refine kC.mono ?_; rintro e w4 ⟨v4, rfl, h4, a4⟩; obtain ⟨ao4, l4, c4, rfl⟩ := row_slice h4; have hown4 := row_adds hown a4; obtain ⟨g4, cap4, e4, _, hB4, hg4, hc4, hz4⟩ := row_at hown4 (j := k) (by omega); (have e5 : g4 = w.heap.size := by simp at e4; exact e4.1.symm); subst e5; clear e4)
      go_roundw
      case rel =>
        have hrow := row_set (B := w.heap.size) (e := 40) (g := w.heap.size) (cap := ls.length) (xs := xs) (w := w4) (by rw [hxl] at hown4 ⊢; exact hown4) k (by omega) (.slice ao4 l4 c4)
        have hgr := grown_set w4 w.heap.size k (.slice ao4 l4 c4)
        have hrow4 : w4.ownsRow w.heap.size 40 1 (.slice (some ⟨w.heap.size, 0, none⟩) ls.length ls.length) xs.length xs := hown4
        refine ⟨k + 1, xs.set k (.slice ao4 l4 c4), by omega, by go_num, by simpa using hxl, by simpa [hxl] using hrow, ?_, ?_⟩
        · rw [take_set_next (by omega), List.take_succ_eq_append_getElem hlt]
          refine EachF.append ?_ ⟨?_, trivial⟩
          · exact (heach.imp fun _ _ hx => hx.adds a4).imp fun _ _ hx => hx.grown hrow4 (by decide) hgr
          · exact ((fr_row h4).mono HA.out.below.size).grown hrow4 (by decide) hgr
        · exact adds_of_grown (HA.out.trans a4) hgr (fun i hi => by cases hi; exact Nat.le_refl _)
      case measure => simp [intOf]; omega
    · obtain rfl : k = ls.length := by omega
      rw [List.take_length, List.take_of_length_le (by omega)] at heach
      go_wp2
      go_ret
      exact ⟨_, xs, rfl, ⟨hown, HA.out.below, HA.out.below.size⟩, heach⟩

end Go.Proofs.YtelkkpomehgcjaaGreat

namespace Go.Proofs.YtelkkpomehgcjaaGreat
open Go.RowKit Go.Maps

/-- A call: of what was there it has turned the blocks of F alone. -/
structure Mv (w : World) (F : Nat → Prop) (w' : World) (F' : Nat → Prop) : Prop where
  os : w'.os = w.os
  tape : w'.tape = w.tape
  output : w'.output = w.output
  size : w.heap.size ≤ w'.heap.size
  block : ∀ i, i < w.heap.size → ¬ F i → w'.heap[i]? = w.heap[i]? ∧ ¬ F' i

theorem Moves.mv {w w' : World} {R R' : Rw} (h : Moves w R w' R') : Mv w R.foot w' R'.foot := ⟨h.os, h.tape, h.output, h.size, h.block⟩
theorem Mv.refl (w : World) (F : Nat → Prop) : Mv w F w F := ⟨rfl, rfl, rfl, Nat.le_refl _, fun _ _ h => ⟨rfl, h⟩⟩
theorem Mv.trans {w w' w'' : World} {F F' F'' : Nat → Prop} (h : Mv w F w' F') (k : Mv w' F' w'' F'') : Mv w F w'' F'' := by
  refine ⟨k.os.trans h.os, k.tape.trans h.tape, k.output.trans h.output, Nat.le_trans h.size k.size, fun i hi hn => ?_⟩
  obtain ⟨h1, h2⟩ := h.block i hi hn
  obtain ⟨k1, k2⟩ := k.block i (Nat.lt_of_lt_of_le hi h.size) h2
  exact ⟨k1.trans h1, k2⟩
theorem Mv.adds {w w' : World} (F : Nat → Prop) (h : Adds w w') : Mv w F w' F := by
  have hb := h.below
  exact ⟨hb.os, hb.tape, hb.output, hb.size, fun i hi hn => ⟨hb.block i hi, hn⟩⟩
theorem Mv.below {w w' : World} {F F' : Nat → Prop} (h : Mv w F w' F') {B : Nat} (hF : ∀ i, F i → B ≤ i) (hB : B ≤ w.heap.size) : Below B w w' :=
  ⟨h.os, h.tape, h.output, h.size, fun i hi => (h.block i (Nat.lt_of_lt_of_le hi hB) (fun hf => by have := hF i hf; omega)).1⟩

/-- Bytes outside F, in a block of bytes. -/
def BytA (w : World) (F : Nat → Prop) (x : Value) (l : List UInt8) : Prop :=
  ∃ ao cap, x = .slice ao l.length cap ∧ l.length ≤ cap ∧ (l = [] ∨ ∃ b off C z, ao = some ⟨b, off, none⟩ ∧ w.heap[b]? = some (.cells C 5 z) ∧ ¬ F b ∧ LiesB w b off l)

theorem BytA.byt {w : World} {F : Nat → Prop} {v : Value} {l : List UInt8} (h : BytA w F v l) : Byt w v l := by
  obtain ⟨ao, cap, rfl, hc, h⟩ := h
  refine byt_of hc (h.imp id ?_)
  rintro ⟨b, off, C, z, rfl, hb, _, hl⟩
  exact ⟨b, off, rfl, (Array.getElem?_eq_some_iff.1 hb).1, hl⟩

theorem BytA.keep {w w' : World} {F F' : Nat → Prop} {v : Value} {l : List UInt8} (h : BytA w F v l) (hk : ∀ b C z, w.heap[b]? = some (.cells C 5 z) → ¬ F b → w'.heap[b]? = w.heap[b]? ∧ ¬ F' b) : BytA w' F' v l := by
  obtain ⟨ao, cap, rfl, hc, h⟩ := h
  refine ⟨ao, cap, rfl, hc, h.imp id ?_⟩
  rintro ⟨b, off, C, z, rfl, hb, hf, hl⟩
  obtain ⟨e, hf'⟩ := hk b C z hb hf
  refine ⟨b, off, C, z, rfl, e.trans hb, hf', fun j hj => ?_⟩
  rw [World.cell?_of_block e]
  exact hl j hj

theorem BytA.mv {w w' : World} {F F' : Nat → Prop} {v : Value} {l : List UInt8} (h : BytA w F v l) (m : Mv w F w' F') : BytA w' F' v l :=
  h.keep fun b _ _ hb hf => m.block b (Array.getElem?_eq_some_iff.1 hb).1 hf

theorem BytA.sub {w : World} {F F' : Nat → Prop} {v : Value} {l : List UInt8} (h : BytA w F v l) (hF : ∀ b, b < w.heap.size → ¬ F b → ¬ F' b) : BytA w F' v l :=
  h.keep fun b _ _ hb hf => ⟨rfl, hF b (Array.getElem?_eq_some_iff.1 hb).1 hf⟩

/-- Blocks that are none of bytes are of no matter. -/
theorem BytA.or {w : World} {F G : Nat → Prop} {v : Value} {l : List UInt8} (h : BytA w F v l) (hG : ∀ i, G i → ∃ C e z, w.heap[i]? = some (.cells C e z) ∧ e ≠ 5) : BytA w (fun i => F i ∨ G i) v l :=
  h.keep fun b C z hb hf => ⟨rfl, fun hc => hc.elim hf fun hg => by
    obtain ⟨C', e, z', h1, h2⟩ := hG b hg
    rw [hb] at h1
    simp only [Option.some.injEq, Obj.cells.injEq] at h1
    exact h2 h1.2.1.symm⟩

theorem Fr.bytA {B : Nat} {w : World} {F : Nat → Prop} {v : Value} {l : List UInt8} (h : Fr B w v l) (hF : ∀ b C, B ≤ b → w.heap[b]? = some (.cells C 5 (0, 0)) → ¬ F b) : BytA w F v l := by
  obtain ⟨ao, cap, rfl, hc, h⟩ := h
  refine ⟨ao, cap, rfl, hc, h.imp id ?_⟩
  rintro ⟨b, off, C, rfl, hb, hg, hl⟩
  exact ⟨b, off, C, _, rfl, hg, hF b C hb hg, hl⟩

def EachA (w : World) (F : Nat → Prop) (xs : List Value) (ls : List (List UInt8)) : Prop := xs.length = ls.length ∧ ∀ i (h : i < xs.length) (h' : i < ls.length), BytA w F xs[i] ls[i]

theorem EachA.imp {w w' : World} {F F' : Nat → Prop} {xs : List Value} {ls : List (List UInt8)} (h : EachA w F xs ls) (f : ∀ v l, BytA w F v l → BytA w' F' v l) : EachA w' F' xs ls := ⟨h.1, fun i h1 h2 => f _ _ (h.2 i h1 h2)⟩

theorem eachA_nil (w : World) (F : Nat → Prop) : EachA w F [] [] := ⟨rfl, fun i h => by simp at h⟩

theorem EachA.snoc {w : World} {F : Nat → Prop} {xs : List Value} {ls : List (List UInt8)} {v : Value} {l : List UInt8} (h : EachA w F xs ls) (hv : BytA w F v l) : EachA w F (xs ++ [v]) (ls ++ [l]) := by
  refine ⟨by simp [h.1], fun i h1 h2 => ?_⟩
  by_cases hi : i < xs.length
  · rw [List.getElem_append_left hi, List.getElem_append_left (by rw [← h.1]; exact hi)]
    exact h.2 i hi (by rw [← h.1]; exact hi)
  · have e : i = xs.length := by
      simp at h1
      omega
    have e1 : (xs ++ [v])[i] = v := by
      subst e
      simp
    have e2 : (ls ++ [l])[i] = l := by
      have : i = ls.length := by rw [← h.1]; exact e
      subst this
      simp
    rw [e1, e2]
    exact hv

theorem EachF.eachA {B : Nat} {w : World} {F : Nat → Prop} {xs : List Value} {ls : List (List UInt8)} (h : EachF B w xs ls) (hF : ∀ b C, B ≤ b → w.heap[b]? = some (.cells C 5 (0, 0)) → ¬ F b) : EachA w F xs ls :=
  ⟨h.length, fun i h1 h2 => (h.get i h1 h2).bytA hF⟩

theorem each_of : ∀ {w : World} {F : Nat → Prop} {xs : List Value} {ls : List (List UInt8)}, EachA w F xs ls → Each w.heap.size w xs ls
  | _, _, [], [], _ => trivial
  | _, _, x :: xs, l :: ls, h => ⟨(h.2 0 (by simp) (by simp)).byt.old, each_of (F := ‹Nat → Prop›) ⟨by have := h.1; simpa using this, fun i h1 h2 => h.2 (i + 1) (by simpa using h1) (by simpa using h2)⟩⟩
  | _, _, [], _ :: _, h => by have := h.1; simp at this
  | _, _, _ :: _, [], h => by have := h.1; simp at this

/-- A list of records outside F. -/
def RwsA (w : World) (F : Nat → Prop) (v : Value) (ls : List (List UInt8)) : Prop :=
  ∃ xs ao cap, v = .slice ao xs.length cap ∧ xs.length ≤ cap ∧ (xs = [] ∨ ∃ b off, ao = some ⟨b, off, none⟩ ∧ b < w.heap.size ∧ ¬ F b ∧ LiesV w b off xs) ∧ EachA w F xs ls

theorem RwsA.rws {w : World} {F : Nat → Prop} {v : Value} {ls : List (List UInt8)} (h : RwsA w F v ls) : Rws w v ls := by
  obtain ⟨xs, ao, cap, rfl, hc, h, he⟩ := h
  refine ⟨xs, ⟨ao, cap, rfl, hc, h.imp id ?_⟩, each_of he⟩
  rintro ⟨b, off, rfl, hb, _, hl⟩
  exact ⟨b, off, rfl, hb, hl⟩

theorem RwsA.mv {w w' : World} {F F' : Nat → Prop} {v : Value} {ls : List (List UInt8)} (h : RwsA w F v ls) (m : Mv w F w' F') : RwsA w' F' v ls := by
  obtain ⟨xs, ao, cap, rfl, hc, h, he⟩ := h
  refine ⟨xs, ao, cap, rfl, hc, h.imp id ?_, he.imp fun _ _ hx => hx.mv m⟩
  rintro ⟨b, off, rfl, hb, hf, hl⟩
  obtain ⟨e, hf'⟩ := m.block b hb hf
  refine ⟨b, off, rfl, Nat.lt_of_lt_of_le hb m.size, hf', fun j hj => ?_⟩
  rw [World.cell?_of_block e]
  exact hl j hj

theorem RwsA.sub {w : World} {F F' : Nat → Prop} {v : Value} {ls : List (List UInt8)} (h : RwsA w F v ls) (hF : ∀ b, b < w.heap.size → ¬ F b → ¬ F' b) : RwsA w F' v ls := by
  obtain ⟨xs, ao, cap, rfl, hc, h, he⟩ := h
  refine ⟨xs, ao, cap, rfl, hc, h.imp id ?_, he.imp fun _ _ hx => hx.sub hF⟩
  rintro ⟨b, off, rfl, hb, hf, hl⟩
  exact ⟨b, off, rfl, hb, hF b hb hf, hl⟩

theorem rwsA_nil (w : World) (F : Nat → Prop) : RwsA w F (.slice none 0 0) [] := ⟨[], none, 0, rfl, Nat.le_refl _, .inl rfl, eachA_nil w F⟩

/-- A row of slices that is owned. -/
theorem rwsA_own {w : World} {B : Nat} {F : Nat → Prop} {v : Value} {xs : List Value} {ls : List (List UInt8)} (h : w.ownsRow B 40 1 v xs.length xs) (he : EachA w F xs ls) (hF : ∀ i, v.ownBlock = some i → ¬ F i) : RwsA w F v ls := by
  have hc := fun g => h.cells (g := g)
  have hlt := h.lt
  rcases h.2 with ⟨rfl, hn⟩ | ⟨g, cap, cur, rfl, hb, hg, hnc, _⟩
  · have : xs = [] := List.length_eq_zero_iff.1 hn
    subst this
    exact ⟨[], none, 0, rfl, Nat.le_refl _, .inl rfl, he⟩
  · refine ⟨xs, _, cap, rfl, hnc, .inr ⟨g, 0, rfl, (hlt g rfl).2, hF g rfl, fun j hj => ?_⟩, he⟩
    have := hc g rfl j xs[j] (by simp [hj])
    rw [add_at] at this
    exact this

/-- A tape as it lies. -/
structure Tw where
  R : Rw
  p : Nat
  file : Int
  base : Nat
  v : Value
  ls : List (List UInt8)

/-- The blocks that a tape turns, but for the row of its records. -/
def Tw.core (T : Tw) (i : Nat) : Prop := T.R.foot i ∨ i = T.p
def Tw.foot (T : Tw) (i : Nat) : Prop := T.R.foot i ∨ i = T.p ∨ T.v.ownBlock = some i

structure Tap (w : World) (B : Nat) (T : Tw) (d : Dk) : Prop where
  st : St w B T.R d
  hp : w.heap[T.p]? = some (.cells #[ptr T.R.p, .int .i64 T.file, .int .i64 (T.base : Int), T.v] 112 (0, 0))
  bp : B ≤ T.p
  recs : RwsA w T.core T.v T.ls

/-- A tape whose row of records is its own. -/
structure TapW (w : World) (B : Nat) (T : Tw) (d : Dk) : Prop where
  st : St w B T.R d
  hp : w.heap[T.p]? = some (.cells #[ptr T.R.p, .int .i64 T.file, .int .i64 (T.base : Int), T.v] 112 (0, 0))
  bp : B ≤ T.p
  row : ∃ xs, w.ownsRow B 40 1 T.v xs.length xs ∧ EachA w T.foot xs T.ls

theorem tape_out {w : World} {B : Nat} {R : Rw} (h : Mem w B R) {p : Nat} {C : Array Value} {e : TypeId} (hp : w.heap[p]? = some (.cells C e (0, 0))) (he : Odd e) : ¬ R.foot p := by
  intro hf
  rcases foot_tag h hf with ⟨es, clock, hb⟩ | ⟨C', T, hb, hT⟩
  · rw [hp] at hb
    cases hb
  · rw [hp] at hb
    simp only [Option.some.injEq, Obj.cells.injEq] at hb
    obtain ⟨_, rfl, _⟩ := hb
    rcases hT with e1 | e1 | e1
    · exact he.1 e1
    · exact he.2.1 e1
    · exact he.2.2 e1

theorem odd112 : Odd 112 := by unfold Odd; decide
theorem odd40 : Odd 40 := by unfold Odd; decide
theorem odd3 : Odd 3 := by unfold Odd; decide

theorem TapW.own_core {w : World} {B : Nat} {T : Tw} {d : Dk} (h : TapW w B T d) : ∀ i, T.v.ownBlock = some i → ¬ T.core i := by
  obtain ⟨xs, ho, _⟩ := h.row
  intro i hi hc
  obtain ⟨C, hC⟩ := row_block ho hi
  rcases hc with hc | rfl
  · exact tape_out h.st.live.mem hC odd40 hc
  · rw [h.hp] at hC
    simp at hC

theorem TapW.tap {w : World} {B : Nat} {T : Tw} {d : Dk} (h : TapW w B T d) : Tap w B T d := by
  obtain ⟨xs, ho, he⟩ := h.row
  refine ⟨h.st, h.hp, h.bp, rwsA_own ho (he.imp fun _ _ hx => hx.sub fun b _ hf hc => hf ?_) h.own_core⟩
  rcases hc with hc | hc
  · exact .inl hc
  · exact .inr (.inl hc)

theorem TapW.low {w : World} {B : Nat} {T : Tw} {d : Dk} (h : TapW w B T d) : ∀ i, T.foot i → B ≤ i := by
  obtain ⟨xs, ho, he⟩ := h.row
  rintro i (hf | rfl | hf)
  · exact (h.st.live.mem.lt hf).1
  · exact h.bp
  · exact (ho.lt i hf).1

/-- Files are dropped, one behind the other, but one. -/
def Dk.drops (d : Dk) (file : Int) (ks : List Int) : Dk := (ks.filter fun k => k != file).foldl Dk.drop d
def Dk.others (d : Dk) (file : Int) (ks : List Int) : Dk := if ks.length < 2 then d else (d.drops file ks).sync

theorem drops_next (d : Dk) (file : Int) {ks : List Int} {k : Nat} (hk : k < ks.length) : d.drops file (ks.take (k + 1)) = if ks[k] = file then d.drops file (ks.take k) else (d.drops file (ks.take k)).drop ks[k] := by
  unfold Dk.drops
  rw [List.take_succ_eq_append_getElem hk, List.filter_append, List.foldl_append]
  by_cases e : ks[k] = file
  · simp [e]
  · simp [e]

theorem drop_now (d : Dk) (k : Int) : (d.drop k).now = d.now.set k none := by
  unfold Dk.now Dk.drop
  simp only [replay_append, replay_one]
  simp [step]

theorem drops_now (d : Dk) (file : Int) (ks : List Int) (j : Int) : (d.drops file ks).now j = if j ∈ ks ∧ j ≠ file then none else d.now j := by
  unfold Dk.drops
  induction ks generalizing d with
  | nil => simp
  | cons k r ih =>
    by_cases e : k = file
    · subst e
      simp only [List.filter_cons, bne_self_eq_false, Bool.false_eq_true, if_false]
      rw [ih]
      by_cases h : j = k
      · simp [h]
      · simp [h]
    · have : (k != file) = true := by simpa using e
      simp only [List.filter_cons, this, if_true, List.foldl_cons]
      rw [ih, drop_now]
      by_cases h : j = k
      · subst h
        simp [e, Fs.set]
      · simp [h, Fs.set]

end Go.Proofs.YtelkkpomehgcjaaGreat

namespace Go.Proofs.YtelkkpomehgcjaaGreat
open Go.RowKit Go.Maps
attribute [local go_sem] cell?_more frozen?_more setCell_more size_more tape_more drew_more drewN_more more_drew more_drewN more_more one_out plus_out plus_end lt_one le_p2 le_p3 le_p4 le_p5 le_p6 le_p7 le_p8 le_p9 le_p10 le_p11 le_p12 le_p13 le_p14 le_p15 le_p16 le_p17 le_p18 le_p19 le_p20 le_p21 le_p22 le_p23 le_p24 le_q0 le_q1 lt_q1 le_q2 lt_q2 le_q3 lt_q3 le_q4 lt_q4 le_q5 lt_q5 le_q6 lt_q6 le_q7 lt_q7 le_q8 lt_q8 le_q9 lt_q9 le_q10 lt_q10 le_q11 lt_q11 le_q12 lt_q12 le_q13 lt_q13 le_q14 lt_q14 le_q15 lt_q15 le_q16 lt_q16 le_q17 lt_q17 le_q18 lt_q18 le_q19 lt_q19 le_q20 lt_q20 le_q21 lt_q21 le_q22 lt_q22 le_q23 lt_q23 le_q24 lt_q24

theorem keys_at {K : Kf} (hK : SrtK K) {k : Nat} (hk : k < (keysK K).length) : (∃ b, filesK K (keysK K)[k] = some b) ∧ (keysK K)[k] ∉ (keysK K).take k := by
  have hk' : k < K.length := by simpa [keysK] using hk
  have e : (keysK K)[k] = K[k].1 := by simp [keysK]
  refine ⟨⟨K[k].2, ?_⟩, ?_⟩
  · rw [e]
    exact getK_mem hK (List.getElem_mem hk')
  · intro hm
    obtain ⟨j, hj, he⟩ := List.getElem_of_mem hm
    have hjk : j < k := by
      simp at hj
      omega
    rw [List.getElem_take] at he
    have hlt := List.pairwise_iff_getElem.1 hK j k (by omega) hk' hjk
    have e2 : (keysK K)[j]'(by omega) = K[j].1 := by simp [keysK]
    rw [e2, e] at he
    omega

theorem keys_len (K : Kf) : (cellsZ (keysK K)).length = K.length := by simp [cellsZ, keysK]

theorem few_keys {w : World} {B : Nat} {R : Rw} {d : Dk} {K : Kf} (h : St w B R d) (hK : SrtK K) (hf : filesK K = d.now) : K.length ≤ 1048577 := by
  have := h.live.mem.few
  have e : K.length = R.fs.length := by
    rw [← h.kbs hK hf]
    simp [kbs]
  omega

theorem row_slice_len {w : World} {B : Nat} {e : TypeId} {n : Nat} {v : Value} {xs : List Value} (h : w.ownsRow B e 1 v n xs) : ∃ ao cap, v = .slice ao n cap ∧ n ≤ cap := by
  rcases h.2 with ⟨rfl, hn⟩ | ⟨g, cap, cur, rfl, _, _, hc, _⟩
  · exact ⟨none, 0, by rw [hn], by omega⟩
  · exact ⟨_, cap, rfl, hc⟩

theorem others_any {w : World} {B : Nat} {R : Rw} {d : Dk} {K : Kf} (h : St w B R d) (hK : SrtK K) (hf : filesK K = d.now) (p : Nat) (file base : Int) (v : Value)
    (hp : w.heap[p]? = some (.cells #[ptr R.p, .int .i64 file, .int .i64 base, v] 112 (0, 0))) (hb : R.bulk ≤ 137438953472) :
    Calls Tryz.prog 62 #[ptr p] w fun e w' => e = .returned (.tuple #[]) ∧ ∃ R', St w' B R' (d.others file (keysK K)) ∧ Goes w R w' R' (2 * K.length) := by
  have c0 : w.cell? ⟨p, 0, none⟩ = some (ptr R.p) := cell_of_row w p 0 _ _ _ hp
  have kF := st_files h hK hf
  have hfew := few_keys h hK hf
  have hkl : (keysK K).length = K.length := by simp [keysK]
  have hHK : Hid (SrtK K) := hK
  have hHf : Hid (filesK K = d.now) := hf
  clear hK hf
  by_cases h2 : K.length < 2
  · have HO : Hid (d.others file (keysK K) = d) := by
      show _ = _
      unfold Dk.others
      rw [if_pos (by omega)]
    go_enter Tryz.func62, Tryz.ntmps62
    go_wp2_with (go_at_call 79; refine kF.mono ?_; rintro e w1 ⟨v1, rfl, h1, a1⟩; obtain ⟨ao, cap, rfl, hcap⟩ := row_slice_len h1; rw [hkl] at h1 hcap ⊢)
    refine bodyPost_ret (results_none rfl _ _ _) rfl ?_
    exact ⟨rfl, R, by rw [HO.out]; exact h.adds a1, (Goes.adds R a1).mono (by omega)⟩
  · have HO : Hid (d.others file (keysK K) = (d.drops file (keysK K)).sync) := by
      show _ = _
      unfold Dk.others
      rw [if_neg (by omega)]
    go_enter Tryz.func62, Tryz.ntmps62
    go_wp2_with (go_at_call 79; refine kF.mono ?_; rintro e w1 ⟨v1, rfl, h1, a1⟩; obtain ⟨ao, cap, rfl, hcap⟩ := row_slice_len h1; rw [hkl] at h1 hcap ⊢)
    clear kF c0
    have HA1 : Hid (Adds w w1) := a1
    go_loopw [15] (fun i W => ∃ (k : Nat) (R' : Rw), k ≤ K.length ∧ i = .int .i64 k ∧ St W B R' (d.drops file ((keysK K).take k)) ∧ Goes w R W R' (2 * k)
      ∧ W.heap[p]? = some (.cells #[ptr R.p, .int .i64 file, .int .i64 base, v] 112 (0, 0)) ∧ W.ownsRow w.heap.size 3 1 (.slice ao K.length cap) K.length (cellsZ (keysK K))) (fun i _ => (K.length - intOf i).toNat)
    case atStart =>
      exact ⟨0, R, by omega, rfl, by simpa [Dk.drops] using h.adds a1, Goes.adds R a1, a1.at hp, h1⟩
    case round =>
      obtain ⟨k, R', hk, rfl, hst, hgo, hpw, hrow⟩ := hrel
      have c0 : wr.cell? ⟨p, 0, none⟩ = some (ptr R.p) := cell_of_row wr p 0 _ _ _ hpw
      have c1 : wr.cell? ⟨p, 1, none⟩ = some (.int .i64 file) := cell_of_row wr p 1 _ _ _ hpw
      have HS : Hid (St wr B R' (d.drops file ((keysK K).take k))) := hst
      have HG : Hid (Goes w R wr R' (2 * k)) := hgo
      have HP : Hid (wr.heap[p]? = some (.cells #[ptr R.p, .int .i64 file, .int .i64 base, v] 112 (0, 0))) := hpw
      clear hst hgo hpw
      by_cases hlt : k < K.length
      · have hlt' : k < (keysK K).length := by omega
        obtain ⟨⟨b, hkb⟩, hnin⟩ := keys_at hHK.out hlt'
        obtain ⟨g, cap', e1, _, _, hg, hc, _⟩ := row_at (xs := cellsZ (keysK K)) (B := w.heap.size) (e := 3) (v := .slice ao K.length cap) (w := wr) (by rw [keys_len]; exact hrow) (j := k) (by rw [keys_len]; exact hlt)
        simp only [Value.slice.injEq] at e1
        obtain ⟨rfl, x1, x2⟩ := e1
        clear x1 x2
        have ec : (cellsZ (keysK K))[k]'(by rw [keys_len]; exact hlt) = .int .i64 (keysK K)[k] := by simp [cellsZ]
        rw [ec] at hc
        have hnext := drops_next d file hlt'
        have hnow : (d.drops file ((keysK K).take k)).now (keysK K)[k] = some b := by
          rw [drops_now, if_neg (fun hh => hnin hh.1), ← hHf.out]
          exact hkb
        have HN : Hid _ := hnext
        have kD := st_drop HS.out (keysK K)[k] b hnow (by have := HG.out.bulk; omega)
        rw [HG.out.p] at kD
        have HR : Hid (wr.ownsRow w.heap.size 3 1 (.slice (some ⟨g, 0, none⟩) K.length cap) K.length (cellsZ (keysK K))) := hrow
        clear hnext hnow hnin hkb ec hrow
        by_cases hE : (keysK K)[k] = file
        · rw [hE] at hc
          have HN2 : Hid (d.drops file ((keysK K).take (k + 1)) = d.drops file ((keysK K).take k)) := by
            show _ = _
            rw [HN.out, if_pos hE]
          clear HN kD hE
          go_wp2
          go_roundw
          case rel => exact ⟨k + 1, R', by omega, by go_num, by rw [HN2.out]; exact HS.out, HG.out.mono (by omega), HP.out, HR.out⟩
          case measure => simp [intOf]; omega
        · have HN2 : Hid (d.drops file ((keysK K).take (k + 1)) = (d.drops file ((keysK K).take k)).drop (keysK K)[k]) := by
            show _ = _
            rw [HN.out, if_neg hE]
          have hne : ((keysK K)[k] != file) = true := by simpa using hE
          clear HN
          generalize (keysK K)[k] = z at *
          go_wp2_with (go_at_call 81; refine kD.mono ?_; rintro e w3 ⟨rfl, R3, s3, g3⟩)
          go_roundw
          case rel =>
            refine ⟨k + 1, R3, by omega, by go_num, by rw [HN2.out]; exact s3, (HG.out.trans g3).mono (by omega), ?_, ?_⟩
            · exact (g3.moves.block p (Array.getElem?_eq_some_iff.1 HP.out).1 (tape_out HS.out.live.mem HP.out odd112)).1.trans HP.out
            · exact row_moves HS.out.live.mem g3.moves odd3 HR.out
          case measure => simp [intOf]; omega
      · obtain rfl : k = K.length := by omega
        have kS := st_sync HS.out
        rw [HG.out.p] at kS
        have HN : Hid (d.drops file ((keysK K).take K.length) = d.drops file (keysK K)) := by
          show _ = _
          rw [← hkl, List.take_length]
        go_wp2_with (go_at_call 23; refine kS.mono ?_; rintro e w3 ⟨rfl, R3, s3, g3⟩)
        go_end0
        refine ⟨rfl, R3, ?_, (HG.out.trans g3).mono (by omega)⟩
        rw [HO.out, ← HN.out]
        exact s3

end Go.Proofs.YtelkkpomehgcjaaGreat

namespace Go.Proofs.YtelkkpomehgcjaaGreat
open Go.RowKit Go.Maps
attribute [local go_sem] cell?_more frozen?_more setCell_more size_more tape_more drew_more drewN_more more_drew more_drewN more_more one_out plus_out plus_end lt_one le_p2 le_p3 le_p4 le_p5 le_p6 le_p7 le_p8 le_p9 le_p10 le_p11 le_p12 le_p13 le_p14 le_p15 le_p16 le_p17 le_p18 le_p19 le_p20 le_p21 le_p22 le_p23 le_p24 le_q0 le_q1 lt_q1 le_q2 lt_q2 le_q3 lt_q3 le_q4 lt_q4 le_q5 lt_q5 le_q6 lt_q6 le_q7 lt_q7 le_q8 lt_q8 le_q9 lt_q9 le_q10 lt_q10 le_q11 lt_q11 le_q12 lt_q12 le_q13 lt_q13 le_q14 lt_q14 le_q15 lt_q15 le_q16 lt_q16 le_q17 lt_q17 le_q18 lt_q18 le_q19 lt_q19 le_q20 lt_q20 le_q21 lt_q21 le_q22 lt_q22 le_q23 lt_q23 le_q24 lt_q24

def nextK (K : Kf) : Int := match (keysK K).getLast? with | some k => k + 1 | none => 0

theorem getK_append (k : Int) (l m : Kf) : getK k (l ++ m) = (getK k l).or (getK k m) := by
  unfold getK
  rw [List.find?_append]
  cases List.find? (fun p => p.1 == k) l <;> rfl

theorem getK_none_of {k : Int} {l : Kf} (h : k ∉ keysK l) : getK k l = none := by
  unfold getK
  rw [List.find?_eq_none.2]
  · rfl
  · intro x hx
    simp
    intro e
    exact h (by rw [← e]; exact List.mem_map.2 ⟨x, hx, rfl⟩)

theorem next_above {K : Kf} (hK : SrtK K) : ∀ p ∈ K, p.1 < nextK K := by
  rcases List.eq_nil_or_concat K with rfl | ⟨r, q, rfl⟩
  · intro p hp
    simp at hp
  · rw [List.concat_eq_append] at hK ⊢
    have e : nextK (r ++ [q]) = q.1 + 1 := by simp [nextK, keysK]
    rw [e]
    intro p hp
    rcases List.mem_append.1 hp with hp | hp
    · have := (List.pairwise_append.1 hK).2.2 p hp q (by simp)
      omega
    · simp only [List.mem_singleton] at hp
      subst hp
      omega

theorem next_new {K : Kf} (hK : SrtK K) : nextK K ∉ keysK K := by
  intro hm
  obtain ⟨p, hp, e⟩ := List.mem_map.1 hm
  have := next_above hK p hp
  omega

theorem next_low {K : Kf} (h : ∀ k ∈ keysK K, 0 ≤ k ∧ k ≤ 1048576) : 0 ≤ nextK K := by
  unfold nextK
  cases hk : (keysK K).getLast? with
  | none => simp
  | some k =>
    have := h k (List.mem_of_getLast? hk)
    simp only
    omega

theorem srt_next {K : Kf} (hK : SrtK K) (b : List UInt8) : SrtK (K ++ [(nextK K, b)]) := by
  refine List.pairwise_append.2 ⟨hK, by simp, fun p hp q hq => ?_⟩
  simp only [List.mem_singleton] at hq
  subst hq
  exact next_above hK p hp

theorem files_next {K : Kf} (hK : SrtK K) (b : List UInt8) : filesK (K ++ [(nextK K, b)]) = (filesK K).set (nextK K) (some b) := by
  funext k
  show getK k _ = _
  rw [getK_append]
  unfold Fs.set
  by_cases e : k = nextK K
  · rw [if_pos e, e, getK_none_of (next_new hK)]
    simp [getK]
  · rw [if_neg e]
    show (getK k K).or _ = getK k K
    have : getK k [(nextK K, b)] = none := by
      rw [getK_cons, if_neg (fun h => e h.symm)]
      rfl
    rw [this]
    simp

theorem app_now (d : Dk) (k : Int) (m : List UInt8) : (d.app k m).now = d.now.set k (some ((d.now k).getD [] ++ m)) := by
  unfold Dk.now Dk.app
  simp only [replay_append, replay_one]
  simp [step]

theorem sync_now (d : Dk) : d.sync.now = d.now := by
  unfold Dk.sync
  split
  · rfl
  · rfl

/-- A segment is begun. -/
def Dk.begun (d : Dk) (K : Kf) (ls : List (List UInt8)) : Dk := ((d.app (nextK K) (seg ls.length ls)).sync).others (nextK K) (keysK K ++ [nextK K])

theorem begun_now {d : Dk} {K : Kf} (hK : SrtK K) (hf : filesK K = d.now) (b : List UInt8) : filesK (K ++ [(nextK K, b)]) = ((d.app (nextK K) b).sync).now := by
  rw [sync_now, app_now, files_next hK, hf]
  congr 2
  rw [← hf]
  show b = ((getK (nextK K) K).getD [] ++ b)
  rw [getK_none_of (next_new hK)]
  rfl

theorem set_tape {w : World} {p : Nat} {a b c v : Value} (x y : Value) (h : w.heap[p]? = some (.cells #[a, b, c, v] 112 (0, 0))) :
    ((w.setCell ⟨p, 1, none⟩ x).setCell ⟨p, 2, none⟩ y).heap[p]? = some (.cells #[a, x, y, v] 112 (0, 0)) := by
  rw [heap_setCell_at y (heap_setCell_at x h (by simp)) (by simp)]
  rfl

theorem above_keys (v : Value) (K : Kf) (w : World) {B : Nat} (h : w.ownsRow B 3 1 v (keysK K).length (cellsZ (keysK K))) (hl : ∀ k ∈ keysK K, 0 ≤ k ∧ k ≤ 1048576) :
    Calls Tryz.prog 85 #[v] w fun e w' => e = .returned (.int .i64 (nextK K)) ∧ Adds w w' := above_any v (keysK K) w h hl

/-- The blocks of a reel, and one more. -/
def with1 (R : Rw) (p i : Nat) : Prop := R.foot i ∨ i = p

theorem Moves.with1 {w w' : World} {R R' : Rw} (h : Moves w R w' R') (p : Nat) : Mv w (with1 R p) w' (with1 R' p) :=
  ⟨h.os, h.tape, h.output, h.size, fun i hi hn => by
    obtain ⟨e, hf⟩ := h.block i hi fun hf => hn (.inl hf)
    exact ⟨e, fun hc => hc.elim hf fun e => hn (.inr e)⟩⟩

theorem grown_with1 {w w' : World} {R : Rw} {p : Nat} (h : w.grownBy w' (some p)) : Mv w (with1 R p) w' (with1 R p) :=
  ⟨h.os, h.tape, h.output, h.size, fun i hi hn => ⟨h.block i hi fun e => hn (.inr (by simpa using e)), hn⟩⟩

theorem others_set {w : World} {B : Nat} {R : Rw} {d : Dk} {K : Kf} (h : St w B R d) (hK : SrtK K) (hf : filesK K = d.now) (p : Nat) (f0 b0 file base : Int) (v : Value)
    (hp : w.heap[p]? = some (.cells #[ptr R.p, .int .i64 f0, .int .i64 b0, v] 112 (0, 0))) (hb : R.bulk ≤ 137438953472) :
    Calls Tryz.prog 62 #[ptr p] ((w.setCell ⟨p, 1, none⟩ (.int .i64 file)).setCell ⟨p, 2, none⟩ (.int .i64 base)) fun e w' => e = .returned (.tuple #[]) ∧
      ∃ R', St w' B R' (d.others file (keysK K)) ∧ R'.p = R.p ∧ R'.room = R.room ∧ R'.bulk ≤ R.bulk + 2 * K.length ∧ w'.heap[p]? = some (.cells #[ptr R.p, .int .i64 file, .int .i64 base, v] 112 (0, 0)) ∧ Mv w (with1 R p) w' (with1 R' p) := by
  have hg : w.grownBy ((w.setCell ⟨p, 1, none⟩ (.int .i64 file)).setCell ⟨p, 2, none⟩ (.int .i64 base)) (some p) := (grown_set w p 1 _).trans (grown_set _ p 2 _)
  have hpn : ¬ R.foot p := tape_out h.live.mem hp odd112
  have hs2 : St ((w.setCell ⟨p, 1, none⟩ (.int .i64 file)).setCell ⟨p, 2, none⟩ (.int .i64 base)) B R d :=
    h.keep hg.size fun i hi => hg.block i (h.live.mem.lt hi).2 fun e => hpn (by simp at e; rw [← e]; exact hi)
  have hp2 := set_tape (.int .i64 file) (.int .i64 base) hp
  refine (others_any hs2 hK hf p file base v hp2 hb).mono ?_
  rintro e w' ⟨rfl, R', s', g'⟩
  refine ⟨rfl, R', s', g'.p, g'.room, g'.bulk, ?_, (grown_with1 hg).trans (g'.moves.with1 p)⟩
  exact (g'.moves.block p (Array.getElem?_eq_some_iff.1 hp2).1 hpn).1.trans hp2

theorem keys_next (K : Kf) (b : List UInt8) : keysK (K ++ [(nextK K, b)]) = keysK K ++ [nextK K] := by simp [keysK]

theorem begin_any {w : World} {B : Nat} {R : Rw} {d : Dk} {K : Kf} (h : St w B R d) (hK : SrtK K) (hf : filesK K = d.now) (p : Nat) (f0 b0 : Int) (v0 : Value)
    (hp : w.heap[p]? = some (.cells #[ptr R.p, .int .i64 f0, .int .i64 b0, v0] 112 (0, 0))) (hb : R.bulk ≤ 68719476736)
    (l : Value) (ls : List (List UInt8)) (hl : Rws w l ls) (hfit : fits ls) (hlen : segLen ls ≤ 1000000) (hroom : (segLen ls : Int) ≤ (R.room : Int) - (sizeK K : Int)) (hnext : nextK K ≤ 1048576) :
    Calls Tryz.prog 63 #[ptr p, l] w fun e w' => e = .returned (.int .i64 0) ∧ ∃ R', St w' B R' (d.begun K ls) ∧ R'.p = R.p ∧ R'.room = R.room ∧ R'.bulk ≤ R.bulk + 2 * segLen ls + 1 + 2 * (K.length + 1)
      ∧ w'.heap[p]? = some (.cells #[ptr R.p, .int .i64 (nextK K), .int .i64 (ls.length : Int), v0] 112 (0, 0)) ∧ Mv w (with1 R p) w' (with1 R' p) := by
  have c0 : ∀ W, Adds w W → W.cell? ⟨p, 0, none⟩ = some (ptr R.p) := fun W ha => cell_of_row W p 0 _ _ _ (ha.at hp)
  have c00 := c0 w (Adds.refl _)
  have kF := st_files h hK hf
  have hrng := h.range hK hf
  have hlow := next_low hrng
  have hfew := few_keys h hK hf
  have hln : ls.length ≤ 1000000 := by unfold segLen at hlen; omega
  have htl : tot ls ≤ 1000000 := by unfold segLen at hlen; omega
  obtain ⟨ao, cap, rfl, hcap⟩ := hl.slice
  have kG : ∀ W, Adds w W → Calls Tryz.prog 87 #[.slice ao ls.length cap] W fun e w' => ∃ r, e = .returned r ∧ Byt w' r (seg ls.length ls) ∧ Adds w w' := fun W hW => by
    refine (seg_any _ ls W (hl.adds hW) hfit hlen).mono ?_
    rintro e w' ⟨r, rfl, h1, h2⟩
    exact ⟨r, rfl, h1, hW.trans h2⟩
  have kP : ∀ W r, Adds w W → Byt W r (seg ls.length ls) → Calls Tryz.prog 22 #[ptr R.p, .int .i64 (nextK K), r] W fun e w' => e = .returned (.int .i64 0) ∧ ∃ R', St w' B R' (d.app (nextK K) (seg ls.length ls)) ∧ Goes w R w' R' (2 * segLen ls + 1) ∧ w'.heap[p]? = some (.cells #[ptr R.p, .int .i64 f0, .int .i64 b0, v0] 112 (0, 0)) := fun W r hW hr => by
    refine (st_append (h.adds hW) (nextK K) ⟨hlow, hnext⟩ r _ hr (by rw [h.total hK hf, seg_length]; exact hroom) (by omega)).mono ?_
    rintro e w' ⟨rfl, R', s', g'⟩
    rw [seg_length] at g'
    refine ⟨rfl, R', s', ((Goes.adds R hW).trans g').mono (by omega), ?_⟩
    exact (g'.moves.block p (Array.getElem?_eq_some_iff.1 (hW.at hp)).1 (tape_out (h.adds hW).live.mem (hW.at hp) odd112)).1.trans (hW.at hp)
  have kS : ∀ W R', St W B R' (d.app (nextK K) (seg ls.length ls)) → Goes w R W R' (2 * segLen ls + 1) → W.heap[p]? = some (.cells #[ptr R.p, .int .i64 f0, .int .i64 b0, v0] 112 (0, 0)) → Calls Tryz.prog 23 #[ptr R.p] W fun e w' => e = .returned (.tuple #[]) ∧ ∃ R'', St w' B R'' (d.app (nextK K) (seg ls.length ls)).sync ∧ Goes w R w' R'' (2 * segLen ls + 1) ∧ w'.heap[p]? = some (.cells #[ptr R.p, .int .i64 f0, .int .i64 b0, v0] 112 (0, 0)) := fun W R' s' g' hpw => by
    have k := st_sync s'
    rw [g'.p] at k
    refine k.mono ?_
    rintro e w' ⟨rfl, R'', s'', g''⟩
    refine ⟨rfl, R'', s'', g'.trans g'', ?_⟩
    exact (g''.moves.block p (Array.getElem?_eq_some_iff.1 hpw).1 (tape_out s'.live.mem hpw odd112)).1.trans hpw
  have kO : ∀ W R', St W B R' (d.app (nextK K) (seg ls.length ls)).sync → Goes w R W R' (2 * segLen ls + 1) → W.heap[p]? = some (.cells #[ptr R.p, .int .i64 f0, .int .i64 b0, v0] 112 (0, 0)) →
      Calls Tryz.prog 62 #[ptr p] ((W.setCell ⟨p, 1, none⟩ (.int .i64 (nextK K))).setCell ⟨p, 2, none⟩ (.int .i64 (ls.length : Int))) fun e w' => e = .returned (.tuple #[]) ∧ ∃ R', St w' B R' (d.begun K ls) ∧ R'.p = R.p ∧ R'.room = R.room ∧ R'.bulk ≤ R.bulk + 2 * segLen ls + 1 + 2 * (K.length + 1)
      ∧ w'.heap[p]? = some (.cells #[ptr R.p, .int .i64 (nextK K), .int .i64 (ls.length : Int), v0] 112 (0, 0)) ∧ Mv w (with1 R p) w' (with1 R' p) := fun W R' s' g' hpw => by
    have hb' := g'.bulk
    have k := others_set s' (srt_next hK (seg ls.length ls)) (begun_now hK hf _) p f0 b0 (nextK K) (ls.length : Int) v0 (by rw [g'.p]; exact hpw) (by omega)
    refine k.mono ?_
    rintro e w' ⟨rfl, R'', s'', p'', r'', b'', hp'', m''⟩
    rw [keys_next] at s''
    refine ⟨rfl, R'', s'', p''.trans g'.p, r''.trans g'.room, ?_, by rw [g'.p] at hp''; exact hp'', (g'.moves.with1 p).trans m''⟩
    have : (K ++ [(nextK K, seg ls.length ls)]).length = K.length + 1 := by simp
    rw [this] at b''
    omega
  have k6 : ∀ W, Adds w W → ∀ q, Calls Tryz.prog 86 #[.slice ao ls.length cap] (addTo W q) fun e w'' => e = .returned (.int .i64 (segLen ls : Nat)) ∧ ∃ p : Plus, w'' = addTo W p := fun W hW q =>
    Calls.adds_of (size_any _ ls _ (hl.adds (hW.trans ⟨q.os, q.draws, rfl⟩)) hln (by omega))
  have k5 : ∀ W, Adds w W → ∀ q, Calls Tryz.prog 52 #[ptr R.p] (addTo W q) fun e w'' => e = .returned (.int .i64 ((R.room : Int) - (sizeK K : Int))) ∧ ∃ p : Plus, w'' = addTo W p := fun W hW q =>
    Calls.adds_of (st_left (h.adds (hW.trans ⟨q.os, q.draws, rfl⟩)) hK hf (by omega))
  go_enter Tryz.func63, Tryz.ntmps63
  go_wp2_with (first
    | (go_at_call 79; refine kF.mono ?_; rintro e w1 ⟨v1, rfl, h1, a1⟩)
    | (go_at_call 85; refine (above_keys _ _ _ h1 hrng).mono ?_; rintro e w2 ⟨rfl, a2⟩; have c02 := c0 w2 (a1.trans a2)))
  have l6 := k6 w2 (a1.trans a2)
  have l5 := k5 w2 (a1.trans a2)
  have HA2 : Hid (Adds w w2) := a1.trans a2
  have hpl : p < w2.heap.size := Nat.lt_of_lt_of_le (Array.getElem?_eq_some_iff.1 hp).1 (a1.trans a2).below.size
  clear k6 k5 c00 kF h1 a1 a2 hrng
  have hgt : decide ((1048576 : Int) < nextK K) = false := by simp; omega
  have cA : ∀ q, (addTo w2 q).cell? ⟨p, 0, none⟩ = some (ptr R.p) := fun q => c0 _ (HA2.out.trans ⟨q.os, q.draws, rfl⟩)
  refine wp_region_adds (by kernel_rfl) (by kernel_rfl) ?_
  repeat (go_big_quiet_step ((first | (go_at_call 86; exact l6 _) | (go_at_call 52; exact l5 _))))
  refine wpQuiet_nil ?_
  rintro _ ⟨pl, rfl⟩
  obtain ⟨w3, hw3⟩ : ∃ w3, w3 = addTo w2 pl := ⟨_, rfl⟩
  have HA3 : Hid (Adds w w3) := by
    show Adds w w3
    rw [hw3]
    exact HA2.out.trans ⟨pl.os, pl.draws, rfl⟩
  have c03 := c0 w3 HA3.out
  rw [← hw3]
  clear hw3 l6 l5 c02 HA2 hpl cA
  go_wp2
  go_region_with (first
    | (go_at_call 87; refine (kG _ (HA3.out.trans (by repeat (first | with_reducible exact Adds.refl _ | with_reducible refine Adds.alloc ?_ _ | with_reducible refine Adds.more ?_ _ _ | with_reducible refine Adds.drew ?_ | with_reducible refine Adds.drewN ?_ _)))).mono ?_; rintro e w4 ⟨r4, rfl, hb4, a4⟩; have c04 := c0 w4 a4)
    | (go_at_call 22; refine (kP _ _ (a4.trans (by repeat (first | with_reducible exact Adds.refl _ | with_reducible refine Adds.alloc ?_ _ | with_reducible refine Adds.more ?_ _ _ | with_reducible refine Adds.drew ?_ | with_reducible refine Adds.drewN ?_ _))) (hb4.adds (by repeat (first | with_reducible exact Adds.refl _ | with_reducible refine Adds.alloc ?_ _ | with_reducible refine Adds.more ?_ _ _ | with_reducible refine Adds.drew ?_ | with_reducible refine Adds.drewN ?_ _)))).mono ?_; rintro e w5 ⟨rfl, R5, s5, g5, p5⟩))
  all_goals
    have c05 : w5.cell? ⟨p, 0, none⟩ = some (ptr R.p) := cell_of_row w5 p 0 _ _ _ p5
    have kS5 := kS w5 R5 s5 g5 p5
    clear kG kP kS c0 c03 c04 hb4 a4 s5 g5 p5
    go_wp2_with (first
      | (go_at_call 23; refine kS5.mono ?_; rintro e w6 ⟨rfl, R6, s6, g6, p6⟩; have z1 : w6.frozen? ⟨p, 1, none⟩ = false := frozen_of p6; have z2 : w6.frozen? ⟨p, 2, none⟩ = false := frozen_of p6; have x1 : w6.cell? ⟨p, 1, none⟩ = some (.int .i64 f0) := cell_of_row w6 p 1 _ _ _ p6; have x2 : w6.cell? ⟨p, 2, none⟩ = some (.int .i64 b0) := cell_of_row w6 p 2 _ _ _ p6; have kO6 := kO w6 R6 s6 g6 p6; clear s6 g6 p6)
      | (go_at_call 62; refine kO6.mono ?_; rintro e w7 ⟨rfl, R7, s7⟩))
    go_ret
    exact ⟨rfl, R7, s7⟩

end Go.Proofs.YtelkkpomehgcjaaGreat

namespace Go.Proofs.YtelkkpomehgcjaaGreat
open Go.RowKit Go.Maps
attribute [local go_sem] cell?_more frozen?_more setCell_more size_more tape_more drew_more drewN_more more_drew more_drewN more_more one_out plus_out plus_end lt_one le_p2 le_p3 le_p4 le_p5 le_p6 le_p7 le_p8 le_p9 le_p10 le_p11 le_p12 le_p13 le_p14 le_p15 le_p16 le_p17 le_p18 le_p19 le_p20 le_p21 le_p22 le_p23 le_p24 le_q0 le_q1 lt_q1 le_q2 lt_q2 le_q3 lt_q3 le_q4 lt_q4 le_q5 lt_q5 le_q6 lt_q6 le_q7 lt_q7 le_q8 lt_q8 le_q9 lt_q9 le_q10 lt_q10 le_q11 lt_q11 le_q12 lt_q12 le_q13 lt_q13 le_q14 lt_q14 le_q15 lt_q15 le_q16 lt_q16 le_q17 lt_q17 le_q18 lt_q18 le_q19 lt_q19 le_q20 lt_q20 le_q21 lt_q21 le_q22 lt_q22 le_q23 lt_q23 le_q24 lt_q24

def wholeB : List (List UInt8) → Bool
  | [] => false
  | b :: r => decide (b.length = 4) && decide (num4 b < r.length + 1)

theorem wholeB_cons (b : List UInt8) (r : List (List UInt8)) : wholeB (b :: r) = (decide (b.length = 4) && decide (num4 b < r.length + 1)) := rfl

theorem whole_any (v : Value) (ls : List (List UInt8)) (w : World) (h : Rws w v ls) (hlen : ls.length ≤ 1000000) :
    Calls Tryz.prog 83 #[v] w fun e w' => e = .returned (.bool (wholeB ls)) ∧ Adds w w' := by
  obtain ⟨ao, cap, rfl, hcap⟩ := h.slice
  rcases ls with _ | ⟨b, r⟩
  · go_enter Tryz.func83, Tryz.ntmps83
    go_wp2
    go_ret
    exact ⟨rfl, Adds.refl _⟩
  · obtain ⟨g, off, x, rfl, hg, hc, hx⟩ := h.at (k := 0) (by simp)
    simp only [List.getElem_cons_zero] at hx
    obtain ⟨xo, xc, rfl, hxc, _⟩ := hx.open
    rw [Nat.add_zero] at hc
    have hl : (b :: r).length = r.length + 1 := rfl
    rw [hl] at hcap hlen ⊢
    have k4 := fun h4 => number4_any _ b w hx h4
    rw [wholeB_cons]
    have hlt := num4_lt b
    by_cases h4 : b.length = 4
    · have kn := k4 (by omega)
      clear k4
      obtain ⟨n, hn⟩ : ∃ n, n = r.length + 1 := ⟨_, rfl⟩
      rw [← hn] at hcap hlen ⊢
      clear hl h
      rw [h4] at hc kn ⊢
      generalize num4 b = m at *
      go_enter Tryz.func83, Tryz.ntmps83
      go_wp2_with (go_at_call 84; refine kn.mono ?_; rintro e w1 ⟨rfl, a1⟩)
      go_ret
      refine ⟨?_, a1⟩
      simp
      omega
    · have h4' : ((b.length : Int) == 4) = false := by
        simp
        omega
      clear k4 h
      have e0 : decide (b.length = 4) = false := decide_eq_false h4
      rw [e0]
      generalize b.length = L at *
      go_enter Tryz.func83, Tryz.ntmps83
      go_wp2
      go_ret
      exact ⟨rfl, Adds.refl _⟩

/-- What segment a file is: its base, its records, whether it is clean. -/
def segOf (b : List UInt8) : Option (Nat × List (List UInt8) × Bool) :=
  if wholeB (rows b).1 then some (num4 ((rows b).1.headD []), (rows b).1.drop 1, decide ((rows b).2 = b.length)) else none

/-- The newest whole segment. -/
def newK : Kf → Option (Int × Nat × List (List UInt8) × Bool)
  | [] => none
  | p :: r => match newK r with
    | some s => some s
    | none => (segOf p.2).map fun s => (p.1, s)

theorem rows_few (b : List UInt8) : (rows b).1.length ≤ b.length ∧ fits (rows b).1 ∧ (rows b).2 ≤ b.length := by
  induction hn : b.length using Nat.strongRecOn generalizing b with
  | ind n ih =>
    subst hn
    by_cases h : (first b).2.2 = 0
    · have h9 := first_ok h
      rw [rows_some h]
      obtain ⟨i1, i2, i3⟩ := ih (b.drop (first b).2.1).length (by simp; omega) (b.drop (first b).2.1) rfl
      have hl : (b.drop (first b).2.1).length = b.length - (first b).2.1 := by simp
      refine ⟨?_, ?_, ?_⟩
      · simp only [List.length_cons]
        omega
      · intro x hx
        rcases List.mem_cons.1 hx with rfl | hx
        · unfold first at h ⊢
          split at h
          · exact absurd h ‹_›
          · rename_i h0
            rw [if_neg h0]
            split at h
            · simp at h
            · rename_i h1
              rw [if_neg h1]
              split at h
              · simp at h
              · rename_i h2
                rw [if_neg h2]
                have : (lengthOf b).1 ≤ 16384 := by
                  unfold lengthOf
                  repeat' split
                  all_goals simp
                  omega
                simp
                omega
        · exact i2 x hx
      · simp only
        omega
    · rw [rows_stop h]
      exact ⟨by simp, by simp [fits], by simp⟩

end Go.Proofs.YtelkkpomehgcjaaGreat

namespace Go.Proofs.YtelkkpomehgcjaaGreat
open Go.RowKit Go.Maps
attribute [local go_sem] cell?_more frozen?_more setCell_more size_more tape_more drew_more drewN_more more_drew more_drewN more_more one_out plus_out plus_end lt_one le_p2 le_p3 le_p4 le_p5 le_p6 le_p7 le_p8 le_p9 le_p10 le_p11 le_p12 le_p13 le_p14 le_p15 le_p16 le_p17 le_p18 le_p19 le_p20 le_p21 le_p22 le_p23 le_p24 le_q0 le_q1 lt_q1 le_q2 lt_q2 le_q3 lt_q3 le_q4 lt_q4 le_q5 lt_q5 le_q6 lt_q6 le_q7 lt_q7 le_q8 lt_q8 le_q9 lt_q9 le_q10 lt_q10 le_q11 lt_q11 le_q12 lt_q12 le_q13 lt_q13 le_q14 lt_q14 le_q15 lt_q15 le_q16 lt_q16 le_q17 lt_q17 le_q18 lt_q18 le_q19 lt_q19 le_q20 lt_q20 le_q21 lt_q21 le_q22 lt_q22 le_q23 lt_q23 le_q24 lt_q24

/-- A list of records that a call has made: its row and its bytes lie at B or above. -/
def RwsF (B : Nat) (w : World) (v : Value) (ls : List (List UInt8)) : Prop :=
  ∃ xs ao cap, v = .slice ao xs.length cap ∧ xs.length ≤ cap ∧ (xs = [] ∨ ∃ b off C, ao = some ⟨b, off, none⟩ ∧ B ≤ b ∧ w.heap[b]? = some (.cells C 40 (0, 0)) ∧ LiesV w b off xs) ∧ EachF B w xs ls

theorem RwsF.rwsA {B : Nat} {w : World} {F : Nat → Prop} {v : Value} {ls : List (List UInt8)} (h : RwsF B w v ls) (hF : ∀ b C T, B ≤ b → w.heap[b]? = some (.cells C T (0, 0)) → (T = 40 ∨ T = 5) → ¬ F b) : RwsA w F v ls := by
  obtain ⟨xs, ao, cap, rfl, hc, h, he⟩ := h
  refine ⟨xs, ao, cap, rfl, hc, h.imp id ?_, he.eachA fun b C hb hg => hF b C 5 hb hg (.inr rfl)⟩
  rintro ⟨b, off, C, rfl, hb, hg, hl⟩
  exact ⟨b, off, rfl, (Array.getElem?_eq_some_iff.1 hg).1, hF b C 40 hb hg (.inl rfl), hl⟩

theorem RwsF.keep {B : Nat} {w w' : World} {v : Value} {ls : List (List UInt8)} (h : RwsF B w v ls) (hk : ∀ b C T, B ≤ b → w.heap[b]? = some (.cells C T (0, 0)) → (T = 40 ∨ T = 5) → w'.heap[b]? = w.heap[b]?) : RwsF B w' v ls := by
  obtain ⟨xs, ao, cap, rfl, hc, h, he⟩ := h
  refine ⟨xs, ao, cap, rfl, hc, h.imp id ?_, he.keep fun b C hb hg => hk b C 5 hb hg (.inr rfl)⟩
  rintro ⟨b, off, C, rfl, hb, hg, hl⟩
  have e := hk b C 40 hb hg (.inl rfl)
  refine ⟨b, off, C, rfl, hb, e.trans hg, fun j hj => ?_⟩
  rw [World.cell?_of_block e]
  exact hl j hj

theorem RwsF.mono {B B' : Nat} {w : World} {v : Value} {ls : List (List UInt8)} (h : RwsF B w v ls) (hB : B' ≤ B) : RwsF B' w v ls := by
  obtain ⟨xs, ao, cap, rfl, hc, h, he⟩ := h
  refine ⟨xs, ao, cap, rfl, hc, h.imp id ?_, he.imp fun _ _ hx => hx.mono hB⟩
  rintro ⟨b, off, C, rfl, hb, hg, hl⟩
  exact ⟨b, off, C, rfl, Nat.le_trans hB hb, hg, hl⟩

theorem RwsF.adds {B : Nat} {w w' : World} {v : Value} {ls : List (List UInt8)} (h : RwsF B w v ls) (ha : Adds w w') : RwsF B w' v ls :=
  h.keep fun b _ _ _ hg _ => ha.below.block b (Array.getElem?_eq_some_iff.1 hg).1

/-- A row that the call owns, but its first record. -/
theorem rest_of {B : Nat} {w w0 : World} {g n cap : Nat} {xs : List Value} {ls : List (List UInt8)} (h : OwnV B 40 (.slice (some ⟨g, 0, none⟩) n cap) xs w0 w) (he : EachF B w xs ls) (hn : 1 ≤ n) :
    RwsF B w (.slice (if cap = 1 then some ⟨g, 0, none⟩ else some ⟨g, 1, none⟩) (n - 1) (cap - 1)) (ls.drop 1) := by
  obtain ⟨hl, h2⟩ := h.1
  rcases h2 with ⟨e, _⟩ | ⟨g', cap', cur, e, hB, hg, hnc, hcm, hcs, htk⟩
  · cases e
  · simp only [Value.slice.injEq, Option.some.injEq, Addr.mk.injEq, and_true] at e
    obtain ⟨rfl, rfl, rfl⟩ := e
    refine ⟨xs.drop 1, (if cap = 1 then some ⟨g, 0, none⟩ else some ⟨g, 1, none⟩), cap - 1, by simp, by simp; omega, ?_, he.rest⟩
    by_cases hc1 : cap = 1
    · left
      apply List.length_eq_zero_iff.1
      simp
      omega
    · right
      refine ⟨g, 1, cur, if_neg hc1, hB, hg, fun j hj => ?_⟩
      have hj' : j + 1 < xs.length := by simp at hj; omega
      have hc := h.1.cells (g := g) rfl (1 + j) (xs[1 + j]'(by omega)) (by simp)
      rw [add_at] at hc
      rw [Nat.zero_add] at hc
      rw [hc]
      simp [Nat.add_comm]

theorem newK_drop {K : Kf} {j : Nat} (hj : j < K.length) (h : newK (K.drop (j + 1)) = none) : newK (K.drop j) = (segOf K[j].2).map fun s => (K[j].1, s) := by
  rw [List.drop_eq_getElem_cons hj]
  show (match newK (K.drop (j + 1)) with | some s => some s | none => _) = _
  rw [h]

theorem newK_some {K : Kf} {j : Nat} {s : Int × Nat × List (List UInt8) × Bool} (h : newK (K.drop j) = some s) : newK K = some s := by
  induction j generalizing K with
  | zero => simpa using h
  | succ j ih =>
    cases K with
    | nil => simpa using h
    | cons p r =>
      rw [List.drop_succ_cons] at h
      show (match newK r with | some s => some s | none => _) = _
      rw [ih h]

theorem le_sum_mem : ∀ {l : List Nat} {a : Nat}, a ∈ l → a ≤ l.sum
  | b :: r, a, h => by
    rw [List.sum_cons]
    rcases List.mem_cons.1 h with rfl | h
    · omega
    · have := le_sum_mem h
      omega

theorem row_base {w : World} {B B' : Nat} {e : TypeId} {k n : Nat} {v : Value} {xs : List Value} (h : w.ownsRow B' e k v n xs) (hB : B ≤ B') : w.ownsRow B e k v n xs := by
  refine ⟨h.1, ?_⟩
  rcases h.2 with hn | ⟨g, cap, cur, rfl, hb, rest⟩
  · exact .inl hn
  · exact .inr ⟨g, cap, cur, rfl, Nat.le_trans hB hb, rest⟩

theorem segOf_some {b : List UInt8} (h : wholeB (rows b).1 = true) : segOf b = some (num4 ((rows b).1.headD []), (rows b).1.drop 1, decide ((rows b).2 = b.length)) := if_pos h
theorem segOf_none {b : List UInt8} (h : ¬ wholeB (rows b).1 = true) : segOf b = none := if_neg h

def newest (K : Kf) (e : Ending) (B : Nat) (w' : World) : Prop :=
  match newK K with
  | some (file, base, ls, clean) => ∃ v, e = .returned (.tuple #[.agg #[.int .i64 file, .int .i64 (base : Int), v], .bool clean]) ∧ RwsF B w' v ls
  | none => e = .returned (.tuple #[.agg #[.int .i64 0, .int .i64 0, .slice none 0 0], .bool false])

set_option maxHeartbeats 3000000 in
theorem newest_any {w : World} {B : Nat} {R : Rw} {d : Dk} {K : Kf} (h : St w B R d) (hK : SrtK K) (hf : filesK K = d.now) (hb : R.bulk ≤ 68719476736) (hsz : sizeK K ≤ 1000000) :
    Calls Tryz.prog 61 #[ptr R.p] w fun e w' => newest K e w.heap.size w' ∧ Adds w w' := by
  have kF := st_files (h.adds ((Adds.refl w).alloc (.cells #[.int .i64 0, .int .i64 0, .slice none 0 0] 108))) hK hf
  have hfew := few_keys h hK hf
  have hkl : (keysK K).length = K.length := by simp [keysK]
  have kR : ∀ W, Adds w W → ∀ j (hj : j < K.length), Calls Tryz.prog 80 #[ptr R.p, .int .i64 K[j].1] W fun e w' => ∃ r, e = .returned (.tuple #[r, .bool true]) ∧ Byt w' r K[j].2 ∧ Adds W w' := fun W hW j hj => by
    refine (st_read (h.adds hW) K[j].1 K[j].2 ?_ (by omega)).mono ?_
    · rw [← hf]
      exact getK_mem hK (List.getElem_mem hj)
    · rintro e w' ⟨r, rfl, h1, h2⟩
      exact ⟨r, rfl, row_byt h1, h2⟩
  have hsz2 : ∀ j (hj : j < K.length), K[j].2.length ≤ 1000000 := fun j hj => by
    refine Nat.le_trans ?_ hsz
    unfold sizeK
    exact le_sum_mem (List.mem_map.2 ⟨K[j], List.getElem_mem hj, rfl⟩)
  clear h hf hb
  rw [hkl] at kF
  go_enter Tryz.func61, Tryz.ntmps61
  go_wp2_with (go_at_call 79; refine kF.mono ?_; rintro e w1 ⟨v1, rfl, h1, a1⟩; obtain ⟨ao, cap, rfl, hcap⟩ := row_slice_len h1)
  clear kF
  have b1 : w1.heap[w.heap.size]? = some (.cells #[.int .i64 0, .int .i64 0, .slice none 0 0] 108 (0, 0)) := a1.at (new_block _ _)
  have h1' := row_base h1 (B := w.heap.size) (by simp)
  have A1 : Adds w w1 := ((Adds.refl w).alloc _).trans a1
  clear a1 h1
  go_loopw [5] (fun i W => ∃ j : Nat, j ≤ K.length ∧ i = .int .i64 ((j : Int) - 1) ∧ newK (K.drop j) = none ∧ Adds w W ∧ W.heap[w.heap.size]? = some (.cells #[.int .i64 0, .int .i64 0, .slice none 0 0] 108 (0, 0)) ∧ W.ownsRow w.heap.size 3 1 (.slice ao K.length cap) K.length (cellsZ (keysK K))) (fun i _ => (intOf i + 1).toNat)
  case atStart =>
    refine ⟨K.length, by omega, by go_num, by simp [newK], A1, b1, h1'⟩
  case round =>
    obtain ⟨j, hj, rfl, hnone, hA, hbx, hrow⟩ := hrel
    have HA : Hid (Adds w wr) := hA
    have HB : Hid (wr.heap[w.heap.size]? = some (.cells #[.int .i64 0, .int .i64 0, .slice none 0 0] 108 (0, 0))) := hbx
    have HN : Hid (newK (K.drop j) = none) := hnone
    have hws : w.heap.size < wr.heap.size := (Array.getElem?_eq_some_iff.1 hbx).1
    clear hA hnone b1 h1' A1
    rcases j with _ | j
    · have z : ∀ i, wr.frozen? ⟨w.heap.size, i, none⟩ = false := fun i => frozen_of hbx
      have x0 : wr.cell? ⟨w.heap.size, 0, none⟩ = some (.int .i64 0) := cell_of_row wr _ 0 _ _ _ hbx
      have x1 : wr.cell? ⟨w.heap.size, 1, none⟩ = some (.int .i64 0) := cell_of_row wr _ 1 _ _ _ hbx
      have x2 : wr.cell? ⟨w.heap.size, 2, none⟩ = some (.slice none 0 0) := cell_of_row wr _ 2 _ _ _ hbx
      clear hbx kR hsz2 hrow
      go_wp2
      refine bodyPost_ret (v := .tuple #[.agg #[.int .i64 0, .int .i64 0, .slice none 0 0], .bool false]) (by simp [results, Tryz.results61, go_sem, x0, x1, x2]) rfl ⟨?_, ?_⟩
      · unfold newest
        have := HN.out
        rw [List.drop_zero] at this
        rw [this]
      · exact adds_of_grown HA.out (((grown_set wr w.heap.size 0 (.int .i64 0)).trans (grown_set _ w.heap.size 1 (.int .i64 0))).trans (grown_set _ w.heap.size 2 (.slice none 0 0))) (fun i hi => by cases hi; exact Nat.le_refl _)
    · have hlt : j < K.length := by omega
      have kr := kR wr HA.out j hlt
      have hbl := hsz2 j hlt
      obtain ⟨gi, capi, ei, hci, _, hgi, hxi, _⟩ := row_at (xs := cellsZ (keysK K)) (B := w.heap.size) (e := 3) (v := .slice ao K.length cap) (w := wr) (by rw [keys_len]; exact hrow) (j := j) (by rw [keys_len]; exact hlt)
      simp only [Value.slice.injEq] at ei
      obtain ⟨rfl, e1, e2⟩ := ei
      clear e1 e2 hci
      have ec : (cellsZ (keysK K))[j]'(by rw [keys_len]; exact hlt) = .int .i64 K[j].1 := by simp [cellsZ, keysK]
      rw [ec] at hxi
      have HR : Hid (wr.ownsRow w.heap.size 3 1 (.slice (some ⟨gi, 0, none⟩) K.length cap) K.length (cellsZ (keysK K))) := hrow
      have hnd := newK_drop hlt HN.out
      obtain ⟨f1, f2, f3⟩ := rows_few K[j].2
      have hseg1 := segOf_some (b := K[j].2)
      have hseg0 := segOf_none (b := K[j].2)
      have HD : Hid (newK (K.drop j) = (segOf K[j].2).map fun s => (K[j].1, s)) := hnd
      clear hnd ec hrow hbx kR hsz2 HN
      generalize K[j].1 = key at *
      generalize hbb : K[j].2 = b at *
      by_cases hw : wholeB (rows b).1 = true
      · have HS : Hid _ := hseg1 hw
        obtain ⟨b0, rr, hrr⟩ : ∃ b0 rr, (rows b).1 = b0 :: rr := by
          cases hx : (rows b).1 with
          | nil => rw [hx] at hw; cases hw
          | cons b0 rr => exact ⟨b0, rr, rfl⟩
        have hw4 : b0.length = 4 := by
          rw [hrr, wholeB_cons] at hw
          simp at hw
          exact hw.1
        have kRow := fun r w2 hb2 => row_any r b w2 hb2 hbl
        clear hseg1 hseg0 hbb
        rw [hrr] at kRow f1 hw
        have HS2 : Hid (segOf b = some (num4 b0, rr, decide ((rows b).2 = b.length))) := by
          show _ = _
          rw [HS.out, hrr]
          rfl
        clear HS hrr
        generalize (rows b).2 = T at *
        go_wp2_with (first
          | (go_at_call 80; refine kr.mono ?_; rintro e w2 ⟨r2, rfl, hb2, a2⟩; obtain ⟨ao2, cap2, rfl, _⟩ := hb2.open)
          | (go_at_call 82; refine (kRow _ w2 hb2).mono ?_; rintro e w3 ⟨r3, xs, rfl, o3, e3⟩; have kW := whole_any r3 _ w3 ⟨xs, o3.lst, e3.each⟩ (by omega); rw [hw] at kW)
          | (go_at_call 83; refine kW.mono ?_; rintro e w4 ⟨rfl, a4⟩))
        have A4 : Adds wr w4 := (a2.trans o3.added).trans a4
        have HA4 : Hid (Adds w w4) := HA.out.trans A4
        have HA4' : Hid (Adds wr w4) := A4
        have hB4 : w.heap.size < w2.heap.size := Nat.lt_of_lt_of_le hws a2.below.size
        rcases xs with _ | ⟨x0, xs⟩
        · exact e3.elim
        have o4 := o3.adds a4
        have e4 := e3.imp fun _ _ hx => hx.adds a4
        have hx0 : Byt w4 x0 b0 := e4.1.tag.byt
        obtain ⟨g3, cap3, er, hc3, hB3, hg3, hx3, _⟩ := row_at o4.1 (j := 0) (by simp)
        subst er
        have d1 : w4.cell? ⟨gi, j, none⟩ = some (.int .i64 key) := (World.cell?_of_block (A4.below.block gi hgi)).trans hxi
        have d2 : w4.cell? ⟨g3, 0, none⟩ = some x0 := hx3
        have hgi4 : gi < w4.heap.size := Nat.lt_of_lt_of_le hgi A4.below.size
        have hb4 := A4.at HB.out
        have hws4 : w.heap.size < w4.heap.size := (Array.getElem?_eq_some_iff.1 hb4).1
        have k58 : ∀ W, Adds w4 W → Calls Tryz.prog 84 #[x0] W fun e w' => e = .returned (.int .u32 (num4 b0 : Nat)) ∧ Adds W w' := fun W hW => number4_any _ _ _ (hx0.adds hW) (by omega)
        have HF : Hid (RwsF w2.heap.size w4 (.slice (if cap3 = 1 then some ⟨g3, 0, none⟩ else some ⟨g3, 1, none⟩) ((x0 :: xs).length - 1) (cap3 - 1)) rr) := rest_of o4 e4 (by simp)
        have hlx : xs.length ≤ 1000000 := by have := e4.length; simp at this f1; omega
        have hnl := num4_lt b0
        generalize num4 b0 = n0 at *
        generalize hL : (x0 :: xs).length = L at *
        have hL1 : 1 ≤ L := by rw [← hL]; simp
        clear kRow kr kW hb2 o3 e3 o4 e4 hx0 a2 a4 A4 hx3 hxi hL
        by_cases hc1 : cap3 = 1
        · subst hc1
          obtain rfl : L = 1 := by omega
          rw [if_pos rfl] at HF
          have hne : w.heap.size ≠ g3 := by omega
          have hwr : IntKind.i64.wrap (n0 : Int) = (n0 : Int) := by rw [IntKind.wrap_i64]; omega
          clear hb4
          go_cut [10] from 36 (fun q wc => ∃ g, q = .pointer (some ⟨g, 0, none⟩) ∧ wc.cell? ⟨g, 0, none⟩ = some (.int .i64 key) ∧ wc.cell? ⟨g, 1, none⟩ = some (.int .i64 (n0 : Int)) ∧ wc.cell? ⟨g, 2, none⟩ = some (.slice (some ⟨g3, 0, none⟩) 0 0) ∧ w.heap.size < g ∧ Adds w4 wc)
          case first =>
            go_region_held3 (fun w' => w'.cell? ⟨gi, j, none⟩ = some (.int .i64 key) ∧ w'.cell? ⟨g3, 0, none⟩ = some x0 ∧ gi < w'.heap.size ∧ g3 < w'.heap.size ∧ w.heap.size < w'.heap.size)
              (refine ⟨?_, ?_, ?_, ?_, ?_⟩ <;> simp [go_sem, *])
              (first | (go_at_call 84; refine (k58 _ (by repeat (first | with_reducible exact Adds.refl _ | with_reducible refine Adds.alloc ?_ _ | with_reducible refine Adds.more ?_ _ _ | with_reducible refine Adds.drew ?_ | with_reducible refine Adds.drewN ?_ _))).mono ?_; rintro e w5 ⟨rfl, os5, n5, rfl⟩))
            all_goals go_wp2
            all_goals go_meet
            all_goals
              refine ⟨_, rfl, by simp [go_sem], by simp [go_sem], by simp [go_sem], by first | omega | (simp [go_sem]; omega), ?_⟩
              repeat (first | with_reducible exact Adds.refl _ | with_reducible refine Adds.alloc ?_ _ | with_reducible refine Adds.more ?_ _ _ | with_reducible refine Adds.drew ?_ | with_reducible refine Adds.drewN ?_ _)
          case rest =>
            obtain ⟨g, rfl, q0, q1, q2, hlt, ha⟩ := hcut
            have hbc := ha.at (HA4'.out.at HB.out)
            have z : ∀ i, wc.frozen? ⟨w.heap.size, i, none⟩ = false := fun i => frozen_of hbc
            have x0' : wc.cell? ⟨w.heap.size, 0, none⟩ = some (.int .i64 0) := cell_of_row wc _ 0 _ _ _ hbc
            have x1' : wc.cell? ⟨w.heap.size, 1, none⟩ = some (.int .i64 0) := cell_of_row wc _ 1 _ _ _ hbc
            have x2' : wc.cell? ⟨w.heap.size, 2, none⟩ = some (.slice none 0 0) := cell_of_row wc _ 2 _ _ _ hbc
            have HAc : Hid (Adds w wc) := HA4.out.trans ha
            have HFc : Hid (RwsF w2.heap.size wc (.slice (some ⟨g3, 0, none⟩) 0 0) rr) := RwsF.adds HF.out ha
            have HWc : Hid (w.heap.size < w2.heap.size) := hB4
            clear hbc ha k58 d1 d2
            go_wp2
            refine bodyPost_ret (v := .tuple #[.agg #[.int .i64 key, .int .i64 (n0 : Int), .slice (some ⟨g3, 0, none⟩) 0 0], .bool ((T : Int) == (b.length : Int))]) (by simp [results, Tryz.results61, go_sem, x0', x1', x2']) rfl ⟨?_, ?_⟩
            · unfold newest
              rw [newK_some (HD.out.trans (congrArg _ HS2.out))]
              dsimp only
              refine ⟨_, by rw [beq_cast], ?_⟩
              refine RwsF.mono (RwsF.keep HFc.out fun b' C' T' hb' hg' hT' => ?_) (Nat.le_of_lt HWc.out)
              have hgw := ((grown_set wc w.heap.size 0 (.int .i64 key)).trans (grown_set _ w.heap.size 1 (.int .i64 (n0 : Int)))).trans (grown_set _ w.heap.size 2 (.slice (some ⟨g3, 0, none⟩) 0 0))
              exact hgw.block b' (Array.getElem?_eq_some_iff.1 hg').1 (fun e => by have := HWc.out; simp at e; omega)
            · exact adds_of_grown HAc.out (((grown_set wc w.heap.size 0 (.int .i64 key)).trans (grown_set _ w.heap.size 1 (.int .i64 (n0 : Int)))).trans (grown_set _ w.heap.size 2 (.slice (some ⟨g3, 0, none⟩) 0 0))) (fun i hi => by cases hi; exact Nat.le_refl _)
        · rw [if_neg hc1] at HF
          have hne : w.heap.size ≠ g3 := by omega
          have hwr : IntKind.i64.wrap (n0 : Int) = (n0 : Int) := by rw [IntKind.wrap_i64]; omega
          have i0 : (0 : Int) < (L : Int) := by omega
          have i4 : 0 < L := hL1
          have i1 : (1 : Int) ≤ (L : Int) := by omega
          have i2 : (L : Int) ≤ (cap3 : Int) := by omega
          have i3 : (1 : Int) ≤ (cap3 : Int) := by omega
          clear hb4
          go_cut [10] from 36 (fun q wc => ∃ g, q = .pointer (some ⟨g, 0, none⟩) ∧ wc.cell? ⟨g, 0, none⟩ = some (.int .i64 key) ∧ wc.cell? ⟨g, 1, none⟩ = some (.int .i64 (n0 : Int)) ∧ wc.cell? ⟨g, 2, none⟩ = some (.slice (some ⟨g3, 1, none⟩) (L - 1) (cap3 - 1)) ∧ w.heap.size < g ∧ Adds w4 wc)
          case first =>
            go_region_held3 (fun w' => w'.cell? ⟨gi, j, none⟩ = some (.int .i64 key) ∧ w'.cell? ⟨g3, 0, none⟩ = some x0 ∧ gi < w'.heap.size ∧ g3 < w'.heap.size ∧ w.heap.size < w'.heap.size)
              (refine ⟨?_, ?_, ?_, ?_, ?_⟩ <;> simp [go_sem, *])
              (first | (go_at_call 84; refine (k58 _ (by repeat (first | with_reducible exact Adds.refl _ | with_reducible refine Adds.alloc ?_ _ | with_reducible refine Adds.more ?_ _ _ | with_reducible refine Adds.drew ?_ | with_reducible refine Adds.drewN ?_ _))).mono ?_; rintro e w5 ⟨rfl, os5, n5, rfl⟩))
            all_goals go_wp2
            all_goals go_meet
            all_goals
              refine ⟨_, rfl, by simp [go_sem], by simp [go_sem], by simp [go_sem], by first | omega | (simp [go_sem]; omega), ?_⟩
              repeat (first | with_reducible exact Adds.refl _ | with_reducible refine Adds.alloc ?_ _ | with_reducible refine Adds.more ?_ _ _ | with_reducible refine Adds.drew ?_ | with_reducible refine Adds.drewN ?_ _)
          case rest =>
            obtain ⟨g, rfl, q0, q1, q2, hlt, ha⟩ := hcut
            have hbc := ha.at (HA4'.out.at HB.out)
            have z : ∀ i, wc.frozen? ⟨w.heap.size, i, none⟩ = false := fun i => frozen_of hbc
            have x0' : wc.cell? ⟨w.heap.size, 0, none⟩ = some (.int .i64 0) := cell_of_row wc _ 0 _ _ _ hbc
            have x1' : wc.cell? ⟨w.heap.size, 1, none⟩ = some (.int .i64 0) := cell_of_row wc _ 1 _ _ _ hbc
            have x2' : wc.cell? ⟨w.heap.size, 2, none⟩ = some (.slice none 0 0) := cell_of_row wc _ 2 _ _ _ hbc
            have HAc : Hid (Adds w wc) := HA4.out.trans ha
            have HFc : Hid (RwsF w2.heap.size wc (.slice (some ⟨g3, 1, none⟩) (L - 1) (cap3 - 1)) rr) := RwsF.adds HF.out ha
            have HWc : Hid (w.heap.size < w2.heap.size) := hB4
            clear hbc ha k58 d1 d2
            go_wp2
            refine bodyPost_ret (v := .tuple #[.agg #[.int .i64 key, .int .i64 (n0 : Int), .slice (some ⟨g3, 1, none⟩) (L - 1) (cap3 - 1)], .bool ((T : Int) == (b.length : Int))]) (by simp [results, Tryz.results61, go_sem, x0', x1', x2']) rfl ⟨?_, ?_⟩
            · unfold newest
              rw [newK_some (HD.out.trans (congrArg _ HS2.out))]
              dsimp only
              refine ⟨_, by rw [beq_cast], ?_⟩
              refine RwsF.mono (RwsF.keep HFc.out fun b' C' T' hb' hg' hT' => ?_) (Nat.le_of_lt HWc.out)
              have hgw := ((grown_set wc w.heap.size 0 (.int .i64 key)).trans (grown_set _ w.heap.size 1 (.int .i64 (n0 : Int)))).trans (grown_set _ w.heap.size 2 (.slice (some ⟨g3, 1, none⟩) (L - 1) (cap3 - 1)))
              exact hgw.block b' (Array.getElem?_eq_some_iff.1 hg').1 (fun e => by have := HWc.out; simp at e; omega)
            · exact adds_of_grown HAc.out (((grown_set wc w.heap.size 0 (.int .i64 key)).trans (grown_set _ w.heap.size 1 (.int .i64 (n0 : Int)))).trans (grown_set _ w.heap.size 2 (.slice (some ⟨g3, 1, none⟩) (L - 1) (cap3 - 1)))) (fun i hi => by cases hi; exact Nat.le_refl _)
      · have HS : Hid (segOf b = none) := hseg0 hw
        have hwf : wholeB (rows b).1 = false := by simpa using hw
        clear hseg1 hseg0 hbb
        go_wp2_with (first
          | (go_at_call 80; refine kr.mono ?_; rintro e w2 ⟨r2, rfl, hb2, a2⟩; have kRow := row_any r2 b w2 hb2 hbl)
          | (go_at_call 82; refine kRow.mono ?_; rintro e w3 ⟨r3, xs, rfl, o3, e3⟩; have kW := whole_any r3 _ w3 ⟨xs, o3.lst, e3.each⟩ (by omega); rw [hwf] at kW)
          | (go_at_call 83; refine kW.mono ?_; rintro e w4 ⟨rfl, a4⟩))
        have HA4' : Hid (Adds wr w4) := (a2.trans o3.added).trans a4
        have HA4 : Hid (Adds w w4) := HA.out.trans HA4'.out
        go_roundw
        case rel =>
          refine ⟨j, by omega, by go_num, ?_, HA4.out, HA4'.out.at HB.out, row_adds HR.out HA4'.out⟩
          rw [HD.out, HS.out]
          rfl
        case measure => simp [intOf]

end Go.Proofs.YtelkkpomehgcjaaGreat

namespace Go.Proofs.YtelkkpomehgcjaaGreat
open Go.RowKit Go.Maps
attribute [local go_sem] cell?_more frozen?_more setCell_more size_more tape_more drew_more drewN_more more_drew more_drewN more_more one_out plus_out plus_end lt_one le_p2 le_p3 le_p4 le_p5 le_p6 le_p7 le_p8 le_p9 le_p10 le_p11 le_p12 le_p13 le_p14 le_p15 le_p16 le_p17 le_p18 le_p19 le_p20 le_p21 le_p22 le_p23 le_p24 le_q0 le_q1 lt_q1 le_q2 lt_q2 le_q3 lt_q3 le_q4 lt_q4 le_q5 lt_q5 le_q6 lt_q6 le_q7 lt_q7 le_q8 lt_q8 le_q9 lt_q9 le_q10 lt_q10 le_q11 lt_q11 le_q12 lt_q12 le_q13 lt_q13 le_q14 lt_q14 le_q15 lt_q15 le_q16 lt_q16 le_q17 lt_q17 le_q18 lt_q18 le_q19 lt_q19 le_q20 lt_q20 le_q21 lt_q21 le_q22 lt_q22 le_q23 lt_q23 le_q24 lt_q24

theorem given_tape {w : World} {B : Nat} {R : Rw} {d : Dk} (h : St w B R d) : Calls Tryz.prog 60 #[ptr R.p] w fun e w' => e = .returned (.bool true) ∧ Adds w w' := by
  have hg : get (-1) R.fs = none := by
    cases hx : get (-1) R.fs with
    | none => rfl
    | some p =>
      obtain ⟨h1, h2⟩ := get_some hx
      have := h.live.mem.keys p h1
      omega
  have kD := drop_none h.live.mem (-1) (by decide) hg
  go_enter Tryz.func60, Tryz.ntmps60
  go_wp2_with (go_at_call 81; refine kD.mono ?_; rintro e w1 ⟨rfl, rfl⟩)
  go_ret
  exact ⟨rfl, Adds.refl _⟩

theorem RwsF.slice {B : Nat} {w : World} {v : Value} {ls : List (List UInt8)} (h : RwsF B w v ls) : ∃ ao n cap, v = .slice ao n cap := by
  obtain ⟨xs, ao, cap, rfl, _⟩ := h
  exact ⟨_, _, _, rfl⟩

theorem tape_new {w : World} {A : Obj} {C : Array Value} : ((w.alloc A).alloc (.cells C 112)).heap[w.heap.size + 1]? = some (.cells C 112 (0, 0)) := by
  have := new_block (w.alloc A) (.cells C 112)
  simpa using this

/-- What an Open leaves: the segment's number, its base, its records, the reel. -/
structure Op where
  file : Int
  base : Nat
  ls : List (List UInt8)
  d : Dk

def Dk.opened (d : Dk) (K : Kf) : Op :=
  match newK K with
  | some (file, base, ls, true) => ⟨file, base, ls, d.others file (keysK K)⟩
  | some (_, _, ls, false) => ⟨nextK K, ls.length, ls, d.begun K ls⟩
  | none => ⟨nextK K, 0, [], d.begun K []⟩

/-- A segment need not be begun, or there is room. -/
def roomy (room : Nat) (K : Kf) : Prop :=
  match newK K with
  | some (_, _, _, true) => True
  | some (_, _, ls, false) => segLen ls + sizeK K ≤ room ∧ nextK K ≤ 1048576
  | none => 13 + sizeK K ≤ room ∧ nextK K ≤ 1048576

structure Opened (w : World) (B : Nat) (R : Rw) (d : Dk) (K : Kf) (w' : World) (T : Tw) : Prop where
  tap : Tap w' B T (d.opened K).d
  file : T.file = (d.opened K).file
  base : T.base = (d.opened K).base
  ls : T.ls = (d.opened K).ls
  p : T.R.p = R.p
  room : T.R.room = R.room
  bulk : T.R.bulk ≤ R.bulk + 2 * R.room + 1 + 2 * (K.length + 1)
  mv : Mv w R.foot w' T.core
  new : w.heap.size ≤ T.p
  nil : newK K = none → T.v = .slice none 0 0

theorem mv_open {w W w' : World} {R R' : Rw} {p : Nat} (ha : Adds w W) (hp : w.heap.size ≤ p) (m : Mv W (with1 R p) w' (with1 R' p)) : Mv w R.foot w' (with1 R' p) := by
  have hb := ha.below
  refine ⟨m.os.trans hb.os, m.tape.trans hb.tape, m.output.trans hb.output, Nat.le_trans hb.size m.size, fun i hi hn => ?_⟩
  obtain ⟨h1, h2⟩ := m.block i (Nat.lt_of_lt_of_le hi hb.size) (fun hc => hc.elim hn fun e => by omega)
  exact ⟨h1.trans (hb.block i hi), h2⟩

theorem recs_open {w W w' : World} {B : Nat} {R R' : Rw} {d : Dk} {p : Nat} {C : Array Value} {v : Value} {ls : List (List UInt8)} (h : St w B R d) (hr : RwsF w.heap.size W v ls) (hp : W.heap[p]? = some (.cells C 112 (0, 0))) (m : Mv W (with1 R p) w' (with1 R' p)) : RwsA w' (with1 R' p) v ls := by
  refine RwsA.mv (hr.rwsA (F := with1 R p) fun b C' T hb hg hT hc => ?_) m
  rcases hc with hc | rfl
  · have := (h.live.mem.lt hc).2
    omega
  · rw [hp] at hg
    simp only [Option.some.injEq, Obj.cells.injEq] at hg
    obtain ⟨_, rfl, _⟩ := hg
    rcases hT with e | e <;> cases e

theorem keep_others {w w' : World} {B : Nat} {R R' : Rw} {d : Dk} {n : Nat} {p : Nat} {C : Array Value} (h : St w B R d) (hp : w.heap[p]? = some (.cells C 112 (0, 0))) (g : Goes w R w' R' n) : w'.heap[p]? = some (.cells C 112 (0, 0)) :=
  (g.moves.block p (Array.getElem?_eq_some_iff.1 hp).1 (tape_out h.live.mem hp odd112)).1.trans hp

theorem open_clean {w : World} {B : Nat} {R : Rw} {d : Dk} {K : Kf} (h : St w B R d) (hK : SrtK K) (hf : filesK K = d.now) (hb : R.bulk ≤ 68719476736) (hsz : sizeK K ≤ 1000000) {file : Int} {base : Nat} {ls : List (List UInt8)} (hn : newK K = some (file, base, ls, true)) :
    Calls Tryz.prog 29 #[ptr R.p] w fun e w' => ∃ T : Tw, e = .returned (.tuple #[ptr T.p, .int .i64 0]) ∧ Opened w B R d K w' T := by
  have hlow := h.live.low
  have kG := given_tape h
  have kN : ∀ W, Adds w W → Calls Tryz.prog 61 #[ptr R.p] W fun e w' => ∃ v, e = .returned (.tuple #[.agg #[.int .i64 file, .int .i64 (base : Int), v], .bool true]) ∧ RwsF w.heap.size w' v ls ∧ Adds w w' := fun W hW => by
    refine (newest_any (h.adds hW) hK hf hb hsz).mono ?_
    rintro e w' ⟨h1, h2⟩
    unfold newest at h1
    rw [hn] at h1
    obtain ⟨v, rfl, h3⟩ := h1
    exact ⟨v, rfl, h3.mono hW.below.size, hW.trans h2⟩
  have kO : ∀ W p v, Adds w W → w.heap.size ≤ p → W.heap[p]? = some (.cells #[ptr R.p, .int .i64 file, .int .i64 (base : Int), v] 112 (0, 0)) → RwsF w.heap.size W v ls → Calls Tryz.prog 62 #[ptr p] W fun e w' => e = .returned (.tuple #[]) ∧ ∃ R', Opened w B R d K w' ⟨R', p, file, base, v, ls⟩ := fun W p v hW hp hpw hr => by
    refine (others_any (h.adds hW) hK hf p file base v hpw (by omega)).mono ?_
    rintro e w' ⟨rfl, R', s', g'⟩
    have e0 : d.opened K = ⟨file, base, ls, d.others file (keysK K)⟩ := by unfold Dk.opened; rw [hn]
    have hp' := keep_others (h.adds hW) hpw g'
    rw [← g'.p] at hp'
    refine ⟨rfl, R', ⟨⟨by rw [e0]; exact s', hp', Nat.le_trans hlow hp, recs_open h hr hpw (g'.moves.with1 p)⟩, by rw [e0], by rw [e0], by rw [e0], g'.p, g'.room, ?_, mv_open hW hp (g'.moves.with1 p), hp, fun e => by rw [hn] at e; cases e⟩⟩
    have := g'.bulk
    show R'.bulk ≤ _
    omega
  go_enter Tryz.func29, Tryz.ntmps29
  go_wp2_with (first
    | (go_at_call 60; refine kG.mono ?_; rintro e w1 ⟨rfl, a1⟩)
    | (go_at_call 61; refine (kN _ (a1.trans (by repeat (first | with_reducible exact Adds.refl _ | with_reducible refine Adds.alloc ?_ _ | with_reducible refine Adds.more ?_ _ _ | with_reducible refine Adds.drew ?_ | with_reducible refine Adds.drewN ?_ _)))).mono ?_; rintro e w2 ⟨v2, rfl, h2, a2⟩; obtain ⟨ao2, n2, c2, rfl⟩ := h2.slice)
    | (go_at_call 62; refine (kO _ _ _ (a2.trans (by repeat (first | with_reducible exact Adds.refl _ | with_reducible refine Adds.alloc ?_ _ | with_reducible refine Adds.more ?_ _ _ | with_reducible refine Adds.drew ?_ | with_reducible refine Adds.drewN ?_ _))) (by have := a2.below.size; omega) tape_new (h2.adds (by repeat (first | with_reducible exact Adds.refl _ | with_reducible refine Adds.alloc ?_ _ | with_reducible refine Adds.more ?_ _ _ | with_reducible refine Adds.drew ?_ | with_reducible refine Adds.drewN ?_ _)))).mono ?_; rintro e w3 ⟨rfl, R3, o3⟩))
  go_ret2
  exact ⟨_, rfl, o3⟩

theorem open_begin {w : World} {B : Nat} {R : Rw} {d : Dk} {K : Kf} (h : St w B R d) (hK : SrtK K) (hf : filesK K = d.now) (hb : R.bulk ≤ 68719476736) (hsz : sizeK K ≤ 1000000) {f0 : Int} {b0 : Nat} {ls : List (List UInt8)}
    (hroom : segLen ls + sizeK K ≤ R.room) (hnext : nextK K ≤ 1048576) (hr1 : R.room ≤ 1000000) (hfit : fits ls) (e0 : d.opened K = ⟨nextK K, ls.length, ls, d.begun K ls⟩)
    (kN : ∀ W, Adds w W → Calls Tryz.prog 61 #[ptr R.p] W fun e w' => ∃ v, e = .returned (.tuple #[.agg #[.int .i64 f0, .int .i64 (b0 : Int), v], .bool false]) ∧ RwsF w.heap.size w' v ls ∧ (newK K = none → v = .slice none 0 0) ∧ Adds w w') :
    Calls Tryz.prog 29 #[ptr R.p] w fun e w' => ∃ T : Tw, e = .returned (.tuple #[ptr T.p, .int .i64 0]) ∧ Opened w B R d K w' T := by
  have hlow := h.live.low
  have kG := given_tape h
  have kB : ∀ W p v, Adds w W → w.heap.size ≤ p → W.heap[p]? = some (.cells #[ptr R.p, .int .i64 f0, .int .i64 (b0 : Int), v] 112 (0, 0)) → RwsF w.heap.size W v ls → (newK K = none → v = .slice none 0 0) → Calls Tryz.prog 63 #[ptr p, v] W fun e w' => e = .returned (.int .i64 0) ∧ ∃ R', Opened w B R d K w' ⟨R', p, nextK K, ls.length, v, ls⟩ := fun W p v hW hp hpw hr hv => by
    have hR : RwsA W (fun _ => False) v ls := hr.rwsA fun _ _ _ _ _ _ hc => hc
    refine (begin_any (h.adds hW) hK hf p f0 (b0 : Int) v hpw hb v ls hR.rws hfit (by omega) (by omega) hnext).mono ?_
    rintro e w' ⟨rfl, R', s', p', r', b', hp', m'⟩
    rw [← p'] at hp'
    refine ⟨rfl, R', ⟨⟨by rw [e0]; exact s', hp', Nat.le_trans hlow hp, recs_open h hr hpw m'⟩, by rw [e0], by rw [e0], by rw [e0], p', r', ?_, mv_open hW hp m', hp, hv⟩⟩
    show R'.bulk ≤ _
    omega
  clear e0 hfit
  go_enter Tryz.func29, Tryz.ntmps29
  go_wp2_with (first
    | (go_at_call 60; refine kG.mono ?_; rintro e w1 ⟨rfl, a1⟩)
    | (go_at_call 61; refine (kN _ (a1.trans (by repeat (first | with_reducible exact Adds.refl _ | with_reducible refine Adds.alloc ?_ _ | with_reducible refine Adds.more ?_ _ _ | with_reducible refine Adds.drew ?_ | with_reducible refine Adds.drewN ?_ _)))).mono ?_; rintro e w2 ⟨v2, rfl, h2, hv2, a2⟩; obtain ⟨ao2, n2, c2, rfl⟩ := h2.slice; have HV2 : Hid _ := hv2; clear hv2)
    | (go_at_call 63; refine (kB _ _ _ (a2.trans (by repeat (first | with_reducible exact Adds.refl _ | with_reducible refine Adds.alloc ?_ _ | with_reducible refine Adds.more ?_ _ _ | with_reducible refine Adds.drew ?_ | with_reducible refine Adds.drewN ?_ _))) (by have := a2.below.size; omega) tape_new (h2.adds (by repeat (first | with_reducible exact Adds.refl _ | with_reducible refine Adds.alloc ?_ _ | with_reducible refine Adds.more ?_ _ _ | with_reducible refine Adds.drew ?_ | with_reducible refine Adds.drewN ?_ _))) HV2.out).mono ?_; rintro e w3 ⟨rfl, R3, o3⟩))
  go_ret2
  exact ⟨_, rfl, o3⟩

theorem seg_fits {b : List UInt8} {s : Nat × List (List UInt8) × Bool} (h : segOf b = some s) : fits s.2.1 := by
  unfold segOf at h
  split at h
  · simp only [Option.some.injEq] at h
    subst h
    intro x hx
    exact (rows_few b).2.1 x (List.mem_of_mem_drop hx)
  · cases h

theorem newK_fits : ∀ {K : Kf} {s : Int × Nat × List (List UInt8) × Bool}, newK K = some s → fits s.2.2.1
  | p :: r, s, h => by
    have e : newK (p :: r) = match newK r with | some s => some s | none => (segOf p.2).map fun s => (p.1, s) := rfl
    rw [e] at h
    cases hr : newK r with
    | some s' =>
      rw [hr] at h
      simp only [Option.some.injEq] at h
      subst h
      exact newK_fits hr
    | none =>
      rw [hr] at h
      simp only at h
      cases hs : segOf p.2 with
      | none => rw [hs] at h; cases h
      | some q =>
        rw [hs] at h
        simp only [Option.map_some, Option.some.injEq] at h
        subst h
        exact seg_fits hs

theorem rwsF_nil (B : Nat) (w : World) : RwsF B w (.slice none 0 0) [] := ⟨[], none, 0, rfl, Nat.le_refl _, .inl rfl, trivial⟩

theorem open_any {w : World} {B : Nat} {R : Rw} {d : Dk} {K : Kf} (h : St w B R d) (hK : SrtK K) (hf : filesK K = d.now) (hb : R.bulk ≤ 68719476736) (hr1 : R.room ≤ 1000000) (hsz : sizeK K ≤ 1000000) (hroom : roomy R.room K) :
    Calls Tryz.prog 29 #[ptr R.p] w fun e w' => ∃ T : Tw, e = .returned (.tuple #[ptr T.p, .int .i64 0]) ∧ Opened w B R d K w' T := by
  unfold roomy at hroom
  cases hn : newK K with
  | none =>
    rw [hn] at hroom
    refine open_begin (f0 := 0) (b0 := 0) (ls := []) h hK hf hb hsz (by simpa [segLen, tot] using hroom.1) hroom.2 hr1 (by simp [fits]) (by unfold Dk.opened; rw [hn]; rfl) ?_
    intro W hW
    refine (newest_any (h.adds hW) hK hf hb hsz).mono ?_
    rintro e w' ⟨h1, h2⟩
    unfold newest at h1
    rw [hn] at h1
    exact ⟨_, h1, rwsF_nil _ _, fun _ => rfl, hW.trans h2⟩
  | some s =>
    obtain ⟨file, base, ls, clean⟩ := s
    cases clean with
    | true => exact open_clean h hK hf hb hsz hn
    | false =>
      rw [hn] at hroom
      refine open_begin (f0 := file) (b0 := base) (ls := ls) h hK hf hb hsz hroom.1 hroom.2 hr1 (newK_fits hn) (by unfold Dk.opened; rw [hn]) ?_
      intro W hW
      refine (newest_any (h.adds hW) hK hf hb hsz).mono ?_
      rintro e w' ⟨h1, h2⟩
      unfold newest at h1
      rw [hn] at h1
      obtain ⟨v, rfl, h3⟩ := h1
      exact ⟨v, rfl, h3.mono hW.below.size, (fun e => nomatch hn.symm.trans e), hW.trans h2⟩

end Go.Proofs.YtelkkpomehgcjaaGreat

namespace Go.Proofs.YtelkkpomehgcjaaGreat
open Go.RowKit Go.Maps
attribute [local go_sem] cell?_more frozen?_more setCell_more size_more tape_more drew_more drewN_more more_drew more_drewN more_more one_out plus_out plus_end lt_one le_p2 le_p3 le_p4 le_p5 le_p6 le_p7 le_p8 le_p9 le_p10 le_p11 le_p12 le_p13 le_p14 le_p15 le_p16 le_p17 le_p18 le_p19 le_p20 le_p21 le_p22 le_p23 le_p24 le_q0 le_q1 lt_q1 le_q2 lt_q2 le_q3 lt_q3 le_q4 lt_q4 le_q5 lt_q5 le_q6 lt_q6 le_q7 lt_q7 le_q8 lt_q8 le_q9 lt_q9 le_q10 lt_q10 le_q11 lt_q11 le_q12 lt_q12 le_q13 lt_q13 le_q14 lt_q14 le_q15 lt_q15 le_q16 lt_q16 le_q17 lt_q17 le_q18 lt_q18 le_q19 lt_q19 le_q20 lt_q20 le_q21 lt_q21 le_q22 lt_q22 le_q23 lt_q23 le_q24 lt_q24

theorem Tap.adds {w w' : World} {B : Nat} {T : Tw} {d : Dk} (h : Tap w B T d) (ha : Adds w w') : Tap w' B T d := ⟨h.st.adds ha, ha.at h.hp, h.bp, h.recs.mv (Mv.adds _ ha)⟩

theorem opened_any {w : World} {B : Nat} {T : Tw} {d : Dk} (h : Tap w B T d) : Calls Tryz.prog 64 #[ptr T.p] w fun e w' => e = .returned (.bool true) ∧ w' = w := by
  have c0 : w.cell? ⟨T.p, 0, none⟩ = some (ptr T.R.p) := cell_of_row w T.p 0 _ _ _ h.hp
  go_enter Tryz.func64, Tryz.ntmps64
  go_wp2
  go_ret
  exact ⟨rfl, rfl⟩

theorem len_any {w : World} {B : Nat} {T : Tw} {d : Dk} (h : Tap w B T d) : Calls Tryz.prog 30 #[ptr T.p] w fun e w' => e = .returned (.int .i64 (T.ls.length : Int)) ∧ w' = w := by
  have c3 : w.cell? ⟨T.p, 3, none⟩ = some T.v := cell_of_row w T.p 3 _ _ _ h.hp
  obtain ⟨ao, cap, hv, _⟩ := h.recs.rws.slice
  rw [hv] at c3
  have kO := opened_any h
  go_enter Tryz.func30, Tryz.ntmps30
  go_wp2_with (go_at_call 64; refine kO.mono ?_; rintro e w1 ⟨rfl, rfl⟩)
  go_ret
  exact ⟨rfl, rfl⟩

theorem grown_any {w : World} {B : Nat} {T : Tw} {d : Dk} (h : Tap w B T d) (hl : T.ls.length ≤ 1000000) (hb : T.base ≤ T.ls.length) : Calls Tryz.prog 94 #[ptr T.p] w fun e w' => e = .returned (.int .i64 ((T.ls.length : Int) - (T.base : Int))) ∧ Adds w w' := by
  have c3 : w.cell? ⟨T.p, 3, none⟩ = some T.v := cell_of_row w T.p 3 _ _ _ h.hp
  have c2 : w.cell? ⟨T.p, 2, none⟩ = some (.int .i64 (T.base : Int)) := cell_of_row w T.p 2 _ _ _ h.hp
  obtain ⟨ao, cap, hv, _⟩ := h.recs.rws.slice
  rw [hv] at c3
  have kO := opened_any h
  have hpl := (Array.getElem?_eq_some_iff.1 h.hp).1
  generalize T.ls.length = n at *
  generalize T.base = m at *
  clear h
  go_enter Tryz.func94, Tryz.ntmps94
  go_wp2_with (go_at_call 64; refine kO.mono ?_; rintro e w1 ⟨rfl, rfl⟩)
  go_quiet (fail)
  go_wp2
  go_ret
  refine ⟨rfl, ?_⟩
  repeat (first | with_reducible exact Adds.refl _ | with_reducible refine Adds.alloc ?_ _ | with_reducible refine Adds.more ?_ _ _ | with_reducible refine Adds.drew ?_ | with_reducible refine Adds.drewN ?_ _)

theorem getT_none {w : World} {B : Nat} {T : Tw} {d : Dk} (h : Tap w B T d) (hl : T.ls.length ≤ 1000000) : Calls Tryz.prog 31 #[ptr T.p, .int .i64 (T.ls.length : Int)] w fun e w' => e = .returned (.tuple #[.slice none 0 0, .bool false]) ∧ Adds w w' := by
  have kL := len_any h
  generalize T.ls.length = n at *
  have i0 : ¬ ((n : Int) < 0) := by omega
  go_enter Tryz.func31, Tryz.ntmps31
  go_wp2_with (go_at_call 30; refine kL.mono ?_; rintro e w1 ⟨rfl, rfl⟩)
  go_ret2
  refine ⟨rfl, ?_⟩
  repeat (first | with_reducible exact Adds.refl _ | with_reducible refine Adds.alloc ?_ _ | with_reducible refine Adds.more ?_ _ _ | with_reducible refine Adds.drew ?_ | with_reducible refine Adds.drewN ?_ _)

theorem get_any {w : World} {B : Nat} {T : Tw} {d : Dk} (h : Tap w B T d) {i : Nat} (hi : i < T.ls.length) (hfit : T.ls[i].length ≤ 1000000) :
    Calls Tryz.prog 31 #[ptr T.p, .int .i64 (i : Int)] w fun e w' => ∃ r, e = .returned (.tuple #[r, .bool true]) ∧ w'.ownsRow w.heap.size 5 1 r T.ls[i].length (cellsB T.ls[i]) ∧ Adds w w' := by
  have c3 : w.cell? ⟨T.p, 3, none⟩ = some T.v := cell_of_row w T.p 3 _ _ _ h.hp
  have kL := len_any h
  obtain ⟨ao, cap, hv, hcap⟩ := h.recs.rws.slice
  have hr := h.recs.rws
  rw [hv] at c3 hr
  obtain ⟨b, off, x, rfl, hb, hc, hx⟩ := hr.at hi
  have kC : Calls Tryz.prog 65 #[x] w fun e w' => ∃ r, e = .returned r ∧ w'.ownsRow w.heap.size 5 1 r T.ls[i].length (cellsB T.ls[i]) ∧ Adds w w' := clone_any _ _ _ hx (by omega)
  clear hr hv hx
  generalize T.ls[i] = l at *
  generalize T.ls.length = n at *
  have i0 : ¬ ((i : Int) < 0) := by omega
  go_enter Tryz.func31, Tryz.ntmps31
  go_wp2_with (first
    | (go_at_call 30; refine kL.mono ?_; rintro e w1 ⟨rfl, rfl⟩)
    | (go_at_call 65; refine kC.mono ?_; rintro e w2 ⟨r2, rfl, h2, a2⟩))
  go_ret2
  exact ⟨r2, rfl, h2, a2⟩

theorem rows_app {ops : Array Oper} {rest : List Oper} {o : Oper} {a : Act} {w : World} {Q : Exit → Act → World → Prop} (hgd : o.guard = none) (s x : Operand) (ho : o.op = .call { callee := .builtin .append, args := #[s, x], argTypes := #[37, 37] })
    {B : Nat} {v : Value} {xs : List Value} {W0 : World} (h : OwnV B 40 v xs W0 w) (hs : a.eval s = v) {x' : Value} {ys : List Value} (hg : LstV w x' ys) (hx : a.eval x = x') (hys : ∀ u ∈ ys, u.oneCell' = true) (hlen : xs.length + ys.length ≤ 1000000)
    (hk : ∀ v' w', OwnV B 40 v' (xs ++ ys) W0 w' → w.grownBy w' v.ownBlock → wpList Tryz.prog ops Q rest (a.put o.dst v') w') : wpList Tryz.prog ops Q (o :: rest) a w := row_app hgd s x ho h hs hg hx hys hlen hk

end Go.Proofs.YtelkkpomehgcjaaGreat
