/-
  The reference's bytes of any tree, by contract.
-/
import Derived.Test.YtccddgohagakoaaSnb
namespace Go.Proofs.Ytccddgohagakoaa
open Go.RowKit
attribute [local go_sem] cell?_more frozen?_more setCell_more size_more tape_more drew_more drewN_more more_drew more_drewN one_out plus_out plus_end lt_one le_p2 le_p3 le_p4 le_p5 le_p6 le_p7 le_p8 le_p9 le_p10 le_p11 le_p12 le_p13 le_p14 le_p15 le_p16 le_p17 le_p18 le_p19 le_p20 le_p21 le_p22 le_p23 le_p24 le_q0 le_q1 lt_q1 le_q2 lt_q2 le_q3 lt_q3 le_q4 lt_q4 le_q5 lt_q5 le_q6 lt_q6 le_q7 lt_q7 le_q8 lt_q8 le_q9 lt_q9 le_q10 lt_q10 le_q11 lt_q11 le_q12 lt_q12 le_q13 lt_q13 le_q14 lt_q14 le_q15 lt_q15 le_q16 lt_q16 le_q17 lt_q17 le_q18 lt_q18 le_q19 lt_q19 le_q20 lt_q20 le_q21 lt_q21 le_q22 lt_q22 le_q23 lt_q23 le_q24 lt_q24

/-- What Bytes makes of a cell so deep. -/
def BytesOk (d : Nat) : Prop := ∀ (t : T) (s : Value) (w : World), Tr (fun b => b < w.heap.size) d w s t.list → okT (d + 1) t → (bytesT (d + 1) t).length ≤ 65536 →
  Calls Try.prog 23 #[.agg #[.int .i64 t.kind, .int .i64 t.num, .string t.text, s]] w fun e w' => ∃ v', e = .returned v' ∧ OwnV w.heap.size 5 v' (cellsB (bytesT (d + 1) t)) w w'

theorem own_lst {B : Nat} {v : Value} {l : List UInt8} {W0 w : World} (h : OwnV B 5 v (cellsB l) W0 w) : Byt w v l := OwnV.lst h

set_option maxRecDepth 20000 in
set_option maxHeartbeats 4000000 in
theorem rbytes_num (n : Int) (lo : Option Addr) (lc : Nat) (w : World) (hn : -9007199254740992 ≤ n ∧ n ≤ 9007199254740992) :
    Calls Try.prog 23 #[.agg #[.int .i64 1, .int .i64 n, .string ⟨#[]⟩, .slice lo 0 lc]] w fun e w' => ∃ v', e = .returned v' ∧ OwnV w.heap.size 5 v' (cellsB (1 :: number (zig n))) w w' := by
  have hz : zig n < 9223372036854775808 := by unfold zig; split <;> omega
  have kN := fun W => rnumber_any (zig n) W hz
  have hlen : Hid ([(1 : UInt8)].length + (number (zig n)).length ≤ 1000000) := by
    show _ ≤ 1000000
    have := number_len9 hz
    simp
    omega
  obtain ⟨h1, h2⟩ := hn
  by_cases hneg : n < 0
  · have kN' : ∀ W, Calls Try.prog 44 #[.int .i64 (-n * 2 - 1)] W fun e w' => ∃ v', e = .returned v' ∧ OwnV W.heap.size 5 v' (cellsB (number (zig n))) W w' := fun W => by
      have := kN W
      rw [show ((zig n : Nat) : Int) = -n * 2 - 1 by unfold zig; rw [if_pos hneg]; omega] at this
      exact this
    clear kN hz
    generalize zig n = z at *
    go_enter Try.func23, Try.ntmps23
    go_wp2_with (first
      | (go_at_call 44; refine (kN' _).mono ?_; rintro e w1 ⟨v1, rfl, h1⟩; have H1 : Hid _ := h1; clear h1)
      | (at_builtin; refine byt_app rfl (.tmp 46) (.tmp 48) rfl (l := [1]) (B := w.heap.size) (W0 := w) (OwnV.adds (W0 := w) (OwnV.back (W0 := w) (ownV_new (by simp) byte_one rfl (by simp)) (by repeat (first | with_reducible exact Adds.refl _ | with_reducible refine Adds.alloc ?_ _ | with_reducible refine Adds.more ?_ _ _ | with_reducible refine Adds.drew ?_ | with_reducible refine Adds.drewN ?_ _)) (by simp)) (Adds.of H1.out.2.1)) rfl (own_lst H1.out) rfl hlen.out ?_; intro v2 w2 h2 hk2))
    go_ret
    exact ⟨v2, rfl, h2⟩
  · have kN' : ∀ W, Calls Try.prog 44 #[.int .i64 (n * 2)] W fun e w' => ∃ v', e = .returned v' ∧ OwnV W.heap.size 5 v' (cellsB (number (zig n))) W w' := fun W => by
      have := kN W
      rw [show ((zig n : Nat) : Int) = n * 2 by unfold zig; rw [if_neg hneg]; omega] at this
      exact this
    clear kN hz
    generalize zig n = z at *
    go_enter Try.func23, Try.ntmps23
    go_wp2_with (first
      | (go_at_call 44; refine (kN' _).mono ?_; rintro e w1 ⟨v1, rfl, h1⟩; have H1 : Hid _ := h1; clear h1)
      | (at_builtin; refine byt_app rfl (.tmp 46) (.tmp 48) rfl (l := [1]) (B := w.heap.size) (W0 := w) (OwnV.adds (W0 := w) (OwnV.back (W0 := w) (ownV_new (by simp) byte_one rfl (by simp)) (by repeat (first | with_reducible exact Adds.refl _ | with_reducible refine Adds.alloc ?_ _ | with_reducible refine Adds.more ?_ _ _ | with_reducible refine Adds.drew ?_ | with_reducible refine Adds.drewN ?_ _)) (by simp)) (Adds.of H1.out.2.1)) rfl (own_lst H1.out) rfl hlen.out ?_; intro v2 w2 h2 hk2))
    go_ret
    exact ⟨v2, rfl, h2⟩

theorem byt_step {ops : Array Oper} {o : Oper} {a : Act} {w : World} {K : Act → World → Prop} {Q : Exit → Act → World → Prop} {E : Prop} (hg : o.guard = none) (s x : Operand) (ho : o.op = .call { callee := .builtin .append, args := #[s, x], argTypes := #[26, 26] })
    {B : Nat} {v : Value} {l : List UInt8} {W0 : World} (h : OwnV B 5 v (cellsB l) W0 w) (hs : a.eval s = v) {x' : Value} {m : List UInt8} (hx' : Byt w x' m) (hx : a.eval x = x') (hlen : l.length + m.length ≤ 1000000)
    (hK : ∀ v' w', OwnV B 5 v' (cellsB (l ++ m)) W0 w' → K (a.put o.dst v') w') : if Region.wanted o (yielded ops a.tmps) = true then Oper.wp Try.prog o a w K Q else E := by
  rw [if_pos (by simp [Region.wanted, hg])]
  obtain ⟨v', w', hr, h2, h3⟩ := ownV_append Try.underlying26 Try.info5 rfl (by decide) w B o.type v (cellsB l) W0 h x' (cellsB m) hx' (cellsB_one m) (by rw [cellsB_length, cellsB_length]; exact hlen)
  exact Lib.wp_append_run w s x 26 26 ho v x' hs hx v' w' hr (hK v' w' (by rw [cellsB_append]; exact h2))

theorem str_step {ops : Array Oper} {o : Oper} {a : Act} {w : World} {K : Act → World → Prop} {Q : Exit → Act → World → Prop} {E : Prop} (hg : o.guard = none) (s x : Operand) (ho : o.op = .call { callee := .builtin .append, args := #[s, x], argTypes := #[26, 9] })
    {B : Nat} {v : Value} {l : List UInt8} {W0 : World} (h : OwnV B 5 v (cellsB l) W0 w) (hs : a.eval s = v) {m : List UInt8} (hx : a.eval x = .string ⟨m.toArray⟩) (hlen : l.length + m.length ≤ 1000000)
    (hK : ∀ v' w', OwnV B 5 v' (cellsB (l ++ m)) W0 w' → K (a.put o.dst v') w') : if Region.wanted o (yielded ops a.tmps) = true then Oper.wp Try.prog o a w K Q else E := by
  rw [if_pos (by simp [Region.wanted, hg])]
  obtain ⟨v', w', hr, h2, h3⟩ := strV_append o.type h hlen
  exact Lib.wp_append_run w s x 26 9 ho v _ hs hx v' w' hr (hK v' w' h2)

set_option maxRecDepth 20000 in
set_option maxHeartbeats 8000000 in
theorem rbytes_text (m : List UInt8) (lo : Option Addr) (lc : Nat) (w : World) (hm : m.length ≤ 65536) :
    Calls Try.prog 23 #[.agg #[.int .i64 2, .int .i64 0, .string ⟨m.toArray⟩, .slice lo 0 lc]] w fun e w' => ∃ v', e = .returned v' ∧ OwnV w.heap.size 5 v' (cellsB (2 :: (number m.length ++ m))) w w' := by
  have kN := fun W => rnumber_any m.length W (by omega)
  have hlen : Hid ([(2 : UInt8)].length + (number m.length).length ≤ 1000000) := by
    show _ ≤ 1000000
    have := number_len9 (n := m.length) (by omega)
    simp
    omega
  have hlen2 : Hid (([(2 : UInt8)] ++ number m.length).length + m.length ≤ 1000000) := by
    show _ ≤ 1000000
    have := number_len9 (n := m.length) (by omega)
    simp
    omega
  have HE : Hid (([(2 : UInt8)] ++ number m.length) ++ m = 2 :: (number m.length ++ m)) := by
    show _ = _
    simp
  have HBX : Hid (Adds w (w.alloc (.cells #[.int .i64 2, .int .i64 0, .string ⟨m.toArray⟩, .slice lo 0 lc] 43))) := by
    show Adds _ _
    repeat (first | with_reducible exact Adds.refl _ | with_reducible refine Adds.alloc ?_ _ | with_reducible refine Adds.more ?_ _ _ | with_reducible refine Adds.drew ?_ | with_reducible refine Adds.drewN ?_ _)
  go_enter Try.func23, Try.ntmps23
  go_wp2
  go_region_law (first
    | (refine call_step rfl 44 (.tmp 55) 3 rfl _ rfl (kN _) (by rintro e w' ⟨v5, h, _⟩; exact ⟨_, h⟩) (by go_simp) ?_; rintro u5 w5 ⟨v5, he5, h5⟩; cases he5; have b5 : w5.cell? ⟨w.heap.size, 2, none⟩ = some (.string ⟨m.toArray⟩) := (by rw [h5.2.1.cell (by simp; omega)]; simp [go_sem]); have H5 : Hid _ := h5; clear h5)
    | (refine byt_step rfl (.tmp 52) (.tmp 56) rfl (l := [2]) (B := w.heap.size + 1) (W0 := w.alloc (.cells #[.int .i64 2, .int .i64 0, .string ⟨m.toArray⟩, .slice lo 0 lc] 43)) ?_ rfl (m := number m.length) ?_ rfl hlen.out ?_; exact (OwnV.adds (OwnV.adds (ownV_new (by simp) byte_two rfl (by simp)) ((Adds.refl _).drew)) (Adds.of H5.out.2.1)); exact own_lst H5.out; intro v6 w6 h6; have b6 : w6.cell? ⟨w.heap.size, 2, none⟩ = some (.string ⟨m.toArray⟩) := (by rw [h6.2.1.cell (by simp)]; simp [go_sem]); have H6 : Hid _ := h6; clear h6)
    | (refine str_step rfl (.tmp 57) (.tmp 59) rfl H6.out rfl rfl hlen2.out ?_; intro v7 w7 h7; have H7 : Hid _ := h7; clear h7))
  all_goals
    go_wp2
    go_ret
    exact ⟨v7, rfl, by rw [← HE.out]; exact OwnV.back H7.out HBX.out (by simp)⟩

end Go.Proofs.Ytccddgohagakoaa
