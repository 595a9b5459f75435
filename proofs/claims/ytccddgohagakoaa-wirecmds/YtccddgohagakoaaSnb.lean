/-
  The reference's bytes of a count, and of any tree, by contracts.
-/
import Derived.Test.YtccddgohagakoaaLpt
import Derived.Test.YtccddgohagakoaaLen
import Derived.Test.YtccddgohagakoaaLct
import Derived.Deep.RegionLaw
namespace Go.Proofs.Ytccddgohagakoaa
open Go.RowKit
attribute [local go_sem] cell?_more frozen?_more setCell_more size_more tape_more drew_more drewN_more more_drew more_drewN one_out plus_out plus_end lt_one le_p2 le_p3 le_p4 le_p5 le_p6 le_p7 le_p8 le_p9 le_p10 le_p11 le_p12 le_p13 le_p14 le_p15 le_p16 le_p17 le_p18 le_p19 le_p20 le_p21 le_p22 le_p23 le_p24 le_q0 le_q1 lt_q1 le_q2 lt_q2 le_q3 lt_q3 le_q4 lt_q4 le_q5 lt_q5 le_q6 lt_q6 le_q7 lt_q7 le_q8 lt_q8 le_q9 lt_q9 le_q10 lt_q10 le_q11 lt_q11 le_q12 lt_q12 le_q13 lt_q13 le_q14 lt_q14 le_q15 lt_q15 le_q16 lt_q16 le_q17 lt_q17 le_q18 lt_q18 le_q19 lt_q19 le_q20 lt_q20 le_q21 lt_q21 le_q22 lt_q22 le_q23 lt_q23 le_q24 lt_q24

theorem call_step {ops : Array Oper} {o : Oper} {a : Act} {w : World} {K : Act → World → Prop} {Q : Exit → Act → World → Prop} {E : Prop} (hg : o.guard = none) (f : FuncId) (x : Operand) (t : TypeId)
    (_ho : o.op = .call { callee := .value (.func f), args := #[x], argTypes := #[t] }) (v : Value) (hx : a.eval x = v) {R : Ending → World → Prop}
    (hc : Calls Try.prog f #[v] w R) (hR : ∀ e w', R e w' → ∃ u, e = .returned u) (hrun : (execOp a.eval o).run Try.prog w = .ok (.enter f #[a.eval x]) w) (hk : ∀ u w', R (.returned u) w' → K (a.put o.dst u) w') : if Region.wanted o (yielded ops a.tmps) = true then Oper.wp Try.prog o a w K Q else E := by
  have hw : Region.wanted o (yielded ops a.tmps) = true := by simp [Region.wanted, hg]
  rw [if_pos hw]
  unfold Oper.wp
  rw [hrun, hx]
  simp only [Oper.upon]
  refine hc.mono ?_
  intro e w' h
  obtain ⟨u, rfl⟩ := hR e w' h
  exact hk u w' h

theorem ownV_new {w : World} {xs : List Value} {l : List UInt8} {k n : Nat} (hk : k = w.heap.size) (hx : xs = cellsB l) (hn : n = l.length) (hm : n ≤ 1000) : OwnV k 5 (.slice (some ⟨k, 0, none⟩) n n) (cellsB l) w (w.alloc (.cells xs.toArray 5)) := by
  subst hk hx hn
  refine ⟨⟨by rw [Nat.mul_one], .inr ⟨w.heap.size, l.length, (cellsB l).toArray, by rw [cellsB_length], Nat.le_refl _, new_block _ _, by rw [cellsB_length]; exact Nat.le_refl _, by unfold maxLen; omega, by simp [cellsB_length], by simp⟩⟩, ((Adds.refl w).alloc _).below, by simp⟩

theorem OwnV.back {B : Nat} {v : Value} {xs : List Value} {W0 W1 w : World} (h : OwnV B 5 v xs W1 w) (h1 : Adds W0 W1) (hB0 : W0.heap.size ≤ B) : OwnV W0.heap.size 5 v xs W0 w := by
  refine ⟨?_, h1.below.trans (h.2.1.mono hB0), Nat.le_trans hB0 h.2.2⟩
  refine ⟨h.1.1, ?_⟩
  rcases h.1.2 with h | ⟨g, cap, cur, e, hb, r⟩
  · exact .inl h
  · exact .inr ⟨g, cap, cur, e, Nat.le_trans hB0 hb, r⟩

theorem number_len9 {n : Nat} (h : n < 9223372036854775808) : (number n).length ≤ 9 := number_len 8 n (by omega)

set_option maxRecDepth 20000 in
set_option maxHeartbeats 2000000 in
theorem rnum_step (n : Nat) (w : World) (hb : ¬ n < 128) (hn : n < 9223372036854775808) (ih : ∀ W, Calls Try.prog 44 #[.int .i64 (n / 128 : Nat)] W fun e w' => ∃ v', e = .returned v' ∧ OwnV W.heap.size 5 v' (cellsB (number (n / 128))) W w') :
    Calls Try.prog 44 #[.int .i64 n] w fun e w' => ∃ v', e = .returned v' ∧ OwnV w.heap.size 5 v' (cellsB (number n)) w w' := by
  have hb' : ¬ (n : Int) < 128 := by omega
  have hNB : Hid (number n = UInt8.ofNat (n % 128 + 128) :: number (n / 128)) := number_big hb
  have hlen : Hid ([UInt8.ofNat (n % 128 + 128)].length + (number (n / 128)).length ≤ 1000000) := by
    show _ ≤ 1000000
    have := number_len9 (n := n / 128) (by omega)
    simp
    omega
  have hn' : (n : Int) ≤ 9223372036854775807 := by omega
  have kI : ∀ W, Calls Try.prog 44 #[.int .i64 ((n : Int) / 128)] W fun e w' => ∃ v', e = .returned v' ∧ OwnV W.heap.size 5 v' (cellsB (number (n / 128))) W w' := fun W => by
    rw [show (n : Int) / 128 = ((n / 128 : Nat) : Int) by omega]
    exact ih W
  have HBT : Hid ([Value.int .u8 ((n : Int) % 128 + 128)] = cellsB [UInt8.ofNat (n % 128 + 128)]) := by
    show _ = _
    simp [cellsB]
    omega
  clear hn hb ih
  go_enter Try.func44, Try.ntmps44
  go_wp2_with (first
    | (go_at_call 44; refine (kI _).mono ?_; rintro e w1 ⟨v1, rfl, h1⟩; have H1 : Hid _ := h1; clear h1)
    | (at_builtin; refine byt_app rfl (.tmp 12) (.tmp 15) rfl (l := [UInt8.ofNat (n % 128 + 128)]) (B := w.heap.size) (W0 := w) (OwnV.adds (ownV_new rfl HBT.out rfl (by simp)) (Adds.of H1.out.2.1)) rfl (OwnV.lst H1.out) rfl hlen.out ?_; intro v2 w2 h2 hk2))
  go_ret
  refine ⟨v2, rfl, ?_⟩
  rw [hNB.out]
  exact h2

theorem rnumber_any : ∀ (n : Nat) (w : World), n < 9223372036854775808 → Calls Try.prog 44 #[.int .i64 n] w fun e w' => ∃ v', e = .returned v' ∧ OwnV w.heap.size 5 v' (cellsB (number n)) w w' := by
  intro n
  induction n using Nat.strongRecOn with
  | _ n ih =>
    intro w hn
    by_cases hb : n < 128
    · have hb' : (n : Int) < 128 := by omega
      rw [number_small hb]
      clear ih
      go_enter Try.func44, Try.ntmps44
      go_wp2
      go_ret
      exact ⟨_, rfl, ownV_new rfl (byte_small hb) rfl (by simp)⟩
    · exact rnum_step n w hb hn (fun W => ih (n / 128) (by omega) W (by omega))

end Go.Proofs.Ytccddgohagakoaa
