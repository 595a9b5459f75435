/-
  Numbers of three bytes: read and written.
-/
import Derived.Test.YtmbnpglnanfdoaaSum
namespace Go.Proofs.Ytmbnpglnanfdoaa
open Go.RowKit
attribute [local go_sem] cell?_more frozen?_more setCell_more size_more tape_more drew_more drewN_more more_drew more_drewN more_more one_out plus_out plus_end lt_one le_p2 le_p3 le_p4 le_p5 le_p6 le_p7 le_p8 le_p9 le_p10 le_p11 le_p12 le_p13 le_p14 le_p15 le_p16 le_p17 le_p18 le_p19 le_p20 le_p21 le_p22 le_p23 le_p24 le_q0 le_q1 lt_q1 le_q2 lt_q2 le_q3 lt_q3 le_q4 lt_q4 le_q5 lt_q5 le_q6 lt_q6 le_q7 lt_q7 le_q8 lt_q8 le_q9 lt_q9 le_q10 lt_q10 le_q11 lt_q11 le_q12 lt_q12 le_q13 lt_q13 le_q14 lt_q14 le_q15 lt_q15 le_q16 lt_q16 le_q17 lt_q17 le_q18 lt_q18 le_q19 lt_q19 le_q20 lt_q20 le_q21 lt_q21 le_q22 lt_q22 le_q23 lt_q23 le_q24 lt_q24

theorem num3_of {l : List UInt8} (h : 3 ≤ l.length) : num3 l = l[0].toNat * 65536 + l[1].toNat * 256 + l[2].toNat := by
  match l, h with
  | a :: b :: c :: r, _ => rfl

theorem number_any (v : Value) (l : List UInt8) (w : World) (h : Byt w v l) (h3 : 3 ≤ l.length) :
    Calls Try.prog 25 #[v] w fun e w' => e = .returned (.int .u32 (num3 l : Nat)) ∧ Adds w w' := by
  obtain ⟨ao, cap, rfl, hcap, h⟩ := h.open
  rcases h with rfl | ⟨b, off, rfl, hb, hl⟩
  · simp at h3
  rw [num3_of h3]
  have c0 := hl 0 (by omega)
  have c1 := hl 1 (by omega)
  have c2 := hl 2 (by omega)
  rw [Nat.add_zero] at c0
  have a0 := l[0].toNat_lt
  have a1 := l[1].toNat_lt
  have a2 := l[2].toNat_lt
  generalize l[0].toNat = x at *
  generalize l[1].toNat = y at *
  generalize l[2].toNat = z at *
  have h1 : bits .or .u32 ((x : Int) * 65536) ((y : Int) * 256) = (x : Int) * 65536 + (y : Int) * 256 :=
    bits_join .u32 32 (by decide) wraps32 16 _ _ (by omega) (by omega) (by omega) (by omega) (by omega) (by omega)
  have h2 : bits .or .u32 ((x : Int) * 65536 + (y : Int) * 256) (z : Int) = (x : Int) * 65536 + (y : Int) * 256 + (z : Int) :=
    bits_join .u32 32 (by decide) wraps32 8 _ _ (by omega) (by omega) (by omega) (by omega) (by omega) (by omega)
  go_enter Try.func25, Try.ntmps25
  go_wp2
  go_quiet (fail)
  go_wp2
  go_ret
  refine ⟨?_, ?_⟩
  · rfl
  repeat (first | with_reducible exact Adds.refl _ | with_reducible refine Adds.alloc ?_ _ | with_reducible refine Adds.more ?_ _ _ | with_reducible refine Adds.drew ?_ | with_reducible refine Adds.drewN ?_ _)

theorem refNumber_any (v : Value) (l : List UInt8) (w : World) (h : Byt w v l) (h3 : 3 ≤ l.length) :
    Calls Try.prog 24 #[v] w fun e w' => e = .returned (.int .i64 (num3 l : Nat)) ∧ Adds w w' := by
  obtain ⟨ao, cap, rfl, hcap, h⟩ := h.open
  rcases h with rfl | ⟨b, off, rfl, hb, hl⟩
  · simp at h3
  rw [num3_of h3]
  have c0 := hl 0 (by omega)
  have c1 := hl 1 (by omega)
  have c2 := hl 2 (by omega)
  rw [Nat.add_zero] at c0
  have a0 := l[0].toNat_lt
  have a1 := l[1].toNat_lt
  have a2 := l[2].toNat_lt
  generalize l[0].toNat = x at *
  generalize l[1].toNat = y at *
  generalize l[2].toNat = z at *
  go_enter Try.func24, Try.ntmps24
  go_wp2
  go_quiet (fail)
  go_wp2
  go_ret
  refine ⟨?_, ?_⟩
  · rfl
  repeat (first | with_reducible exact Adds.refl _ | with_reducible refine Adds.alloc ?_ _ | with_reducible refine Adds.more ?_ _ _ | with_reducible refine Adds.drew ?_ | with_reducible refine Adds.drewN ?_ _)

theorem byt_new {w : World} {xs : List Value} {l : List UInt8} {T : TypeId} {k n : Nat} (hk : k = w.heap.size) (hx : xs = cellsB l) (hn : n = l.length) : Byt (w.alloc (.cells xs.toArray T)) (.slice (some ⟨k, 0, none⟩) n n) l := by
  subst hk hx hn
  refine ⟨_, l.length, by rw [cellsB_length], by rw [cellsB_length]; exact Nat.le_refl _, .inr ⟨w.heap.size, 0, rfl, by simp, ?_⟩⟩
  intro j hj
  simp [hj]

theorem three_any (n : Nat) (w : World) (hn : n < 4294967296) :
    Calls Try.prog 23 #[.int .u32 n] w fun e w' => ∃ v, e = .returned v ∧ Adds w w' ∧ Byt w' v (three n) := by
  go_enter Try.func23, Try.ntmps23
  go_wp2
  go_ret
  refine ⟨_, rfl, ?_, ?_⟩
  · repeat (first | with_reducible exact Adds.refl _ | with_reducible refine Adds.alloc ?_ _ | with_reducible refine Adds.more ?_ _ _ | with_reducible refine Adds.drew ?_ | with_reducible refine Adds.drewN ?_ _)
  · refine byt_new rfl ?_ rfl
    simp [three, cellsB]

theorem byt_app {ops : Array Oper} {rest : List Oper} {o : Oper} {a : Act} {w : World} {Q : Exit → Act → World → Prop} (hgd : o.guard = none) (s x : Operand) (ho : o.op = .call { callee := .builtin .append, args := #[s, x], argTypes := #[22, 22] })
    {B : Nat} {v : Value} {l : List UInt8} {W0 : World} (h : OwnV B 5 v (cellsB l) W0 w) (hs : a.eval s = v) {x' : Value} {m : List UInt8} (hg : Byt w x' m) (hx : a.eval x = x') (hlen : l.length + m.length ≤ 1000000)
    (hk : ∀ v' w', OwnV B 5 v' (cellsB (l ++ m)) W0 w' → wpList Try.prog ops Q rest (a.put o.dst v') w') : wpList Try.prog ops Q (o :: rest) a w := by
  obtain ⟨v', w', hr, h2, _⟩ := ownV_append Try.underlying22 Try.info5 rfl (by decide) w B o.type v (cellsB l) W0 h x' (cellsB m) hg (cellsB_one m) (by rw [cellsB_length, cellsB_length]; exact hlen)
  exact Lib.wpList_append_run w hgd s x 22 22 ho v x' hs hx v' w' hr (hk v' w' (by rw [cellsB_append]; exact h2))

theorem put_any (B : Nat) (v : Value) (l : List UInt8) (W0 w : World) (n : Nat) (hl : l.length ≤ 100000) (h : OwnV B 5 v (cellsB l) W0 w) :
    Calls Try.prog 18 #[v, .int .u32 n] w fun e w' => ∃ v', e = .returned v' ∧ OwnV B 5 v' (cellsB (l ++ three n)) W0 w' := by
  go_enter Try.func18, Try.ntmps18
  go_wp2_with (at_builtin; refine byt_app rfl (.tmp 5) (.tmp 14) rfl (h.alloc _) rfl (byt_new (l := three n) rfl (by simp [three, cellsB]) rfl) rfl (by rw [three_length]; omega) ?_; intro v1 w1 h1)
  go_ret
  exact ⟨v1, rfl, h1⟩

end Go.Proofs.Ytmbnpglnanfdoaa
