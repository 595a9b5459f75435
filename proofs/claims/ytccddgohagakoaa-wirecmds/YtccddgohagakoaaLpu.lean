/-
  Counts and their bytes put behind a row of bytes; which cells fit.
-/
import Derived.Test.YtccddgohagakoaaLbv
import Derived.Test.YtccddgohagakoaaLby
import Derived.Laws.BitsLemmas
import Derived.Laws.Rows
namespace Go.Proofs.Ytccddgohagakoaa
open Go.RowKit
attribute [local go_sem] cell?_more frozen?_more setCell_more size_more tape_more drew_more drewN_more more_drew more_drewN one_out plus_out plus_end lt_one le_p2 le_p3 le_p4 le_p5 le_p6 le_p7 le_p8 le_p9 le_p10 le_p11 le_p12 le_p13 le_p14 le_p15 le_p16 le_p17 le_p18 le_p19 le_p20 le_p21 le_p22 le_p23 le_p24 le_q0 le_q1 lt_q1 le_q2 lt_q2 le_q3 lt_q3 le_q4 lt_q4 le_q5 lt_q5 le_q6 lt_q6 le_q7 lt_q7 le_q8 lt_q8 le_q9 lt_q9 le_q10 lt_q10 le_q11 lt_q11 le_q12 lt_q12 le_q13 lt_q13 le_q14 lt_q14 le_q15 lt_q15 le_q16 lt_q16 le_q17 lt_q17 le_q18 lt_q18 le_q19 lt_q19 le_q20 lt_q20 le_q21 lt_q21 le_q22 lt_q22 le_q23 lt_q23 le_q24 lt_q24

theorem grownBy_adds {w w1 w' : World} {r : Option Nat} (h : w.grownBy w1 r) (ha : Adds w1 w') : w.grownBy w' r :=
  ⟨ha.below.os.trans h.os, ha.below.tape.trans h.tape, ha.below.output.trans h.output, Nat.le_trans h.size ha.below.size, fun k hk hr => (ha.below.block k (Nat.lt_of_lt_of_le hk h.size)).trans (h.block k hk hr)⟩



theorem byt_new {w : World} {xs : List Value} {l : List UInt8} {T : TypeId} {k n : Nat} (hk : k = w.heap.size) (hx : xs = cellsB l) (hn : n = l.length) : Byt (w.alloc (.cells xs.toArray T)) (.slice (some ⟨k, 0, none⟩) n n) l := by
  subst hk hx hn
  refine ⟨_, l.length, by rw [cellsB_length], by rw [cellsB_length]; exact Nat.le_refl _, .inr ⟨w.heap.size, 0, rfl, by simp, ?_⟩⟩
  intro j hj
  simp [hj]

/-- Blocks that are no rows of bytes stay. -/
def Keeps (w w' : World) : Prop := ∀ (k : Nat) (cur : Array Value) (T : TypeId), w.heap[k]? = some (.cells cur T (0, 0)) → T ≠ 5 → w'.heap[k]? = some (.cells cur T (0, 0))

theorem Keeps.refl (w : World) : Keeps w w := fun _ _ _ h _ => h
theorem Keeps.trans {a b c : World} (h : Keeps a b) (h' : Keeps b c) : Keeps a c := fun k cur T hk hT => h' k cur T (h k cur T hk hT) hT
theorem Keeps.of_adds {w w' : World} (h : Adds w w') : Keeps w w' := fun k cur T hk _ => by
  rw [h.below.block k (Array.getElem?_eq_some_iff.1 hk).1]
  exact hk
theorem Keeps.alloc {w w' : World} (o : Obj) (h : Keeps (w.alloc o) w') : Keeps w w' := (Keeps.of_adds ((Adds.refl w).alloc o)).trans h
theorem Keeps.app {B : Nat} {v : Value} {xs : List Value} {W0 w w' : World} (h : OwnV B 5 v xs W0 w) (hg : w.grownBy w' v.ownBlock) : Keeps w w' := by
  intro k cur T hk hT
  rw [hg.block k (Array.getElem?_eq_some_iff.1 hk).1 ?_]
  · exact hk
  · intro e
    rcases h.1.2 with ⟨rfl, _⟩ | ⟨g, cap, c2, rfl, hb, hg2, _⟩
    · simp [Value.ownBlock] at e
    · simp [Value.ownBlock] at e
      subst e
      rw [hg2] at hk
      simp at hk
      exact hT hk.2.symm
theorem Keeps.cell {w w' : World} (h : Keeps w w') {k : Nat} {cur : Array Value} {T : TypeId} (hk : w.heap[k]? = some (.cells cur T (0, 0))) (hT : T ≠ 5) (i : Nat) : w'.cell? ⟨k, i, none⟩ = cur[i]? := by
  simp [World.cell?, h k cur T hk hT]

theorem byt_app {ops : Array Oper} {rest : List Oper} {o : Oper} {a : Act} {w : World} {Q : Exit → Act → World → Prop} (hgd : o.guard = none) (s x : Operand) (ho : o.op = .call { callee := .builtin .append, args := #[s, x], argTypes := #[26, 26] })
    {B : Nat} {v : Value} {l : List UInt8} {W0 : World} (h : OwnV B 5 v (cellsB l) W0 w) (hs : a.eval s = v) {x' : Value} {m : List UInt8} (hg : Byt w x' m) (hx : a.eval x = x') (hlen : l.length + m.length ≤ 1000000)
    (hk : ∀ v' w', OwnV B 5 v' (cellsB (l ++ m)) W0 w' → Keeps w w' → wpList Try.prog ops Q rest (a.put o.dst v') w') : wpList Try.prog ops Q (o :: rest) a w := by
  obtain ⟨v', w', hr, h2, h3⟩ := ownV_append Try.underlying26 Try.info5 rfl (by decide) w B o.type v (cellsB l) W0 h x' (cellsB m) hg (cellsB_one m) (by rw [cellsB_length, cellsB_length]; exact hlen)
  exact Lib.wpList_append_run w hgd s x 26 26 ho v x' hs hx v' w' hr (hk v' w' (by rw [cellsB_append]; exact h2) (Keeps.app h h3))

theorem byte_small {m : Nat} (h : m < 128) : [Value.int .u8 (m : Int)] = cellsB [UInt8.ofNat m] := by
  have : m % 256 = m := by omega
  simp [cellsB]
  omega

theorem byte_big {m : Nat} : [Value.int .u8 (bits .or .u8 ((m : Int) % 256) 128)] = cellsB [UInt8.ofNat (m % 128 + 128)] := by
  have h1 := (bits_nat .u8 8 (by decide) wraps_u8 (m % 256) 128 (by omega) (by decide)).2
  have e : m % 256 ||| 128 = m % 128 + 128 := by
    by_cases hq : m % 256 < 128
    · have := Nat.two_pow_add_eq_or_of_lt (i := 7) (b := m % 256) (by omega) 1
      rw [Nat.or_comm]
      simp at this
      omega
    · obtain ⟨q, hq2, hq3⟩ : ∃ q, m % 256 = 128 + q ∧ q < 128 := ⟨m % 256 - 128, by omega, by omega⟩
      have h2 := Nat.two_pow_add_eq_or_of_lt (i := 7) (b := q) (by omega) 1
      simp at h2
      have h3 : m % 256 ||| 128 = 128 ||| q := by
        rw [hq2, h2, Nat.or_comm, ← Nat.or_assoc, Nat.or_self]
      omega
  have h2 : ((m : Int) % 256) = ((m % 256 : Nat) : Int) := by omega
  have h3 : bits .or .u8 ((m : Int) % 256) 128 = ((m % 128 + 128 : Nat) : Int) := by
    rw [h2, ← e, ← h1]
    rfl
  rw [h3]
  simp [cellsB]
  omega

set_option maxRecDepth 20000 in
set_option maxHeartbeats 1000000 in
theorem putCount_any (B : Nat) (v : Value) (l : List UInt8) (W0 w : World) (n : Nat) (hn : n ≤ 9223372036854775807) (hl : l.length + (number n).length ≤ 1000000) (h : OwnV B 5 v (cellsB l) W0 w) :
    Calls Try.prog 52 #[v, .int .i64 n] w fun e w' => ∃ v', e = .returned v' ∧ OwnV B 5 v' (cellsB (l ++ number n)) W0 w' ∧ Keeps w w' := by
  go_enter Try.func52, Try.ntmps52
  go_wp2
  go_loopw [0, 1] (fun bv nv wr => ∃ (m : Nat) (l' : List UInt8), m ≤ 9223372036854775807 ∧ nv = .int .i64 m ∧ Hid (l' ++ number m = l ++ number n) ∧ OwnV B 5 bv (cellsB l') W0 wr ∧ Hid (Keeps w wr)) (fun _ nv _ => (intOf nv).toNat)
  case atStart => exact ⟨n, l, hn, rfl, rfl, h, Keeps.refl _⟩
  case round =>
    obtain ⟨m, l', hm, rfl, hE, hO, hKp⟩ := hrel
    have HL : Hid (l'.length + (number m).length ≤ 1000000) := by
      show _ ≤ 1000000
      have := congrArg List.length hE.out
      simp only [List.length_append] at this
      omega
    have HO : Hid _ := hO
    clear hl
    by_cases hb : m < 128
    · have hnum : Hid (number m = [UInt8.ofNat m]) := number_small hb
      have hlen : Hid (l'.length + [UInt8.ofNat m].length ≤ 1000000) := by
        have := HL.out
        rw [hnum.out] at this
        exact this
      go_wp2_with (at_builtin; refine byt_app rfl (.tmp 15) (.tmp 18) rfl (OwnV.alloc HO _) rfl (byt_new (l := [UInt8.ofNat m]) rfl (byte_small hb) rfl) rfl hlen ?_; intro v1 w1 h1 hk1)
      go_ret
      refine ⟨v1, rfl, ?_, hKp.out.trans (Keeps.alloc _ hk1)⟩
      rw [← hE.out, hnum.out]
      exact h1
    · have hnum : Hid (number m = UInt8.ofNat (m % 128 + 128) :: number (m / 128)) := number_big hb
      have hlen : Hid (l'.length + [UInt8.ofNat (m % 128 + 128)].length ≤ 1000000) := by
        show _ ≤ 1000000
        have := HL.out
        rw [hnum.out] at this
        simp at this ⊢
        omega
      go_wp2_with (at_builtin; refine byt_app rfl (.tmp 7) (.tmp 11) rfl (OwnV.alloc HO _) rfl (byt_new (l := [UInt8.ofNat (m % 128 + 128)]) rfl byte_big rfl) rfl hlen ?_; intro v1 w1 h1 hk1)
      go_roundw
      case rel =>
        refine ⟨m / 128, l' ++ [UInt8.ofNat (m % 128 + 128)], by omega, by simp, ?_, h1, hKp.out.trans (Keeps.alloc _ hk1)⟩
        show _ = _
        rw [← hE.out, hnum.out]
        simp
      case measure => simp [intOf]; omega

theorem fitc_num (n : Int) (ao : Option Addr) (cap : Nat) (w : World) (h : -9007199254740992 ≤ n ∧ n ≤ 9007199254740992) : Calls Try.prog 64 #[.agg #[.int .i64 1, .int .i64 n, .string ⟨#[]⟩, .slice ao 0 cap]] w fun e w' => e = .returned (.bool true) ∧ Adds w w' := by
  obtain ⟨h1, h2⟩ := h
  go_enter Try.func64, Try.ntmps64
  go_wp2
  go_ret
  refine ⟨rfl, ?_⟩
  repeat (first | with_reducible exact Adds.refl _ | with_reducible refine Adds.alloc ?_ _ | with_reducible refine Adds.more ?_ _ _ | with_reducible refine Adds.drew ?_ | with_reducible refine Adds.drewN ?_ _)

theorem fitc_text (s : ByteArray) (ao : Option Addr) (cap : Nat) (w : World) : Calls Try.prog 64 #[.agg #[.int .i64 2, .int .i64 0, .string s, .slice ao 0 cap]] w fun e w' => e = .returned (.bool true) ∧ Adds w w' := by
  go_enter Try.func64, Try.ntmps64
  go_wp2
  go_ret
  refine ⟨rfl, ?_⟩
  repeat (first | with_reducible exact Adds.refl _ | with_reducible refine Adds.alloc ?_ _ | with_reducible refine Adds.more ?_ _ _ | with_reducible refine Adds.drew ?_ | with_reducible refine Adds.drewN ?_ _)

theorem fitc_list (v : Value) (w : World) : Calls Try.prog 64 #[.agg #[.int .i64 3, .int .i64 0, .string ⟨#[]⟩, v]] w fun e w' => e = .returned (.bool true) ∧ Adds w w' := by
  go_enter Try.func64, Try.ntmps64
  go_wp2
  go_ret
  refine ⟨rfl, ?_⟩
  repeat (first | with_reducible exact Adds.refl _ | with_reducible refine Adds.alloc ?_ _ | with_reducible refine Adds.more ?_ _ _ | with_reducible refine Adds.drew ?_ | with_reducible refine Adds.drewN ?_ _)

theorem countOf_any (n : Int) (w : World) (h : -9007199254740992 ≤ n ∧ n ≤ 9007199254740992) : Calls Try.prog 53 #[.int .i64 n] w fun e w' => e = .returned (.int .i64 (zig n : Nat)) ∧ w' = w := by
  obtain ⟨h1, h2⟩ := h
  by_cases h0 : n < 0
  · go_enter Try.func53, Try.ntmps53
    go_wp2
    all_goals first
      | (go_ret
         refine ⟨congrArg (fun z => Ending.returned (.int .i64 z)) ?_, rfl⟩
         unfold zig
         rw [if_pos h0]
         omega)
      | (exfalso; omega)
  · go_enter Try.func53, Try.ntmps53
    go_wp2
    go_ret
    refine ⟨congrArg (fun z => Ending.returned (.int .i64 z)) ?_, rfl⟩
    unfold zig
    rw [if_neg (by omega)]
    omega

end Go.Proofs.Ytccddgohagakoaa
