/-
  The function put of package cell, of numbers and texts.
-/
import Derived.Test.YtccddgohagakoaaLpu
import Derived.Lib.AppendStr
namespace Go.Proofs.Ytccddgohagakoaa
open Go.RowKit
attribute [local go_sem] cell?_more frozen?_more setCell_more size_more tape_more drew_more drewN_more more_drew more_drewN one_out plus_out plus_end lt_one le_p2 le_p3 le_p4 le_p5 le_p6 le_p7 le_p8 le_p9 le_p10 le_p11 le_p12 le_p13 le_p14 le_p15 le_p16 le_p17 le_p18 le_p19 le_p20 le_p21 le_p22 le_p23 le_p24 le_q0 le_q1 lt_q1 le_q2 lt_q2 le_q3 lt_q3 le_q4 lt_q4 le_q5 lt_q5 le_q6 lt_q6 le_q7 lt_q7 le_q8 lt_q8 le_q9 lt_q9 le_q10 lt_q10 le_q11 lt_q11 le_q12 lt_q12 le_q13 lt_q13 le_q14 lt_q14 le_q15 lt_q15 le_q16 lt_q16 le_q17 lt_q17 le_q18 lt_q18 le_q19 lt_q19 le_q20 lt_q20 le_q21 lt_q21 le_q22 lt_q22 le_q23 lt_q23 le_q24 lt_q24

theorem byte_one : [Value.int .u8 1] = cellsB [1] := by simp [cellsB]
theorem byte_two : [Value.int .u8 2] = cellsB [2] := by simp [cellsB]
theorem byte_three : [Value.int .u8 3] = cellsB [3] := by simp [cellsB]

theorem box_at (w : World) (o : Obj) (o' : Obj) : ((w.alloc o).alloc o').heap[w.heap.size]? = some o := by
  rw [((Adds.refl (w.alloc o)).alloc o').below.block w.heap.size (by simp)]
  exact new_block w o

set_option maxRecDepth 20000 in
set_option maxHeartbeats 1000000 in
theorem put_num (B : Nat) (lo : Option Addr) (lc : Nat) (v : Value) (l : List UInt8) (W0 w : World) (n : Int) (hn : -9007199254740992 ≤ n ∧ n ≤ 9007199254740992) (hl : l.length ≤ 65536) (h : OwnV B 5 v (cellsB l) W0 w) :
    Calls Try.prog 39 #[v, .agg #[.int .i64 1, .int .i64 n, .string ⟨#[]⟩, .slice lo 0 lc]] w fun e w' => ∃ v', e = .returned v' ∧ OwnV B 5 v' (cellsB (l ++ 1 :: number (zig n))) W0 w' ∧ Keeps w w' := by
  have hz : zig n ≤ 18014398509481984 := by unfold zig; split <;> omega
  have HS : Hid ((number (zig n)).length ≤ 9) := number_len 8 (zig n) (by
    have : (128 : Nat) ^ (8 + 1) = 9223372036854775808 := by decide
    omega)
  obtain ⟨ao, cap, rfl, hcap, _⟩ := Byt.open h.lst
  have HO : Hid _ := h
  have hl1 : Hid (l.length + [(1 : UInt8)].length ≤ 1000000) := by show _ ≤ 1000000; simp; omega
  have hl2 : Hid ((l ++ [1]).length + (number (zig n)).length ≤ 1000000) := by show _ ≤ 1000000; have := HS.out; simp; omega
  go_enter Try.func39, Try.ntmps39
  go_wp2_with (first
    | (go_at_call 53; refine (countOf_any _ _ hn).mono ?_; rintro e w2 ⟨rfl, rfl⟩)
    | (go_at_call 52; refine (putCount_any B _ (l ++ [1]) W0 _ (zig n) (by omega) hl2 H1.out).mono ?_; rintro e w3 ⟨v3, rfl, h3, hk3⟩)
    | (at_builtin; refine byt_app rfl (.tmp 11) (.tmp 15) rfl (OwnV.alloc (OwnV.alloc HO _) _) rfl (byt_new (l := [1]) (by simp) byte_one rfl) rfl hl1 ?_; intro v1 w1 h1 hk1; have b0 := hk1.cell (box_at w _ _) (by decide) 0; have b1 := hk1.cell (box_at w _ _) (by decide) 1; have H1 : Hid _ := h1; have HK1 : Hid _ := hk1; clear h1 hk1; simp at b0 b1))
  go_ret
  refine ⟨v3, rfl, ?_, (Keeps.alloc _ (Keeps.alloc _ HK1.out)).trans hk3⟩
  rw [List.append_assoc] at h3
  exact h3

theorem byt_str {ops : Array Oper} {rest : List Oper} {o : Oper} {a : Act} {w : World} {Q : Exit → Act → World → Prop} (hgd : o.guard = none) (s x : Operand) (ho : o.op = .call { callee := .builtin .append, args := #[s, x], argTypes := #[26, 9] })
    {B : Nat} {v : Value} {l : List UInt8} {W0 : World} (h : OwnV B 5 v (cellsB l) W0 w) (hs : a.eval s = v) {m : List UInt8} (hx : a.eval x = .string ⟨m.toArray⟩) (hlen : l.length + m.length ≤ 1000000)
    (hk : ∀ v' w', OwnV B 5 v' (cellsB (l ++ m)) W0 w' → Keeps w w' → wpList Try.prog ops Q rest (a.put o.dst v') w') : wpList Try.prog ops Q (o :: rest) a w := by
  obtain ⟨i0, hi, hz0, hzs, hzb⟩ := info_parts Try.info5
  have hsz : (⟨m.toArray⟩ : ByteArray).size = m.length := rfl
  refine Lib.wpList_append_own_string w hgd s x 26 9 ho B 5 i0 Try.underlying26 Try.underlying9 hi hz0 hzs hzb v l.length (cellsB l) hs (by have := h.1; rw [cellsB_length] at this; exact this) ⟨m.toArray⟩ hx (by unfold maxLen; rw [hsz]; omega) (by rw [hsz]; omega) h.2.2 ?_
  intro v' w' h2 h3 _
  refine hk v' w' ⟨?_, ?_, Nat.le_trans h.2.2 h3.size⟩ (Keeps.app h h3)
  · rw [cellsB_length, cellsB_append, List.length_append]
    have e : Lib.strCells ⟨m.toArray⟩ = cellsB m := by simp [Lib.strCells, cellsB]
    rw [hsz, e] at h2
    exact h2
  · refine ⟨h3.os.trans h.2.1.os, h3.tape.trans h.2.1.tape, h3.output.trans h.2.1.output, Nat.le_trans h.2.1.size h3.size, fun k hk => ?_⟩
    rw [h3.block k (Nat.lt_of_lt_of_le hk h.2.2) ?_]
    · exact h.2.1.block k hk
    · intro e
      have := h.1.lt k e.symm
      omega



theorem strV_append {B : Nat} {v : Value} {l m : List UInt8} {W0 w : World} (ty : TypeId) (h : OwnV B 5 v (cellsB l) W0 w) (hlen : l.length + m.length ≤ 1000000) :
    ∃ v' w', (Builtin.append_ #[26, 9] ty #[v, .string ⟨m.toArray⟩]).run Try.prog w = .ok v' w' ∧ OwnV B 5 v' (cellsB (l ++ m)) W0 w' ∧ Keeps w w' := by
  obtain ⟨i0, hi, hz0, hzs, hzb⟩ := info_parts Try.info5
  have hsz : (⟨m.toArray⟩ : ByteArray).size = m.length := rfl
  obtain ⟨v', w', hr, h2, h3, _⟩ := Lib.run_append_own_string (P := Try.prog) w B 26 9 ty 5 i0 Try.underlying26 Try.underlying9 hi hz0 hzs hzb v l.length (cellsB l) (by have := h.1; rw [cellsB_length] at this; exact this) ⟨m.toArray⟩ (by unfold maxLen; rw [hsz]; omega) (by rw [hsz]; omega) h.2.2
  refine ⟨v', w', hr, ⟨?_, ?_, Nat.le_trans h.2.2 h3.size⟩, Keeps.app h h3⟩
  · rw [cellsB_length, cellsB_append, List.length_append]
    have e : Lib.strCells ⟨m.toArray⟩ = cellsB m := by simp [Lib.strCells, cellsB]
    rw [hsz, e] at h2
    exact h2
  · refine ⟨h3.os.trans h.2.1.os, h3.tape.trans h.2.1.tape, h3.output.trans h.2.1.output, Nat.le_trans h.2.1.size h3.size, fun k hk => ?_⟩
    rw [h3.block k (Nat.lt_of_lt_of_le hk h.2.2) ?_]
    · exact h.2.1.block k hk
    · intro e
      have := h.1.lt k e.symm
      omega

set_option maxRecDepth 20000 in
set_option maxHeartbeats 1000000 in
theorem put_text (B : Nat) (lo : Option Addr) (lc : Nat) (v : Value) (l m : List UInt8) (W0 w : World) (hm : m.length ≤ 65536) (hl : l.length ≤ 65536) (h : OwnV B 5 v (cellsB l) W0 w) :
    Calls Try.prog 39 #[v, .agg #[.int .i64 2, .int .i64 0, .string ⟨m.toArray⟩, .slice lo 0 lc]] w fun e w' => ∃ v', e = .returned v' ∧ OwnV B 5 v' (cellsB (l ++ 2 :: (number m.length ++ m))) W0 w' ∧ Keeps w w' := by
  have HS : Hid ((number m.length).length ≤ 9) := number_len 8 m.length (by
    have : (128 : Nat) ^ (8 + 1) = 9223372036854775808 := by decide
    omega)
  obtain ⟨ao, cap, rfl, hcap, _⟩ := Byt.open h.lst
  have HO : Hid _ := h
  have hl1 : Hid (l.length + [(2 : UInt8)].length ≤ 1000000) := by show _ ≤ 1000000; simp; omega
  have hl2 : Hid ((l ++ [2]).length + (number m.length).length ≤ 1000000) := by show _ ≤ 1000000; have := HS.out; simp; omega
  have hl3 : Hid ((l ++ [2] ++ number m.length).length + m.length ≤ 1000000) := by show _ ≤ 1000000; have := HS.out; simp; omega
  have hsz : (⟨m.toArray⟩ : ByteArray).size = m.length := rfl
  go_enter Try.func39, Try.ntmps39
  go_wp2_with (at_builtin; refine byt_app rfl (.tmp 11) (.tmp 15) rfl (OwnV.alloc (OwnV.alloc HO _) _) rfl (byt_new (l := [2]) (by simp) byte_two rfl) rfl hl1 ?_; intro v1 w1 h1 hk1; have b0 := hk1.cell (box_at w _ _) (by decide) 0; have b1 := hk1.cell (box_at w _ _) (by decide) 2; have H1 : Hid _ := h1; have HK1 : Hid _ := hk1; clear h1 hk1; simp at b0 b1)
  refine wp_region_any (by kernel_rfl) ?_
  change wpAny _ _ _ _ _ _ _ (World.drew _)
  refine wpAny_take (i := 0) (v := ?_) rfl (by kernel_rfl) (by kernel_rfl) (by kernel_rfl) (fun _ _ _ h => h) (Or.inl ⟨by rfl, fun _ => ?_⟩) ?_
  rotate_left
  · (go_simp; try with_reducible rfl)
  go_simp
  refine wpAny_take (i := 1) (v := ?_) rfl (by kernel_rfl) (by kernel_rfl) (by kernel_rfl) (fun _ _ _ h => h) (Or.inl ⟨by rfl, fun _ => ?_⟩) ?_
  rotate_left
  · (go_simp; try with_reducible rfl)
  go_simp
  refine wpAny_take (i := 5) (v := ?_) rfl (by kernel_rfl) (by kernel_rfl) (by kernel_rfl) (fun _ _ _ h => h) (Or.inl ⟨by rfl, fun _ => ?_⟩) ?_
  rotate_left
  · (go_simp; try with_reducible rfl)
  go_simp
  refine wpAny_ready (rs := [2, 6]) (by kernel_rfl) (by simp) ?_
  refine AllReady.cons rfl (fun K hK => ?_) ?_
  · go_simp
    refine hK _ _ ?_
    clear hK K
    go_simp
    refine wpAny_take (i := 3) (v := ?_) rfl (by kernel_rfl) (by kernel_rfl) (by kernel_rfl) (fun _ _ _ h => h) (Or.inl ⟨by rfl, fun _ => ?_⟩) ?_
    rotate_left
    · (go_simp; try with_reducible rfl)
    go_simp
    refine wpAny_ready (rs := [4, 6]) (by kernel_rfl) (by simp) ?_
    refine AllReady.cons rfl (fun K hK => ?_) ?_
    · go_simp
      go_wp2_with (go_at_call 52; refine (putCount_any B _ (l ++ [2]) W0 _ m.length (by omega) hl2 (by exact OwnV.adds H1.out (by repeat (first | with_reducible exact Adds.refl _ | with_reducible refine Adds.alloc ?_ _ | with_reducible refine Adds.more ?_ _ _ | with_reducible refine Adds.drew ?_ | with_reducible refine Adds.drewN ?_ _)))).mono ?_; rintro e w3 ⟨v3, rfl, h3, hk3'⟩; have hk3 : Keeps w1 w3 := (Keeps.of_adds (by repeat (first | with_reducible exact Adds.refl _ | with_reducible refine Adds.alloc ?_ _ | with_reducible refine Adds.more ?_ _ _ | with_reducible refine Adds.drew ?_ | with_reducible refine Adds.drewN ?_ _))).trans hk3'; clear hk3'; have b2 := (Keeps.trans HK1.out hk3).cell (box_at w _ _) (by decide) 2; have H3 : Hid _ := h3; have HK3 : Hid (Keeps w1 w3) := hk3; clear h3 hk3; simp at b2)
      try (refine hK _ _ ?_; clear hK K)
      go_simp
      refine wpAny_ready (rs := [6]) (by kernel_rfl) (by simp) ?_
      refine AllReady.cons rfl (fun K hK => ?_) ?_
      · go_simp
        refine hK _ _ ?_
        clear hK K
        go_simp
        refine wpAny_ready (rs := [7]) (by kernel_rfl) (by simp) ?_
        refine AllReady.cons rfl (fun K hK => ?_) ?_
        · rw [if_pos (by rfl)]
          obtain ⟨v4, w4, hr4, h4, hk4⟩ := strV_append (m := m) 26 H3.out hl3
          refine Lib.wp_append_run _ (.tmp 32) (.tmp 34) 26 9 rfl _ _ rfl rfl v4 w4 hr4 ?_
          clear hr4
          refine hK _ _ ?_
          clear hK K
          go_simp
          refine wpAny_take (i := 8) (v := ?_) rfl (by kernel_rfl) (by kernel_rfl) (by kernel_rfl) (fun _ _ _ h => h) (Or.inl ⟨by rfl, fun _ => ?_⟩) ?_
          rotate_left
          · (go_simp; try with_reducible rfl)
          go_simp
          refine wpAny_done (by kernel_rfl) ?_ _
          go_wp2
          go_ret
          refine ⟨v4, rfl, ?_, (Keeps.trans (Keeps.alloc _ (Keeps.alloc _ HK1.out)) HK3.out).trans hk4⟩
          simp only [List.append_assoc, List.singleton_append] at h4
          exact h4
        exact AllReady.nil
      exact AllReady.nil
    refine AllReady.cons rfl (fun K hK => ?_) ?_
    · go_simp
      refine hK _ _ ?_
      clear hK K
      go_simp
      refine wpAny_ready (rs := [4]) (by kernel_rfl) (by simp) ?_
      refine AllReady.cons rfl (fun K hK => ?_) ?_
      · go_simp
        go_wp2_with (go_at_call 52; refine (putCount_any B _ (l ++ [2]) W0 _ m.length (by omega) hl2 (by exact OwnV.adds H1.out (by repeat (first | with_reducible exact Adds.refl _ | with_reducible refine Adds.alloc ?_ _ | with_reducible refine Adds.more ?_ _ _ | with_reducible refine Adds.drew ?_ | with_reducible refine Adds.drewN ?_ _)))).mono ?_; rintro e w3 ⟨v3, rfl, h3, hk3'⟩; have hk3 : Keeps w1 w3 := (Keeps.of_adds (by repeat (first | with_reducible exact Adds.refl _ | with_reducible refine Adds.alloc ?_ _ | with_reducible refine Adds.more ?_ _ _ | with_reducible refine Adds.drew ?_ | with_reducible refine Adds.drewN ?_ _))).trans hk3'; clear hk3'; have b2 := (Keeps.trans HK1.out hk3).cell (box_at w _ _) (by decide) 2; have H3 : Hid _ := h3; have HK3 : Hid (Keeps w1 w3) := hk3; clear h3 hk3; simp at b2)
        try (refine hK _ _ ?_; clear hK K)
        go_simp
        refine wpAny_ready (rs := [7]) (by kernel_rfl) (by simp) ?_
        refine AllReady.cons rfl (fun K hK => ?_) ?_
        · rw [if_pos (by rfl)]
          obtain ⟨v4, w4, hr4, h4, hk4⟩ := strV_append (m := m) 26 H3.out hl3
          refine Lib.wp_append_run _ (.tmp 32) (.tmp 34) 26 9 rfl _ _ rfl rfl v4 w4 hr4 ?_
          clear hr4
          refine hK _ _ ?_
          clear hK K
          go_simp
          refine wpAny_take (i := 8) (v := ?_) rfl (by kernel_rfl) (by kernel_rfl) (by kernel_rfl) (fun _ _ _ h => h) (Or.inl ⟨by rfl, fun _ => ?_⟩) ?_
          rotate_left
          · (go_simp; try with_reducible rfl)
          go_simp
          refine wpAny_done (by kernel_rfl) ?_ _
          go_wp2
          go_ret
          refine ⟨v4, rfl, ?_, (Keeps.trans (Keeps.alloc _ (Keeps.alloc _ HK1.out)) HK3.out).trans hk4⟩
          simp only [List.append_assoc, List.singleton_append] at h4
          exact h4
        exact AllReady.nil
      exact AllReady.nil
    exact AllReady.nil
  refine AllReady.cons rfl (fun K hK => ?_) ?_
  · go_simp
    refine hK _ _ ?_
    clear hK K
    go_simp
    refine wpAny_ready (rs := [2]) (by kernel_rfl) (by simp) ?_
    refine AllReady.cons rfl (fun K hK => ?_) ?_
    · go_simp
      refine hK _ _ ?_
      clear hK K
      go_simp
      refine wpAny_take (i := 3) (v := ?_) rfl (by kernel_rfl) (by kernel_rfl) (by kernel_rfl) (fun _ _ _ h => h) (Or.inl ⟨by rfl, fun _ => ?_⟩) ?_
      rotate_left
      · (go_simp; try with_reducible rfl)
      go_simp
      refine wpAny_ready (rs := [4]) (by kernel_rfl) (by simp) ?_
      refine AllReady.cons rfl (fun K hK => ?_) ?_
      · go_simp
        go_wp2_with (go_at_call 52; refine (putCount_any B _ (l ++ [2]) W0 _ m.length (by omega) hl2 (by exact OwnV.adds H1.out (by repeat (first | with_reducible exact Adds.refl _ | with_reducible refine Adds.alloc ?_ _ | with_reducible refine Adds.more ?_ _ _ | with_reducible refine Adds.drew ?_ | with_reducible refine Adds.drewN ?_ _)))).mono ?_; rintro e w3 ⟨v3, rfl, h3, hk3'⟩; have hk3 : Keeps w1 w3 := (Keeps.of_adds (by repeat (first | with_reducible exact Adds.refl _ | with_reducible refine Adds.alloc ?_ _ | with_reducible refine Adds.more ?_ _ _ | with_reducible refine Adds.drew ?_ | with_reducible refine Adds.drewN ?_ _))).trans hk3'; clear hk3'; have b2 := (Keeps.trans HK1.out hk3).cell (box_at w _ _) (by decide) 2; have H3 : Hid _ := h3; have HK3 : Hid (Keeps w1 w3) := hk3; clear h3 hk3; simp at b2)
        try (refine hK _ _ ?_; clear hK K)
        go_simp
        refine wpAny_ready (rs := [7]) (by kernel_rfl) (by simp) ?_
        refine AllReady.cons rfl (fun K hK => ?_) ?_
        · rw [if_pos (by rfl)]
          obtain ⟨v4, w4, hr4, h4, hk4⟩ := strV_append (m := m) 26 H3.out hl3
          refine Lib.wp_append_run _ (.tmp 32) (.tmp 34) 26 9 rfl _ _ rfl rfl v4 w4 hr4 ?_
          clear hr4
          refine hK _ _ ?_
          clear hK K
          go_simp
          refine wpAny_take (i := 8) (v := ?_) rfl (by kernel_rfl) (by kernel_rfl) (by kernel_rfl) (fun _ _ _ h => h) (Or.inl ⟨by rfl, fun _ => ?_⟩) ?_
          rotate_left
          · (go_simp; try with_reducible rfl)
          go_simp
          refine wpAny_done (by kernel_rfl) ?_ _
          go_wp2
          go_ret
          refine ⟨v4, rfl, ?_, (Keeps.trans (Keeps.alloc _ (Keeps.alloc _ HK1.out)) HK3.out).trans hk4⟩
          simp only [List.append_assoc, List.singleton_append] at h4
          exact h4
        exact AllReady.nil
      exact AllReady.nil
    exact AllReady.nil
  exact AllReady.nil

end Go.Proofs.Ytccddgohagakoaa
