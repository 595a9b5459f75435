/-
  The function Insert of package slices, of one entry, by a contract.
-/
import Derived.Test.YtpjhohmbifpogaaCls
import Derived.Lib.SlBuf
import Derived.Lib.Overlaps
import Derived.Deep.RegionLaw
import Derived.Laws.CopyRow
namespace Go.Proofs.Ytpjhohmbifpogaa
open Go.RowKit
attribute [local go_sem] cell?_more frozen?_more setCell_more size_more tape_more drew_more drewN_more more_drew more_drewN one_out plus_out plus_end lt_one le_p2 le_p3 le_p4 le_p5 le_p6 le_p7 le_p8 le_p9 le_p10 le_p11 le_p12 le_p13 le_p14 le_p15 le_p16 le_p17 le_p18 le_p19 le_p20 le_p21 le_p22 le_p23 le_p24 le_q0 le_q1 lt_q1 le_q2 lt_q2 le_q3 lt_q3 le_q4 lt_q4 le_q5 lt_q5 le_q6 lt_q6 le_q7 lt_q7 le_q8 lt_q8 le_q9 lt_q9 le_q10 lt_q10 le_q11 lt_q11 le_q12 lt_q12 le_q13 lt_q13 le_q14 lt_q14 le_q15 lt_q15 le_q16 lt_q16 le_q17 lt_q17 le_q18 lt_q18 le_q19 lt_q19 le_q20 lt_q20 le_q21 lt_q21 le_q22 lt_q22 le_q23 lt_q23 le_q24 lt_q24

theorem run_copy2 (w : World) (ty : TypeId) (g o dLen dCap : Nat) (a : Addr) (sLen sCap : Nat) (cur : Array Value) (t : TypeId) (cs : List Value) (k : Nat)
    (hg : w.heap[g]? = some (.cells cur t (0, 0))) (hk : Nat.min sLen dLen = k) (hn : cs.length = k * 2)
    (hsrc : ∀ j v, cs[j]? = some v → w.cell? (a.add j) = some v) (hfit : o + cs.length ≤ cur.size) (h1 : ∀ v ∈ cs, v.oneCell' = true) :
    (Builtin.copy_ #[23, 23] ty #[.slice (some ⟨g, o, none⟩) dLen dCap, .slice (some a) sLen sCap]).run Try.prog w =
      .ok (goInt k) (w.setRow g (cur.toList.take o ++ cs ++ cur.toList.drop (o + cs.length)).toArray) := by
  have hl := run_loadCells_list (P := Try.prog) w a cs hsrc
  have hst := run_storeCells_at Try.prog g o t cs 0 cur w hg (by simpa using hfit) h1
  obtain ⟨i0, hi, hz0, hz1, hz2⟩ := info_parts Try.info43
  rw [hn] at hl
  simp [Builtin.copy_, run_underlying Try.underlying23, Builtin.lenOf, Builtin.firstCells, sizeOf, typeInfo, hi, hz1, hk, hl, hst]

/-- A piece laid over a row. -/
def over (C : List Value) (o : Nat) (vs : List Value) : List Value := C.take o ++ vs ++ C.drop (o + vs.length)

theorem over_length (C : List Value) (o : Nat) (vs : List Value) (h : o + vs.length ≤ C.length) : (over C o vs).length = C.length := by
  simp [over]
  omega

/-- What is put in between, where the row has room. -/
theorem over_shift (C X Y V : List Value) (a b : Nat) (hX : X.length = a) (hV : V.length = b) (hC : C.take (a + Y.length) = X ++ Y) (hr : a + b + Y.length ≤ C.length) :
    (over (over C (a + b) Y) a V).take (a + b + Y.length) = X ++ V ++ Y := by
  subst hX hV
  have h1 : C.take X.length = X := by
    have := congrArg (List.take X.length) hC
    rw [List.take_take, Nat.min_eq_left (by omega)] at this
    rw [this]
    simp
  have h2 : (C.take (X.length + V.length)).length = X.length + V.length := by rw [List.length_take]; omega
  have h3 : (over C (X.length + V.length) Y).take X.length = X := by
    unfold over
    rw [List.append_assoc, List.take_append_of_le_length (by omega), List.take_take, Nat.min_eq_left (by omega), h1]
  have h4 : (over C (X.length + V.length) Y).drop (X.length + V.length) = Y ++ C.drop (X.length + V.length + Y.length) := by
    unfold over
    rw [List.append_assoc, List.drop_append_of_le_length (by omega), List.drop_of_length_le (by omega)]
    simp
  show (List.take X.length (over C (X.length + V.length) Y) ++ V ++ List.drop (X.length + V.length) (over C (X.length + V.length) Y)).take _ = _
  rw [h3, h4, ← List.append_assoc, List.take_append_of_le_length (by simp; omega), List.take_of_length_le (by simp; omega)]

/-- What is laid behind a beginning, into a new row. -/
theorem over_grow (C X Y V : List Value) (a b : Nat) (hX : X.length = a) (hV : V.length = b) (hC : C.take a = X) (hr : a + b + Y.length ≤ C.length) :
    (over (over C a V) (a + b) Y).take (a + b + Y.length) = X ++ V ++ Y := by
  subst hX hV
  have h3 : (over C X.length V).take (X.length + V.length) = X ++ V := by
    unfold over
    rw [hC, List.take_append_of_le_length (by simp), List.take_of_length_le (by simp)]
  show (List.take (X.length + V.length) (over C X.length V) ++ Y ++ List.drop (X.length + V.length + Y.length) (over C X.length V)).take _ = _
  rw [h3, List.take_append_of_le_length (by simp; omega), List.take_of_length_le (by simp; omega)]

theorem setRow_grown (w : World) (g : Nat) (C : Array Value) : w.grownBy (w.setRow g C) (some g) := by
  refine ⟨rfl, rfl, rfl, by simp [World.setRow], fun k hk hne => ?_⟩
  have : g ≠ k := fun e => hne (by rw [e])
  simp [World.setRow, Array.getElem?_modify, this]

theorem step_copy {ops : Array Oper} {o : Oper} {a : Act} {w : World} {K : Act → World → Prop} {Q : Exit → Act → World → Prop} {E : Prop}
    (hg : o.guard = none) (d x : Operand) (dT sT : TypeId) (hop : o.op = Op.call { callee := Callee.builtin Builtin.copy, args := #[d, x], argTypes := #[dT, sT] })
    (v u : Value) (hd : a.eval d = v) (hx : a.eval x = u) {v' : Value} {w' : World} (hr : (Builtin.copy_ #[dT, sT] o.type #[v, u]).run Try.prog w = .ok v' w') (hK : K (a.put o.dst v') w') :
    if Region.wanted o (yielded ops a.tmps) = true then Oper.wp Try.prog o a w K Q else E := by
  rw [if_pos (by simp [Region.wanted, hg])]
  exact Lib.wp_copy_run w d x dT sT hop v u hd hx hr hK

theorem ownsRow_cases {w : World} {B : Nat} {v : Value} {n : Nat} {xs : List Value} (h : w.ownsRow B 43 2 v n xs) : (v = .slice none 0 0 ∧ n = 0) ∨ ∃ g cap, v = .slice (some ⟨g, 0, none⟩) n cap ∧ n ≤ cap ∧ cap ≤ maxLen := by
  rcases h.2 with h | ⟨g, cap, cur, rfl, _, _, h1, h2, _, _⟩
  · exact .inl h
  · exact .inr ⟨g, cap, rfl, h1, h2⟩

theorem ownS_appg {ops : Array Oper} {rest : List Oper} {o : Oper} {a : Act} {w : World} {Q : Exit → Act → World → Prop} (hgd : o.guard = none) (s x : Operand) (ho : o.op = .call { callee := .builtin .append, args := #[s, x], argTypes := #[23, 23] })
    {B : Nat} {v : Value} {fs : List Sb} {W0 : World} (h : OwnS B v fs W0 w) (hs : a.eval s = v) {x' : Value} {gs : List Sb} (hg : LstS w x' gs) (hx : a.eval x = x') (hlen : fs.length + gs.length ≤ 100000)
    (hk : ∀ v' w', OwnS B v' (fs ++ gs) W0 w' → w.grownBy w' v.ownBlock → wpList Try.prog ops Q rest (a.put o.dst v') w') : wpList Try.prog ops Q (o :: rest) a w := by
  obtain ⟨v', w', hr, h2, h3⟩ := ownS_append w B o.type v fs W0 h x' gs hg hlen
  exact Lib.wpList_append_run w hgd s x 23 23 ho v x' hs hx v' w' hr (hk v' w' h2 h3)

set_option maxHeartbeats 1000000 in
set_option maxRecDepth 20000 in
theorem insert_end (B : Nat) (v : Value) (fs : List Sb) (W0 w : World) (h : OwnS B v fs W0 w) (f : Sb) (x : Value) (hx : LstS w x [f]) (hle : fs.length ≤ 1000) :
    Calls Try.prog 42 #[v, .int .i64 (fs.length : Nat), x] w fun e w' => ∃ v', e = .returned v' ∧ OwnS B v' (fs ++ [f]) W0 w' ∧ w.grownBy w' v.ownBlock := by
  rcases ownsRow_cases h.1 with ⟨rfl, h0⟩ | ⟨g, cap, rfl, hnc, hcm⟩
  · have h00 : fs = [] := List.eq_nil_of_length_eq_zero h0
    subst h00
    obtain ⟨xo, xc, rfl, hxc, hxo⟩ := id hx
    go_enter Try.func42, Try.ntmps42
    go_wp2_with (at_builtin; refine ownS_appg rfl (.tmp 23) (.tmp 24) rfl h rfl hx rfl (by simp) ?_; intro v2 w2 hown2 hgr2)
    go_ret
    exact ⟨_, rfl, hown2, hgr2⟩
  · obtain ⟨xo, xc, rfl, hxc, hxo⟩ := id hx
    have hl1 : (fs.length : Int) ≤ (cap : Int) := by omega
    have hcm' : cap ≤ 9223372036854775807 := by unfold maxLen at hcm; omega
    clear hcm
    by_cases hc : cap = fs.length
    all_goals
      go_enter Try.func42, Try.ntmps42
      go_wp2_with (at_builtin; refine ownS_appg rfl (.tmp 23) (.tmp 24) rfl h rfl hx rfl (by simp only [List.length_singleton]; omega) ?_; intro v2 w2 hown2 hgr2)
      go_ret
      exact ⟨_, rfl, hown2, hgr2⟩

end Go.Proofs.Ytpjhohmbifpogaa
