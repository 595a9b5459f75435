/-
  The reference's row of values, by laws.
-/
import Derived.Test.YtiacnmcdfpmcfaaGreatDoorValo
import Derived.Test.YtiacnmcdfpmcfaaGreatDoorJump
import Derived.Test.YtiacnmcdfpmcfaaGreatDoorQ20
import Derived.Test.YtiacnmcdfpmcfaaGreatDoorRdr
import Derived.Test.YtiacnmcdfpmcfaaGreatDoorRmul
namespace Go.Proofs.YtiacnmcdfpmcfaaGreatDoor
open Go.RowKit
attribute [local go_sem] cell?_more frozen?_more setCell_more size_more tape_more drew_more drewN_more more_drew more_drewN one_out plus_out plus_end lt_one le_p2 le_p3 le_p4 le_p5 le_p6 le_p7 le_p8 le_p9 le_p10 le_p11 le_p12 le_p13 le_p14 le_p15 le_p16 le_p17 le_p18 le_p19 le_p20 le_p21 le_p22 le_p23 le_p24 le_q0 le_q1 lt_q1 le_q2 lt_q2 le_q3 lt_q3 le_q4 lt_q4 le_q5 lt_q5 le_q6 lt_q6 le_q7 lt_q7 le_q8 lt_q8 le_q9 lt_q9 le_q10 lt_q10 le_q11 lt_q11 le_q12 lt_q12 le_q13 lt_q13 le_q14 lt_q14 le_q15 lt_q15 le_q16 lt_q16 le_q17 lt_q17 le_q18 lt_q18 le_q19 lt_q19 le_q20 lt_q20 le_q21 lt_q21 le_q22 lt_q22 le_q23 lt_q23 le_q24 lt_q24


/-- A row of values. -/
def V.cells (v : V) : List Value := [.int .i64 v.kind, .int .i64 v.num, .string v.text, .int .i64 v.re, .int .i64 v.im]
def cellsV (vs : List V) : List Value := vs.flatMap V.cells
theorem cellsV_length (vs : List V) : (cellsV vs).length = vs.length * 5 := by
  induction vs with
  | nil => rfl
  | cons f r ih =>
    simp only [cellsV, List.flatMap_cons, List.length_append, List.length_cons] at *
    rw [ih]
    simp [V.cells]
    omega
theorem cellsV_append (l t : List V) : cellsV (l ++ t) = cellsV l ++ cellsV t := by simp [cellsV]

theorem Tryz.info87 : (Tryz.prog.info? 87).map (fun i => (i.zero, i.size, i.bytes)) = some (some (.agg #[.int .i64 0, .int .i64 0, .string ⟨#[]⟩, .int .i64 0, .int .i64 0]), 5, 48) := by kernel_rfl

theorem own_adds {B : Nat} {e : TypeId} {sz : Nat} {W X : World} {v : Value} {n : Nat} {xs : List Value} (h : W.ownsRow B e sz v n xs) (hA : Adds W X) : X.ownsRow B e sz v n xs := by
  have hb := hA.below
  have hg : W.grownBy X none := ⟨hb.os, hb.tape, hb.output, hb.size, fun k hk _ => hb.block k hk⟩
  refine h.kept hg ?_
  cases v.ownBlock with
  | none => exact .inl rfl
  | some k => exact .inr (by simp)

/-- append of one value, that lies in a block of its own. -/
theorem val_app {ops : Array Oper} {rest : List Oper} {o : Oper} {a : Act} {X : World} {Q : Exit → Act → World → Prop} (hgd : o.guard = none) (s x : Operand) (ho : o.op = .call { callee := .builtin .append, args := #[s, x], argTypes := #[103, 103] })
    {B : Nat} {W : World} {v : Value} {vs : List V} {k n : Int} {t : ByteArray} {re im : Int} (h : W.ownsRow B 87 5 v vs.length (cellsV vs)) (hA : Adds W X) (hB : B ≤ W.heap.size) (hs : a.eval s = v) {kk c : Nat} (hkk : kk = X.heap.size) (hx : a.eval x = .slice (some ⟨kk, 0, none⟩) 1 c) (hlen : vs.length ≤ 10000)
    (hk : ∀ v' w', w'.ownsRow B 87 5 v' (vs ++ [(⟨k, n, t, re, im⟩ : V)]).length (cellsV (vs ++ [(⟨k, n, t, re, im⟩ : V)])) → (X.alloc (.cells #[.int .i64 k, .int .i64 n, .string t, .int .i64 re, .int .i64 im] 87)).grownBy w' v.ownBlock → wpList Tryz.prog ops Q rest (a.put o.dst v') w') :
    wpList Tryz.prog ops Q (o :: rest) a (X.alloc (.cells #[.int .i64 k, .int .i64 n, .string t, .int .i64 re, .int .i64 im] 87)) := by
  obtain ⟨i0, hi, hz0, hz1, hz2⟩ := info_parts Tryz.info87
  have h' := own_adds h (hA.alloc (.cells #[.int .i64 k, .int .i64 n, .string t, .int .i64 re, .int .i64 im] 87))
  have hnews : ∀ j y, (V.cells ⟨k, n, t, re, im⟩)[j]? = some y → (X.alloc (.cells #[.int .i64 k, .int .i64 n, .string t, .int .i64 re, .int .i64 im] 87)).cell? ((⟨kk, 0, none⟩ : Addr).add j) = some y := by
    intro j y hj
    rw [Addr.add_lit, Nat.zero_add]
    exact cell_new hkk hj
  have hone : ∀ u ∈ V.cells ⟨k, n, t, re, im⟩, u.oneCell' = true := by
    intro u hu
    simp only [V.cells, List.mem_cons, List.mem_nil_iff, or_false] at hu
    rcases hu with rfl | rfl | rfl | rfl | rfl <;> rfl
  have hB' : B ≤ (X.alloc (.cells #[.int .i64 k, .int .i64 n, .string t, .int .i64 re, .int .i64 im] 87)).heap.size := by
    have := hA.below.size
    simp
    omega
  obtain ⟨v', w', h1, h2, h3, _⟩ := run_append_own (P := Tryz.prog) _ B 103 o.type 87 i0 _ 5 48 Tryz.underlying103 hi hz0 hz1 hz2 rfl (by decide) v vs.length (cellsV vs) h' ⟨kk, 0, none⟩ 1 c (V.cells ⟨k, n, t, re, im⟩) rfl hnews hone (by unfold maxLen; omega) (by omega) hB'
  refine Lib.wpList_append_run _ hgd s x 103 103 ho v _ hs hx v' w' h1 (hk v' w' ?_ h3)
  rw [cellsV_append, List.length_append]
  have e1 : cellsV [(⟨k, n, t, re, im⟩ : V)] = V.cells ⟨k, n, t, re, im⟩ := by simp [cellsV]
  rw [e1]
  exact h2

theorem grown_adds {w1 Y w6 : World} {lv : Value} (hA : Adds w1 Y) (hg : Y.grownBy w6 lv.ownBlock) (hB : ∀ k, lv.ownBlock = some k → w1.heap.size ≤ k) : Adds w1 w6 := by
  have hb := hA.below
  refine Adds.of ⟨hg.os.trans hb.os, hg.tape.trans hb.tape, hg.output.trans hb.output, Nat.le_trans hb.size hg.size, fun k hk => ?_⟩
  rw [hg.block k (Nat.lt_of_lt_of_le hk hb.size) (fun e => by have := hB k e.symm; omega)]
  exact hb.block k hk

theorem own_empty {X : World} {B k : Nat} (hk : k = X.heap.size) (hB : B ≤ X.heap.size) : (X.alloc (.cells #[] 87)).ownsRow B 87 5 (.slice (some ⟨k, 0, none⟩) 0 0) 0 [] := by
  subst hk
  exact ⟨rfl, .inr ⟨X.heap.size, 0, #[], rfl, hB, new_block _ _, Nat.le_refl _, by unfold maxLen; omega, rfl, rfl⟩⟩

/-- What lies in a row of values. -/
theorem own_one {W : World} {B : Nat} {lv : Value} {x : V} (h : W.ownsRow B 87 5 lv 1 (cellsV [x])) : ∃ g cap, lv = .slice (some ⟨g, 0, none⟩) 1 cap ∧ g < W.heap.size ∧ W.cell? ⟨g, 0, none⟩ = some (.int .i64 x.kind) ∧ W.cell? ⟨g, 1, none⟩ = some (.int .i64 x.num) ∧ W.cell? ⟨g, 2, none⟩ = some (.string x.text) ∧ W.cell? ⟨g, 3, none⟩ = some (.int .i64 x.re) ∧ W.cell? ⟨g, 4, none⟩ = some (.int .i64 x.im) := by
  rcases h.2 with ⟨_, h0⟩ | ⟨g, cap, cur, rfl, hb, hg, _⟩
  · omega
  · have hc := fun j hj => World.ownsRow.cellAt h j hj
    exact ⟨g, cap, rfl, lt_of_some hg, hc 0 (by omega), hc 1 (by omega), hc 2 (by omega), hc 3 (by omega), hc 4 (by omega)⟩

theorem own_two {W : World} {B : Nat} {lv : Value} {x y : V} (h : W.ownsRow B 87 5 lv 2 (cellsV [x, y])) : ∃ g cap, lv = .slice (some ⟨g, 0, none⟩) 2 cap ∧ g < W.heap.size ∧ (W.cell? ⟨g, 0, none⟩ = some (.int .i64 x.kind) ∧ W.cell? ⟨g, 1, none⟩ = some (.int .i64 x.num) ∧ W.cell? ⟨g, 2, none⟩ = some (.string x.text) ∧ W.cell? ⟨g, 3, none⟩ = some (.int .i64 x.re) ∧ W.cell? ⟨g, 4, none⟩ = some (.int .i64 x.im)) ∧
    W.cell? ⟨g, 5, none⟩ = some (.int .i64 y.kind) ∧ W.cell? ⟨g, 6, none⟩ = some (.int .i64 y.num) ∧ W.cell? ⟨g, 7, none⟩ = some (.string y.text) ∧ W.cell? ⟨g, 8, none⟩ = some (.int .i64 y.re) ∧ W.cell? ⟨g, 9, none⟩ = some (.int .i64 y.im) := by
  rcases h.2 with ⟨_, h0⟩ | ⟨g, cap, cur, rfl, hb, hg, _⟩
  · omega
  · have hc := fun j hj => World.ownsRow.cellAt h j hj
    exact ⟨g, cap, rfl, lt_of_some hg, ⟨hc 0 (by omega), hc 1 (by omega), hc 2 (by omega), hc 3 (by omega), hc 4 (by omega)⟩, hc 5 (by omega), hc 6 (by omega), hc 7 (by omega), hc 8 (by omega), hc 9 (by omega)⟩

/-- The values of all kids, if they all have one. -/
def kidsV (fs : List F) : List E → Option (List V)
  | [] => some []
  | c :: r => (valE fs c).bind fun x => (kidsV fs r).bind fun l => some (x :: l)
def E.kids : E → List E
  | .path _ => []
  | .num _ => []
  | .sum a b => [a, b]
  | .mul a b => [a, b]
  | .call _ a => [a]
theorem E.kids_args (e : E) : e.toN.args = e.kids.map E.toN := by cases e <;> rfl

/-- The sum, ahead of the question whether it fits. -/
def sumR (a b : V) : Option V :=
  if a.kind ≠ b.kind then none
  else if a.kind = 1 then some (V.mkNum (a.num + b.num))
  else if a.kind = 2 then some (V.mkText (a.text ++ b.text))
  else some (V.mkPoint (a.re + b.re) (a.im + b.im))

/-- What is known in the loop over the kids. -/
structure Kn (fs : List F) (cs : List E) (w1 wr : World) (lv : Value) (j : Nat) (vs : List V) : Prop where
  len : vs.length = j
  val : kidsV fs cs = (kidsV fs (cs.drop j)).bind fun l => some (vs ++ l)
  good : ∀ v ∈ vs, v.check = 0
  own : wr.ownsRow w1.heap.size 87 5 lv vs.length (cellsV vs)
  adds : Adds w1 wr

theorem Kn.none {fs : List F} {cs : List E} {w1 wr : World} {lv : Value} {j : Nat} {vs : List V} (h : Kn fs cs w1 wr lv j vs) (hj : j < cs.length) (hv : valE fs cs[j] = none) : kidsV fs cs = none := by
  rw [h.val, List.drop_eq_getElem_cons hj, kidsV, hv]
  rfl

theorem Kn.push {fs : List F} {cs : List E} {w1 wr X w6 : World} {lv v' : Value} {j : Nat} {vs : List V} {k n : Int} {t : ByteArray} {re im : Int} (h : Kn fs cs w1 wr lv j vs) (hj : j < cs.length) (hv : valE fs cs[j] = some ⟨k, n, t, re, im⟩) (hc : (⟨k, n, t, re, im⟩ : V).check = 0) (hA : Adds wr X)
    (ho : w6.ownsRow w1.heap.size 87 5 v' (vs ++ [(⟨k, n, t, re, im⟩ : V)]).length (cellsV (vs ++ [(⟨k, n, t, re, im⟩ : V)]))) (hg : (X.alloc (.cells #[.int .i64 k, .int .i64 n, .string t, .int .i64 re, .int .i64 im] 87)).grownBy w6 lv.ownBlock) :
    Kn fs cs w1 w6 v' (j + 1) (vs ++ [(⟨k, n, t, re, im⟩ : V)]) := by
  refine ⟨by simp [h.len], ?_, ?_, ho, grown_adds ((h.adds.trans hA).alloc _) hg (fun k hk => (h.own.lt k hk).1)⟩
  · rw [h.val, List.drop_eq_getElem_cons hj, kidsV, hv]
    cases kidsV fs (cs.drop (j + 1)) <;> simp
  · intro v hv
    rcases List.mem_append.1 hv with hv | hv
    · exact h.good v hv
    · simp only [List.mem_singleton] at hv
      rw [hv]
      exact hc

theorem Kn.last {fs : List F} {cs : List E} {w1 wr : World} {lv : Value} {vs : List V} (h : Kn fs cs w1 wr lv cs.length vs) : kidsV fs cs = some vs := by
  rw [h.val, List.drop_length]
  simp [kidsV]

end Go.Proofs.YtiacnmcdfpmcfaaGreatDoor
