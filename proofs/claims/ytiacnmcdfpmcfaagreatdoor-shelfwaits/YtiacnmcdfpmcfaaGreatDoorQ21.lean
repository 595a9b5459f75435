/-
  The reference's row of values, by laws.
  A row of nodes that grows.
  The reference's name, plain and depth, by contracts.
-/
import Derived.Test.YtiacnmcdfpmcfaaGreatDoorQ19
import Derived.Test.YtiacnmcdfpmcfaaGreatDoorQ04
import Derived.Test.YtiacnmcdfpmcfaaGreatDoorQ18
import Derived.Test.YtiacnmcdfpmcfaaGreatDoorQ03
import Derived.Test.YtiacnmcdfpmcfaaGreatDoorQ20
import Derived.Test.YtiacnmcdfpmcfaaGreatDoorQ14
import Derived.Test.YtiacnmcdfpmcfaaGreatDoorQ01
namespace Go.Proofs.YtiacnmcdfpmcfaaGreatDoor
open Go.RowKit
attribute [local go_sem] cell?_more frozen?_more setCell_more size_more tape_more drew_more drewN_more more_drew more_drewN one_out plus_out plus_end lt_one le_p2 le_p3 le_p4 le_p5 le_p6 le_p7 le_p8 le_p9 le_p10 le_p11 le_p12 le_p13 le_p14 le_p15 le_p16 le_p17 le_p18 le_p19 le_p20 le_p21 le_p22 le_p23 le_p24 le_q0 le_q1 lt_q1 le_q2 lt_q2 le_q3 lt_q3 le_q4 lt_q4 le_q5 lt_q5 le_q6 lt_q6 le_q7 lt_q7 le_q8 lt_q8 le_q9 lt_q9 le_q10 lt_q10 le_q11 lt_q11 le_q12 lt_q12 le_q13 lt_q13 le_q14 lt_q14 le_q15 lt_q15 le_q16 lt_q16 le_q17 lt_q17 le_q18 lt_q18 le_q19 lt_q19 le_q20 lt_q20 le_q21 lt_q21 le_q22 lt_q22 le_q23 lt_q23 le_q24 lt_q24


/-- A row of values. -/
def V.cells (v : V) : List Value := [.int .i64 v.kind, .int .i64 v.num, .string v.text, .int .i64 v.re, .int .i64 v.im]
def cellsV (vs : List V) : List Value := vs.flatMap V.cells
theorem cellsV_length (vs : List V) : (cellsV vs).length = vs.length * 5 := by
  induction vs with
  | nil => rfl
  | cons f r ih =>
    simp only [cellsV, List.flatMap_cons, List.length_append, List.length_cons] at *
    rw [ih]
    simp [V.cells]
    omega
theorem cellsV_append (l t : List V) : cellsV (l ++ t) = cellsV l ++ cellsV t := by simp [cellsV]

theorem Tryz.info87 : (Tryz.prog.info? 87).map (fun i => (i.zero, i.size, i.bytes)) = some (some (.agg #[.int .i64 0, .int .i64 0, .string ⟨#[]⟩, .int .i64 0, .int .i64 0]), 5, 48) := by kernel_rfl

theorem own_adds {B : Nat} {e : TypeId} {sz : Nat} {W X : World} {v : Value} {n : Nat} {xs : List Value} (h : W.ownsRow B e sz v n xs) (hA : Adds W X) : X.ownsRow B e sz v n xs := by
  have hb := hA.below
  have hg : W.grownBy X none := ⟨hb.os, hb.tape, hb.output, hb.size, fun k hk _ => hb.block k hk⟩
  refine h.kept hg ?_
  cases v.ownBlock with
  | none => exact .inl rfl
  | some k => exact .inr (by simp)

/-- append of one value, that lies in a block of its own. -/
theorem val_app {ops : Array Oper} {rest : List Oper} {o : Oper} {a : Act} {X : World} {Q : Exit → Act → World → Prop} (hgd : o.guard = none) (s x : Operand) (ho : o.op = .call { callee := .builtin .append, args := #[s, x], argTypes := #[103, 103] })
    {B : Nat} {W : World} {v : Value} {vs : List V} {k n : Int} {t : ByteArray} {re im : Int} (h : W.ownsRow B 87 5 v vs.length (cellsV vs)) (hA : Adds W X) (hB : B ≤ W.heap.size) (hs : a.eval s = v) {kk c : Nat} (hkk : kk = X.heap.size) (hx : a.eval x = .slice (some ⟨kk, 0, none⟩) 1 c) (hlen : vs.length ≤ 10000)
    (hk : ∀ v' w', w'.ownsRow B 87 5 v' (vs ++ [(⟨k, n, t, re, im⟩ : V)]).length (cellsV (vs ++ [(⟨k, n, t, re, im⟩ : V)])) → (X.alloc (.cells #[.int .i64 k, .int .i64 n, .string t, .int .i64 re, .int .i64 im] 87)).grownBy w' v.ownBlock → wpList Tryz.prog ops Q rest (a.put o.dst v') w') :
    wpList Tryz.prog ops Q (o :: rest) a (X.alloc (.cells #[.int .i64 k, .int .i64 n, .string t, .int .i64 re, .int .i64 im] 87)) := by
  obtain ⟨i0, hi, hz0, hz1, hz2⟩ := info_parts Tryz.info87
  have h' := own_adds h (hA.alloc (.cells #[.int .i64 k, .int .i64 n, .string t, .int .i64 re, .int .i64 im] 87))
  have hnews : ∀ j y, (V.cells ⟨k, n, t, re, im⟩)[j]? = some y → (X.alloc (.cells #[.int .i64 k, .int .i64 n, .string t, .int .i64 re, .int .i64 im] 87)).cell? ((⟨kk, 0, none⟩ : Addr).add j) = some y := by
    intro j y hj
    rw [Addr.add_lit, Nat.zero_add]
    exact cell_new hkk hj
  have hone : ∀ u ∈ V.cells ⟨k, n, t, re, im⟩, u.oneCell' = true := by
    intro u hu
    simp only [V.cells, List.mem_cons, List.mem_nil_iff, or_false] at hu
    rcases hu with rfl | rfl | rfl | rfl | rfl <;> rfl
  have hB' : B ≤ (X.alloc (.cells #[.int .i64 k, .int .i64 n, .string t, .int .i64 re, .int .i64 im] 87)).heap.size := by
    have := hA.below.size
    simp
    omega
  obtain ⟨v', w', h1, h2, h3, _⟩ := run_append_own (P := Tryz.prog) _ B 103 o.type 87 i0 _ 5 48 Tryz.underlying103 hi hz0 hz1 hz2 rfl (by decide) v vs.length (cellsV vs) h' ⟨kk, 0, none⟩ 1 c (V.cells ⟨k, n, t, re, im⟩) rfl hnews hone (by unfold maxLen; omega) (by omega) hB'
  refine Lib.wpList_append_run _ hgd s x 103 103 ho v _ hs hx v' w' h1 (hk v' w' ?_ h3)
  rw [cellsV_append, List.length_append]
  have e1 : cellsV [(⟨k, n, t, re, im⟩ : V)] = V.cells ⟨k, n, t, re, im⟩ := by simp [cellsV]
  rw [e1]
  exact h2

theorem grown_adds {w1 Y w6 : World} {lv : Value} (hA : Adds w1 Y) (hg : Y.grownBy w6 lv.ownBlock) (hB : ∀ k, lv.ownBlock = some k → w1.heap.size ≤ k) : Adds w1 w6 := by
  have hb := hA.below
  refine Adds.of ⟨hg.os.trans hb.os, hg.tape.trans hb.tape, hg.output.trans hb.output, Nat.le_trans hb.size hg.size, fun k hk => ?_⟩
  rw [hg.block k (Nat.lt_of_lt_of_le hk hb.size) (fun e => by have := hB k e.symm; omega)]
  exact hb.block k hk

theorem own_empty {X : World} {B k : Nat} (hk : k = X.heap.size) (hB : B ≤ X.heap.size) : (X.alloc (.cells #[] 87)).ownsRow B 87 5 (.slice (some ⟨k, 0, none⟩) 0 0) 0 [] := by
  subst hk
  exact ⟨rfl, .inr ⟨X.heap.size, 0, #[], rfl, hB, new_block _ _, Nat.le_refl _, by unfold maxLen; omega, rfl, rfl⟩⟩

/-- What lies in a row of values. -/
theorem own_one {W : World} {B : Nat} {lv : Value} {x : V} (h : W.ownsRow B 87 5 lv 1 (cellsV [x])) : ∃ g cap, lv = .slice (some ⟨g, 0, none⟩) 1 cap ∧ g < W.heap.size ∧ W.cell? ⟨g, 0, none⟩ = some (.int .i64 x.kind) ∧ W.cell? ⟨g, 1, none⟩ = some (.int .i64 x.num) ∧ W.cell? ⟨g, 2, none⟩ = some (.string x.text) ∧ W.cell? ⟨g, 3, none⟩ = some (.int .i64 x.re) ∧ W.cell? ⟨g, 4, none⟩ = some (.int .i64 x.im) := by
  rcases h.2 with ⟨_, h0⟩ | ⟨g, cap, cur, rfl, hb, hg, _⟩
  · omega
  · have hc := fun j hj => World.ownsRow.cellAt h j hj
    exact ⟨g, cap, rfl, lt_of_some hg, hc 0 (by omega), hc 1 (by omega), hc 2 (by omega), hc 3 (by omega), hc 4 (by omega)⟩

theorem own_two {W : World} {B : Nat} {lv : Value} {x y : V} (h : W.ownsRow B 87 5 lv 2 (cellsV [x, y])) : ∃ g cap, lv = .slice (some ⟨g, 0, none⟩) 2 cap ∧ g < W.heap.size ∧ (W.cell? ⟨g, 0, none⟩ = some (.int .i64 x.kind) ∧ W.cell? ⟨g, 1, none⟩ = some (.int .i64 x.num) ∧ W.cell? ⟨g, 2, none⟩ = some (.string x.text) ∧ W.cell? ⟨g, 3, none⟩ = some (.int .i64 x.re) ∧ W.cell? ⟨g, 4, none⟩ = some (.int .i64 x.im)) ∧
    W.cell? ⟨g, 5, none⟩ = some (.int .i64 y.kind) ∧ W.cell? ⟨g, 6, none⟩ = some (.int .i64 y.num) ∧ W.cell? ⟨g, 7, none⟩ = some (.string y.text) ∧ W.cell? ⟨g, 8, none⟩ = some (.int .i64 y.re) ∧ W.cell? ⟨g, 9, none⟩ = some (.int .i64 y.im) := by
  rcases h.2 with ⟨_, h0⟩ | ⟨g, cap, cur, rfl, hb, hg, _⟩
  · omega
  · have hc := fun j hj => World.ownsRow.cellAt h j hj
    exact ⟨g, cap, rfl, lt_of_some hg, ⟨hc 0 (by omega), hc 1 (by omega), hc 2 (by omega), hc 3 (by omega), hc 4 (by omega)⟩, hc 5 (by omega), hc 6 (by omega), hc 7 (by omega), hc 8 (by omega), hc 9 (by omega)⟩

/-- The values of all kids, if they all have one. -/
def kidsV (fs : List F) : List E → Option (List V)
  | [] => some []
  | c :: r => (valE fs c).bind fun x => (kidsV fs r).bind fun l => some (x :: l)
def E.kids : E → List E
  | .path _ => []
  | .num _ => []
  | .sum a b => [a, b]
  | .mul a b => [a, b]
  | .call _ a => [a]
theorem E.kids_args (e : E) : e.toN.args = e.kids.map E.toN := by cases e <;> rfl

/-- The sum, ahead of the question whether it fits. -/
def sumR (a b : V) : Option V :=
  if a.kind ≠ b.kind then none
  else if a.kind = 1 then some (V.mkNum (a.num + b.num))
  else if a.kind = 2 then some (V.mkText (a.text ++ b.text))
  else some (V.mkPoint (a.re + b.re) (a.im + b.im))

/-- What is known in the loop over the kids. -/
structure Kn (fs : List F) (cs : List E) (w1 wr : World) (lv : Value) (j : Nat) (vs : List V) : Prop where
  len : vs.length = j
  val : kidsV fs cs = (kidsV fs (cs.drop j)).bind fun l => some (vs ++ l)
  good : ∀ v ∈ vs, v.check = 0
  own : wr.ownsRow w1.heap.size 87 5 lv vs.length (cellsV vs)
  adds : Adds w1 wr

theorem Kn.none {fs : List F} {cs : List E} {w1 wr : World} {lv : Value} {j : Nat} {vs : List V} (h : Kn fs cs w1 wr lv j vs) (hj : j < cs.length) (hv : valE fs cs[j] = none) : kidsV fs cs = none := by
  rw [h.val, List.drop_eq_getElem_cons hj, kidsV, hv]
  rfl

theorem Kn.push {fs : List F} {cs : List E} {w1 wr X w6 : World} {lv v' : Value} {j : Nat} {vs : List V} {k n : Int} {t : ByteArray} {re im : Int} (h : Kn fs cs w1 wr lv j vs) (hj : j < cs.length) (hv : valE fs cs[j] = some ⟨k, n, t, re, im⟩) (hc : (⟨k, n, t, re, im⟩ : V).check = 0) (hA : Adds wr X)
    (ho : w6.ownsRow w1.heap.size 87 5 v' (vs ++ [(⟨k, n, t, re, im⟩ : V)]).length (cellsV (vs ++ [(⟨k, n, t, re, im⟩ : V)]))) (hg : (X.alloc (.cells #[.int .i64 k, .int .i64 n, .string t, .int .i64 re, .int .i64 im] 87)).grownBy w6 lv.ownBlock) :
    Kn fs cs w1 w6 v' (j + 1) (vs ++ [(⟨k, n, t, re, im⟩ : V)]) := by
  refine ⟨by simp [h.len], ?_, ?_, ho, grown_adds ((h.adds.trans hA).alloc _) hg (fun k hk => (h.own.lt k hk).1)⟩
  · rw [h.val, List.drop_eq_getElem_cons hj, kidsV, hv]
    cases kidsV fs (cs.drop (j + 1)) <;> simp
  · intro v hv
    rcases List.mem_append.1 hv with hv | hv
    · exact h.good v hv
    · simp only [List.mem_singleton] at hv
      rw [hv]
      exact hc

theorem Kn.last {fs : List F} {cs : List E} {w1 wr : World} {lv : Value} {vs : List V} (h : Kn fs cs w1 wr lv cs.length vs) : kidsV fs cs = some vs := by
  rw [h.val, List.drop_length]
  simp [kidsV]

end Go.Proofs.YtiacnmcdfpmcfaaGreatDoor

namespace Go.Proofs.YtiacnmcdfpmcfaaGreatDoor
open Go.RowKit
attribute [local go_sem] cell?_more frozen?_more setCell_more size_more tape_more drew_more drewN_more more_drew more_drewN one_out plus_out plus_end lt_one le_p2 le_p3 le_p4 le_p5 le_p6 le_p7 le_p8 le_p9 le_p10 le_p11 le_p12 le_p13 le_p14 le_p15 le_p16 le_p17 le_p18 le_p19 le_p20 le_p21 le_p22 le_p23 le_p24 le_q0 le_q1 lt_q1 le_q2 lt_q2 le_q3 lt_q3 le_q4 lt_q4 le_q5 lt_q5 le_q6 lt_q6 le_q7 lt_q7 le_q8 lt_q8 le_q9 lt_q9 le_q10 lt_q10 le_q11 lt_q11 le_q12 lt_q12 le_q13 lt_q13 le_q14 lt_q14 le_q15 lt_q15 le_q16 lt_q16 le_q17 lt_q17 le_q18 lt_q18 le_q19 lt_q19 le_q20 lt_q20 le_q21 lt_q21 le_q22 lt_q22 le_q23 lt_q23 le_q24 lt_q24


/-- A node as it lies in a row. -/
structure NV where
  k : Int
  t : ByteArray
  m : Int
  s : Value

def NV.cells (n : NV) : List Value := [.int .i64 n.k, .string n.t, .int .i64 n.m, n.s]
def cellsN (l : List NV) : List Value := l.flatMap NV.cells
theorem cellsN_length (l : List NV) : (cellsN l).length = l.length * 4 := by
  induction l with
  | nil => rfl
  | cons f r ih =>
    simp only [cellsN, List.flatMap_cons, List.length_append, List.length_cons] at *
    rw [ih]
    simp [NV.cells]
    omega
theorem cellsN_append (l t : List NV) : cellsN (l ++ t) = cellsN l ++ cellsN t := by simp [cellsN]

theorem cellsN_at : ∀ (l : List NV) (j i : Nat) (hj : j < l.length), i < 4 → (cellsN l)[j * 4 + i]? = (l[j].cells)[i]? := by
  intro l
  induction l with
  | nil => intro j i hj; simp at hj
  | cons f r ih =>
    intro j i hj hi
    have e : cellsN (f :: r) = f.cells ++ cellsN r := by simp [cellsN]
    have hl : f.cells.length = 4 := rfl
    rw [e]
    cases j with
    | zero => rw [List.getElem?_append_left (by omega)]; simp
    | succ j =>
      rw [List.getElem?_append_right (by omega), show (j + 1) * 4 + i - f.cells.length = j * 4 + i by omega, ih j i (by simpa using hj) hi]
      simp

theorem infoNode : (Tryz.prog.info? 81).map (fun i => (i.zero, i.size, i.bytes)) = some (some (.agg #[.int .i64 0, .string ⟨#[]⟩, .int .i64 0, .slice none 0 0]), 4, 56) := by kernel_rfl

/-- append of one node, that lies in a block of its own. -/
theorem node_app {ops : Array Oper} {rest : List Oper} {o : Oper} {a : Act} {X : World} {Q : Exit → Act → World → Prop} (hgd : o.guard = none) (s x : Operand) (ho : o.op = .call { callee := .builtin .append, args := #[s, x], argTypes := #[51, 51] })
    {B : Nat} {W : World} {v : Value} {vs : List NV} {k m : Int} {t : ByteArray} {ao : Option Addr} {sn sc : Nat} (h : W.ownsRow B 81 4 v vs.length (cellsN vs)) (hA : Adds W X) (hB : B ≤ W.heap.size) (hs : a.eval s = v) {kk c : Nat} (hkk : kk = X.heap.size) (hx : a.eval x = .slice (some ⟨kk, 0, none⟩) 1 c) (hlen : vs.length ≤ 10000)
    (hk : ∀ v' w', w'.ownsRow B 81 4 v' (vs ++ [(⟨k, t, m, .slice ao sn sc⟩ : NV)]).length (cellsN (vs ++ [(⟨k, t, m, .slice ao sn sc⟩ : NV)])) → (X.alloc (.cells #[.int .i64 k, .string t, .int .i64 m, .slice ao sn sc] 81)).grownBy w' v.ownBlock → (v'.ownBlock = v.ownBlock ∨ v'.ownBlock = some (X.heap.size + 1)) → wpList Tryz.prog ops Q rest (a.put o.dst v') w') :
    wpList Tryz.prog ops Q (o :: rest) a (X.alloc (.cells #[.int .i64 k, .string t, .int .i64 m, .slice ao sn sc] 81)) := by
  obtain ⟨i0, hi, hz0, hz1, hz2⟩ := info_parts infoNode
  have h' := own_adds h (hA.alloc (.cells #[.int .i64 k, .string t, .int .i64 m, .slice ao sn sc] 81))
  have hnews : ∀ j y, (NV.cells ⟨k, t, m, .slice ao sn sc⟩)[j]? = some y → (X.alloc (.cells #[.int .i64 k, .string t, .int .i64 m, .slice ao sn sc] 81)).cell? ((⟨kk, 0, none⟩ : Addr).add j) = some y := by
    intro j y hj
    rw [Addr.add_lit, Nat.zero_add]
    exact cell_new hkk hj
  have hone : ∀ u ∈ NV.cells ⟨k, t, m, .slice ao sn sc⟩, u.oneCell' = true := by
    intro u hu
    simp only [NV.cells, List.mem_cons, List.mem_nil_iff, or_false] at hu
    rcases hu with rfl | rfl | rfl | rfl <;> rfl
  have hB' : B ≤ (X.alloc (.cells #[.int .i64 k, .string t, .int .i64 m, .slice ao sn sc] 81)).heap.size := by
    have := hA.below.size
    simp
    omega
  have hXs : (X.alloc (.cells #[.int .i64 k, .string t, .int .i64 m, .slice ao sn sc] 81)).heap.size = X.heap.size + 1 := by simp
  generalize X.alloc (.cells #[.int .i64 k, .string t, .int .i64 m, .slice ao sn sc] 81) = Y at *
  obtain ⟨v', w', h1, h2, h3, _⟩ := run_append_own (P := Tryz.prog) Y B 51 o.type 81 i0 _ 4 56 Tryz.underlying51 hi hz0 hz1 hz2 rfl (by decide) v vs.length (cellsN vs) h' ⟨kk, 0, none⟩ 1 c (NV.cells ⟨k, t, m, .slice ao sn sc⟩) rfl hnews hone (by unfold maxLen; omega) (by omega) hB'
  have hdet : ∀ v1 w1, (Builtin.append_ #[51, 51] o.type #[v, .slice (some ⟨kk, 0, none⟩) 1 c]).run Tryz.prog Y = .ok v1 w1 → v' = v1 := by
    intro v1 w1 h
    rw [h1] at h
    simp only [Result.ok.injEq] at h
    exact h.1
  have hlen2 : (cellsN vs).length = vs.length * i0.size := by rw [cellsN_length, hz1]
  have hl2 : (NV.cells ⟨k, t, m, .slice ao sn sc⟩).length = 1 * i0.size := by rw [hz1]; rfl
  have hvb : v'.ownBlock = v.ownBlock ∨ v'.ownBlock = some (X.heap.size + 1) := by
    rw [← hXs]
    rcases h'.2 with ⟨rfl, hn⟩ | ⟨g, cap, cur, rfl, hbg, hg, hnc, hcm, hcs, htake⟩
    · have := hdet _ _ (run_append_nil (P := Tryz.prog) Y 51 o.type 81 i0 _ Tryz.underlying51 hi hz0 ⟨kk, 0, none⟩ 1 c _ hl2 hnews (by decide) (by decide) (by rw [hz2]; decide))
      rw [this]
      exact .inr rfl
    · by_cases hroom : vs.length + 1 ≤ cap
      · have := hdet _ _ (run_append_room (P := Tryz.prog) Y 51 o.type 81 i0 Tryz.underlying51 hi g vs.length cap cur hg ⟨kk, 0, none⟩ 1 c _ hl2 hnews hone hroom (by rw [hz1, hcs]; have : (NV.cells ⟨k, t, m, .slice ao sn sc⟩).length = 4 := rfl; omega))
        rw [this]
        exact .inl rfl
      · have := hdet _ _ (run_append_grow (P := Tryz.prog) Y 51 o.type 81 i0 _ Tryz.underlying51 hi hz0 ⟨g, 0, none⟩ vs.length cap (cellsN vs) hlen2 (h'.cells (g := g) rfl) ⟨kk, 0, none⟩ 1 c _ hl2 hnews (by omega) (by omega) (by rw [hz2]; exact growslice_fits (by omega) (by omega)))
        rw [this]
        exact .inr rfl
  refine Lib.wpList_append_run _ hgd s x 51 51 ho v _ hs hx v' w' h1 (hk v' w' ?_ h3 hvb)
  rw [cellsN_append, List.length_append]
  have e1 : cellsN [(⟨k, t, m, .slice ao sn sc⟩ : NV)] = NV.cells ⟨k, t, m, .slice ao sn sc⟩ := by simp [cellsN]
  rw [e1]
  exact h2

/-- A row that reads as expressions. -/
def Nrx (D : Nat) (wr : World) (v : Value) (ns : List NV) (xs : List E) : Prop :=
  ns.length = xs.length ∧ ∀ j (h : j < xs.length) (h' : j < ns.length), ns[j].k = xs[j].toN.kind ∧ ns[j].t = xs[j].toN.text ∧ ns[j].m = xs[j].toN.num ∧ Tn (fun b => some b ≠ v.ownBlock) D wr ns[j].s xs[j].toN.args

structure Nr (w1 wr : World) (v : Value) (xs : List E) (ns : List NV) (D : Nat) : Prop where
  own : wr.ownsRow w1.heap.size 81 4 v ns.length (cellsN ns)
  rx : Nrx D wr v ns xs
  adds : Adds w1 wr

theorem nr_nil (w1 : World) : Nr w1 w1 (.slice none 0 0) [] [] 0 := ⟨World.ownsRow_nil _ _ _ _, ⟨rfl, fun j h => by simp at h⟩, Adds.refl _⟩

theorem nr_empty {X : World} {k : Nat} (hk : k = X.heap.size) : Nr X (X.alloc (.cells #[] 81)) (.slice (some ⟨k, 0, none⟩) 0 0) [] [] 0 := by
  subst hk
  exact ⟨⟨rfl, .inr ⟨X.heap.size, 0, #[], rfl, Nat.le_refl _, new_block _ _, Nat.le_refl _, by unfold maxLen; omega, rfl, rfl⟩⟩, ⟨rfl, fun j h => by simp at h⟩, (Adds.refl _).alloc _⟩

theorem Nr.addsN {w1 wr X : World} {v : Value} {xs : List E} {ns : List NV} {D : Nat} (h : Nr w1 wr v xs ns D) (hA : Adds wr X) : Nr w1 X v xs ns D :=
  ⟨own_adds h.own hA, ⟨h.rx.1, fun j hj hj' => by obtain ⟨a, b, c, d⟩ := h.rx.2 j hj hj'; exact ⟨a, b, c, d.adds hA⟩⟩, h.adds.trans hA⟩

theorem Nr.lt {w1 wr : World} {v : Value} {xs : List E} {ns : List NV} {D : Nat} (h : Nr w1 wr v xs ns D) : ∀ k, v.ownBlock = some k → w1.heap.size ≤ k ∧ k < wr.heap.size := h.own.lt

theorem Nr.push {w1 wr X w6 : World} {v v' : Value} {xs : List E} {ns : List NV} {D D' : Nat} {x : E} {ao : Option Addr} {sn sc : Nat} (h : Nr w1 wr v xs ns D) (hA : Adds wr X) (hT : Tn (fun b => wr.heap.size ≤ b) D' X (.slice ao sn sc) x.toN.args)
    (ho : w6.ownsRow w1.heap.size 81 4 v' (ns ++ [(⟨x.toN.kind, x.toN.text, x.toN.num, .slice ao sn sc⟩ : NV)]).length (cellsN (ns ++ [(⟨x.toN.kind, x.toN.text, x.toN.num, .slice ao sn sc⟩ : NV)]))) (hg : (X.alloc (.cells #[.int .i64 x.toN.kind, .string x.toN.text, .int .i64 x.toN.num, .slice ao sn sc] 81)).grownBy w6 v.ownBlock) (hv : v'.ownBlock = v.ownBlock ∨ v'.ownBlock = some (X.heap.size + 1)) :
    Nr w1 w6 v' (xs ++ [x]) (ns ++ [(⟨x.toN.kind, x.toN.text, x.toN.num, .slice ao sn sc⟩ : NV)]) (max D D') := by
  have hblk : ∀ b, b < X.heap.size → some b ≠ v.ownBlock → w6.heap[b]? = X.heap[b]? ∧ some b ≠ v'.ownBlock := by
    intro b hb hne
    refine ⟨?_, ?_⟩
    · rw [hg.block b (by simp; omega) hne]
      exact Below.heap_alloc _ _ _ hb
    · rcases hv with hv | hv
      · rw [hv]; exact hne
      · rw [hv]; simp; omega
  have hsz : X.heap.size ≤ w6.heap.size := by
    have := hg.size
    simp at this
    omega
  refine ⟨ho, ⟨by simp [h.rx.1], fun j hj hj' => ?_⟩, grown_adds ((h.adds.trans hA).alloc _) hg (fun k hk => (h.own.lt k hk).1)⟩
  by_cases hjl : j < xs.length
  · have hjn : j < ns.length := by rw [h.rx.1]; exact hjl
    obtain ⟨a, b, c, d⟩ := h.rx.2 j hjl hjn
    rw [List.getElem_append_left hjn, List.getElem_append_left hjl]
    exact ⟨a, b, c, ((d.adds hA).frame hsz (fun b hb hlt => hblk b hlt hb)).up (Nat.le_max_left _ _)⟩
  · have hje : j = xs.length := by simp at hj; omega
    have hjn : j = ns.length := by rw [h.rx.1]; exact hje
    subst hje
    have e1 : (ns ++ [(⟨x.toN.kind, x.toN.text, x.toN.num, .slice ao sn sc⟩ : NV)])[xs.length] = ⟨x.toN.kind, x.toN.text, x.toN.num, .slice ao sn sc⟩ := by
      rw [List.getElem_append_right (by omega)]
      simp
    have e2 : (xs ++ [x])[xs.length] = x := by simp
    rw [e1, e2]
    refine ⟨rfl, rfl, rfl, (hT.frame hsz (fun b hb hlt => hblk b hlt (fun e => ?_))).up (Nat.le_max_right _ _)⟩
    have := (h.lt b e.symm).2
    omega

/-- The row read as a list of nodes. -/
theorem Nr.tn {w1 wr : World} {v : Value} {xs : List E} {ns : List NV} {D : Nat} (h : Nr w1 wr v xs ns D) (hok : ∀ x ∈ xs, x.ok) : Tn (fun _ => True) (D + 1) wr v (xs.map E.toN) := by
  have hl := h.rx.1
  rcases h.own.2 with ⟨rfl, h0⟩ | ⟨g, cap, cur, rfl, hb, hg, hnc, hcm, hcs, htk⟩
  · have : xs = [] := List.length_eq_zero_iff.1 (by omega)
    subst this
    exact ⟨none, 0, rfl, Nat.le_refl _, .inl rfl⟩
  · refine ⟨some ⟨g, 0, none⟩, cap, by simp [hl], by simp; omega, ?_⟩
    by_cases hx : xs = []
    · exact .inl (by simp [hx])
    · refine .inr ⟨g, 0, rfl, lt_of_some hg, trivial, ⟨?_, fun h0 => absurd trivial h0⟩, fun j hj => ?_⟩
      · simp only [World.frozen?, hg]
        simp
      · have hjx : j < xs.length := by simpa using hj
        have hjn : j < ns.length := by omega
        obtain ⟨a, b, c, d⟩ := h.rx.2 j hjx hjn
        have hc0 := World.ownsRow.cells h.own (g := g) rfl (j * 4 + 0) (.int .i64 ns[j].k) (by rw [cellsN_at ns j 0 hjn (by omega)]; rfl)
        have hc1 := World.ownsRow.cells h.own (g := g) rfl (j * 4 + 1) (.string ns[j].t) (by rw [cellsN_at ns j 1 hjn (by omega)]; rfl)
        have hc2 := World.ownsRow.cells h.own (g := g) rfl (j * 4 + 2) (.int .i64 ns[j].m) (by rw [cellsN_at ns j 2 hjn (by omega)]; rfl)
        have hc3 := World.ownsRow.cells h.own (g := g) rfl (j * 4 + 3) ns[j].s (by rw [cellsN_at ns j 3 hjn (by omega)]; rfl)
        rw [Addr.add_lit] at hc0 hc1 hc2 hc3
        simp only [List.getElem_map]
        rw [← a, ← b, ← c]
        refine ⟨ns[j].s, ⟨by simpa using hc0, by simpa [Nat.add_assoc] using hc1, by simpa [Nat.add_assoc] using hc2, by simpa [Nat.add_assoc] using hc3⟩, ?_, d.weak (fun _ _ _ => trivial)⟩
        rw [b]
        exact ok_size (hok _ (List.getElem_mem hjx))

end Go.Proofs.YtiacnmcdfpmcfaaGreatDoor

namespace Go.Proofs.YtiacnmcdfpmcfaaGreatDoor
open Go.RowKit
attribute [local go_sem] cell?_more frozen?_more setCell_more size_more tape_more drew_more drewN_more more_drew more_drewN one_out plus_out plus_end lt_one le_p2 le_p3 le_p4 le_p5 le_p6 le_p7 le_p8 le_p9 le_p10 le_p11 le_p12 le_p13 le_p14 le_p15 le_p16 le_p17 le_p18 le_p19 le_p20 le_p21 le_p22 le_p23 le_p24 le_q0 le_q1 lt_q1 le_q2 lt_q2 le_q3 lt_q3 le_q4 lt_q4 le_q5 lt_q5 le_q6 lt_q6 le_q7 lt_q7 le_q8 lt_q8 le_q9 lt_q9 le_q10 lt_q10 le_q11 lt_q11 le_q12 lt_q12 le_q13 lt_q13 le_q14 lt_q14 le_q15 lt_q15 le_q16 lt_q16 le_q17 lt_q17 le_q18 lt_q18 le_q19 lt_q19 le_q20 lt_q20 le_q21 lt_q21 le_q22 lt_q22 le_q23 lt_q23 le_q24 lt_q24


/-- Of the reference's form: may a node be, but for what its Args are? -/
def rA1 (t : List UInt8) (n : Int) (a : Nat) : Bool := ((a : Int) == 0) && (n == 0) && pathL t && !allDig t
def rA2 (t : List UInt8) (n : Int) (a : Nat) : Bool := ((a : Int) == 0) && (t == []) && decide (0 ≤ n) && decide (n < 1000000000000000)
def rA3 (t : List UInt8) (n : Int) (a : Nat) : Bool := ((a : Int) == 2) && (t == []) && (n == 0)
def rA5 (t : List UInt8) (n : Int) (a : Nat) : Bool := ((a : Int) == 1) && (n == 0) && isName t
def rAlone (k : Int) (t : List UInt8) (n : Int) (a : Nat) : Bool :=
  if k = 1 then rA1 t n a else if k = 2 then rA2 t n a else if k = 3 ∨ k = 4 then rA3 t n a else if k = 5 then rA5 t n a else false

theorem rAlone_is (k : Int) (t : List UInt8) (n : Int) (a : Nat) : rAlone k t n a = aloneN k t n a := by
  unfold rAlone aloneN
  split
  · unfold rA1 digs
    cases t with
    | nil =>
      have : pathL [] = false := by simp [pathL, stp]
      rw [this]
      simp
    | cons c r =>
      simp only [List.isEmpty_cons, Bool.not_false, Bool.and_true]
      cases pathL (c :: r) <;> cases allDig (c :: r) <;> cases (n == 0) <;> cases ((a : Int) == 0) <;> rfl
  split
  · unfold rA2
    have : decide (n < 1000000000000000) = decide (n ≤ 999999999999999) := by
      apply Bool.eq_iff_iff.2
      simp only [decide_eq_true_eq]
      omega
    rw [this]
    cases decide (0 ≤ n) <;> cases decide (n ≤ 999999999999999) <;> cases (t == []) <;> cases ((a : Int) == 0) <;> rfl
  split
  · unfold rA3
    cases (t == []) <;> cases (n == 0) <;> cases ((a : Int) == 2) <;> rfl
  split
  · unfold rA5
    cases isName t <;> cases (n == 0) <;> cases ((a : Int) == 1) <;> rfl
  · rfl

theorem rName_any (s : ByteArray) (w : World) :
    Calls Tryz.prog 71 #[.string s] w fun e w' => e = .returned (.bool (isName s.toList)) ∧ w' = w := by
  go_enter Tryz.func71, Tryz.ntmps71
  have k1 : (⟨#[110, 111, 114, 109]⟩ : ByteArray).toList = nNorm := by rw [ByteArray.toList_eq]; rfl
  have k2 : (⟨#[99, 111, 110, 106]⟩ : ByteArray).toList = nConj := by rw [ByteArray.toList_eq]; rfl
  have k3 : (⟨#[116, 117, 114, 110]⟩ : ByteArray).toList = nTurn := by rw [ByteArray.toList_eq]; rfl
  have k4 : (⟨#[108, 111, 119]⟩ : ByteArray).toList = nLow := by rw [ByteArray.toList_eq]; rfl
  have k5 : (⟨#[104, 101, 97, 100]⟩ : ByteArray).toList = nHead := by rw [ByteArray.toList_eq]; rfl
  by_cases h1 : s.toList = nNorm
  · have h1' : (s.toList == nNorm) = true := by simpa using h1
    go_wp2
    go_ret
    exact ⟨by simp [isName, h1], rfl⟩
  have h1' : (s.toList == nNorm) = false := by simpa using h1
  by_cases h2 : s.toList = nConj
  · have h2' : (s.toList == nConj) = true := by simpa using h2
    go_wp2
    go_ret
    exact ⟨by simp [isName, h2], rfl⟩
  have h2' : (s.toList == nConj) = false := by simpa using h2
  by_cases h3 : s.toList = nTurn
  · have h3' : (s.toList == nTurn) = true := by simpa using h3
    go_wp2
    go_ret
    exact ⟨by simp [isName, h3], rfl⟩
  have h3' : (s.toList == nTurn) = false := by simpa using h3
  by_cases h4 : s.toList = nLow
  · have h4' : (s.toList == nLow) = true := by simpa using h4
    go_wp2
    go_ret
    exact ⟨by simp [isName, h4], rfl⟩
  have h4' : (s.toList == nLow) = false := by simpa using h4
  by_cases h5 : s.toList = nHead
  · have h5' : (s.toList == nHead) = true := by simpa using h5
    go_wp2
    go_ret
    exact ⟨by simp [isName, h5], rfl⟩
  have h5' : (s.toList == nHead) = false := by simpa using h5
  go_wp2
  go_ret
  exact ⟨by simp [isName, h1, h2, h3, h4, h5], rfl⟩

theorem rPlain_any (s : ByteArray) (hs : s.size ≤ 9223372036854775807) (w : World) :
    Calls Tryz.prog 72 #[.string s] w fun e w' => e = .returned (.bool (allDig s.toList)) ∧ w' = w := by
  go_enter Tryz.func72, Tryz.ntmps72
  go_wp2
  go_loopw [3] (fun i wr => ∃ k : Nat, k ≤ s.size ∧ i = .int .i64 k ∧ allDig (s.toList.drop k) = allDig s.toList ∧ wr = w) (fun i _ => s.size - (intOf i).toNat)
  case atStart => exact ⟨0, Nat.zero_le _, rfl, by simp, rfl⟩
  case round =>
    obtain ⟨k, hk, rfl, hst, rfl⟩ := hrel
    by_cases hlt : k < s.size
    · have hn : allDig (s.toList.drop k) = (isDig s[k] && allDig (s.toList.drop (k + 1))) := by
        have hk' : k < s.toList.length := by rw [toList_length]; exact hlt
        rw [List.drop_eq_getElem_cons hk', toList_get]
        rfl
      rw [hst] at hn
      have HN : Hid _ := hn
      clear hn hst
      by_cases h1 : (s[k].toNat : Int) < 48
      · go_wp2
        go_ret
        have hq : isDig s[k] = false := by simp [isDig]; omega
        exact ⟨by simp [HN.out, hq], rfl⟩
      · by_cases h2 : 57 < (s[k].toNat : Int)
        · go_wp2
          go_ret
          have hq : isDig s[k] = false := by simp [isDig]; omega
          exact ⟨by simp [HN.out, hq], rfl⟩
        · go_wp2
          go_roundw
          case rel =>
            have hq : isDig s[k] = true := by simp [isDig]; omega
            exact ⟨k + 1, by omega, by go_num, by rw [HN.out, hq]; simp, trivial⟩
          case measure => simp [intOf]; omega
    · have hk' : k = s.size := by omega
      subst hk'
      have hall : allDig s.toList = true := by
        rw [← hst, ← toList_length, List.drop_length]
        rfl
      have HA : Hid _ := hall
      clear hall hst
      go_wp2
      go_ret
      exact ⟨by rw [HA.out]; rfl, rfl⟩

/-- How deep, as far as it matters. -/
def mx : List Nat → Nat
  | [] => 0
  | a :: r => max a (mx r)
def depthN : Nat → N → Nat
  | 0, _ => 1
  | m + 1, n => mx (n.args.map (depthN m)) + 1

theorem mx_le {l : List Nat} {k : Nat} : mx l ≤ k ↔ ∀ x ∈ l, x ≤ k := by
  induction l with
  | nil => simp [mx]
  | cons a r ih => simp [mx, ← ih]; omega
theorem depthN_le (m : Nat) : ∀ n, depthN m n ≤ m + 1 := by
  induction m with
  | zero => intro n; simp [depthN]
  | succ m ih =>
    intro n
    have : mx (n.args.map (depthN m)) ≤ m + 1 := mx_le.2 (by simp only [List.mem_map]; rintro x ⟨y, _, rfl⟩; exact ih y)
    simp only [depthN]
    omega

theorem cnt_mem {t : N} {ts : List N} (h : t ∈ ts) (d : Nat) : cntN d [t] ≤ cntN d ts := by
  induction ts with
  | nil => cases h
  | cons a r ih =>
    have hc : ∀ (x : N) (l : List N), cntN d (x :: l) = cntN d [x] + cntN d l := by
      intro x l
      cases d <;> simp [cntN] <;> omega
    rw [hc a r]
    cases h with
    | head => omega
    | tail _ h => have := ih h; omega
theorem cnt_args {n : N} {M : Nat} (h : ∀ d, cntN d [n] ≤ M) (d : Nat) : cntN d n.args ≤ M := by
  have := h (d + 1)
  simp [cntN] at this
  omega
theorem cnt_kid {n t : N} {M : Nat} (h : ∀ d, cntN d [n] ≤ M) (ht : t ∈ n.args) (d : Nat) : cntN d [t] ≤ M :=
  Nat.le_trans (cnt_mem ht d) (cnt_args h d)
theorem cnt_long {n : N} {M : Nat} (h : ∀ d, cntN d [n] ≤ M) : n.args.length ≤ M := by
  have := cnt_args h 0
  simpa [cntN] using this

set_option maxHeartbeats 1000000 in
theorem rDepth_any {ok : Nat → Prop} (m : Nat) : ∀ (d : Nat) (n : N) (s : Value) (w : World), m ≤ 9 → Tn ok d w s n.args → (∀ d, cntN d [n] ≤ 10000) →
    Calls Tryz.prog 53 #[nodeV n s, .int .i64 m] w fun e w' => e = .returned (.int .i64 (depthN m n)) ∧ Adds w w' := by
  induction m with
  | zero =>
    intro d n s w _ hT hc
    obtain ⟨ao, cap, rfl⟩ := hT.shape
    obtain ⟨nk, nt, nm, na⟩ := n
    simp only [nodeV, N.kind, N.text, N.num, N.args] at *
    clear hT hc
    go_enter Tryz.func53, Tryz.ntmps53
    go_wp2
    go_ret
    exact ⟨rfl, by repeat (first | with_reducible exact Adds.refl _ | with_reducible refine Adds.alloc ?_ _ | with_reducible refine Adds.more ?_ _ _ | with_reducible refine Adds.drew ?_ | with_reducible refine Adds.drewN ?_ _)⟩
  | succ m ih =>
    intro d n s w hm hT hc
    obtain ⟨ao, cap, rfl⟩ := hT.shape
    have hlen := cnt_long hc
    have hkid : ∀ t ∈ n.args, ∀ d, cntN d [t] ≤ 10000 := fun t ht => cnt_kid hc ht
    have hD : depthN (m + 1) n = mx (n.args.map (depthN m)) + 1 := rfl
    have hDl := depthN_le (m + 1) n
    rw [hD] at hDl ⊢
    clear hD hc
    obtain ⟨nk, nt, nm, ts⟩ := n
    simp only [nodeV, N.kind, N.text, N.num, N.args] at *
    have hm1 : ((m + 1 : Nat) : Int) = (m : Int) + 1 := by omega
    rw [hm1]
    have hmz : ((m : Int) + 1 == 0) = false := by simp; omega
    have HK : Hid (∀ t ∈ ts, ∀ d, cntN d [t] ≤ 10000) := hkid
    clear hkid
    have HT : Hid (Tn ok d w (.slice ao ts.length cap) ts) := hT
    clear hT
    generalize hM : mx (ts.map (depthN m)) = M at *
    go_enter Tryz.func53, Tryz.ntmps53
    go_wp2
    go_loopw [5, 6] (fun dv iv wr => ∃ (j x : Nat), j ≤ ts.length ∧ iv = .int .i64 j ∧ dv = .int .i64 x ∧ max x (mx ((ts.drop j).map (depthN m))) = M ∧ Adds (w.alloc (.cells #[.int .i64 nk, .string nt, .int .i64 nm, .slice ao ts.length cap] 81)) wr) (fun _ iv _ => ts.length - (intOf iv).toNat)
    case atStart => exact ⟨0, 0, Nat.zero_le _, rfl, rfl, by simp [hM], by repeat (first | with_reducible exact Adds.refl _ | with_reducible refine Adds.alloc ?_ _ | with_reducible refine Adds.more ?_ _ _ | with_reducible refine Adds.drew ?_ | with_reducible refine Adds.drewN ?_ _)⟩
    case round =>
      obtain ⟨j, x0, hj, rfl, rfl, hmx, os, n0, rfl⟩ := hrel
      by_cases hlt : j < ts.length
      · obtain ⟨e, b1, o1, x, he, rfl, hb1, ⟨c0, c1, c2, c3⟩, hsz, htx⟩ := HT.out.elem hlt
        have kR := fun W (hA : Adds w W) => ih e ts[j] x W (by omega) (htx.adds hA) (HK.out _ (List.getElem_mem hlt))
        rw [List.drop_eq_getElem_cons hlt] at hmx
        simp only [List.map_cons, mx] at hmx
        have HM : Hid (max x0 (max (depthN m ts[j]) (mx ((ts.drop (j + 1)).map (depthN m)))) = M) := hmx
        have hy : depthN m ts[j] ≤ 10 := Nat.le_trans (depthN_le m _) (by omega)
        have hx0 : x0 ≤ 11 := by omega
        obtain ⟨xo, xc, rfl⟩ := htx.shape
        (try simp only [nodeV] at kR)
        clear htx he HT ih hsz HK hmx hM
        generalize depthN m ts[j] = y at *
        generalize ts[j] = p at *
        by_cases hg : (x0 : Int) < (y : Int)
        · go_wp2_with (go_at_call 53; refine (kR _ (by repeat (first | with_reducible exact Adds.refl _ | with_reducible refine Adds.alloc ?_ _ | with_reducible refine Adds.more ?_ _ _ | with_reducible refine Adds.drew ?_ | with_reducible refine Adds.drewN ?_ _))).mono ?_; rintro e w2 ⟨rfl, os2, n2, rfl⟩)
          go_roundw
          case rel =>
            have := HM.out
            exact ⟨j + 1, y, by omega, by go_num, rfl, by omega, by repeat (first | with_reducible exact Adds.refl _ | with_reducible refine Adds.alloc ?_ _ | with_reducible refine Adds.more ?_ _ _ | with_reducible refine Adds.drew ?_ | with_reducible refine Adds.drewN ?_ _)⟩
          case measure => simp [intOf]; omega
        · go_wp2_with (go_at_call 53; refine (kR _ (by repeat (first | with_reducible exact Adds.refl _ | with_reducible refine Adds.alloc ?_ _ | with_reducible refine Adds.more ?_ _ _ | with_reducible refine Adds.drew ?_ | with_reducible refine Adds.drewN ?_ _))).mono ?_; rintro e w2 ⟨rfl, os2, n2, rfl⟩)
          go_roundw
          case rel =>
            have := HM.out
            exact ⟨j + 1, x0, by omega, by go_num, rfl, by omega, by repeat (first | with_reducible exact Adds.refl _ | with_reducible refine Adds.alloc ?_ _ | with_reducible refine Adds.more ?_ _ _ | with_reducible refine Adds.drew ?_ | with_reducible refine Adds.drewN ?_ _)⟩
          case measure => simp [intOf]; omega
      · have hj' : j = ts.length := by omega
        subst hj'
        have hx : x0 = M := by simpa [mx] using hmx
        subst hx
        clear hmx HT HK ih hM
        go_wp2
        go_ret
        exact ⟨by go_num, by repeat (first | with_reducible exact Adds.refl _ | with_reducible refine Adds.alloc ?_ _ | with_reducible refine Adds.more ?_ _ _ | with_reducible refine Adds.drew ?_ | with_reducible refine Adds.drewN ?_ _)⟩

end Go.Proofs.YtiacnmcdfpmcfaaGreatDoor
