/-
  The functions placeOf, below and tooDeep go through, whatever the tree.
-/
import Derived.Test.YtiacnmcdfpmcfaaGreatDoorPlace
import Derived.Test.YtiacnmcdfpmcfaaGreatDoorJump
import Derived.Lib.AppendZerosOnto
namespace Go.Proofs.YtiacnmcdfpmcfaaGreatDoor
open Go.RowKit
attribute [local go_sem] cell?_more frozen?_more setCell_more size_more tape_more drew_more drewN_more more_drew more_drewN one_out plus_out plus_end lt_one le_p2 le_p3 le_p4 le_p5 le_p6 le_p7 le_p8 le_p9 le_p10 le_p11 le_p12 le_p13 le_p14 le_p15 le_p16 le_p17 le_p18 le_p19 le_p20 le_p21 le_p22 le_p23 le_p24 le_q0 le_q1 lt_q1 le_q2 lt_q2 le_q3 lt_q3 le_q4 lt_q4 le_q5 lt_q5 le_q6 lt_q6 le_q7 lt_q7 le_q8 lt_q8 le_q9 lt_q9 le_q10 lt_q10 le_q11 lt_q11 le_q12 lt_q12 le_q13 lt_q13 le_q14 lt_q14 le_q15 lt_q15 le_q16 lt_q16 le_q17 lt_q17 le_q18 lt_q18 le_q19 lt_q19 le_q20 lt_q20 le_q21 lt_q21 le_q22 lt_q22 le_q23 lt_q23 le_q24 lt_q24


/-- How many nodes there are, so deep. -/
def cntN : Nat → List N → Nat
  | 0, ts => ts.length
  | d + 1, ts => ts.length + (ts.map fun t => cntN d t.args).sum

theorem cntN_len (d : Nat) (ts : List N) : ts.length ≤ cntN d ts := by
  cases d <;> simp [cntN]

/-- The weight of lists. -/
def wt (d : Nat) (xs : List (Value × List N)) : Nat := (xs.map fun x => cntN d x.2).sum

theorem wt_append (d : Nat) (a b : List (Value × List N)) : wt d (a ++ b) = wt d a + wt d b := by simp [wt]

theorem wt_len {d : Nat} {xs : List (Value × List N)} (h : ∀ x ∈ xs, x.2 ≠ []) : xs.length ≤ wt d xs := by
  induction xs with
  | nil => simp [wt]
  | cons x r ih =>
    have h1 := ih (fun y hy => h y (by simp [hy]))
    have h2 := cntN_len d x.2
    have h3 : 0 < x.2.length := List.length_pos_iff.2 (h x (by simp))
    simp only [wt, List.map_cons, List.sum_cons, List.length_cons] at *
    omega

/-- The slice v of slices reads as the lists xs. -/
def Lvs (ok : Nat → Prop) (d : Nat) (w : World) (v : Value) (xs : List (Value × List N)) : Prop :=
  ∃ ao cap, v = .slice ao xs.length cap ∧ xs.length ≤ cap ∧ (∀ x ∈ xs, Tn ok d w x.1 x.2) ∧ (xs = [] ∨ ∃ b off, ao = some ⟨b, off, none⟩ ∧ b < w.heap.size ∧ ∀ j (h : j < xs.length), w.cell? ⟨b, off + j, none⟩ = some xs[j].1)

theorem placeOf_any (b off n c : Nat) (hn : 0 < n) (w : World) :
    Calls Tryz.prog 145 #[.slice (some ⟨b, off, none⟩) n c] w fun e w' => e = .returned (.agg #[.pointer (some ⟨b, off, none⟩), .int .i64 n]) ∧ Adds w w' := by
  have hn' : (0 : Int) < n := by omega
  go_enter Tryz.func145, Tryz.ntmps145
  go_wp2
  exact bodyPost_ret (v := .agg #[.pointer (some ⟨b, off, none⟩), .int .i64 n]) (by simp [results, Tryz.results145, go_sem]) rfl ⟨rfl, by repeat (first | with_reducible exact Adds.refl _ | with_reducible refine Adds.alloc ?_ _ | with_reducible refine Adds.more ?_ _ _ | with_reducible refine Adds.drew ?_ | with_reducible refine Adds.drewN ?_ _)⟩

theorem Tryz.info51 : (Tryz.prog.info? 51).map (fun i => (i.zero, i.size, i.bytes)) = some (some (.slice none 0 0), 1, 24) := by kernel_rfl

/-- append of one list. -/
theorem list_app {ops : Array Oper} {rest : List Oper} {o : Oper} {a : Act} {w : World} {Q : Exit → Act → World → Prop} (hgd : o.guard = none) (s x : Operand) (ho : o.op = .call { callee := .builtin .append, args := #[s, x], argTypes := #[162, 162] })
    {B : Nat} {v : Value} {xs : List Value} (h : w.ownsRow B 51 1 v xs.length xs) (hB : B ≤ w.heap.size) (hs : a.eval s = v) {u : Value} (hu : u.oneCell' = true) {k c : Nat} (hx : a.eval x = .slice (some ⟨k, 0, none⟩) 1 c) (hc : w.cell? ⟨k, 0, none⟩ = some u) (hlen : xs.length ≤ 100000)
    (hk : ∀ v' w', w'.ownsRow B 51 1 v' (xs ++ [u]).length (xs ++ [u]) → w.grownBy w' v.ownBlock → wpList Tryz.prog ops Q rest (a.put o.dst v') w') : wpList Tryz.prog ops Q (o :: rest) a w := by
  obtain ⟨i0, hi, hz0, hz1, hz2⟩ := info_parts Tryz.info51
  have hnews : ∀ j y, [u][j]? = some y → w.cell? ((⟨k, 0, none⟩ : Addr).add j) = some y := by
    intro j y hj
    rw [Addr.add_lit, Nat.zero_add]
    match j, hj with
    | 0, hj => simp at hj; subst hj; exact hc
    | (j + 1), hj => simp at hj
  obtain ⟨v', w', h1, h2, h3, _⟩ := run_append_own (P := Tryz.prog) w B 162 o.type 51 i0 _ 1 24 Tryz.underlying162 hi hz0 hz1 hz2 rfl (by decide) v xs.length xs h ⟨k, 0, none⟩ 1 c [u] rfl hnews (by intro y hy; simp at hy; rw [hy]; exact hu) (by unfold maxLen; omega) (by omega) hB
  exact Lib.wpList_append_run w hgd s x 162 162 ho v _ hs hx v' w' h1 (hk v' w' (by rw [List.length_append]; exact h2) h3)

/-- What is made of the lists so far: the row of them, in v. -/
structure Outs (B r d : Nat) (w wr : World) (v : Value) (ys : List (Value × List N)) : Prop where
  own : wr.ownsRow (B + 1) 51 1 v ys.length (ys.map Prod.fst)
  seen : SeenM B r wr
  bel : Below B w wr
  trees : ∀ y ∈ ys, Tn (fun b => b < B) d w y.1 y.2 ∧ y.2 ≠ []
  size : B < wr.heap.size

theorem Outs.adds {B r d : Nat} {w wr X : World} {v : Value} {ys : List (Value × List N)} (h : Outs B r d w wr v ys) (hA : Adds wr X) : Outs B r d w X v ys := by
  have hb := hA.below
  have hg : wr.grownBy X none := ⟨hb.os, hb.tape, hb.output, hb.size, fun k hk _ => hb.block k hk⟩
  refine ⟨h.own.kept hg ?_, ?_, h.bel.trans (hb.mono (Nat.le_of_lt h.size)), h.trees, Nat.lt_of_lt_of_le h.size hb.size⟩
  · cases v.ownBlock with
    | none => exact .inl rfl
    | some k => exact .inr (by simp)
  · obtain ⟨es, clock, hm, hes⟩ := h.seen
    exact ⟨es, clock, by rw [hb.block r (lt_of_some hm)]; exact hm, fun e he => ⟨(hes e he).1.keep (fun b _ _ _ _ hb' => hb.block b (lt_of_some hb')), (hes e he).2⟩⟩

theorem Outs.pk {B r d : Nat} {w wr : World} {v : Value} {ys : List (Value × List N)} (h : Outs B r d w wr v ys) {k : Value} (hk : PK B w k) : PK B wr k :=
  hk.keep (fun b _ _ _ hlt _ => h.bel.block b hlt)

/-- The place of a list that is not empty. -/
theorem Tn.pk {B d : Nat} {w : World} {s : Value} {ts : List N} (h : Tn (fun b => b < B) d w s ts) (hne : ts ≠ []) : ∃ b off cap, s = .slice (some ⟨b, off, none⟩) ts.length cap ∧ ts.length ≤ cap ∧ PK B w (.agg #[.pointer (some ⟨b, off, none⟩), .int .i64 ts.length]) := by
  cases d with
  | zero => exact absurd h.1 hne
  | succ d =>
    obtain ⟨ao, cap, rfl, hc, h | ⟨b, off, rfl, hlt, hb, hz, hx⟩⟩ := h
    · exact absurd h hne
    · obtain ⟨x, ⟨c0, _⟩, _⟩ := hx 0 (List.length_pos_iff.2 hne)
      have hcell : ∃ cs t fr, w.heap[b]? = some (.cells cs t fr) := by
        simp only [World.cell?] at c0
        split at c0
        · rename_i heq
          exact ⟨_, _, _, heq⟩
        · cases c0
      obtain ⟨cs, t, fr, hh⟩ := hcell
      exact ⟨b, off, cap, rfl, hc, b, off, _, cs, t, fr, rfl, hh, hz.1, hb⟩

theorem Outs.push {B r d : Nat} {w wr X w1 : World} {v v' : Value} {ys : List (Value × List N)} {y : Value × List N} (h : Outs B r d w wr v ys) (hs : SeenM B r X) (hg : wr.grownBy X (some r)) (hsz : X.heap.size = wr.heap.size) (hr : r = B) {o : Obj}
    (ho : w1.ownsRow (B + 1) 51 1 v' (ys ++ [y]).length ((ys ++ [y]).map Prod.fst)) (hg1 : (X.alloc o).grownBy w1 v.ownBlock) (hy : Tn (fun b => b < B) d w y.1 y.2 ∧ y.2 ≠ []) : Outs B r d w w1 v' (ys ++ [y]) := by
  have hvB : ∀ k, v.ownBlock = some k → B + 1 ≤ k := by
    intro k hk
    rcases h.own.2 with ⟨rfl, _⟩ | ⟨g, cap, cur, rfl, hb, _⟩
    · cases hk
    · simp only [Value.ownBlock, Option.some.injEq] at hk
      omega
  have hX : Below B w X := by
    refine ⟨hg.os.trans h.bel.os, hg.tape.trans h.bel.tape, hg.output.trans h.bel.output, Nat.le_trans h.bel.size hg.size, fun k hk => ?_⟩
    rw [hg.block k (Nat.lt_trans hk h.size) (by simp; omega)]
    exact h.bel.block k hk
  have h1 : ∀ k, k < X.heap.size → k < B + 1 → w1.heap[k]? = X.heap[k]? := by
    intro k hk hkB
    rw [hg1.block k (by simp; omega) (fun e => by have := hvB k e.symm; omega)]
    exact Below.heap_alloc _ _ _ hk
  have hBX : B < X.heap.size := by rw [hsz]; exact h.size
  refine ⟨ho, ?_, ?_, ?_, ?_⟩
  · obtain ⟨es, clock, hm, hes⟩ := hs
    exact ⟨es, clock, by rw [h1 r (lt_of_some hm) (by omega)]; exact hm, fun e he => ⟨(hes e he).1.keep (fun b _ _ _ hlt hb' => h1 b (lt_of_some hb') (by omega)), (hes e he).2⟩⟩
  · refine ⟨hg1.os.trans hX.os, hg1.tape.trans hX.tape, hg1.output.trans hX.output, ?_, fun k hk => ?_⟩
    · have := hg1.size
      simp at this
      have := hX.size
      omega
    · rw [h1 k (by omega) (by omega)]
      exact hX.block k hk
  · intro z hz
    rcases List.mem_append.1 hz with hz | hz
    · exact h.trees z hz
    · simp only [List.mem_singleton] at hz
      rw [hz]
      exact hy
  · have := hg1.size
    simp at this
    omega

theorem Outs.lv {B r d : Nat} {w wr : World} {v : Value} {ys : List (Value × List N)} (h : Outs B r d w wr v ys) (hB : B = w.heap.size) : Lvs (fun _ => True) d wr v ys ∧ Adds w wr := by
  have hA : Adds w wr := Adds.of (by rw [← hB]; exact h.bel)
  have hT : ∀ x ∈ ys, Tn (fun _ => True) d wr x.1 x.2 := fun x hx => ((h.trees x hx).1.adds hA).weak (fun _ _ _ => trivial)
  refine ⟨?_, hA⟩
  have hc := fun g => h.own.cells (g := g)
  rcases h.own.2 with ⟨rfl, h0⟩ | ⟨g, cap, cur, rfl, hb, hg, hnc, hcm, hcs, htk⟩
  · have : ys = [] := List.length_eq_zero_iff.1 h0
    subst this
    exact ⟨none, 0, rfl, Nat.le_refl _, hT, .inl rfl⟩
  · refine ⟨_, cap, rfl, hnc, hT, .inr ⟨g, 0, rfl, lt_of_some hg, fun j hj => ?_⟩⟩
    have := hc g rfl j ys[j].1 (by simp [hj])
    rwa [Addr.add_lit] at this

end Go.Proofs.YtiacnmcdfpmcfaaGreatDoor
