/-
  The stack of pairs that the matcher of package expr holds.
-/
import Derived.Test.YtdlkpkldlljhcaaDoorEvals
import Derived.Deep.RegionLaw
import Derived.Laws.AppendOwn
import Derived.ArgAppend
namespace Go.Proofs.YtdlkpkldlljhcaaDoor
open Go.RowKit
attribute [local go_sem] cell?_more frozen?_more setCell_more size_more tape_more drew_more drewN_more more_drew more_drewN one_out plus_out plus_end lt_one le_p2 le_p3 le_p4 le_p5 le_p6 le_p7 le_p8 le_p9 le_p10 le_p11 le_p12 le_p13 le_p14 le_p15 le_p16 le_p17 le_p18 le_p19 le_p20 le_p21 le_p22 le_p23 le_p24 le_q0 le_q1 lt_q1 le_q2 lt_q2 le_q3 lt_q3 le_q4 lt_q4 le_q5 lt_q5 le_q6 lt_q6 le_q7 lt_q7 le_q8 lt_q8 le_q9 lt_q9 le_q10 lt_q10 le_q11 lt_q11 le_q12 lt_q12 le_q13 lt_q13 le_q14 lt_q14 le_q15 lt_q15 le_q16 lt_q16 le_q17 lt_q17 le_q18 lt_q18 le_q19 lt_q19 le_q20 lt_q20 le_q21 lt_q21 le_q22 lt_q22 le_q23 lt_q23 le_q24 lt_q24

theorem below_setCells' {B : Nat} {w w' : World} (h : Below B w w') {b : Nat} (hb : B ≤ b) : ∀ (vs : List Value) (i : Nat), Below B w (w'.setCells b i vs) := by
  intro vs
  induction vs generalizing w' with
  | nil => intro i; exact h
  | cons v r ih => intro i; exact ih (h.setCell (p := ⟨b, i, none⟩) hb v) (i + 1)

theorem below_setCells {B : Nat} {w w' : World} (h : Below B w w') {b : Nat} (hb : B ≤ b) (vs : List Value) (i : Nat) : Below B w (w'.setCells b i vs) := below_setCells' h hb vs i

/-- A pair of lists that is still to be held against each other. -/
structure It where
  sa : Value
  sb : Value
  ts : List N
  d : Nat

def It.cells (i : It) : List Value := [i.sa, i.sb]
def cellsI (its : List It) : List Value := its.flatMap It.cells

theorem cellsI_length (its : List It) : (cellsI its).length = its.length * 2 := by
  induction its with
  | nil => rfl
  | cons f r ih =>
    simp only [cellsI, List.flatMap_cons, List.length_append, List.length_cons] at *
    rw [ih]
    simp [It.cells]
    omega

theorem cellsI_append (l t : List It) : cellsI (l ++ t) = cellsI l ++ cellsI t := by simp [cellsI]

/-- A pair that lies below B, both of one list that is not empty. -/
def It.Ok (B : Nat) (W0 : World) (i : It) : Prop := Tn (· < B) i.d W0 i.sa i.ts ∧ Tn (· < B) i.d W0 i.sb i.ts ∧ i.ts ≠ []

/-- The matcher at M, and its stack. -/
def St (M B : Nat) (W0 W : World) (v : Value) (n : Int) (its : List It) : Prop :=
  W.heap[M]? = some (.cells #[v, .int .i64 n, .map none] 56 (0, 0)) ∧ W.ownsRow B 52 2 v its.length (cellsI its) ∧ Below B W0 W ∧ B ≤ M ∧ B ≤ W.heap.size ∧ ∀ i ∈ its, i.Ok B W0

theorem St.cells {M B : Nat} {W0 W : World} {v : Value} {n : Int} {its : List It} (h : St M B W0 W v n its) :
    W.cell? ⟨M, 0, none⟩ = some v ∧ W.cell? ⟨M, 1, none⟩ = some (.int .i64 n) ∧ W.cell? ⟨M, 2, none⟩ = some (.map none) ∧ (∀ i, W.frozen? ⟨M, i, none⟩ = false) ∧ M < W.heap.size := by
  refine ⟨by simp [World.cell?, h.1], by simp [World.cell?, h.1], by simp [World.cell?, h.1], fun i => by simp [World.frozen?, h.1], ?_⟩
  by_cases hlt : M < W.heap.size
  · exact hlt
  · have := h.1
    rw [Array.getElem?_eq_none (by omega)] at this
    cases this

theorem St.adds {M B : Nat} {W0 W W' : World} {v : Value} {n : Int} {its : List It} (h : St M B W0 W v n its) (hA : Adds W W') : St M B W0 W' v n its := by
  have hb := hA.below
  have hM := h.cells.2.2.2.2
  have hg : W.grownBy W' none := ⟨hb.os, hb.tape, hb.output, hb.size, fun k hk _ => hb.block k hk⟩
  refine ⟨by rw [hb.block M hM]; exact h.1, h.2.1.kept hg ?_, h.2.2.1.trans (hb.mono h.2.2.2.2.1), h.2.2.2.1, Nat.le_trans h.2.2.2.2.1 hb.size, h.2.2.2.2.2⟩
  cases v.ownBlock with
  | none => exact .inl rfl
  | some k => exact .inr (by simp)

theorem again_no (M : Nat) (n : Int) (x y : Value) (W : World) (h : W.cell? ⟨M, 1, none⟩ = some (.int .i64 n)) (hn : n ≤ 256) :
    Calls Tryd.prog 40 #[.pointer (some ⟨M, 0, none⟩), x, y] W fun e W' => e = .returned (.bool false) ∧ W' = W := by
  go_enter Tryd.func40, Tryd.ntmps40
  go_wp2
  go_ret
  exact ⟨rfl, rfl⟩

theorem Tryd.info52 : (Tryd.prog.info? 52).map (fun i => (i.zero, i.size, i.bytes)) = some (some (.agg #[.slice none 0 0, .slice none 0 0]), 2, 48) := by kernel_rfl

/-- append of one pair, and where the row lies behind it. -/
theorem push_one (w : World) (B : Nat) (ty : TypeId) (v : Value) (its : List It) (h : w.ownsRow B 52 2 v its.length (cellsI its)) (hB : B ≤ w.heap.size) (it : It) {ao bo : Option Addr} {an ac bn bc : Nat} (hsa : it.sa = .slice ao an ac) (hsb : it.sb = .slice bo bn bc)
    (k c : Nat) (hc : w.cell? ⟨k, 0, none⟩ = some it.sa) (hc' : w.cell? ⟨k, 1, none⟩ = some it.sb) (hlen : its.length ≤ 10000) :
    ∃ v' w', (Builtin.append_ #[53, 53] ty #[v, .slice (some ⟨k, 0, none⟩) 1 c]).run Tryd.prog w = .ok v' w' ∧ w'.ownsRow B 52 2 v' (its ++ [it]).length (cellsI (its ++ [it])) ∧ w.grownBy w' v.ownBlock ∧ (v'.ownBlock = v.ownBlock ∨ v'.ownBlock = some w.heap.size) := by
  obtain ⟨i0, hi, hz0, hz1, hz2⟩ := info_parts Tryd.info52
  have hnews : ∀ j u, [it.sa, it.sb][j]? = some u → w.cell? ((⟨k, 0, none⟩ : Addr).add j) = some u := by
    intro j u hj
    rw [Addr.add_lit, Nat.zero_add]
    match j, hj with
    | 0, hj => simp at hj; subst hj; exact hc
    | 1, hj => simp at hj; subst hj; exact hc'
    | (j + 2), hj => simp at hj
  have hone : ∀ u ∈ [it.sa, it.sb], u.oneCell' = true := by
    intro u hu
    rw [hsa, hsb] at hu
    simp only [List.mem_cons, List.mem_nil_iff, or_false] at hu
    rcases hu with rfl | rfl <;> rfl
  obtain ⟨v', w', h1, h2, h3, _⟩ := run_append_own (P := Tryd.prog) w B 53 ty 52 i0 _ 2 48 Tryd.underlying53 hi hz0 hz1 hz2 rfl (by decide) v its.length (cellsI its) h ⟨k, 0, none⟩ 1 c [it.sa, it.sb] rfl hnews hone (by unfold maxLen; omega) (by omega) hB
  refine ⟨v', w', h1, by rw [cellsI_append, List.length_append]; exact h2, h3, ?_⟩
  have hdet : ∀ v1 w1, (Builtin.append_ #[53, 53] ty #[v, .slice (some ⟨k, 0, none⟩) 1 c]).run Tryd.prog w = .ok v1 w1 → v' = v1 := by
    intro v1 w1 h
    rw [h1] at h
    simp only [Result.ok.injEq] at h
    exact h.1
  have hlen2 : (cellsI its).length = its.length * i0.size := by rw [cellsI_length, hz1]
  have hl2 : [it.sa, it.sb].length = 1 * i0.size := by rw [hz1]; rfl
  rcases h.2 with ⟨rfl, hn⟩ | ⟨g, cap, cur, rfl, hbg, hg, hnc, hcm, hcs, htake⟩
  · have := hdet _ _ (run_append_nil (P := Tryd.prog) w 53 ty 52 i0 _ Tryd.underlying53 hi hz0 ⟨k, 0, none⟩ 1 c [it.sa, it.sb] hl2 hnews (by omega) (by omega) (by rw [hz2]; omega))
    rw [this]
    exact .inr rfl
  · by_cases hroom : its.length + 1 ≤ cap
    · have := hdet _ _ (run_append_room (P := Tryd.prog) w 53 ty 52 i0 Tryd.underlying53 hi g its.length cap cur hg ⟨k, 0, none⟩ 1 c [it.sa, it.sb] hl2 hnews hone hroom (by rw [hz1, hcs]; simp; omega))
      rw [this]
      exact .inl rfl
    · have := hdet _ _ (run_append_grow (P := Tryd.prog) w 53 ty 52 i0 _ Tryd.underlying53 hi hz0 ⟨g, 0, none⟩ its.length cap (cellsI its) hlen2 (h.cells (g := g) rfl) ⟨k, 0, none⟩ 1 c [it.sa, it.sb] hl2 hnews (by omega) (by omega) (by rw [hz2]; exact growslice_fits (by omega) (by omega)))
      rw [this]
      exact .inr rfl

theorem set_m0 {W : World} {M : Nat} {a b c x : Value} (h : W.heap[M]? = some (.cells #[a, b, c] 56 (0, 0))) : (W.setCell ⟨M, 0, none⟩ x).heap[M]? = some (.cells #[x, b, c] 56 (0, 0)) := by
  simp [World.setCell, Array.getElem?_modify, h]

theorem set_m1 {W : World} {M : Nat} {a b c x : Value} (h : W.heap[M]? = some (.cells #[a, b, c] 56 (0, 0))) : (W.setCell ⟨M, 1, none⟩ x).heap[M]? = some (.cells #[a, x, c] 56 (0, 0)) := by
  simp [World.setCell, Array.getElem?_modify, h]

theorem St.far {M B : Nat} {W0 W : World} {v : Value} {n : Int} {its : List It} (h : St M B W0 W v n its) : v.ownBlock ≠ some M := by
  intro e
  rcases h.2.1.2 with ⟨rfl, _⟩ | ⟨g, cap, cur, rfl, hb, hg, _⟩
  · cases e
  · simp only [Value.ownBlock, Option.some.injEq] at e
    subst e
    rw [h.1] at hg
    simp at hg

theorem grown_setCell {w w' : World} {M i : Nat} {x : Value} (hw : w' = w.setCell ⟨M, i, none⟩ x) : w.grownBy w' (some M) := by
  subst hw
  refine ⟨rfl, rfl, rfl, by simp, fun k hk hne => ?_⟩
  exact Below.heap_setCell w ⟨M, i, none⟩ x k (fun e => hne (by rw [e]))

theorem St.tick {M B : Nat} {W0 W : World} {v : Value} {n m : Int} {its : List It} (h : St M B W0 W v n its) : St M B W0 (W.setCell ⟨M, 1, none⟩ (.int .i64 m)) v m its := by
  refine ⟨set_m1 h.1, h.2.1.kept (grown_setCell rfl) (.inr h.far), below_setCells h.2.2.1 h.2.2.2.1 [.int .i64 m] 1, h.2.2.2.1, ?_, h.2.2.2.2.2⟩
  have := h.2.2.2.2.1
  simpa using this

/-- One more pair on the stack. -/
theorem St.push {M B : Nat} {W0 W W' : World} {v v' : Value} {n : Int} {its : List It} {it : It} (h : St M B W0 W v n its) (ho : W'.ownsRow B 52 2 v' (its ++ [it]).length (cellsI (its ++ [it]))) (hg : W.grownBy W' v.ownBlock) (hit : it.Ok B W0) :
    St M B W0 (W'.setCell ⟨M, 0, none⟩ v') v' n (its ++ [it]) := by
  have hM := h.cells.2.2.2.2
  have h1 : W'.heap[M]? = some (.cells #[v, .int .i64 n, .map none] 56 (0, 0)) := by
    rw [hg.block M hM (fun e => h.far e.symm)]
    exact h.1
  have hfar : v'.ownBlock ≠ some M := by
    intro e
    rcases ho.2 with ⟨rfl, _⟩ | ⟨g, cap, cur, rfl, hb, hgg, _⟩
    · cases e
    · simp only [Value.ownBlock, Option.some.injEq] at e
      subst e
      rw [h1] at hgg
      simp at hgg
  have hb : Below B W0 W' := by
    refine ⟨hg.os.trans h.2.2.1.os, hg.tape.trans h.2.2.1.tape, hg.output.trans h.2.2.1.output, Nat.le_trans h.2.2.1.size hg.size, fun k hk => ?_⟩
    rw [hg.block k (Nat.lt_of_lt_of_le hk h.2.2.2.2.1) ?_]
    · exact h.2.2.1.block k hk
    · intro e
      have := h.2.1.lt k e.symm
      omega
  refine ⟨set_m0 h1, ho.kept (grown_setCell rfl) (.inr hfar), below_setCells hb h.2.2.2.1 [v'] 0, h.2.2.2.1, ?_, ?_⟩
  · have := Nat.le_trans h.2.2.2.2.1 hg.size
    simpa using this
  · intro i hi
    rcases List.mem_append.1 hi with hi | hi
    · exact h.2.2.2.2.2 i hi
    · simp at hi
      subst hi
      exact hit

theorem box2_at {X : World} {a b : Value} {Ty : TypeId} {k : Nat} (hk : k = X.heap.size) : (X.alloc (.cells #[a, b] Ty)).cell? ⟨k, 0, none⟩ = some a ∧ (X.alloc (.cells #[a, b] Ty)).cell? ⟨k, 1, none⟩ = some b := by
  subst hk
  exact ⟨by simp, by simp⟩

/-- append of one pair, as one step of a region that draws its order. -/
theorem push_step {ops : Array Oper} {o : Oper} {a : Act} {w : World} {K : Act → World → Prop} {Q : Exit → Act → World → Prop} {E : Prop} (hgd : o.guard = none) (s x : Operand) (ho : o.op = .call { callee := .builtin .append, args := #[s, x], argTypes := #[53, 53] })
    {B : Nat} {v : Value} {its : List It} (h : w.ownsRow B 52 2 v its.length (cellsI its)) (hB : B ≤ w.heap.size) (hs : a.eval s = v) (it : It) {ao bo : Option Addr} {an ac bn bc : Nat} (hsa : it.sa = .slice ao an ac) (hsb : it.sb = .slice bo bn bc)
    {k c : Nat} (hx : a.eval x = .slice (some ⟨k, 0, none⟩) 1 c) (hc : w.cell? ⟨k, 0, none⟩ = some it.sa) (hc' : w.cell? ⟨k, 1, none⟩ = some it.sb) (hlen : its.length ≤ 10000)
    (hk : ∀ (va : Option Addr) (vn vc : Nat) w', w'.ownsRow B 52 2 (.slice va vn vc) (its ++ [it]).length (cellsI (its ++ [it])) → w.grownBy w' v.ownBlock → ((Value.slice va vn vc).ownBlock = v.ownBlock ∨ (Value.slice va vn vc).ownBlock = some w.heap.size) → K (a.put o.dst (.slice va vn vc)) w') : if Region.wanted o (yielded ops a.tmps) = true then Oper.wp Tryd.prog o a w K Q else E := by
  have hw : Region.wanted o (yielded ops a.tmps) = true := by simp [Region.wanted, hgd]
  rw [if_pos hw]
  obtain ⟨v', w', hr, h2, h3, h4⟩ := push_one w B o.type v its h hB it hsa hsb k c hc hc' hlen
  obtain ⟨va, vn, vc, rfl⟩ : ∃ va vn vc, v' = .slice va vn vc := by
    rcases h2.2 with ⟨rfl, _⟩ | ⟨g, cap, cur, rfl, _⟩
    · exact ⟨_, _, _, rfl⟩
    · exact ⟨_, _, _, rfl⟩
  exact Lib.wp_append_run w s x 53 53 ho v _ hs hx _ w' hr (hk va vn vc w' h2 h3 h4)

theorem St.after {M B : Nat} {W0 W W' : World} {v : Value} {n : Int} {its : List It} (h : St M B W0 W v n its) (hg : W.grownBy W' v.ownBlock) : W'.cell? ⟨M, 0, none⟩ = some v ∧ W'.frozen? ⟨M, 0, none⟩ = false := by
  have hM := h.cells.2.2.2.2
  have h1 : W'.heap[M]? = some (.cells #[v, .int .i64 n, .map none] 56 (0, 0)) := by
    rw [hg.block M hM (fun e => h.far e.symm)]
    exact h.1
  exact ⟨by simp [World.cell?, h1], by simp [World.frozen?, h1]⟩

theorem adds2 (w : World) (o o' : Obj) : Adds w ((w.alloc o).alloc o') := ((Adds.refl _).alloc _).alloc _

/-- The stack without its last pair. -/
theorem St.pop {M B : Nat} {W0 W : World} {g cap : Nat} {n : Int} {its : List It} {it : It} (h : St M B W0 W (.slice (some ⟨g, 0, none⟩) (its ++ [it]).length cap) n (its ++ [it])) :
    St M B W0 (W.setCell ⟨M, 0, none⟩ (.slice (some ⟨g, 0, none⟩) its.length cap)) (.slice (some ⟨g, 0, none⟩) its.length cap) n its := by
  have hfar := h.far
  have ho : W.ownsRow B 52 2 (.slice (some ⟨g, 0, none⟩) its.length cap) its.length (cellsI its) := by
    refine ⟨cellsI_length its, ?_⟩
    rcases h.2.1.2 with ⟨h0, _⟩ | ⟨g', cap', cur, he, hb, hg, hnc, hcm, hcs, htk⟩
    · cases h0
    · simp only [Value.slice.injEq, Option.some.injEq, Addr.mk.injEq] at he
      obtain ⟨⟨rfl, _⟩, _, rfl⟩ := he
      refine .inr ⟨g, cap, cur, rfl, hb, hg, by simp at hnc; omega, hcm, hcs, ?_⟩
      have h2 : (cur.toList.take ((its ++ [it]).length * 2)).take (its.length * 2) = (cellsI (its ++ [it])).take (its.length * 2) := by rw [htk]
      rw [List.take_take, cellsI_append, ← cellsI_length its, List.take_left, cellsI_length] at h2
      rw [← h2]
      congr 1
      simp
  refine ⟨set_m0 h.1, ho.kept (grown_setCell rfl) (.inr (by simpa [Value.ownBlock] using hfar)), below_setCells h.2.2.1 h.2.2.2.1 [_] 0, h.2.2.2.1, ?_, fun i hi => h.2.2.2.2.2 i (List.mem_append_left _ hi)⟩
  have := h.2.2.2.2.1
  simpa using this

theorem St.top {M B : Nat} {W0 W : World} {v : Value} {n : Int} {its : List It} {it : It} (h : St M B W0 W v n (its ++ [it])) :
    ∃ g cap, v = .slice (some ⟨g, 0, none⟩) (its ++ [it]).length cap ∧ (its ++ [it]).length ≤ cap ∧ g < W.heap.size ∧ W.cell? ⟨g, its.length * 2, none⟩ = some it.sa ∧ W.cell? ⟨g, its.length * 2 + 1, none⟩ = some it.sb := by
  have hc := fun g => h.2.1.cells (g := g)
  have hlt := h.2.1.lt
  rcases h.2.1.2 with ⟨_, h0⟩ | ⟨g, cap, cur, rfl, hb, hg, hnc, hcm, hcs, htk⟩
  · simp at h0
  · have hl : (cellsI its).length = its.length * 2 := cellsI_length its
    refine ⟨g, cap, rfl, hnc, (hlt g rfl).2, ?_, ?_⟩
    · have := hc g rfl (its.length * 2) it.sa (by rw [cellsI_append, List.getElem?_append_right (by omega), hl]; simp [cellsI, It.cells])
      rwa [Addr.add_lit, Nat.zero_add] at this
    · have := hc g rfl (its.length * 2 + 1) it.sb (by rw [cellsI_append, List.getElem?_append_right (by omega), hl]; simp [cellsI, It.cells])
      rwa [Addr.add_lit, Nat.zero_add] at this

theorem below_two (w : World) (o o' : Obj) {B : Nat} (hB : B = w.heap.size) : Below B w ((w.alloc o).alloc o') := by
  subst hB
  exact (adds2 w o o').below

end Go.Proofs.YtdlkpkldlljhcaaDoor
