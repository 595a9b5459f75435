/-
  The stack of pairs that cell.Same works on; its functions again and match, by contracts.
-/
import Derived.Test.YtcgbhbbljjdejaaRefSame
import Derived.Test.YtcgbhbbljjdejaaMix
import Derived.Deep.RegionLaw
namespace Go.Proofs.Ytcgbhbbljjdejaa
open Go.RowKit
attribute [local go_sem] cell?_more frozen?_more setCell_more size_more tape_more drew_more drewN_more more_drew more_drewN one_out plus_out plus_end lt_one le_p2 le_p3 le_p4 le_p5 le_p6 le_p7 le_p8 le_p9 le_p10 le_p11 le_p12 le_p13 le_p14 le_p15 le_p16 le_p17 le_p18 le_p19 le_p20 le_p21 le_p22 le_p23 le_p24 le_q0 le_q1 lt_q1 le_q2 lt_q2 le_q3 lt_q3 le_q4 lt_q4 le_q5 lt_q5 le_q6 lt_q6 le_q7 lt_q7 le_q8 lt_q8 le_q9 lt_q9 le_q10 lt_q10 le_q11 lt_q11 le_q12 lt_q12 le_q13 lt_q13 le_q14 lt_q14 le_q15 lt_q15 le_q16 lt_q16 le_q17 lt_q17 le_q18 lt_q18 le_q19 lt_q19 le_q20 lt_q20 le_q21 lt_q21 le_q22 lt_q22 le_q23 lt_q23 le_q24 lt_q24

/-- A pair of lists that is still to be held against each other. -/
structure It where
  sa : Value
  sb : Value
  la : List T
  lb : List T
  da : Nat
  db : Nat

def It.cells (i : It) : List Value := [i.sa, i.sb]
def cellsI (its : List It) : List Value := its.flatMap It.cells

theorem cellsI_length (its : List It) : (cellsI its).length = its.length * 2 := by
  induction its with
  | nil => rfl
  | cons f r ih =>
    simp only [cellsI, List.flatMap_cons, List.length_append, List.length_cons] at *
    rw [ih]
    simp [It.cells]
    omega

theorem cellsI_append (l t : List It) : cellsI (l ++ t) = cellsI l ++ cellsI t := by simp [cellsI]

/-- A pair that lies below B, its lists short. -/
def It.Ok (B : Nat) (W0 : World) (i : It) : Prop := Tr (· < B) i.da W0 i.sa i.la ∧ Tr (· < B) i.db W0 i.sb i.lb ∧ Slim i.da (tList i.la)

/-- The matcher at M, and its stack. -/
def St (M B : Nat) (W0 W : World) (v : Value) (n : Int) (its : List It) : Prop :=
  W.heap[M]? = some (.cells #[v, .int .i64 n, .map none] 86 (0, 0)) ∧ W.ownsRow B 82 2 v its.length (cellsI its) ∧ Below B W0 W ∧ B ≤ M ∧ B ≤ W.heap.size ∧ ∀ i ∈ its, i.Ok B W0

theorem St.cells {M B : Nat} {W0 W : World} {v : Value} {n : Int} {its : List It} (h : St M B W0 W v n its) :
    W.cell? ⟨M, 0, none⟩ = some v ∧ W.cell? ⟨M, 1, none⟩ = some (.int .i64 n) ∧ W.cell? ⟨M, 2, none⟩ = some (.map none) ∧ (∀ i, W.frozen? ⟨M, i, none⟩ = false) ∧ M < W.heap.size := by
  refine ⟨by simp [World.cell?, h.1], by simp [World.cell?, h.1], by simp [World.cell?, h.1], fun i => by simp [World.frozen?, h.1], ?_⟩
  by_cases hlt : M < W.heap.size
  · exact hlt
  · have := h.1
    rw [Array.getElem?_eq_none (by omega)] at this
    cases this

theorem St.adds {M B : Nat} {W0 W W' : World} {v : Value} {n : Int} {its : List It} (h : St M B W0 W v n its) (hA : Adds W W') : St M B W0 W' v n its := by
  have hb := hA.below
  have hM := h.cells.2.2.2.2
  have hg : W.grownBy W' none := ⟨hb.os, hb.tape, hb.output, hb.size, fun k hk _ => hb.block k hk⟩
  refine ⟨by rw [hb.block M hM]; exact h.1, h.2.1.kept hg ?_, h.2.2.1.trans (hb.mono h.2.2.2.2.1), h.2.2.2.1, Nat.le_trans h.2.2.2.2.1 hb.size, h.2.2.2.2.2⟩
  cases v.ownBlock with
  | none => exact .inl rfl
  | some k => exact .inr (by simp)

theorem again_no (M : Nat) (n : Int) (x y : Value) (W : World) (h : W.cell? ⟨M, 1, none⟩ = some (.int .i64 n)) (hn : n ≤ 4096) :
    Calls Try.prog 58 #[.pointer (some ⟨M, 0, none⟩), x, y] W fun e W' => e = .returned (.bool false) ∧ W' = W := by
  go_enter Try.func58, Try.ntmps58
  go_wp2
  go_ret
  exact ⟨rfl, rfl⟩

theorem Try.info82 : (Try.prog.info? 82).map (fun i => (i.zero, i.size, i.bytes)) = some (some (.agg #[.slice none 0 0, .slice none 0 0]), 2, 48) := by kernel_rfl

/-- append of one pair, and where the row lies behind it. -/
theorem push_one (w : World) (B : Nat) (ty : TypeId) (v : Value) (its : List It) (h : w.ownsRow B 82 2 v its.length (cellsI its)) (hB : B ≤ w.heap.size) (it : It) {ao bo : Option Addr} {an ac bn bc : Nat} (hsa : it.sa = .slice ao an ac) (hsb : it.sb = .slice bo bn bc)
    (k c : Nat) (hc : w.cell? ⟨k, 0, none⟩ = some it.sa) (hc' : w.cell? ⟨k, 1, none⟩ = some it.sb) (hlen : its.length ≤ 10000) :
    ∃ v' w', (Builtin.append_ #[83, 83] ty #[v, .slice (some ⟨k, 0, none⟩) 1 c]).run Try.prog w = .ok v' w' ∧ w'.ownsRow B 82 2 v' (its ++ [it]).length (cellsI (its ++ [it])) ∧ w.grownBy w' v.ownBlock ∧ (v'.ownBlock = v.ownBlock ∨ v'.ownBlock = some w.heap.size) := by
  obtain ⟨i0, hi, hz0, hz1, hz2⟩ := info_parts Try.info82
  have hnews : ∀ j u, [it.sa, it.sb][j]? = some u → w.cell? ((⟨k, 0, none⟩ : Addr).add j) = some u := by
    intro j u hj
    rw [Addr.add_lit, Nat.zero_add]
    match j, hj with
    | 0, hj => simp at hj; subst hj; exact hc
    | 1, hj => simp at hj; subst hj; exact hc'
    | (j + 2), hj => simp at hj
  have hone : ∀ u ∈ [it.sa, it.sb], u.oneCell' = true := by
    intro u hu
    rw [hsa, hsb] at hu
    simp only [List.mem_cons, List.mem_nil_iff, or_false] at hu
    rcases hu with rfl | rfl <;> rfl
  obtain ⟨v', w', h1, h2, h3, _⟩ := run_append_own (P := Try.prog) w B 83 ty 82 i0 _ 2 48 Try.underlying83 hi hz0 hz1 hz2 rfl (by decide) v its.length (cellsI its) h ⟨k, 0, none⟩ 1 c [it.sa, it.sb] rfl hnews hone (by unfold maxLen; omega) (by omega) hB
  refine ⟨v', w', h1, by rw [cellsI_append, List.length_append]; exact h2, h3, ?_⟩
  have hdet : ∀ v1 w1, (Builtin.append_ #[83, 83] ty #[v, .slice (some ⟨k, 0, none⟩) 1 c]).run Try.prog w = .ok v1 w1 → v' = v1 := by
    intro v1 w1 h
    rw [h1] at h
    simp only [Result.ok.injEq] at h
    exact h.1
  have hlen2 : (cellsI its).length = its.length * i0.size := by rw [cellsI_length, hz1]
  have hl2 : [it.sa, it.sb].length = 1 * i0.size := by rw [hz1]; rfl
  rcases h.2 with ⟨rfl, hn⟩ | ⟨g, cap, cur, rfl, hbg, hg, hnc, hcm, hcs, htake⟩
  · have := hdet _ _ (run_append_nil (P := Try.prog) w 83 ty 82 i0 _ Try.underlying83 hi hz0 ⟨k, 0, none⟩ 1 c [it.sa, it.sb] hl2 hnews (by omega) (by omega) (by rw [hz2]; omega))
    rw [this]
    exact .inr rfl
  · by_cases hroom : its.length + 1 ≤ cap
    · have := hdet _ _ (run_append_room (P := Try.prog) w 83 ty 82 i0 Try.underlying83 hi g its.length cap cur hg ⟨k, 0, none⟩ 1 c [it.sa, it.sb] hl2 hnews hone hroom (by rw [hz1, hcs]; simp; omega))
      rw [this]
      exact .inl rfl
    · have := hdet _ _ (run_append_grow (P := Try.prog) w 83 ty 82 i0 _ Try.underlying83 hi hz0 ⟨g, 0, none⟩ its.length cap (cellsI its) hlen2 (h.cells (g := g) rfl) ⟨k, 0, none⟩ 1 c [it.sa, it.sb] hl2 hnews (by omega) (by omega) (by rw [hz2]; exact growslice_fits (by omega) (by omega)))
      rw [this]
      exact .inr rfl

theorem set_m0 {W : World} {M : Nat} {a b c x : Value} (h : W.heap[M]? = some (.cells #[a, b, c] 86 (0, 0))) : (W.setCell ⟨M, 0, none⟩ x).heap[M]? = some (.cells #[x, b, c] 86 (0, 0)) := by
  simp [World.setCell, Array.getElem?_modify, h]

theorem set_m1 {W : World} {M : Nat} {a b c x : Value} (h : W.heap[M]? = some (.cells #[a, b, c] 86 (0, 0))) : (W.setCell ⟨M, 1, none⟩ x).heap[M]? = some (.cells #[a, x, c] 86 (0, 0)) := by
  simp [World.setCell, Array.getElem?_modify, h]

theorem St.far {M B : Nat} {W0 W : World} {v : Value} {n : Int} {its : List It} (h : St M B W0 W v n its) : v.ownBlock ≠ some M := by
  intro e
  rcases h.2.1.2 with ⟨rfl, _⟩ | ⟨g, cap, cur, rfl, hb, hg, _⟩
  · cases e
  · simp only [Value.ownBlock, Option.some.injEq] at e
    subst e
    rw [h.1] at hg
    simp at hg

theorem grown_setCell {w w' : World} {M i : Nat} {x : Value} (hw : w' = w.setCell ⟨M, i, none⟩ x) : w.grownBy w' (some M) := by
  subst hw
  refine ⟨rfl, rfl, rfl, by simp, fun k hk hne => ?_⟩
  exact Below.heap_setCell w ⟨M, i, none⟩ x k (fun e => hne (by rw [e]))

theorem St.tick {M B : Nat} {W0 W : World} {v : Value} {n m : Int} {its : List It} (h : St M B W0 W v n its) : St M B W0 (W.setCell ⟨M, 1, none⟩ (.int .i64 m)) v m its := by
  refine ⟨set_m1 h.1, h.2.1.kept (grown_setCell rfl) (.inr h.far), below_setCells h.2.2.1 h.2.2.2.1 [.int .i64 m] 1, h.2.2.2.1, ?_, h.2.2.2.2.2⟩
  have := h.2.2.2.2.1
  simpa using this

/-- One more pair on the stack. -/
theorem St.push {M B : Nat} {W0 W W' : World} {v v' : Value} {n : Int} {its : List It} {it : It} (h : St M B W0 W v n its) (ho : W'.ownsRow B 82 2 v' (its ++ [it]).length (cellsI (its ++ [it]))) (hg : W.grownBy W' v.ownBlock) (hit : it.Ok B W0) :
    St M B W0 (W'.setCell ⟨M, 0, none⟩ v') v' n (its ++ [it]) := by
  have hM := h.cells.2.2.2.2
  have h1 : W'.heap[M]? = some (.cells #[v, .int .i64 n, .map none] 86 (0, 0)) := by
    rw [hg.block M hM (fun e => h.far e.symm)]
    exact h.1
  have hfar : v'.ownBlock ≠ some M := by
    intro e
    rcases ho.2 with ⟨rfl, _⟩ | ⟨g, cap, cur, rfl, hb, hgg, _⟩
    · cases e
    · simp only [Value.ownBlock, Option.some.injEq] at e
      subst e
      rw [h1] at hgg
      simp at hgg
  have hb : Below B W0 W' := by
    refine ⟨hg.os.trans h.2.2.1.os, hg.tape.trans h.2.2.1.tape, hg.output.trans h.2.2.1.output, Nat.le_trans h.2.2.1.size hg.size, fun k hk => ?_⟩
    rw [hg.block k (Nat.lt_of_lt_of_le hk h.2.2.2.2.1) ?_]
    · exact h.2.2.1.block k hk
    · intro e
      have := h.2.1.lt k e.symm
      omega
  refine ⟨set_m0 h1, ho.kept (grown_setCell rfl) (.inr hfar), below_setCells hb h.2.2.2.1 [v'] 0, h.2.2.2.1, ?_, ?_⟩
  · have := Nat.le_trans h.2.2.2.2.1 hg.size
    simpa using this
  · intro i hi
    rcases List.mem_append.1 hi with hi | hi
    · exact h.2.2.2.2.2 i hi
    · simp at hi
      subst hi
      exact hit

/-- How many pairs are made of a list, so deep. -/
def cntL : Nat → List T → Nat
  | 0, _ => 1
  | d + 1, ts => 1 + (ts.map (fun t => if t.list.isEmpty then 0 else cntL d t.list)).sum

def topEq (a b : T) : Prop := a.kind = b.kind ∧ a.num = b.num ∧ a.text.toList = b.text.toList ∧ a.list.length = b.list.length

theorem Tr.elem' {ok : Nat → Prop} {d : Nat} {w : World} {ao : Option Addr} {n cap : Nat} {ts : List T} (h : Tr ok d w (.slice ao n cap) ts) {k : Nat} (hk : k < ts.length) :
    ∃ d' b off x, d = d' + 1 ∧ ao = some ⟨b, off, none⟩ ∧ ok b ∧ (w.cell? ⟨b, off + k * 4, none⟩ = some (.int .i64 ts[k].kind) ∧ w.cell? ⟨b, off + k * 4 + 1, none⟩ = some (.int .i64 ts[k].num) ∧ w.cell? ⟨b, off + k * 4 + 2, none⟩ = some (.string ts[k].text) ∧ w.cell? ⟨b, off + k * 4 + 3, none⟩ = some x) ∧ Tr ok d' w x ts[k].list := by
  cases d with
  | zero =>
    obtain ⟨rfl, _⟩ := h
    simp at hk
  | succ d =>
    obtain ⟨ao', cap', he, _, rfl | ⟨b, off, rfl, hlt, hok, hx⟩⟩ := h
    · simp at hk
    · simp only [Value.slice.injEq] at he
      obtain ⟨x, hc, _, ht⟩ := hx k hk
      exact ⟨d, b, off, x, rfl, he.1, hok, hc, ht⟩

theorem box2_at {X : World} {a b : Value} {Ty : TypeId} {k : Nat} (hk : k = X.heap.size) : (X.alloc (.cells #[a, b] Ty)).cell? ⟨k, 0, none⟩ = some a ∧ (X.alloc (.cells #[a, b] Ty)).cell? ⟨k, 1, none⟩ = some b := by
  subst hk
  exact ⟨by simp, by simp⟩

/-- append of one pair, as one step of a region that draws its order. -/
theorem push_step {ops : Array Oper} {o : Oper} {a : Act} {w : World} {K : Act → World → Prop} {Q : Exit → Act → World → Prop} {E : Prop} (hgd : o.guard = none) (s x : Operand) (ho : o.op = .call { callee := .builtin .append, args := #[s, x], argTypes := #[83, 83] })
    {B : Nat} {v : Value} {its : List It} (h : w.ownsRow B 82 2 v its.length (cellsI its)) (hB : B ≤ w.heap.size) (hs : a.eval s = v) (it : It) {ao bo : Option Addr} {an ac bn bc : Nat} (hsa : it.sa = .slice ao an ac) (hsb : it.sb = .slice bo bn bc)
    {k c : Nat} (hx : a.eval x = .slice (some ⟨k, 0, none⟩) 1 c) (hc : w.cell? ⟨k, 0, none⟩ = some it.sa) (hc' : w.cell? ⟨k, 1, none⟩ = some it.sb) (hlen : its.length ≤ 10000)
    (hk : ∀ (va : Option Addr) (vn vc : Nat) w', w'.ownsRow B 82 2 (.slice va vn vc) (its ++ [it]).length (cellsI (its ++ [it])) → w.grownBy w' v.ownBlock → ((Value.slice va vn vc).ownBlock = v.ownBlock ∨ (Value.slice va vn vc).ownBlock = some w.heap.size) → K (a.put o.dst (.slice va vn vc)) w') : if Region.wanted o (yielded ops a.tmps) = true then Oper.wp Try.prog o a w K Q else E := by
  have hw : Region.wanted o (yielded ops a.tmps) = true := by simp [Region.wanted, hgd]
  rw [if_pos hw]
  obtain ⟨v', w', hr, h2, h3, h4⟩ := push_one w B o.type v its h hB it hsa hsb k c hc hc' hlen
  obtain ⟨va, vn, vc, rfl⟩ : ∃ va vn vc, v' = .slice va vn vc := by
    rcases h2.2 with ⟨rfl, _⟩ | ⟨g, cap, cur, rfl, _⟩
    · exact ⟨_, _, _, rfl⟩
    · exact ⟨_, _, _, rfl⟩
  exact Lib.wp_append_run w s x 83 83 ho v _ hs hx _ w' hr (hk va vn vc w' h2 h3 h4)

theorem St.after {M B : Nat} {W0 W W' : World} {v : Value} {n : Int} {its : List It} (h : St M B W0 W v n its) (hg : W.grownBy W' v.ownBlock) : W'.cell? ⟨M, 0, none⟩ = some v ∧ W'.frozen? ⟨M, 0, none⟩ = false := by
  have hM := h.cells.2.2.2.2
  have h1 : W'.heap[M]? = some (.cells #[v, .int .i64 n, .map none] 86 (0, 0)) := by
    rw [hg.block M hM (fun e => h.far e.symm)]
    exact h.1
  exact ⟨by simp [World.cell?, h1], by simp [World.frozen?, h1]⟩

theorem adds2 (w : World) (o o' : Obj) : Adds w ((w.alloc o).alloc o') := ((Adds.refl _).alloc _).alloc _

/-- What a round of match leaves: the stack, and what it stands for. -/
def Rnd (M B Bp : Nat) (W0 : World) (it : It) (n : Int) (its : List It) (k : Nat) (W : World) : Prop :=
  ∃ v pu, St M B W0 W v n (its ++ pu) ∧ v.ownBlock ≠ some Bp ∧ Bp < W.heap.size ∧ W.cell? ⟨Bp, 0, none⟩ = some it.sa ∧ W.cell? ⟨Bp, 1, none⟩ = some it.sb ∧ pu.length ≤ k ∧
    ((∀ j (h : j < it.la.length) (h' : j < it.lb.length), j < k → it.la[j] = it.lb[j]) ↔ ∀ x ∈ pu, x.la = x.lb) ∧
    (pu.map (fun x => cntL x.da x.la)).sum = ((it.la.take k).map (fun t => if t.list.isEmpty then 0 else cntL (it.da - 1) t.list)).sum

theorem rnd_push {M B Bp : Nat} {W0 wr Wp w4 : World} {it new : It} {n : Int} {its pu : List It} {k : Nat} {v1 v' : Value} (hS : St M B W0 wr v1 n (its ++ pu)) (hA : Adds wr Wp) (ho : w4.ownsRow B 82 2 v' ((its ++ pu) ++ [new]).length (cellsI ((its ++ pu) ++ [new]))) (hg : Wp.grownBy w4 v1.ownBlock)
    (hbk : v'.ownBlock = v1.ownBlock ∨ v'.ownBlock = some Wp.heap.size) (hnew : new.Ok B W0) (hfar : v1.ownBlock ≠ some Bp) (hBp : Bp < wr.heap.size) (hBM : Bp ≠ M) (p0 : wr.cell? ⟨Bp, 0, none⟩ = some it.sa) (p1 : wr.cell? ⟨Bp, 1, none⟩ = some it.sb) (hpl : pu.length ≤ k)
    (hiff : (∀ j (h : j < it.la.length) (h' : j < it.lb.length), j < k + 1 → it.la[j] = it.lb[j]) ↔ ∀ x ∈ pu ++ [new], x.la = x.lb)
    (hsum : ((pu ++ [new]).map (fun x => cntL x.da x.la)).sum = ((it.la.take (k + 1)).map (fun t => if t.list.isEmpty then 0 else cntL (it.da - 1) t.list)).sum) :
    Rnd M B Bp W0 it n its (k + 1) (w4.setCell ⟨M, 0, none⟩ v') := by
  have hc : ∀ i, (w4.setCell ⟨M, 0, none⟩ v').cell? ⟨Bp, i, none⟩ = wr.cell? ⟨Bp, i, none⟩ := by
    intro i
    rw [World.cell?_of_block (w := w4) (w' := w4.setCell ⟨M, 0, none⟩ v') (a := ⟨Bp, i, none⟩) (Below.heap_setCell w4 ⟨M, 0, none⟩ v' Bp hBM)]
    rw [World.cell?_of_block (w := Wp) (w' := w4) (a := ⟨Bp, i, none⟩) (hg.block Bp (Nat.lt_of_lt_of_le hBp hA.below.size) (fun e => hfar e.symm))]
    exact hA.below.cell (by exact hBp)
  refine ⟨v', pu ++ [new], by rw [← List.append_assoc]; exact (hS.adds hA).push ho hg hnew, ?_, ?_, by rw [hc]; exact p0, by rw [hc]; exact p1, by simp; omega, hiff, hsum⟩
  · rcases hbk with e | e
    · rw [e]; exact hfar
    · rw [e]
      have := hA.below.size
      simp only [ne_eq, Option.some.injEq]
      omega
  · have h1 := hA.below.size
    have h2 := hg.size
    simp
    omega

set_option maxHeartbeats 3000000 in
theorem match_any (M B : Nat) (W0 W : World) (v : Value) (n : Int) (its : List It) (hst : St M B W0 W v n its) (it : It) (hit : it.Ok B W0) (hn0 : 0 ≤ n) (hn : n + 1 ≤ 4096) (hits : its.length ≤ 5000) :
    Calls Try.prog 51 #[.pointer (some ⟨M, 0, none⟩), .agg #[it.sa, it.sb]] W fun e W' => ∃ q : Bool, e = .returned (.bool q) ∧ Below B W0 W' ∧
      ((q = false ∧ ¬ it.la = it.lb) ∨ (q = true ∧ ∃ v' pu, St M B W0 W' v' (n + 1) (its ++ pu) ∧ (it.la = it.lb ↔ ∀ x ∈ pu, x.la = x.lb) ∧ (pu.map (fun x => cntL x.da x.la)).sum + 1 = cntL it.da it.la)) := by
  obtain ⟨hta, htb, hsl⟩ := hit
  obtain ⟨ao, ca, hsa⟩ := hta.shape
  obtain ⟨bo, cb, hsb⟩ := htb.shape
  obtain ⟨m0, m1, m2, mf, hM⟩ := hst.cells
  have mf0 := mf 0
  have mf1 := mf 1
  by_cases hlen : it.la.length = it.lb.length
  · have hlen' : ((it.la.length : Int) != (it.lb.length : Int)) = false := by simp; omega
    have hlb : ((it.lb.length : Nat)) = it.la.length := hlen.symm
    have hsh : it.la.length ≤ 1000 := hsl.short
    have hw1 : wrap64 (n + 1) = n + 1 := by unfold wrap64; omega
    have hst1 : St M B W0 ((W.setCell ⟨M, 1, none⟩ (.int .i64 (n + 1))).alloc (.cells #[it.sa, it.sb] 82)) v (n + 1) its := hst.tick.adds ((Adds.refl _).alloc _)
    have hR0 : Rnd M B W.heap.size W0 it (n + 1) its 0 ((W.setCell ⟨M, 1, none⟩ (.int .i64 (n + 1))).alloc (.cells #[it.sa, it.sb] 82)) := by
      refine ⟨v, [], by rw [List.append_nil]; exact hst1, ?_, by simp, (box2_at (by simp)).1, (box2_at (by simp)).2, Nat.le_refl _, ⟨fun _ x hx => absurd hx (by simp), fun _ j _ _ h => absurd h (by omega)⟩, by simp⟩
      intro e
      have := hst.2.1.lt _ e
      omega
    have hsa2 := hsa
    have hsb2 := hsb
    rw [hlb] at hsb
    rw [hsa, hsb]
    rw [hsa, hsb] at hR0
    have HL : Hid _ := hlen
    clear hst1 hlen
    go_enter Try.func51, Try.ntmps51
    go_wp2
    go_loopw [25] (fun iv wr => ∃ k : Nat, k ≤ it.la.length ∧ iv = .int .i64 k ∧ Rnd M B W.heap.size W0 it (n + 1) its k wr) (fun iv _ => it.la.length - (intOf iv).toNat)
    case atStart => exact ⟨0, Nat.zero_le _, rfl, hR0⟩
    case round =>
      clear hR0 m0 m1 m2 mf mf0 mf1
      obtain ⟨k, hk, rfl, v1, pu, hS, hfar, hBp, p0, p1, hpl, hiff, hsum⟩ := hrel
      by_cases hlt : k < it.la.length
      · have hlt' : k < it.lb.length := by omega
        have hbel := hS.2.2.1
        obtain ⟨m0, m1, m2, mf, hM1⟩ := hS.cells
        have mf0 := mf 0
        have hta' := hta
        have htb' := htb
        rw [hsa2] at hta'
        rw [hsb2] at htb'
        obtain ⟨e1, b1, o1, x, he1, hao, hb1, ⟨c0, c1, c2, c3⟩, htx⟩ := hta'.elem' hlt
        obtain ⟨e2, b2, o2, y, he2, hbo, hb2, ⟨d0, d1, d2, d3⟩, hty⟩ := htb'.elem' hlt'
        rw [← hbel.cell (by exact hb1)] at c0 c1 c2 c3
        rw [← hbel.cell (by exact hb2)] at d0 d1 d2 d3
        have hb1' : b1 < wr.heap.size := Nat.lt_of_lt_of_le hb1 hS.2.2.2.2.1
        have hb2' : b2 < wr.heap.size := Nat.lt_of_lt_of_le hb2 hS.2.2.2.2.1
        obtain ⟨xo, xc, hxs⟩ := htx.shape
        obtain ⟨yo, yc, hys⟩ := hty.shape
        have hsub : Slim e1 (tList it.la[k].list) := by
          have h1 := hsl
          rw [he1] at h1
          have h2 := h1.2 it.la[k] (List.getElem_mem hlt)
          cases e1 with
          | zero => exact h2
          | succ e => exact h2
        have hnew : It.Ok B W0 ⟨x, y, it.la[k].list, it.lb[k].list, e1, e2⟩ := ⟨htx, hty, hsub⟩
        have hE := T.ext_iff' it.la[k] it.lb[k]
        have hstep : ∀ (pu' : List It), (it.la[k] = it.lb[k] ↔ ∀ z ∈ pu', z.la = z.lb) → ((∀ j (h : j < it.la.length) (h' : j < it.lb.length), j < k + 1 → it.la[j] = it.lb[j]) ↔ ∀ z ∈ pu ++ pu', z.la = z.lb) := by
          intro pu' hp
          constructor
          · intro h z hz
            rcases List.mem_append.1 hz with hz | hz
            · exact hiff.1 (fun j hj hj' hjk => h j hj hj' (by omega)) z hz
            · exact hp.1 (h k hlt hlt' (by omega)) z hz
          · intro h j hj hj' hjk
            by_cases ej : j = k
            · subst ej
              exact hp.2 (fun z hz => h z (List.mem_append_right _ hz))
            · exact hiff.2 (fun z hz => h z (List.mem_append_left _ hz)) j hj hj' (by omega)
        have hcnt : ((it.la.take (k + 1)).map (fun t => if t.list.isEmpty then 0 else cntL (it.da - 1) t.list)).sum = (pu.map (fun x => cntL x.da x.la)).sum + (if it.la[k].list.isEmpty then 0 else cntL e1 it.la[k].list) := by
          rw [List.take_succ_eq_append_getElem hlt, List.map_append, List.sum_append, ← hsum, he1]
          simp
        have HNE : Hid (¬ it.la[k] = it.lb[k] → ¬ it.la = it.lb) := fun h h' => h (by simp only [h'])
        have HST : Hid _ := hstep
        have HCN : Hid _ := hcnt
        have HIF : Hid _ := hiff
        have HNW : Hid _ := hnew
        have HSS : Hid (St M B W0 wr v1 (n + 1) (its ++ pu)) := hS
        clear hstep hcnt hiff hnew hsum htx hty hta' htb' hsub
        generalize it.la[k] = p at *
        generalize it.lb[k] = q at *
        subst hxs hys hao hbo
        by_cases hT : p.kind = q.kind ∧ p.num = q.num ∧ p.text.toList = q.text.toList ∧ p.list.length = q.list.length
        · obtain ⟨t1, t2, t3, t4⟩ := hT
          have HEQ : Hid (p = q ↔ p.list = q.list) := by
            show p = q ↔ p.list = q.list
            rw [hE]
            exact ⟨fun h => h.2.2.2, fun h => ⟨t1, t2, t3, h⟩⟩
          have t3' : (p.text.toList == q.text.toList) = true := by simpa using t3
          rw [← t1] at d0
          rw [← t2] at d1
          rw [← t4] at d3
          have HT4 : Hid _ := t4
          clear hE t1 t2 t4
          by_cases hemp : p.list.length = 0
          · have hpn : p.list = [] := List.eq_nil_of_length_eq_zero hemp
            have hqn : q.list = [] := List.eq_nil_of_length_eq_zero (by rw [← HT4.out]; exact hemp)
            have hpq : p = q := HEQ.out.2 (by rw [hpn, hqn])
            have HPQ : Hid _ := hpq
            have HPN : Hid _ := hpn
            rw [hemp] at c3 d3
            clear hpq hpn hqn hemp
            go_wp2
            go_roundw
            case rel =>
              refine ⟨k + 1, by omega, by go_num, v1, pu, HSS.out.adds (adds2 _ _ _), hfar, Nat.lt_of_lt_of_le hBp (adds2 _ _ _).below.size, ((adds2 _ _ _).below.cell (by exact hBp)).trans p0, ((adds2 _ _ _).below.cell (by exact hBp)).trans p1, by omega, ?_, ?_⟩
              · have := HST.out [] ⟨fun _ z hz => absurd hz (by simp), fun _ => HPQ.out⟩
                rwa [List.append_nil] at this
              · rw [HCN.out, HPN.out]
                simp
            case measure => simp [intOf]; omega
          · have hpos : (0 : Int) < (p.list.length : Int) := by omega
            have hpe : p.list.isEmpty = false := by
              cases hq : p.list with
              | nil => rw [hq] at hemp; simp at hemp
              | cons a b => rfl
            have HPE : Hid _ := hpe
            have kA := fun o o' x y => again_no M (n + 1) x y ((wr.alloc o).alloc o') ((HSS.out.adds (adds2 wr o o')).cells.2.1) hn
            clear hpe hemp
            have hlp : (its ++ pu).length ≤ 10000 := by rw [List.length_append]; omega
            have HNK : Hid (It.Ok B W0 ⟨.slice xo p.list.length xc, .slice yo p.list.length yc, p.list, q.list, e1, e2⟩) := by
              have := HNW.out
              rw [← HT4.out] at this
              exact this
            have HI2 : Hid ((∀ j (h : j < it.la.length) (h' : j < it.lb.length), j < k + 1 → it.la[j] = it.lb[j]) ↔ ∀ z ∈ pu ++ [(⟨.slice xo p.list.length xc, .slice yo p.list.length yc, p.list, q.list, e1, e2⟩ : It)], z.la = z.lb) :=
              HST.out _ ⟨fun h z hz => by simp only [List.mem_singleton] at hz; subst hz; exact HEQ.out.1 h, fun h => HEQ.out.2 (h _ (List.mem_singleton.2 rfl))⟩
            have HS2 : Hid (((pu ++ [(⟨.slice xo p.list.length xc, .slice yo p.list.length yc, p.list, q.list, e1, e2⟩ : It)]).map (fun x => cntL x.da x.la)).sum = ((it.la.take (k + 1)).map (fun t => if t.list.isEmpty then 0 else cntL (it.da - 1) t.list)).sum) := by
              show _ = _
              rw [HCN.out, HPE.out]
              simp
            have HP0 : Hid _ := p0
            have HP1 : Hid _ := p1
            go_wp2_with (go_at_call 58; refine (kA _ _ _ _).mono ?_; rintro e w3 ⟨rfl, hw⟩; subst w3)
            go_region_law (first
              | (refine push_step rfl (.tmp 80) (.tmp 86) rfl (HSS.out.adds (by repeat (first | with_reducible exact Adds.refl _ | with_reducible refine Adds.alloc ?_ _ | with_reducible refine Adds.more ?_ _ _ | with_reducible refine Adds.drew ?_ | with_reducible refine Adds.drewN ?_ _))).2.1 (HSS.out.adds (by repeat (first | with_reducible exact Adds.refl _ | with_reducible refine Adds.alloc ?_ _ | with_reducible refine Adds.more ?_ _ _ | with_reducible refine Adds.drew ?_ | with_reducible refine Adds.drewN ?_ _))).2.2.2.2.1 rfl ⟨.slice xo p.list.length xc, .slice yo p.list.length yc, p.list, q.list, e1, e2⟩ rfl rfl rfl (by simp [go_sem]) (by simp [go_sem]) hlp ?_; intro va vn vc w4 ho4 hg4 hbk4; obtain ⟨n0, nf⟩ := (HSS.out.adds (by repeat (first | with_reducible exact Adds.refl _ | with_reducible refine Adds.alloc ?_ _ | with_reducible refine Adds.more ?_ _ _ | with_reducible refine Adds.drew ?_ | with_reducible refine Adds.drewN ?_ _))).after hg4))
            all_goals
              go_wp2
              go_roundw
              case rel => exact ⟨k + 1, by omega, by go_num, rnd_push HSS.out (by repeat (first | with_reducible exact Adds.refl _ | with_reducible refine Adds.alloc ?_ _ | with_reducible refine Adds.more ?_ _ _ | with_reducible refine Adds.drew ?_ | with_reducible refine Adds.drewN ?_ _)) ho4 hg4 hbk4 HNK.out hfar hBp (by omega) HP0.out HP1.out hpl HI2.out HS2.out⟩
              case measure => simp [intOf]; omega
        · have hne : ¬ p = q := fun h => hT (by rw [h]; exact ⟨rfl, rfl, rfl, rfl⟩)
          have hB1 := HSS.out.2.2.2.2.1
          clear hE
          by_cases t1 : p.kind = q.kind
          · by_cases t2 : p.num = q.num
            · by_cases t3 : p.text.toList = q.text.toList
              · have t4 : ((p.list.length : Int) != (q.list.length : Int)) = true := by
                  have : ¬ p.list.length = q.list.length := fun h => hT ⟨t1, t2, t3, h⟩
                  simp
                  omega
                have t3' : (p.text.toList == q.text.toList) = true := by simpa using t3
                rw [← t1] at d0
                rw [← t2] at d1
                clear hT t1 t2
                go_wp2
                go_ret
                first
                  | exact ⟨false, rfl, hbel.trans ((adds2 wr _ _).below.mono hB1), .inl ⟨rfl, HNE.out hne⟩⟩
                  | exact .inl ⟨rfl, hbel.trans ((adds2 wr _ _).below.mono hB1), HNE.out hne⟩
              · have t3' : (p.text.toList == q.text.toList) = false := by simpa using t3
                rw [← t1] at d0
                rw [← t2] at d1
                clear hT t1 t2
                go_wp2
                go_ret
                first
                  | exact ⟨false, rfl, hbel.trans ((adds2 wr _ _).below.mono hB1), .inl ⟨rfl, HNE.out hne⟩⟩
                  | exact .inl ⟨rfl, hbel.trans ((adds2 wr _ _).below.mono hB1), HNE.out hne⟩
            · have t2' : (p.num != q.num) = true := by simp [t2]
              rw [← t1] at d0
              clear hT t1
              go_wp2
              go_ret
              first
                | exact ⟨false, rfl, hbel.trans ((adds2 wr _ _).below.mono hB1), .inl ⟨rfl, HNE.out hne⟩⟩
                | exact .inl ⟨rfl, hbel.trans ((adds2 wr _ _).below.mono hB1), HNE.out hne⟩
          · have t1' : (p.kind != q.kind) = true := by simp [t1]
            clear hT
            go_wp2
            go_ret
            first
              | exact ⟨false, rfl, hbel.trans ((adds2 wr _ _).below.mono hB1), .inl ⟨rfl, HNE.out hne⟩⟩
              | exact .inl ⟨rfl, hbel.trans ((adds2 wr _ _).below.mono hB1), HNE.out hne⟩
      · have hk' : k = it.la.length := by omega
        subst hk'
        have hbel := hS.2.2.1
        have HE : Hid (it.la = it.lb ↔ ∀ x ∈ pu, x.la = x.lb) := by
          show it.la = it.lb ↔ ∀ x ∈ pu, x.la = x.lb
          rw [← hiff]
          constructor
          · intro h j hj hj' _
            simp only [h]
          · intro h
            exact List.ext_getElem HL.out (fun i h1 h2 => h i h1 h2 h1)
        have HC : Hid ((pu.map (fun x => cntL x.da x.la)).sum + 1 = cntL it.da it.la) := by
          show _ = _
          rw [hsum, List.take_length]
          cases hd : it.da with
          | zero =>
            rw [hd] at hta
            have : it.la = [] := hta.1
            rw [this]
            simp [cntL]
          | succ d => simp [cntL]; omega
        have HS : Hid _ := hS
        clear hS hiff hsum
        go_wp2
        go_ret
        exact ⟨true, rfl, hbel, .inr ⟨rfl, v1, pu, HS.out, HE.out, HC.out⟩⟩
  · have hlen' : ((it.la.length : Int) != (it.lb.length : Int)) = true := by simp; omega
    have hbel := hst.2.2.1
    have hB := hst.2.2.2.2.1
    have HNE : Hid (¬ it.la = it.lb) := fun h => hlen (by rw [h])
    rw [hsa, hsb]
    clear hta htb
    generalize it.la.length = an at *
    generalize it.lb.length = bn at *
    go_enter Try.func51, Try.ntmps51
    go_wp2
    go_ret
    exact ⟨false, rfl, hbel.trans (((Adds.refl W).alloc _).below.mono hB), .inl ⟨rfl, HNE.out⟩⟩

end Go.Proofs.Ytcgbhbbljjdejaa
