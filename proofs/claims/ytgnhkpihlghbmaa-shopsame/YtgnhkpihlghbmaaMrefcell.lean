/-
  The document's own Cell of a document, by a contract. The document's own Cell of a document, by a contract: the walk.
-/
import Derived.Test.YtgnhkpihlghbmaaLce
import Derived.Deep.RegionLaw
import Derived.Lib.AppendZeros
import Derived.Test.YtgnhkpihlghbmaaLbv
namespace Go.Proofs.Ytgnhkpihlghbmaa
open Go.RowKit
attribute [local go_sem] cell?_more frozen?_more setCell_more size_more tape_more drew_more drewN_more more_drew more_drewN one_out plus_out plus_end lt_one le_p2 le_p3 le_p4 le_p5 le_p6 le_p7 le_p8 le_p9 le_p10 le_p11 le_p12 le_p13 le_p14 le_p15 le_p16 le_p17 le_p18 le_p19 le_p20 le_p21 le_p22 le_p23 le_p24 le_q0 le_q1 lt_q1 le_q2 lt_q2 le_q3 lt_q3 le_q4 lt_q4 le_q5 lt_q5 le_q6 lt_q6 le_q7 lt_q7 le_q8 lt_q8 le_q9 lt_q9 le_q10 lt_q10 le_q11 lt_q11 le_q12 lt_q12 le_q13 lt_q13 le_q14 lt_q14 le_q15 lt_q15 le_q16 lt_q16 le_q17 lt_q17 le_q18 lt_q18 le_q19 lt_q19 le_q20 lt_q20 le_q21 lt_q21 le_q22 lt_q22 le_q23 lt_q23 le_q24 lt_q24

theorem Tr.frame2 {ok ok' : Nat → Prop} {d : Nat} {w w' : World} {s : Value} {ts : List T} (h : Tr ok d w s ts) (hs : w.heap.size ≤ w'.heap.size) (hw : ∀ b, ok b → b < w.heap.size → w'.heap[b]? = w.heap[b]?) (hok : ∀ b, ok b → b < w.heap.size → ok' b) : Tr ok' d w' s ts := by
  induction d generalizing s ts with
  | zero => exact h
  | succ d ih =>
    obtain ⟨ao, cap, rfl, hc, h | ⟨b, off, rfl, hlt, hb, hx⟩⟩ := h
    · exact ⟨ao, cap, rfl, hc, .inl h⟩
    · refine ⟨_, cap, rfl, hc, .inr ⟨b, off, rfl, Nat.lt_of_lt_of_le hlt hs, hok b hb hlt, fun j hj => ?_⟩⟩
      obtain ⟨x, ⟨h0, h1, h2, h3⟩, h4, h5⟩ := hx j hj
      have hk : ∀ i, w'.cell? ⟨b, i, none⟩ = w.cell? ⟨b, i, none⟩ := fun i => World.cell?_of_block (w := w) (a := ⟨b, i, none⟩) (hw b hb hlt)
      exact ⟨x, ⟨by rw [hk]; exact h0, by rw [hk]; exact h1, by rw [hk]; exact h2, by rw [hk]; exact h3⟩, h4, ih h5⟩

def cellsJ (ss : List Value) : List Value := ss.flatMap (fun s => [.int .i64 3, .int .i64 0, .string ⟨#[]⟩, s])

theorem cellsJ_length (ss : List Value) : (cellsJ ss).length = ss.length * 4 := by
  induction ss with
  | nil => rfl
  | cons f r ih =>
    simp only [cellsJ, List.flatMap_cons, List.length_append, List.length_cons] at *
    rw [ih]
    simp
    omega

theorem cellsJ_append (l t : List Value) : cellsJ (l ++ t) = cellsJ l ++ cellsJ t := by simp [cellsJ]

theorem cellsJ_get (ss : List Value) (i : Nat) (hi : i < ss.length) (r : Nat) (hr : r < 4) : (cellsJ ss)[i * 4 + r]? = [.int .i64 3, .int .i64 0, .string ⟨#[]⟩, ss[i]][r]? := by
  induction ss generalizing i with
  | nil => simp at hi
  | cons f t ih =>
    cases i with
    | zero =>
      simp only [cellsJ, List.flatMap_cons, Nat.zero_mul, Nat.zero_add, List.getElem_cons_zero]
      rw [List.getElem?_append_left (by simp; omega)]
    | succ i =>
      have hi' : i < t.length := by simpa using hi
      simp only [cellsJ, List.flatMap_cons, List.getElem_cons_succ]
      rw [List.getElem?_append_right (by simp; omega)]
      have := ih i hi'
      simp only [cellsJ] at this
      rw [← this]
      congr 1
      simp
      omega

/-- append of one cell, and where the row lies behind it. -/
theorem push_cell (w : World) (B : Nat) (ty : TypeId) (v : Value) (ss : List Value) (h : w.ownsRow B 73 4 v ss.length (cellsJ ss)) (hB : B ≤ w.heap.size) (ao : Option Addr) (an ac : Nat)
    (k c : Nat) (hc : w.cell? ⟨k, 0, none⟩ = some (.int .i64 3) ∧ w.cell? ⟨k, 1, none⟩ = some (.int .i64 0) ∧ w.cell? ⟨k, 2, none⟩ = some (.string ⟨#[]⟩) ∧ w.cell? ⟨k, 3, none⟩ = some (.slice ao an ac)) (hlen : ss.length ≤ 10000) :
    ∃ v' w', (Builtin.append_ #[71, 71] ty #[v, .slice (some ⟨k, 0, none⟩) 1 c]).run Try.prog w = .ok v' w' ∧ w'.ownsRow B 73 4 v' (ss ++ [Value.slice ao an ac]).length (cellsJ (ss ++ [Value.slice ao an ac])) ∧ w.grownBy w' v.ownBlock ∧ (v'.ownBlock = v.ownBlock ∨ v'.ownBlock = some w.heap.size) := by
  obtain ⟨i0, hi, hz0, hz1, hz2⟩ := info_parts Try.info73
  have hnews : ∀ j u, [.int .i64 3, .int .i64 0, .string ⟨#[]⟩, Value.slice ao an ac][j]? = some u → w.cell? ((⟨k, 0, none⟩ : Addr).add j) = some u := by
    intro j u hj
    rw [Addr.add_lit, Nat.zero_add]
    match j, hj with
    | 0, hj => simp at hj; subst hj; exact hc.1
    | 1, hj => simp at hj; subst hj; exact hc.2.1
    | 2, hj => simp at hj; subst hj; exact hc.2.2.1
    | 3, hj => simp at hj; subst hj; exact hc.2.2.2
    | (j + 4), hj => simp at hj
  have hone : ∀ u ∈ [.int .i64 3, .int .i64 0, .string ⟨#[]⟩, Value.slice ao an ac], u.oneCell' = true := by
    intro u hu
    simp only [List.mem_cons, List.mem_nil_iff, or_false] at hu
    rcases hu with rfl | rfl | rfl | rfl <;> rfl
  obtain ⟨v', w', h1, h2, h3, _⟩ := run_append_own (P := Try.prog) w B 71 ty 73 i0 _ 4 56 Try.underlying71 hi hz0 hz1 hz2 rfl (by decide) v ss.length (cellsJ ss) h ⟨k, 0, none⟩ 1 c _ rfl hnews hone (by unfold maxLen; omega) (by omega) hB
  refine ⟨v', w', h1, by rw [cellsJ_append, List.length_append]; exact h2, h3, ?_⟩
  have hdet : ∀ v1 w1, (Builtin.append_ #[71, 71] ty #[v, .slice (some ⟨k, 0, none⟩) 1 c]).run Try.prog w = .ok v1 w1 → v' = v1 := by
    intro v1 w1 h
    rw [h1] at h
    simp only [Result.ok.injEq] at h
    exact h.1
  have hlen2 : (cellsJ ss).length = ss.length * i0.size := by rw [cellsJ_length, hz1]
  have hl2 : [.int .i64 3, .int .i64 0, .string ⟨#[]⟩, Value.slice ao an ac].length = 1 * i0.size := by rw [hz1]; rfl
  rcases h.2 with ⟨rfl, hn⟩ | ⟨g, cap, cur, rfl, hbg, hg, hnc, hcm, hcs, htake⟩
  · have := hdet _ _ (run_append_nil (P := Try.prog) w 71 ty 73 i0 _ Try.underlying71 hi hz0 ⟨k, 0, none⟩ 1 c _ hl2 hnews (by omega) (by omega) (by rw [hz2]; omega))
    rw [this]
    exact .inr rfl
  · by_cases hroom : ss.length + 1 ≤ cap
    · have := hdet _ _ (run_append_room (P := Try.prog) w 71 ty 73 i0 Try.underlying71 hi g ss.length cap cur hg ⟨k, 0, none⟩ 1 c _ hl2 hnews hone hroom (by rw [hz1, hcs]; simp; omega))
      rw [this]
      exact .inl rfl
    · have := hdet _ _ (run_append_grow (P := Try.prog) w 71 ty 73 i0 _ Try.underlying71 hi hz0 ⟨g, 0, none⟩ ss.length cap (cellsJ ss) hlen2 (h.cells (g := g) rfl) ⟨k, 0, none⟩ 1 c _ hl2 hnews (by omega) (by omega) (by rw [hz2]; exact growslice_fits (by omega) (by omega)))
      rw [this]
      exact .inr rfl

/-- append of one cell, as one step of a region that draws its order. -/
theorem cell_step {ops : Array Oper} {o : Oper} {a : Act} {w : World} {K : Act → World → Prop} {Q : Exit → Act → World → Prop} {E : Prop} (hgd : o.guard = none) (s x : Operand) (ho : o.op = .call { callee := .builtin .append, args := #[s, x], argTypes := #[71, 71] })
    {B : Nat} {v : Value} {ss : List Value} (h : w.ownsRow B 73 4 v ss.length (cellsJ ss)) (hB : B ≤ w.heap.size) (hs : a.eval s = v) {ao : Option Addr} {an ac : Nat}
    {k c : Nat} (hx : a.eval x = .slice (some ⟨k, 0, none⟩) 1 c) (hc : w.cell? ⟨k, 0, none⟩ = some (.int .i64 3) ∧ w.cell? ⟨k, 1, none⟩ = some (.int .i64 0) ∧ w.cell? ⟨k, 2, none⟩ = some (.string ⟨#[]⟩) ∧ w.cell? ⟨k, 3, none⟩ = some (.slice ao an ac)) (hlen : ss.length ≤ 10000)
    (hk : ∀ (va : Option Addr) (vn vc : Nat) w', w'.ownsRow B 73 4 (.slice va vn vc) (ss ++ [Value.slice ao an ac]).length (cellsJ (ss ++ [Value.slice ao an ac])) → w.grownBy w' v.ownBlock → ((Value.slice va vn vc).ownBlock = v.ownBlock ∨ (Value.slice va vn vc).ownBlock = some w.heap.size) → K (a.put o.dst (.slice va vn vc)) w') : if Region.wanted o (yielded ops a.tmps) = true then Oper.wp Try.prog o a w K Q else E := by
  have hw : Region.wanted o (yielded ops a.tmps) = true := by simp [Region.wanted, hgd]
  rw [if_pos hw]
  obtain ⟨v', w', hr, h2, h3, h4⟩ := push_cell w B o.type v ss h hB ao an ac k c hc hlen
  obtain ⟨va, vn, vc, rfl⟩ : ∃ va vn vc, v' = .slice va vn vc := by
    rcases h2.2 with ⟨rfl, _⟩ | ⟨g, cap, cur, rfl, _⟩
    · exact ⟨_, _, _, rfl⟩
    · exact ⟨_, _, _, rfl⟩
  exact Lib.wp_append_run w s x 71 71 ho v _ hs hx _ w' hr (hk va vn vc w' h2 h3 h4)

/-- The list that is being made: its box, its row, and what lies in it. -/
def Cst (Cb : Nat) (W0 : World) (fs : List F) (k : Nat) (v : Value) (ss : List Value) (W : World) : Prop :=
  W.heap[Cb]? = some (.cells #[.int .i64 3, .int .i64 0, .string ⟨#[]⟩, v] 73 (0, 0)) ∧ W.ownsRow (Cb + 1) 73 4 v ss.length (cellsJ ss) ∧ Below Cb W0 W ∧ Cb + 1 ≤ W.heap.size ∧ ss.length = k ∧
    ∀ j (h : j < ss.length) (h' : j < fs.length), Tr (fun b => Cb < b ∧ some b ≠ v.ownBlock) 2 W ss[j] (fieldT fs[j]).list

theorem Cst.far {Cb : Nat} {W0 : World} {fs : List F} {k : Nat} {v : Value} {ss : List Value} {W : World} (h : Cst Cb W0 fs k v ss W) : v.ownBlock ≠ some Cb := by
  intro e
  have := h.2.1.lt _ e
  omega

theorem Cst.adds {Cb : Nat} {W0 : World} {fs : List F} {k : Nat} {v : Value} {ss : List Value} {W W' : World} (h : Cst Cb W0 fs k v ss W) (hA : Adds W W') : Cst Cb W0 fs k v ss W' := by
  have hb := hA.below
  have hg : W.grownBy W' none := ⟨hb.os, hb.tape, hb.output, hb.size, fun k hk _ => hb.block k hk⟩
  refine ⟨by rw [hb.block Cb (by have := h.2.2.2.1; omega)]; exact h.1, h.2.1.kept hg ?_, h.2.2.1.trans (hb.mono (by have := h.2.2.2.1; omega)), Nat.le_trans h.2.2.2.1 hb.size, h.2.2.2.2.1, fun j hj hj' => (h.2.2.2.2.2 j hj hj').adds hA⟩
  cases v.ownBlock with
  | none => exact .inl rfl
  | some k => exact .inr (by simp)

theorem set_c3 {W : World} {M : Nat} {a b c d x : Value} (h : W.heap[M]? = some (.cells #[a, b, c, d] 73 (0, 0))) : (W.setCell ⟨M, 3, none⟩ x).heap[M]? = some (.cells #[a, b, c, x] 73 (0, 0)) := by
  simp [World.setCell, Array.getElem?_modify, h]

theorem grown_setCell {w w' : World} {M i : Nat} {x : Value} (hw : w' = w.setCell ⟨M, i, none⟩ x) : w.grownBy w' (some M) := by
  subst hw
  refine ⟨rfl, rfl, rfl, by simp, fun k hk hne => ?_⟩
  exact Below.heap_setCell w ⟨M, i, none⟩ x k (fun e => hne (by rw [e]))

theorem Cst.push {Cb : Nat} {W0 : World} {fs : List F} {k : Nat} {v v' s : Value} {ss : List Value} {W W' : World} (h : Cst Cb W0 fs k v ss W) (ho : W'.ownsRow (Cb + 1) 73 4 v' (ss ++ [s]).length (cellsJ (ss ++ [s]))) (hg : W.grownBy W' v.ownBlock)
    (hbk : v'.ownBlock = v.ownBlock ∨ v'.ownBlock = some W.heap.size) (hk : k < fs.length) (hs : Tr (fun b => Cb < b ∧ some b ≠ v.ownBlock) 2 W s (fieldT fs[k]).list) :
    Cst Cb W0 fs (k + 1) v' (ss ++ [s]) (W'.setCell ⟨Cb, 3, none⟩ v') := by
  have hC : Cb < W.heap.size := by have := h.2.2.2.1; omega
  have h1 : W'.heap[Cb]? = some (.cells #[.int .i64 3, .int .i64 0, .string ⟨#[]⟩, v] 73 (0, 0)) := by
    rw [hg.block Cb hC (fun e => h.far e.symm)]
    exact h.1
  have hfar : v'.ownBlock ≠ some Cb := by
    intro e
    have := ho.lt _ e
    omega
  have hb : Below Cb W0 W' := by
    refine ⟨hg.os.trans h.2.2.1.os, hg.tape.trans h.2.2.1.tape, hg.output.trans h.2.2.1.output, Nat.le_trans h.2.2.1.size hg.size, fun k hk => ?_⟩
    rw [hg.block k (by omega) ?_]
    · exact h.2.2.1.block k hk
    · intro e
      have := h.2.1.lt k e.symm
      omega
  have hT : ∀ {x ts}, Tr (fun b => Cb < b ∧ some b ≠ v.ownBlock) 2 W x ts → Tr (fun b => Cb < b ∧ some b ≠ v'.ownBlock) 2 (W'.setCell ⟨Cb, 3, none⟩ v') x ts := by
    intro x ts ht
    refine ht.frame2 (by simpa using hg.size) (fun b hb hlt => ?_) (fun b hb hlt => ⟨hb.1, ?_⟩)
    · rw [Below.heap_setCell W' ⟨Cb, 3, none⟩ v' b (by show b ≠ Cb; omega)]
      exact hg.block b hlt hb.2
    · rcases hbk with e | e
      · rw [e]; exact hb.2
      · rw [e]
        simp only [ne_eq, Option.some.injEq]
        omega
  refine ⟨set_c3 h1, ho.kept (grown_setCell rfl) (.inr hfar), below_setCells hb (Nat.le_refl _) [v'] 3, ?_, ?_, fun j hj hj' => ?_⟩
  · have h2 := hg.size
    simp
    omega
  · rw [List.length_append, h.2.2.2.2.1]
    rfl
  · have hlk := h.2.2.2.2.1
    by_cases e : j < ss.length
    · rw [List.getElem_append_left e]
      exact hT (h.2.2.2.2.2 j e hj')
    · have e2 : j = k := by simp at hj; omega
      subst e2
      rw [List.getElem_append_right (by omega)]
      simp only [hlk, Nat.sub_self, List.getElem_cons_zero]
      exact hT hs

theorem Cst.tree {Cb : Nat} {W0 : World} {fs : List F} {v : Value} {ss : List Value} {W : World} (h : Cst Cb W0 fs fs.length v ss W) : Tr (fun b => Cb < b) 3 W v (docT fs).list := by
  have hl : (docT fs).list = fs.map fieldT := rfl
  have hlen := h.2.2.2.2.1
  have hc := fun g => h.2.1.cells (g := g)
  have hlt := h.2.1.lt
  rw [hl]
  rcases h.2.1.2 with ⟨rfl, hn⟩ | ⟨g, cap, cur, rfl, hb, hg, hnc, hcm, hcs, htk⟩
  · have : fs = [] := List.eq_nil_of_length_eq_zero (by omega)
    subst this
    exact Tr.nil _ _ _
  · refine ⟨_, cap, by simp [hlen], by simp; omega, .inr ⟨g, 0, rfl, (hlt g rfl).2, by omega, fun j hj => ?_⟩⟩
    have hj' : j < fs.length := by simpa using hj
    have hjs : j < ss.length := by omega
    have hcell := fun (r : Nat) (hr : r < 4) u (hu : [.int .i64 3, .int .i64 0, .string ⟨#[]⟩, ss[j]][r]? = some u) => hc g rfl (j * 4 + r) u (by rw [cellsJ_get ss j hjs r hr]; exact hu)
    simp only [Addr.add_lit] at hcell
    refine ⟨ss[j], ⟨?_, ?_, ?_, ?_⟩, ?_, ?_⟩
    · simpa [fieldT, tList, T.kind] using hcell 0 (by omega) _ rfl
    · simpa [fieldT, tList, T.num, Nat.add_assoc] using hcell 1 (by omega) _ rfl
    · simpa [fieldT, tList, T.text, Nat.add_assoc] using hcell 2 (by omega) _ rfl
    · simpa [Nat.add_assoc] using hcell 3 (by omega) _ rfl
    · simp only [List.getElem_map]
      exact Nat.zero_le _
    · simpa using (h.2.2.2.2.2 j hjs hj').frame (Nat.le_refl _) (fun _ _ _ => rfl) (fun _ h => h.1)

theorem Cst.after {Cb : Nat} {W0 : World} {fs : List F} {k : Nat} {v : Value} {ss : List Value} {W W' : World} (h : Cst Cb W0 fs k v ss W) (hg : W.grownBy W' v.ownBlock) : W'.cell? ⟨Cb, 3, none⟩ = some v ∧ W'.frozen? ⟨Cb, 3, none⟩ = false := by
  have h1 : W'.heap[Cb]? = some (.cells #[.int .i64 3, .int .i64 0, .string ⟨#[]⟩, v] 73 (0, 0)) := by
    rw [hg.block Cb (by have := h.2.2.2.1; omega) (fun e => h.far e.symm)]
    exact h.1
  exact ⟨by simp [World.cell?, h1], by simp [World.frozen?, h1]⟩

theorem kind_of {v : V} (h : v.check = 0) : v.kind = 1 ∨ v.kind = 2 ∨ v.kind = 3 := by
  by_cases h1 : v.kind = 1
  · exact .inl h1
  by_cases h2 : v.kind = 2
  · exact .inr (.inl h2)
  by_cases h3 : v.kind = 3
  · exact .inr (.inr h3)
  simp [V.check, V.fits, h1, h2, h3] at h

end Go.Proofs.Ytgnhkpihlghbmaa

namespace Go.Proofs.Ytgnhkpihlghbmaa
open Go.RowKit
attribute [local go_sem] cell?_more frozen?_more setCell_more size_more tape_more drew_more drewN_more more_drew more_drewN one_out plus_out plus_end lt_one le_p2 le_p3 le_p4 le_p5 le_p6 le_p7 le_p8 le_p9 le_p10 le_p11 le_p12 le_p13 le_p14 le_p15 le_p16 le_p17 le_p18 le_p19 le_p20 le_p21 le_p22 le_p23 le_p24 le_q0 le_q1 lt_q1 le_q2 lt_q2 le_q3 lt_q3 le_q4 lt_q4 le_q5 lt_q5 le_q6 lt_q6 le_q7 lt_q7 le_q8 lt_q8 le_q9 lt_q9 le_q10 lt_q10 le_q11 lt_q11 le_q12 lt_q12 le_q13 lt_q13 le_q14 lt_q14 le_q15 lt_q15 le_q16 lt_q16 le_q17 lt_q17 le_q18 lt_q18 le_q19 lt_q19 le_q20 lt_q20 le_q21 lt_q21 le_q22 lt_q22 le_q23 lt_q23 le_q24 lt_q24

set_option maxHeartbeats 4000000 in
theorem refCell_any (s : Value) (fs : List F) (w : World) (h : Lst w s fs) (hm : May fs) :
    Calls Try.prog 38 #[s] w fun e w' => ∃ r, e = .returned (.agg #[.int .i64 3, .int .i64 0, .string ⟨#[]⟩, r]) ∧ Tr (fun _ => True) 3 w' r (docT fs).list ∧ Adds w w' := by
  have hle := hm.1
  have hgood := hm.2
  obtain ⟨ao, cap, rfl, hcap, hlo⟩ := h
  go_enter Try.func38, Try.ntmps38
  go_wp2
  go_loopw [4] (fun iv wr => ∃ (k : Nat) (v : Value) (ss : List Value), k ≤ fs.length ∧ iv = .int .i64 k ∧ Cst (w.heap.size + 1) (w.alloc (.cells #[.int .i64 0, .int .i64 0, .string ⟨#[]⟩, .slice none 0 0] 73)) fs k v ss wr) (fun iv _ => fs.length - (intOf iv).toNat)
  case atStart =>
    refine ⟨0, .slice none 0 0, [], Nat.zero_le _, rfl, ?_, World.ownsRow_nil _ _ _ _, ?_, by simp, rfl, fun j hj => absurd hj (by simp)⟩
    · rw [show w.heap.size + 1 = (w.alloc (.cells #[.int .i64 0, .int .i64 0, .string ⟨#[]⟩, .slice none 0 0] 73)).heap.size from by simp]
      exact new_block _ _
    · have := ((Adds.refl (w.alloc (.cells #[.int .i64 0, .int .i64 0, .string ⟨#[]⟩, .slice none 0 0] 73))).alloc (.cells #[.int .i64 3, .int .i64 0, .string ⟨#[]⟩, .slice none 0 0] 73)).below
      simpa using this
  case round =>
    obtain ⟨k, v, ss, hk, rfl, hC⟩ := hrel
    have hbw : Below w.heap.size w wr := ((Adds.refl w).alloc _).below.trans (hC.2.2.1.mono (by omega))
    have hCs := hC.2.2.2.1
    obtain ⟨va, vn, vc, rfl⟩ : ∃ va vn vc, v = .slice va vn vc := by
      rcases hC.2.1.2 with ⟨rfl, _⟩ | ⟨g, cap, cur, rfl, _⟩
      · exact ⟨_, _, _, rfl⟩
      · exact ⟨_, _, _, rfl⟩
    have q0 : wr.cell? ⟨w.heap.size + 1, 0, none⟩ = some (.int .i64 3) := by simp [World.cell?, hC.1]
    have q1 : wr.cell? ⟨w.heap.size + 1, 1, none⟩ = some (.int .i64 0) := by simp [World.cell?, hC.1]
    have q2 : wr.cell? ⟨w.heap.size + 1, 2, none⟩ = some (.string ⟨#[]⟩) := by simp [World.cell?, hC.1]
    have q3 : wr.cell? ⟨w.heap.size + 1, 3, none⟩ = some (.slice va vn vc) := by simp [World.cell?, hC.1]
    have qf : wr.frozen? ⟨w.heap.size + 1, 3, none⟩ = false := by simp [World.frozen?, hC.1]
    by_cases hlt : k < fs.length
    · rcases hlo with rfl | ⟨b, off, rfl, hbb, hl⟩
      · simp at hlt
      obtain ⟨c0, c1, c2, c3, c4, c5⟩ := hl.below hbw hbb k hlt
      have hck := kind_of (hgood k hlt).2.1
      have hb' : b < wr.heap.size := Nat.lt_of_lt_of_le hbb hbw.size
      obtain ⟨x, hx⟩ : ∃ x, x = fs[k] := ⟨_, rfl⟩
      rw [← hx] at c0 c1 c2 c3 c4 c5 hck
      have hck0 := (hgood k hlt).2.1
      rw [← hx] at hck0
      have HX : Hid _ := hx
      clear hx
      have hsl : ss.length ≤ 10000 := by have := hC.2.2.2.2.1; omega
      have hown : ∀ P, wr.heap.size ≤ P → (w.heap.size + 1 < P ∧ some P ≠ (Value.slice va vn vc).ownBlock) := by
        intro P hP
        refine ⟨by omega, fun e => ?_⟩
        have := hC.2.1.lt P e.symm
        omega
      have kT : ∀ (t : T) (sx : Value) (W W' : World) (P : Nat), t.text.size ≤ 9223372036854775807 → wr.heap.size ≤ W.heap.size → P = W.heap.size → Tr (fun b => w.heap.size + 1 < b ∧ some b ≠ (Value.slice va vn vc).ownBlock) 1 W sx t.list → Adds (W.alloc (.cells #[.int .i64 2, .int .i64 0, .string x.path, .slice none 0 0, .int .i64 t.kind, .int .i64 t.num, .string t.text, sx] 73)) W' → Tr (fun b => w.heap.size + 1 < b ∧ some b ≠ (Value.slice va vn vc).ownBlock) 2 W' (.slice (some ⟨P, 0, none⟩) 2 2) [tText x.path, t] :=
        fun t sx W W' P h1 h2 h3 h4 h5 => tr_two (a := tText x.path) (b := t) h3 (hown P (by omega)) (Tr.nil _ _ _) h4 x.fits h1 h5
      rcases hck with h1 | h1 | h1
      · have hv : (fieldT x).list = [tText x.path, tNum x.val.num] := by simp [fieldT, tList, T.list, valT, h1]
        rw [h1] at c1
        have kTn : ∀ (W W' : World) (P : Nat), wr.heap.size ≤ W.heap.size → P = W.heap.size → Adds (W.alloc (.cells #[.int .i64 2, .int .i64 0, .string x.path, .slice none 0 0, .int .i64 1, .int .i64 x.val.num, .string ⟨#[]⟩, .slice none 0 0] 73)) W' → Tr (fun b => w.heap.size + 1 < b ∧ some b ≠ (Value.slice va vn vc).ownBlock) 2 W' (.slice (some ⟨P, 0, none⟩) 2 2) [tText x.path, tNum x.val.num] :=
          fun W W' P h1 h2 h3 => kT (tNum x.val.num) (.slice none 0 0) W W' P (Nat.zero_le _) h1 h2 (Tr.nil _ _ _) h3
        have HV : Hid ((fieldT x).list = [tText x.path, tNum x.val.num]) := hv
        clear hv h1
        go_wp2
        go_region_law (first
          | (refine cell_step (ao := some ⟨wr.heap.size + 1 + 1, 0, none⟩) (an := 2) (ac := 2) rfl (.tmp 42) (.tmp 52) rfl (hC.adds (by repeat (first | with_reducible exact Adds.refl _ | with_reducible refine Adds.alloc ?_ _ | with_reducible refine Adds.more ?_ _ _ | with_reducible refine Adds.drew ?_ | with_reducible refine Adds.drewN ?_ _))).2.1 (hC.adds (by repeat (first | with_reducible exact Adds.refl _ | with_reducible refine Adds.alloc ?_ _ | with_reducible refine Adds.more ?_ _ _ | with_reducible refine Adds.drew ?_ | with_reducible refine Adds.drewN ?_ _))).2.2.2.1 rfl rfl ⟨by simp [go_sem], by simp [go_sem], by simp [go_sem], by simp [go_sem]⟩ hsl ?_; intro va4 vn4 vc4 w4 ho4 hg4 hbk4; obtain ⟨n3, nf⟩ := (hC.adds (by repeat (first | with_reducible exact Adds.refl _ | with_reducible refine Adds.alloc ?_ _ | with_reducible refine Adds.more ?_ _ _ | with_reducible refine Adds.drew ?_ | with_reducible refine Adds.drewN ?_ _))).after hg4))
        all_goals
          go_wp2
          go_roundw
          case rel => exact ⟨k + 1, _, _, by omega, by go_num, (hC.adds (by repeat (first | with_reducible exact Adds.refl _ | with_reducible refine Adds.alloc ?_ _ | with_reducible refine Adds.more ?_ _ _ | with_reducible refine Adds.drew ?_ | with_reducible refine Adds.drewN ?_ _))).push ho4 hg4 hbk4 hlt (by
            rw [← HX.out, HV.out]
            refine kTn _ _ _ ?_ ?_ (by repeat (first | with_reducible exact Adds.refl _ | with_reducible refine Adds.alloc ?_ _ | with_reducible refine Adds.more ?_ _ _ | with_reducible refine Adds.drew ?_ | with_reducible refine Adds.drewN ?_ _))
            · simp only [World.size_alloc]; omega
            · simp [go_sem])⟩
          case measure => simp [intOf]; omega
      · have hv : (fieldT x).list = [tText x.path, tText x.val.text] := by simp [fieldT, tList, T.list, valT, h1]
        have htx : x.val.text.size ≤ 9223372036854775807 := by
          have := valT_text hck0
          simpa [valT, h1, tText, T.text] using this
        rw [h1] at c1
        have kTt : ∀ (W W' : World) (P : Nat), wr.heap.size ≤ W.heap.size → P = W.heap.size → Adds (W.alloc (.cells #[.int .i64 2, .int .i64 0, .string x.path, .slice none 0 0, .int .i64 2, .int .i64 0, .string x.val.text, .slice none 0 0] 73)) W' → Tr (fun b => w.heap.size + 1 < b ∧ some b ≠ (Value.slice va vn vc).ownBlock) 2 W' (.slice (some ⟨P, 0, none⟩) 2 2) [tText x.path, tText x.val.text] :=
          fun W W' P h1 h2 h3 => kT (tText x.val.text) (.slice none 0 0) W W' P htx h1 h2 (Tr.nil _ _ _) h3
        have HV : Hid ((fieldT x).list = [tText x.path, tText x.val.text]) := hv
        clear hv h1
        go_wp2
        go_region_law (first
          | (refine cell_step (ao := some ⟨wr.heap.size + 1 + 1, 0, none⟩) (an := 2) (ac := 2) rfl (.tmp 42) (.tmp 52) rfl (hC.adds (by repeat (first | with_reducible exact Adds.refl _ | with_reducible refine Adds.alloc ?_ _ | with_reducible refine Adds.more ?_ _ _ | with_reducible refine Adds.drew ?_ | with_reducible refine Adds.drewN ?_ _))).2.1 (hC.adds (by repeat (first | with_reducible exact Adds.refl _ | with_reducible refine Adds.alloc ?_ _ | with_reducible refine Adds.more ?_ _ _ | with_reducible refine Adds.drew ?_ | with_reducible refine Adds.drewN ?_ _))).2.2.2.1 rfl rfl ⟨by simp [go_sem], by simp [go_sem], by simp [go_sem], by simp [go_sem]⟩ hsl ?_; intro va4 vn4 vc4 w4 ho4 hg4 hbk4; obtain ⟨n3, nf⟩ := (hC.adds (by repeat (first | with_reducible exact Adds.refl _ | with_reducible refine Adds.alloc ?_ _ | with_reducible refine Adds.more ?_ _ _ | with_reducible refine Adds.drew ?_ | with_reducible refine Adds.drewN ?_ _))).after hg4))
        all_goals
          go_wp2
          go_roundw
          case rel => exact ⟨k + 1, _, _, by omega, by go_num, (hC.adds (by repeat (first | with_reducible exact Adds.refl _ | with_reducible refine Adds.alloc ?_ _ | with_reducible refine Adds.more ?_ _ _ | with_reducible refine Adds.drew ?_ | with_reducible refine Adds.drewN ?_ _))).push ho4 hg4 hbk4 hlt (by
            rw [← HX.out, HV.out]
            refine kTt _ _ _ ?_ ?_ (by repeat (first | with_reducible exact Adds.refl _ | with_reducible refine Adds.alloc ?_ _ | with_reducible refine Adds.more ?_ _ _ | with_reducible refine Adds.drew ?_ | with_reducible refine Adds.drewN ?_ _))
            · simp only [World.size_alloc]; omega
            · simp [go_sem])⟩
          case measure => simp [intOf]; omega
      · have hv : (fieldT x).list = [tText x.path, tList [tNum x.val.re, tNum x.val.im]] := by simp [fieldT, tList, T.list, valT, h1]
        rw [h1] at c1
        have kTl : ∀ (W0 W W' : World) (P P2 : Nat), Adds (W.alloc (.cells #[.int .i64 2, .int .i64 0, .string x.path, .slice none 0 0, .int .i64 3, .int .i64 0, .string ⟨#[]⟩, .slice (some ⟨P2, 0, none⟩) 2 2] 73)) W' →
            Adds (W0.alloc (.cells #[.int .i64 1, .int .i64 x.val.re, .string ⟨#[]⟩, .slice none 0 0, .int .i64 1, .int .i64 x.val.im, .string ⟨#[]⟩, .slice none 0 0] 73)) W →
            wr.heap.size ≤ W0.heap.size → P2 = W0.heap.size → wr.heap.size ≤ W.heap.size → P = W.heap.size → Tr (fun b => w.heap.size + 1 < b ∧ some b ≠ (Value.slice va vn vc).ownBlock) 2 W' (.slice (some ⟨P, 0, none⟩) 2 2) [tText x.path, tList [tNum x.val.re, tNum x.val.im]] :=
          fun W0 W W' P P2 h3 hA0 h0 hp2 h1 h2 => kT (tList [tNum x.val.re, tNum x.val.im]) (.slice (some ⟨P2, 0, none⟩) 2 2) W W' P (Nat.zero_le _) h1 h2 (tr_two (a := tNum x.val.re) (b := tNum x.val.im) hp2 (hown P2 (by omega)) (Tr.nil _ _ _) (Tr.nil _ _ _) (Nat.zero_le _) (Nat.zero_le _) hA0) h3
        have HV : Hid ((fieldT x).list = [tText x.path, tList [tNum x.val.re, tNum x.val.im]]) := hv
        clear hv h1
        go_wp2
        go_region_law (first
          | (refine cell_step (ao := some ⟨wr.heap.size + 1 + 1 + 1, 0, none⟩) (an := 2) (ac := 2) rfl (.tmp 42) (.tmp 52) rfl (hC.adds (by repeat (first | with_reducible exact Adds.refl _ | with_reducible refine Adds.alloc ?_ _ | with_reducible refine Adds.more ?_ _ _ | with_reducible refine Adds.drew ?_ | with_reducible refine Adds.drewN ?_ _))).2.1 (hC.adds (by repeat (first | with_reducible exact Adds.refl _ | with_reducible refine Adds.alloc ?_ _ | with_reducible refine Adds.more ?_ _ _ | with_reducible refine Adds.drew ?_ | with_reducible refine Adds.drewN ?_ _))).2.2.2.1 rfl rfl ⟨by simp [go_sem], by simp [go_sem], by simp [go_sem], by simp [go_sem]⟩ hsl ?_; intro va4 vn4 vc4 w4 ho4 hg4 hbk4; obtain ⟨n3, nf⟩ := (hC.adds (by repeat (first | with_reducible exact Adds.refl _ | with_reducible refine Adds.alloc ?_ _ | with_reducible refine Adds.more ?_ _ _ | with_reducible refine Adds.drew ?_ | with_reducible refine Adds.drewN ?_ _))).after hg4))
        all_goals
          go_wp2
          go_roundw
          case rel => exact ⟨k + 1, _, _, by omega, by go_num, (hC.adds (by repeat (first | with_reducible exact Adds.refl _ | with_reducible refine Adds.alloc ?_ _ | with_reducible refine Adds.more ?_ _ _ | with_reducible refine Adds.drew ?_ | with_reducible refine Adds.drewN ?_ _))).push ho4 hg4 hbk4 hlt (by
            rw [← HX.out, HV.out]
            refine kTl _ _ _ _ _ (by repeat (first | with_reducible exact Adds.refl _ | with_reducible refine Adds.alloc ?_ _ | with_reducible refine Adds.more ?_ _ _ | with_reducible refine Adds.drew ?_ | with_reducible refine Adds.drewN ?_ _)) (by repeat (first | with_reducible exact Adds.refl _ | with_reducible refine Adds.alloc ?_ _ | with_reducible refine Adds.more ?_ _ _ | with_reducible refine Adds.drew ?_ | with_reducible refine Adds.drewN ?_ _)) ?_ ?_ ?_ ?_
            · simp only [World.size_alloc]; omega
            · simp [go_sem]
            · simp only [World.size_alloc]; omega
            · simp [go_sem])⟩
          case measure => simp [intOf]; omega
    · have hk' : k = fs.length := by omega
      subst hk'
      have hW0 : wr.heap[w.heap.size]? = some (.cells #[.int .i64 0, .int .i64 0, .string ⟨#[]⟩, .slice none 0 0] 73 (0, 0)) := by
        rw [hC.2.2.1.block w.heap.size (by omega)]
        exact new_block _ _
      have x0 : wr.cell? ⟨w.heap.size, 0, none⟩ = some (.int .i64 0) := by simp [World.cell?, hW0]
      have x1 : wr.cell? ⟨w.heap.size, 1, none⟩ = some (.int .i64 0) := by simp [World.cell?, hW0]
      have x2 : wr.cell? ⟨w.heap.size, 2, none⟩ = some (.string ⟨#[]⟩) := by simp [World.cell?, hW0]
      have x3 : wr.cell? ⟨w.heap.size, 3, none⟩ = some (.slice none 0 0) := by simp [World.cell?, hW0]
      have y0 : wr.frozen? ⟨w.heap.size, 0, none⟩ = false := by simp [World.frozen?, hW0]
      have y1 : wr.frozen? ⟨w.heap.size, 1, none⟩ = false := by simp [World.frozen?, hW0]
      have y2 : wr.frozen? ⟨w.heap.size, 2, none⟩ = false := by simp [World.frozen?, hW0]
      have y3 : wr.frozen? ⟨w.heap.size, 3, none⟩ = false := by simp [World.frozen?, hW0]
      have hT := hC.tree
      go_wp2
      refine bodyPost_ret (v := .agg #[.int .i64 3, .int .i64 0, .string ⟨#[]⟩, .slice va vn vc]) (by simp [results, Try.results38, go_sem, x0, x1, x2, x3]) rfl ⟨_, rfl, ?_, ?_⟩
      · exact (hT.frame (ok' := fun b => b ≠ w.heap.size ∧ True) (Nat.le_refl _) (fun _ _ _ => rfl) (fun _ h => ⟨by omega, trivial⟩)).oth ((((Oth.set _ _ _ _).trans (Oth.set _ _ _ _)).trans (Oth.set _ _ _ _)).trans (Oth.set _ _ _ _))
      · exact Adds.of (below_setCells hbw (Nat.le_refl _) [.int .i64 3, .int .i64 0, .string ⟨#[]⟩, .slice va vn vc] 0)

end Go.Proofs.Ytgnhkpihlghbmaa
