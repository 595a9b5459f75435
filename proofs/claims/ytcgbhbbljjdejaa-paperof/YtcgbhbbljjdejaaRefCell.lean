/-
  The document's own Cell of a document, by a contract.
-/
import Derived.Test.YtcgbhbbljjdejaaOf
namespace Go.Proofs.Ytcgbhbbljjdejaa
open Go.RowKit
attribute [local go_sem] cell?_more frozen?_more setCell_more size_more tape_more drew_more drewN_more more_drew more_drewN one_out plus_out plus_end lt_one le_p2 le_p3 le_p4 le_p5 le_p6 le_p7 le_p8 le_p9 le_p10 le_p11 le_p12 le_p13 le_p14 le_p15 le_p16 le_p17 le_p18 le_p19 le_p20 le_p21 le_p22 le_p23 le_p24 le_q0 le_q1 lt_q1 le_q2 lt_q2 le_q3 lt_q3 le_q4 lt_q4 le_q5 lt_q5 le_q6 lt_q6 le_q7 lt_q7 le_q8 lt_q8 le_q9 lt_q9 le_q10 lt_q10 le_q11 lt_q11 le_q12 lt_q12 le_q13 lt_q13 le_q14 lt_q14 le_q15 lt_q15 le_q16 lt_q16 le_q17 lt_q17 le_q18 lt_q18 le_q19 lt_q19 le_q20 lt_q20 le_q21 lt_q21 le_q22 lt_q22 le_q23 lt_q23 le_q24 lt_q24

theorem Tr.frame2 {ok ok' : Nat → Prop} {d : Nat} {w w' : World} {s : Value} {ts : List T} (h : Tr ok d w s ts) (hs : w.heap.size ≤ w'.heap.size) (hw : ∀ b, ok b → b < w.heap.size → w'.heap[b]? = w.heap[b]?) (hok : ∀ b, ok b → b < w.heap.size → ok' b) : Tr ok' d w' s ts := by
  induction d generalizing s ts with
  | zero => exact h
  | succ d ih =>
    obtain ⟨ao, cap, rfl, hc, h | ⟨b, off, rfl, hlt, hb, hx⟩⟩ := h
    · exact ⟨ao, cap, rfl, hc, .inl h⟩
    · refine ⟨_, cap, rfl, hc, .inr ⟨b, off, rfl, Nat.lt_of_lt_of_le hlt hs, hok b hb hlt, fun j hj => ?_⟩⟩
      obtain ⟨x, ⟨h0, h1, h2, h3⟩, h4, h5⟩ := hx j hj
      have hk : ∀ i, w'.cell? ⟨b, i, none⟩ = w.cell? ⟨b, i, none⟩ := fun i => World.cell?_of_block (w := w) (a := ⟨b, i, none⟩) (hw b hb hlt)
      exact ⟨x, ⟨by rw [hk]; exact h0, by rw [hk]; exact h1, by rw [hk]; exact h2, by rw [hk]; exact h3⟩, h4, ih h5⟩

def cellsJ (ss : List Value) : List Value := ss.flatMap (fun s => [.int .i64 3, .int .i64 0, .string ⟨#[]⟩, s])

theorem cellsJ_length (ss : List Value) : (cellsJ ss).length = ss.length * 4 := by
  induction ss with
  | nil => rfl
  | cons f r ih =>
    simp only [cellsJ, List.flatMap_cons, List.length_append, List.length_cons] at *
    rw [ih]
    simp
    omega

theorem cellsJ_append (l t : List Value) : cellsJ (l ++ t) = cellsJ l ++ cellsJ t := by simp [cellsJ]

theorem cellsJ_get (ss : List Value) (i : Nat) (hi : i < ss.length) (r : Nat) (hr : r < 4) : (cellsJ ss)[i * 4 + r]? = [.int .i64 3, .int .i64 0, .string ⟨#[]⟩, ss[i]][r]? := by
  induction ss generalizing i with
  | nil => simp at hi
  | cons f t ih =>
    cases i with
    | zero =>
      simp only [cellsJ, List.flatMap_cons, Nat.zero_mul, Nat.zero_add, List.getElem_cons_zero]
      rw [List.getElem?_append_left (by simp; omega)]
    | succ i =>
      have hi' : i < t.length := by simpa using hi
      simp only [cellsJ, List.flatMap_cons, List.getElem_cons_succ]
      rw [List.getElem?_append_right (by simp; omega)]
      have := ih i hi'
      simp only [cellsJ] at this
      rw [← this]
      congr 1
      simp
      omega

/-- append of one cell, and where the row lies behind it. -/
theorem push_cell (w : World) (B : Nat) (ty : TypeId) (v : Value) (ss : List Value) (h : w.ownsRow B 50 4 v ss.length (cellsJ ss)) (hB : B ≤ w.heap.size) (ao : Option Addr) (an ac : Nat)
    (k c : Nat) (hc : w.cell? ⟨k, 0, none⟩ = some (.int .i64 3) ∧ w.cell? ⟨k, 1, none⟩ = some (.int .i64 0) ∧ w.cell? ⟨k, 2, none⟩ = some (.string ⟨#[]⟩) ∧ w.cell? ⟨k, 3, none⟩ = some (.slice ao an ac)) (hlen : ss.length ≤ 10000) :
    ∃ v' w', (Builtin.append_ #[48, 48] ty #[v, .slice (some ⟨k, 0, none⟩) 1 c]).run Try.prog w = .ok v' w' ∧ w'.ownsRow B 50 4 v' (ss ++ [Value.slice ao an ac]).length (cellsJ (ss ++ [Value.slice ao an ac])) ∧ w.grownBy w' v.ownBlock ∧ (v'.ownBlock = v.ownBlock ∨ v'.ownBlock = some w.heap.size) := by
  obtain ⟨i0, hi, hz0, hz1, hz2⟩ := info_parts Try.info50
  have hnews : ∀ j u, [.int .i64 3, .int .i64 0, .string ⟨#[]⟩, Value.slice ao an ac][j]? = some u → w.cell? ((⟨k, 0, none⟩ : Addr).add j) = some u := by
    intro j u hj
    rw [Addr.add_lit, Nat.zero_add]
    match j, hj with
    | 0, hj => simp at hj; subst hj; exact hc.1
    | 1, hj => simp at hj; subst hj; exact hc.2.1
    | 2, hj => simp at hj; subst hj; exact hc.2.2.1
    | 3, hj => simp at hj; subst hj; exact hc.2.2.2
    | (j + 4), hj => simp at hj
  have hone : ∀ u ∈ [.int .i64 3, .int .i64 0, .string ⟨#[]⟩, Value.slice ao an ac], u.oneCell' = true := by
    intro u hu
    simp only [List.mem_cons, List.mem_nil_iff, or_false] at hu
    rcases hu with rfl | rfl | rfl | rfl <;> rfl
  obtain ⟨v', w', h1, h2, h3, _⟩ := run_append_own (P := Try.prog) w B 48 ty 50 i0 _ 4 56 Try.underlying48 hi hz0 hz1 hz2 rfl (by decide) v ss.length (cellsJ ss) h ⟨k, 0, none⟩ 1 c _ rfl hnews hone (by unfold maxLen; omega) (by omega) hB
  refine ⟨v', w', h1, by rw [cellsJ_append, List.length_append]; exact h2, h3, ?_⟩
  have hdet : ∀ v1 w1, (Builtin.append_ #[48, 48] ty #[v, .slice (some ⟨k, 0, none⟩) 1 c]).run Try.prog w = .ok v1 w1 → v' = v1 := by
    intro v1 w1 h
    rw [h1] at h
    simp only [Result.ok.injEq] at h
    exact h.1
  have hlen2 : (cellsJ ss).length = ss.length * i0.size := by rw [cellsJ_length, hz1]
  have hl2 : [.int .i64 3, .int .i64 0, .string ⟨#[]⟩, Value.slice ao an ac].length = 1 * i0.size := by rw [hz1]; rfl
  rcases h.2 with ⟨rfl, hn⟩ | ⟨g, cap, cur, rfl, hbg, hg, hnc, hcm, hcs, htake⟩
  · have := hdet _ _ (run_append_nil (P := Try.prog) w 48 ty 50 i0 _ Try.underlying48 hi hz0 ⟨k, 0, none⟩ 1 c _ hl2 hnews (by omega) (by omega) (by rw [hz2]; omega))
    rw [this]
    exact .inr rfl
  · by_cases hroom : ss.length + 1 ≤ cap
    · have := hdet _ _ (run_append_room (P := Try.prog) w 48 ty 50 i0 Try.underlying48 hi g ss.length cap cur hg ⟨k, 0, none⟩ 1 c _ hl2 hnews hone hroom (by rw [hz1, hcs]; simp; omega))
      rw [this]
      exact .inl rfl
    · have := hdet _ _ (run_append_grow (P := Try.prog) w 48 ty 50 i0 _ Try.underlying48 hi hz0 ⟨g, 0, none⟩ ss.length cap (cellsJ ss) hlen2 (h.cells (g := g) rfl) ⟨k, 0, none⟩ 1 c _ hl2 hnews (by omega) (by omega) (by rw [hz2]; exact growslice_fits (by omega) (by omega)))
      rw [this]
      exact .inr rfl

/-- append of one cell, as one step of a region that draws its order. -/
theorem cell_step {ops : Array Oper} {o : Oper} {a : Act} {w : World} {K : Act → World → Prop} {Q : Exit → Act → World → Prop} {E : Prop} (hgd : o.guard = none) (s x : Operand) (ho : o.op = .call { callee := .builtin .append, args := #[s, x], argTypes := #[48, 48] })
    {B : Nat} {v : Value} {ss : List Value} (h : w.ownsRow B 50 4 v ss.length (cellsJ ss)) (hB : B ≤ w.heap.size) (hs : a.eval s = v) {ao : Option Addr} {an ac : Nat}
    {k c : Nat} (hx : a.eval x = .slice (some ⟨k, 0, none⟩) 1 c) (hc : w.cell? ⟨k, 0, none⟩ = some (.int .i64 3) ∧ w.cell? ⟨k, 1, none⟩ = some (.int .i64 0) ∧ w.cell? ⟨k, 2, none⟩ = some (.string ⟨#[]⟩) ∧ w.cell? ⟨k, 3, none⟩ = some (.slice ao an ac)) (hlen : ss.length ≤ 10000)
    (hk : ∀ (va : Option Addr) (vn vc : Nat) w', w'.ownsRow B 50 4 (.slice va vn vc) (ss ++ [Value.slice ao an ac]).length (cellsJ (ss ++ [Value.slice ao an ac])) → w.grownBy w' v.ownBlock → ((Value.slice va vn vc).ownBlock = v.ownBlock ∨ (Value.slice va vn vc).ownBlock = some w.heap.size) → K (a.put o.dst (.slice va vn vc)) w') : if Region.wanted o (yielded ops a.tmps) = true then Oper.wp Try.prog o a w K Q else E := by
  have hw : Region.wanted o (yielded ops a.tmps) = true := by simp [Region.wanted, hgd]
  rw [if_pos hw]
  obtain ⟨v', w', hr, h2, h3, h4⟩ := push_cell w B o.type v ss h hB ao an ac k c hc hlen
  obtain ⟨va, vn, vc, rfl⟩ : ∃ va vn vc, v' = .slice va vn vc := by
    rcases h2.2 with ⟨rfl, _⟩ | ⟨g, cap, cur, rfl, _⟩
    · exact ⟨_, _, _, rfl⟩
    · exact ⟨_, _, _, rfl⟩
  exact Lib.wp_append_run w s x 48 48 ho v _ hs hx _ w' hr (hk va vn vc w' h2 h3 h4)

/-- The list that is being made: its box, its row, and what lies in it. -/
def Cst (Cb : Nat) (W0 : World) (fs : List F) (k : Nat) (v : Value) (ss : List Value) (W : World) : Prop :=
  W.heap[Cb]? = some (.cells #[.int .i64 3, .int .i64 0, .string ⟨#[]⟩, v] 50 (0, 0)) ∧ W.ownsRow (Cb + 1) 50 4 v ss.length (cellsJ ss) ∧ Below Cb W0 W ∧ Cb + 1 ≤ W.heap.size ∧ ss.length = k ∧
    ∀ j (h : j < ss.length) (h' : j < fs.length), Tr (fun b => Cb < b ∧ some b ≠ v.ownBlock) 2 W ss[j] (fieldT fs[j]).list

theorem Cst.far {Cb : Nat} {W0 : World} {fs : List F} {k : Nat} {v : Value} {ss : List Value} {W : World} (h : Cst Cb W0 fs k v ss W) : v.ownBlock ≠ some Cb := by
  intro e
  have := h.2.1.lt _ e
  omega

theorem Cst.adds {Cb : Nat} {W0 : World} {fs : List F} {k : Nat} {v : Value} {ss : List Value} {W W' : World} (h : Cst Cb W0 fs k v ss W) (hA : Adds W W') : Cst Cb W0 fs k v ss W' := by
  have hb := hA.below
  have hg : W.grownBy W' none := ⟨hb.os, hb.tape, hb.output, hb.size, fun k hk _ => hb.block k hk⟩
  refine ⟨by rw [hb.block Cb (by have := h.2.2.2.1; omega)]; exact h.1, h.2.1.kept hg ?_, h.2.2.1.trans (hb.mono (by have := h.2.2.2.1; omega)), Nat.le_trans h.2.2.2.1 hb.size, h.2.2.2.2.1, fun j hj hj' => (h.2.2.2.2.2 j hj hj').adds hA⟩
  cases v.ownBlock with
  | none => exact .inl rfl
  | some k => exact .inr (by simp)

theorem set_c3 {W : World} {M : Nat} {a b c d x : Value} (h : W.heap[M]? = some (.cells #[a, b, c, d] 50 (0, 0))) : (W.setCell ⟨M, 3, none⟩ x).heap[M]? = some (.cells #[a, b, c, x] 50 (0, 0)) := by
  simp [World.setCell, Array.getElem?_modify, h]

theorem Cst.push {Cb : Nat} {W0 : World} {fs : List F} {k : Nat} {v v' s : Value} {ss : List Value} {W W' : World} (h : Cst Cb W0 fs k v ss W) (ho : W'.ownsRow (Cb + 1) 50 4 v' (ss ++ [s]).length (cellsJ (ss ++ [s]))) (hg : W.grownBy W' v.ownBlock)
    (hbk : v'.ownBlock = v.ownBlock ∨ v'.ownBlock = some W.heap.size) (hk : k < fs.length) (hs : Tr (fun b => Cb < b ∧ some b ≠ v.ownBlock) 2 W s (fieldT fs[k]).list) :
    Cst Cb W0 fs (k + 1) v' (ss ++ [s]) (W'.setCell ⟨Cb, 3, none⟩ v') := by
  have hC : Cb < W.heap.size := by have := h.2.2.2.1; omega
  have h1 : W'.heap[Cb]? = some (.cells #[.int .i64 3, .int .i64 0, .string ⟨#[]⟩, v] 50 (0, 0)) := by
    rw [hg.block Cb hC (fun e => h.far e.symm)]
    exact h.1
  have hfar : v'.ownBlock ≠ some Cb := by
    intro e
    have := ho.lt _ e
    omega
  have hb : Below Cb W0 W' := by
    refine ⟨hg.os.trans h.2.2.1.os, hg.tape.trans h.2.2.1.tape, hg.output.trans h.2.2.1.output, Nat.le_trans h.2.2.1.size hg.size, fun k hk => ?_⟩
    rw [hg.block k (by omega) ?_]
    · exact h.2.2.1.block k hk
    · intro e
      have := h.2.1.lt k e.symm
      omega
  have hT : ∀ {x ts}, Tr (fun b => Cb < b ∧ some b ≠ v.ownBlock) 2 W x ts → Tr (fun b => Cb < b ∧ some b ≠ v'.ownBlock) 2 (W'.setCell ⟨Cb, 3, none⟩ v') x ts := by
    intro x ts ht
    refine ht.frame2 (by simpa using hg.size) (fun b hb hlt => ?_) (fun b hb hlt => ⟨hb.1, ?_⟩)
    · rw [Below.heap_setCell W' ⟨Cb, 3, none⟩ v' b (by show b ≠ Cb; omega)]
      exact hg.block b hlt hb.2
    · rcases hbk with e | e
      · rw [e]; exact hb.2
      · rw [e]
        simp only [ne_eq, Option.some.injEq]
        omega
  refine ⟨set_c3 h1, ho.kept (grown_setCell rfl) (.inr hfar), below_setCells hb (Nat.le_refl _) [v'] 3, ?_, ?_, fun j hj hj' => ?_⟩
  · have h2 := hg.size
    simp
    omega
  · rw [List.length_append, h.2.2.2.2.1]
    rfl
  · have hlk := h.2.2.2.2.1
    by_cases e : j < ss.length
    · rw [List.getElem_append_left e]
      exact hT (h.2.2.2.2.2 j e hj')
    · have e2 : j = k := by simp at hj; omega
      subst e2
      rw [List.getElem_append_right (by omega)]
      simp only [hlk, Nat.sub_self, List.getElem_cons_zero]
      exact hT hs

theorem Cst.tree {Cb : Nat} {W0 : World} {fs : List F} {v : Value} {ss : List Value} {W : World} (h : Cst Cb W0 fs fs.length v ss W) : Tr (fun b => Cb < b) 3 W v (docT fs).list := by
  have hl : (docT fs).list = fs.map fieldT := rfl
  have hlen := h.2.2.2.2.1
  have hc := fun g => h.2.1.cells (g := g)
  have hlt := h.2.1.lt
  rw [hl]
  rcases h.2.1.2 with ⟨rfl, hn⟩ | ⟨g, cap, cur, rfl, hb, hg, hnc, hcm, hcs, htk⟩
  · have : fs = [] := List.eq_nil_of_length_eq_zero (by omega)
    subst this
    exact Tr.nil _ _ _
  · refine ⟨_, cap, by simp [hlen], by simp; omega, .inr ⟨g, 0, rfl, (hlt g rfl).2, by omega, fun j hj => ?_⟩⟩
    have hj' : j < fs.length := by simpa using hj
    have hjs : j < ss.length := by omega
    have hcell := fun (r : Nat) (hr : r < 4) u (hu : [.int .i64 3, .int .i64 0, .string ⟨#[]⟩, ss[j]][r]? = some u) => hc g rfl (j * 4 + r) u (by rw [cellsJ_get ss j hjs r hr]; exact hu)
    simp only [Addr.add_lit] at hcell
    refine ⟨ss[j], ⟨?_, ?_, ?_, ?_⟩, ?_, ?_⟩
    · simpa [fieldT, tList, T.kind] using hcell 0 (by omega) _ rfl
    · simpa [fieldT, tList, T.num, Nat.add_assoc] using hcell 1 (by omega) _ rfl
    · simpa [fieldT, tList, T.text, Nat.add_assoc] using hcell 2 (by omega) _ rfl
    · simpa [Nat.add_assoc] using hcell 3 (by omega) _ rfl
    · simp only [List.getElem_map]
      exact Nat.zero_le _
    · simpa using (h.2.2.2.2.2 j hjs hj').frame (Nat.le_refl _) (fun _ _ _ => rfl) (fun _ h => h.1)

theorem Cst.after {Cb : Nat} {W0 : World} {fs : List F} {k : Nat} {v : Value} {ss : List Value} {W W' : World} (h : Cst Cb W0 fs k v ss W) (hg : W.grownBy W' v.ownBlock) : W'.cell? ⟨Cb, 3, none⟩ = some v ∧ W'.frozen? ⟨Cb, 3, none⟩ = false := by
  have h1 : W'.heap[Cb]? = some (.cells #[.int .i64 3, .int .i64 0, .string ⟨#[]⟩, v] 50 (0, 0)) := by
    rw [hg.block Cb (by have := h.2.2.2.1; omega) (fun e => h.far e.symm)]
    exact h.1
  exact ⟨by simp [World.cell?, h1], by simp [World.frozen?, h1]⟩

theorem kind_of {v : V} (h : v.check = 0) : v.kind = 1 ∨ v.kind = 2 ∨ v.kind = 3 := by
  by_cases h1 : v.kind = 1
  · exact .inl h1
  by_cases h2 : v.kind = 2
  · exact .inr (.inl h2)
  by_cases h3 : v.kind = 3
  · exact .inr (.inr h3)
  simp [V.check, V.fits, h1, h2, h3] at h

end Go.Proofs.Ytcgbhbbljjdejaa
