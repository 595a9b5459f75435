/-
  A scope with two labels; append of a frame; what read tells.
-/
import Derived.Test.YtiacnmcdfpmcfaaGreatDoorStk
import Derived.ScopeJumps
import Derived.WalkMore
import Derived.Lib.AppendZerosOnto
namespace Go.Proofs.YtiacnmcdfpmcfaaGreatDoor
open Go.RowKit
attribute [local go_sem] cell?_more frozen?_more setCell_more size_more tape_more drew_more drewN_more more_drew more_drewN one_out plus_out plus_end lt_one le_p2 le_p3 le_p4 le_p5 le_p6 le_p7 le_p8 le_p9 le_p10 le_p11 le_p12 le_p13 le_p14 le_p15 le_p16 le_p17 le_p18 le_p19 le_p20 le_p21 le_p22 le_p23 le_p24 le_q0 le_q1 lt_q1 le_q2 lt_q2 le_q3 lt_q3 le_q4 lt_q4 le_q5 lt_q5 le_q6 lt_q6 le_q7 lt_q7 le_q8 lt_q8 le_q9 lt_q9 le_q10 lt_q10 le_q11 lt_q11 le_q12 lt_q12 le_q13 lt_q13 le_q14 lt_q14 le_q15 lt_q15 le_q16 lt_q16 le_q17 lt_q17 le_q18 lt_q18 le_q19 lt_q19 le_q20 lt_q20 le_q21 lt_q21 le_q22 lt_q22 le_q23 lt_q23 le_q24 lt_q24


/-- As Q; by a goto to label 0: K0, to label 1: K1; by any other goto: no way out. -/
def jump2 (K0 K1 : Act → World → Prop) (Q : Exit → Act → World → Prop) : Exit → Act → World → Prop
  | .goto l, a, w => (l = 0 ∧ K0 a w) ∨ (l = 1 ∧ K1 a w)
  | e, a, w => Q e a w

theorem jump2_mono {K0 K1 L0 L1 : Act → World → Prop} {Q : Exit → Act → World → Prop} (h0 : ∀ a w, K0 a w → L0 a w) (h1 : ∀ a w, K1 a w → L1 a w) : ∀ e a w, jump2 K0 K1 Q e a w → jump2 L0 L1 Q e a w := by
  intro e a w h
  cases e with
  | goto l => exact h.elim (fun x => .inl ⟨x.1, h0 a w x.2⟩) (fun x => .inr ⟨x.1, h1 a w x.2⟩)
  | normal => exact h
  | exit id => exact h
  | ret => exact h
  | panic ch => exact h
  | outgrown => exact h

/-- A scope whose run jumps back to two labels: every pass from a label lowers a measure. -/
theorem wp_scope_two {P : Program} {a : Act} {w : World} {Q : Exit → Act → World → Prop} {c r0 r1 : Code} (J0 J1 : Act → World → Prop) (μ : Act → World → Nat) (hf0 : findLabel c 0 = some (Code.skip.seq r0)) (hf1 : findLabel c 1 = some (Code.skip.seq r1))
    (pass1 : ∀ a w, J1 a w → r1.wp P (jump2 (fun a' w' => J0 a' w' ∧ μ a' w' < μ a w) (fun a' w' => J1 a' w' ∧ μ a' w' < μ a w) Q) a w)
    (pass0 : ∀ a w, J0 a w → (∀ a' w', J1 a' w' → μ a' w' ≤ μ a w → r1.wp P (jump2 (fun a' w' => J0 a' w' ∧ μ a' w' < μ a w) (fun a' w' => J1 a' w' ∧ μ a' w' < μ a w) Q) a' w') → r0.wp P (jump2 (fun a' w' => J0 a' w' ∧ μ a' w' < μ a w) (fun a' w' => J1 a' w' ∧ μ a' w' < μ a w) Q) a w)
    (first : (∀ a' w', J0 a' w' → r0.wp P (jump2 J0 J1 Q) a' w') → c.wp P (jump2 J0 J1 Q) a w) : (Code.scope c).wp P Q a w := by
  have pass0' : ∀ a w, J0 a w → r0.wp P (jump2 (fun a' w' => J0 a' w' ∧ μ a' w' < μ a w) (fun a' w' => J1 a' w' ∧ μ a' w' < μ a w) Q) a w := by
    intro a w h
    refine pass0 a w h (fun a' w' h1 hle => wp_mono (pass1 a' w' h1) (jump2_mono ?_ ?_))
    · rintro x y ⟨hx, hlt⟩
      exact ⟨hx, by omega⟩
    · rintro x y ⟨hx, hlt⟩
      exact ⟨hx, by omega⟩
  have first' := first (fun a' w' h => wp_mono (pass0' a' w' h) (jump2_mono (fun _ _ x => x.1) (fun _ _ x => x.1)))
  intro b k cs
  have hg0 : gotoIn 0 (.inScope c :: k) = some (.code (Code.skip.seq r0) :: .inScope c :: k) := by simp [gotoIn, hf0]
  have hg1 : gotoIn 1 (.inScope c :: k) = some (.code (Code.skip.seq r1) :: .inScope c :: k) := by simp [gotoIn, hf1]
  have key : ∀ n a w, μ a w = n → (J0 a w → ∃ e a' w', Q e a' w' ∧ Arrives P (lone (b.at a (.code (Code.skip.seq r0) :: .inScope c :: k)) cs w) b k cs e a' w') ∧ (J1 a w → ∃ e a' w', Q e a' w' ∧ Arrives P (lone (b.at a (.code (Code.skip.seq r1) :: .inScope c :: k)) cs w) b k cs e a' w') := by
    intro n
    induction n using Nat.strongRecOn with
    | _ n ih =>
      intro a w hn
      have go : ∀ r : Code, r.wp P (jump2 (fun a' w' => J0 a' w' ∧ μ a' w' < μ a w) (fun a' w' => J1 a' w' ∧ μ a' w' < μ a w) Q) a w → ∃ e a' w', Q e a' w' ∧ Arrives P (lone (b.at a (.code r :: .inScope c :: k)) cs w) b k cs e a' w' := by
        intro r hr
        obtain ⟨e, a1, w1, hq, harr⟩ := hr b (.inScope c :: k) cs
        cases e with
        | normal => exact ⟨.normal, a1, w1, hq, Steps.trans harr (.one step_inScope)⟩
        | exit id => exact ⟨.exit id, a1, w1, hq, fun k' hk => harr k' (by simp [exitTo, hk])⟩
        | goto l' =>
          rcases hq with ⟨rfl, hJ, hlt⟩ | ⟨rfl, hJ, hlt⟩
          · obtain ⟨e2, a2, w2, hq2, harr2⟩ := (ih _ (by omega) a1 w1 rfl).1 hJ
            exact ⟨e2, a2, w2, hq2, .of_steps (harr _ hg0) harr2⟩
          · obtain ⟨e2, a2, w2, hq2, harr2⟩ := (ih _ (by omega) a1 w1 rfl).2 hJ
            exact ⟨e2, a2, w2, hq2, .of_steps (harr _ hg1) harr2⟩
        | ret => exact ⟨_, a1, w1, hq, harr⟩
        | panic ch => exact ⟨_, a1, w1, hq, harr⟩
        | outgrown => exact ⟨_, a1, w1, hq, harr⟩
      exact ⟨fun h => go _ (wp_seq (wp_skip (pass0' a w h))), fun h => go _ (wp_seq (wp_skip (pass1 a w h)))⟩
  obtain ⟨e, a1, w1, hq, harr⟩ := first' b (.inScope c :: k) cs
  cases e with
  | normal => exact ⟨.normal, a1, w1, hq, .head step_scope (Steps.trans harr (.one step_inScope))⟩
  | exit id => exact ⟨.exit id, a1, w1, hq, fun k' hk => .head step_scope (harr k' (by simp [exitTo, hk]))⟩
  | goto l' =>
    rcases hq with ⟨rfl, hJ⟩ | ⟨rfl, hJ⟩
    · obtain ⟨e2, a2, w2, hq2, harr2⟩ := (key _ a1 w1 rfl).1 hJ
      exact ⟨e2, a2, w2, hq2, .of_steps (.head step_scope (harr _ hg0)) harr2⟩
    · obtain ⟨e2, a2, w2, hq2, harr2⟩ := (key _ a1 w1 rfl).2 hJ
      exact ⟨e2, a2, w2, hq2, .of_steps (.head step_scope (harr _ hg1)) harr2⟩
  | ret => exact ⟨_, a1, w1, hq, .of_steps (.one step_scope) harr⟩
  | panic ch => exact ⟨_, a1, w1, hq, .of_steps (.one step_scope) harr⟩
  | outgrown => exact ⟨_, a1, w1, hq, .of_steps (.one step_scope) harr⟩

theorem Tryz.info135 : (Tryz.prog.info? 135).map (fun i => (i.zero, i.size, i.bytes)) = some (some (.agg #[.string ⟨#[]⟩, .int .i64 0, .string ⟨#[]⟩, .int .i64 0, .slice none 0 0, .int .i64 0, .string ⟨#[]⟩, .int .i64 0, .slice none 0 0]), 9, 128) := by kernel_rfl

theorem info_parts {i : Option TypeInfo} {z : Option Value} {n b : Nat} (h : i.map (fun i => (i.zero, i.size, i.bytes)) = some (z, n, b)) : ∃ i0, i = some i0 ∧ i0.zero = z ∧ i0.size = n ∧ i0.bytes = b := by
  cases i with
  | none => cases h
  | some i0 =>
    simp only [Option.map_some, Option.some.injEq, Prod.mk.injEq] at h
    exact ⟨i0, rfl, h.1, h.2.1, h.2.2⟩

/-- append of one frame. -/
theorem frame_app {ops : Array Oper} {rest : List Oper} {o : Oper} {a : Act} {w : World} {Q : Exit → Act → World → Prop} (hgd : o.guard = none) (s x : Operand) (ho : o.op = .call { callee := .builtin .append, args := #[s, x], argTypes := #[136, 136] })
    {B g cap : Nat} {fs : List Fm} (h : w.ownsRow B 135 9 (.slice (some ⟨g, 0, none⟩) fs.length cap) fs.length (cellsF fs)) (hB : B ≤ w.heap.size) (hs : a.eval s = .slice (some ⟨g, 0, none⟩) fs.length cap) (f : Fm) {k c : Nat} (hx : a.eval x = .slice (some ⟨k, 0, none⟩) 1 c)
    (hc : ∀ j u, f.cells[j]? = some u → w.cell? ⟨k, j, none⟩ = some u) (hone : ∀ u ∈ f.cells, u.oneCell' = true) (hlen : fs.length ≤ 10000)
    (hk : ∀ g' cap' w', w'.ownsRow B 135 9 (.slice (some ⟨g', 0, none⟩) (fs.length + 1) cap') (fs ++ [f]).length (cellsF (fs ++ [f])) → w.grownBy w' (some g) → (g' = g ∨ g' = w.heap.size) → wpList Tryz.prog ops Q rest (a.put o.dst (.slice (some ⟨g', 0, none⟩) (fs.length + 1) cap')) w') : wpList Tryz.prog ops Q (o :: rest) a w := by
  obtain ⟨i0, hi, hz0, hz1, hz2⟩ := info_parts Tryz.info135
  have hnews : ∀ j u, f.cells[j]? = some u → w.cell? ((⟨k, 0, none⟩ : Addr).add j) = some u := by
    intro j u hj
    rw [Addr.add_lit, Nat.zero_add]
    exact hc j u hj
  obtain ⟨v', w', h1, h2, h3, _⟩ := run_append_own (P := Tryz.prog) w B 136 o.type 135 i0 _ 9 128 Tryz.underlying136 hi hz0 hz1 hz2 rfl (by decide) _ fs.length (cellsF fs) h ⟨k, 0, none⟩ 1 c f.cells rfl hnews hone (by unfold maxLen; omega) (by omega) hB
  have hdet : ∀ v1 w1, (Builtin.append_ #[136, 136] o.type #[.slice (some ⟨g, 0, none⟩) fs.length cap, .slice (some ⟨k, 0, none⟩) 1 c]).run Tryz.prog w = .ok v1 w1 → v' = v1 := by
    intro v1 w1 h
    rw [h1] at h
    simp only [Result.ok.injEq] at h
    exact h.1
  have hlen2 : (cellsF fs).length = fs.length * i0.size := by rw [cellsF_length, hz1]
  have hl2 : f.cells.length = 1 * i0.size := by rw [hz1]; rfl
  have hvb : v'.ownBlock = some g ∨ v'.ownBlock = some w.heap.size := by
    rcases h.2 with ⟨h0, hn⟩ | ⟨g2, cap2, cur, he, hbg, hg, hnc, hcm, hcs, htake⟩
    · cases h0
    · simp only [Value.slice.injEq, Option.some.injEq, Addr.mk.injEq] at he
      obtain ⟨⟨rfl, _⟩, _, rfl⟩ := he
      by_cases hroom : fs.length + 1 ≤ cap
      · have := hdet _ _ (run_append_room (P := Tryz.prog) w 136 o.type 135 i0 Tryz.underlying136 hi g fs.length cap cur hg ⟨k, 0, none⟩ 1 c f.cells hl2 hnews hone hroom (by rw [hz1, hcs]; have : f.cells.length = 9 := rfl; omega))
        rw [this]
        exact .inl rfl
      · have := hdet _ _ (run_append_grow (P := Tryz.prog) w 136 o.type 135 i0 _ Tryz.underlying136 hi hz0 ⟨g, 0, none⟩ fs.length cap (cellsF fs) hlen2 (h.cells (g := g) rfl) ⟨k, 0, none⟩ 1 c f.cells hl2 hnews (by omega) (by omega) (by rw [hz2]; exact growslice_fits (by omega) (by omega)))
        rw [this]
        exact .inr rfl
  have h2' : w'.ownsRow B 135 9 v' (fs ++ [f]).length (cellsF (fs ++ [f])) := by
    rw [cellsF_append, List.length_append]
    have e1 : cellsF [f] = f.cells := by simp [cellsF]
    rw [e1]
    exact h2
  rcases h2'.2 with ⟨h0, hn⟩ | ⟨g', cap', cur, rfl, hr⟩
  · simp at hn
  · have hl3 : (fs ++ [f]).length = fs.length + 1 := by simp
    rw [hl3] at hdet h1
    have h4 := h2'
    rw [hl3] at h4
    refine Lib.wpList_append_run w hgd s x 136 136 ho _ _ hs hx _ w' h1 (hk g' cap' w' (by rw [hl3]; exact h4) h3 ?_)
    rcases hvb with hvb | hvb
    · left
      simpa [Value.ownBlock] using hvb
    · right
      simpa [Value.ownBlock] using hvb

theorem cell_new {X : World} {cs : List Value} {T : TypeId} {k : Nat} (hk : k = X.heap.size) {j : Nat} {u : Value} (h : cs[j]? = some u) : (X.alloc (.cells cs.toArray T)).cell? ⟨k, j, none⟩ = some u := by
  subst hk
  simp [h]

/-- append of one frame, where it is asked for. -/
theorem frame_app_n {ops : Array Oper} {rest : List Oper} {o : Oper} {a : Act} {X : World} {Q : Exit → Act → World → Prop} (hgd : o.guard = none) (s x : Operand) (ho : o.op = .call { callee := .builtin .append, args := #[s, x], argTypes := #[136, 136] })
    {R : Nat} {w W : World} {l : List UInt8} {st : List Fr} {f : Fr} {g cap d : Nat} {ms : List Fm} {m : Fm} (h : Sg R w W l st f g cap d ms m) (hA : Adds W X) (nm : List UInt8) (hs : a.eval s = .slice (some ⟨g, 0, none⟩) (ms.length + 1) cap) {k c : Nat} (hk : k = X.heap.size) (hx : a.eval x = .slice (some ⟨k, 0, none⟩) 1 c)
    (hnext : ∀ g' cap' w', w'.ownsRow R 135 9 (.slice (some ⟨g', 0, none⟩) (ms.length + 1 + 1) cap') (ms ++ [m] ++ [(⟨toB nm, N.zero, nilV, N.zero, nilV⟩ : Fm)]).length (cellsF (ms ++ [m] ++ [(⟨toB nm, N.zero, nilV, N.zero, nilV⟩ : Fm)])) → (X.alloc (.cells #[.string (toB nm), .int .i64 0, .string ⟨#[]⟩, .int .i64 0, nilV, .int .i64 0, .string ⟨#[]⟩, .int .i64 0, nilV] 135)).grownBy w' (some g) → (g' = g ∨ g' = (X.alloc (.cells #[.string (toB nm), .int .i64 0, .string ⟨#[]⟩, .int .i64 0, nilV, .int .i64 0, .string ⟨#[]⟩, .int .i64 0, nilV] 135)).heap.size) → wpList Tryz.prog ops Q rest (a.put o.dst (.slice (some ⟨g', 0, none⟩) (ms.length + 1 + 1) cap')) w') :
    wpList Tryz.prog ops Q (o :: rest) a (X.alloc (.cells #[.string (toB nm), .int .i64 0, .string ⟨#[]⟩, .int .i64 0, nilV, .int .i64 0, .string ⟨#[]⟩, .int .i64 0, nilV] 135)) := by
  have hl : (ms ++ [m]).length = ms.length + 1 := by simp
  have h1 := (h.adds (hA.alloc (.cells #[.string (toB nm), .int .i64 0, .string ⟨#[]⟩, .int .i64 0, nilV, .int .i64 0, .string ⟨#[]⟩, .int .i64 0, nilV] 135))).rdr
  refine frame_app hgd s x ho (B := R) (g := g) (cap := cap) (fs := ms ++ [m]) (by have := h1.2.1; rw [hl] at this ⊢; exact this) h1.2.2 (by rw [hl]; exact hs) ⟨toB nm, N.zero, nilV, N.zero, nilV⟩ hx (fun j u hj => cell_new hk hj) ?_ (by rw [hl]; have := h.len; omega) ?_
  · intro u hu
    simp only [Fm.cells, N.zero, N.kind, N.text, N.num, List.mem_cons, List.mem_nil_iff, or_false] at hu
    rcases hu with rfl | rfl | rfl | rfl | rfl | rfl | rfl | rfl | rfl <;> rfl
  · intro g' cap' w' ho hg hgg
    rw [hl] at ho ⊢
    exact hnext g' cap' w' ho hg hgg

theorem Sg.push {R : Nat} {w W W1 W2 : World} {l : List UInt8} {st : List Fr} {f : Fr} {g cap d : Nat} {ms : List Fm} {m : Fm} (h : Sg R w W l st f g cap d ms m) (hA : Adds W W1) (hg : W1.grownBy W2 (some g)) {g' cap' : Nat} {nm : List UInt8} (hnm : nm = [] ∨ isName nm = true)
    (ho : W2.ownsRow R 135 9 (.slice (some ⟨g', 0, none⟩) (ms.length + 1 + 1) cap') (ms ++ [m] ++ [(⟨toB nm, N.zero, nilV, N.zero, nilV⟩ : Fm)]).length (cellsF (ms ++ [m] ++ [(⟨toB nm, N.zero, nilV, N.zero, nilV⟩ : Fm)]))) (hgg : g' = g ∨ g' = W1.heap.size) (hlen : ms.length + 1 + l.length ≤ 256) :
    Sg R w (W2.setCell ⟨R + 3, 1, none⟩ (.slice (some ⟨g', 0, none⟩) (ms.length + 1 + 1) cap')) l (f :: st) ⟨nm, none, none⟩ g' cap' d (ms ++ [m]) ⟨toB nm, N.zero, nilV, N.zero, nilV⟩ := by
  have h1 := h.adds hA
  have hM := h1.facts.2.2.2.2
  have hgM : g ≠ R + 3 := fun e => h.rdr.far (by simp [Value.ownBlock, e])
  have mv1 : Mv (fun b => b = g) W1 W2 := ⟨hg.os, hg.tape, hg.output, hg.size, fun b hb hx => hg.block b hb (fun e => hx (by simpa using e))⟩
  have hM2 : W2.heap[R + 3]? = some (.cells #[.string (toB l), .slice (some ⟨g, 0, none⟩) (ms.length + 1) cap] 138 (0, 0)) := by
    rw [mv1.block (R + 3) hM (fun e => hgM e.symm)]
    exact h1.rdr.1
  have mv2 := Mv.set1 W2 (R + 3) 1 (.slice (some ⟨g', 0, none⟩) (ms.length + 1 + 1) cap')
  have hg'M : g' ≠ R + 3 := by
    intro e
    rcases ho.2 with ⟨h0, _⟩ | ⟨g2, c2, cur, he, _, hg2, _⟩
    · cases h0
    · simp only [Value.slice.injEq, Option.some.injEq, Addr.mk.injEq] at he
      obtain ⟨⟨rfl, _⟩, _, rfl⟩ := he
      rw [e, hM2] at hg2
      simp at hg2
  have hok : ∀ b, okS R g b → b < W1.heap.size → (W2.setCell ⟨R + 3, 1, none⟩ (.slice (some ⟨g', 0, none⟩) (ms.length + 1 + 1) cap')).heap[b]? = W1.heap[b]? ∧ okS R g' b := by
    intro b hb hlt
    refine ⟨?_, hb.1, hb.2.1, hb.2.2.1, ?_, hb.2.2.2.2⟩
    · rw [mv2.block b (Nat.lt_of_lt_of_le hlt mv1.size) hb.2.2.1, mv1.block b hlt hb.2.2.2.1]
    · rcases hgg with rfl | rfl
      · exact hb.2.2.2.1
      · omega
  have hs2 : W1.heap.size ≤ (W2.setCell ⟨R + 3, 1, none⟩ (.slice (some ⟨g', 0, none⟩) (ms.length + 1 + 1) cap')).heap.size := Nat.le_trans mv1.size mv2.size
  have hl2 : (ms ++ [m]).length = ms.length + 1 := by simp
  have hRg : R ≤ g := by
    obtain ⟨g2, c2, hv, _, _, hB, _⟩ := h.rdr.top
    simp only [Value.slice.injEq, Option.some.injEq, Addr.mk.injEq] at hv
    omega
  refine ⟨?_, ?_, ?_, ⟨rfl, rfl, rfl, Tn.nil _ _ _, Tn.nil _ _ _, fun _ => rfl, fun _ => rfl, (fun e h => by cases h), (fun e h => by cases h)⟩, ⟨ms, m, rfl, h1.top.frame (Nat.le_refl _) hs2 hok, h1.rest.frame (Nat.le_refl _) hs2 hok⟩, ?_, h.size, ?_, by rw [hl2]; exact hlen, ?_⟩
  · rw [hl2]
    refine ⟨set_r1 hM2, ⟨?_, ?_⟩, ?_⟩
    · exact cellsF_length _
    · rcases ho.2 with ⟨h0, _⟩ | ⟨g2, c2, cur, he, hb, hg2, hr⟩
      · cases h0
      · simp only [Value.slice.injEq, Option.some.injEq, Addr.mk.injEq] at he
        obtain ⟨⟨rfl, _⟩, _, rfl⟩ := he
        refine .inr ⟨g', cap', cur, by simp, hb, ?_, hr⟩
        rw [Below.heap_setCell W2 ⟨R + 3, 1, none⟩ _ g' hg'M]
        exact hg2
    · have := h1.rdr.2.2
      omega
  · rcases hgg with rfl | rfl
    · exact h.g0
    · omega
  · rcases hgg with rfl | rfl
    · exact h.g1
    · omega
  · exact (h1.mvd.trans (mv1.mono (fun n _ e => by omega))).trans (mv2.mono (fun n _ e => by omega))
  · rw [mv2.block R (by have := mv1.size; omega) (by omega), mv1.block R (by omega) (fun e => h.g0 e.symm)]
    exact h1.res
  · intro x hx
    rcases List.mem_cons.1 hx with rfl | hx
    · exact hnm
    · exact h.names x hx

/-- What read tells of a text. -/
def ReadTold (s : List UInt8) (w : World) (e : Ending) (W' : World) : Prop :=
  (∃ x sr d, M s [] Fr.none none = some x ∧ e = .returned (.tuple #[nodeV x.toN sr, .bool true]) ∧ Tn (fun b => w.heap.size ≤ b) d W' sr x.toN.args ∧ Adds w W') ∨
  (M s [] Fr.none none = none ∧ e = .returned (.tuple #[nodeV N.zero nilV, .bool false]) ∧ Adds w W')

/-- How much of the text is left. -/
def left (R : Nat) (W : World) : Nat := match W.cell? ⟨R + 3, 0, none⟩ with | some (.string s) => s.size | _ => 0

theorem Sg.left {R : Nat} {w W : World} {l : List UInt8} {st : List Fr} {f : Fr} {g cap d : Nat} {ms : List Fm} {m : Fm} (h : Sg R w W l st f g cap d ms m) : left R W = l.length := by
  simp only [YtiacnmcdfpmcfaaGreatDoor.left, h.facts.1, toB_size]

end Go.Proofs.YtiacnmcdfpmcfaaGreatDoor
