/-
  A row of nodes that grows.
  Maps keyed by where a list lies, of lists in blocks that bear no mark: what is found is there.
-/
import Derived.Test.YtiacnmcdfpmcfaaGreatDoorRrow
import Derived.Test.YtiacnmcdfpmcfaaGreatDoorEvals
import Derived.Test.YtiacnmcdfpmcfaaGreatDoorPlace
import Derived.Test.YtiacnmcdfpmcfaaGreatDoorDeep
namespace Go.Proofs.YtiacnmcdfpmcfaaGreatDoor
open Go.RowKit
attribute [local go_sem] cell?_more frozen?_more setCell_more size_more tape_more drew_more drewN_more more_drew more_drewN one_out plus_out plus_end lt_one le_p2 le_p3 le_p4 le_p5 le_p6 le_p7 le_p8 le_p9 le_p10 le_p11 le_p12 le_p13 le_p14 le_p15 le_p16 le_p17 le_p18 le_p19 le_p20 le_p21 le_p22 le_p23 le_p24 le_q0 le_q1 lt_q1 le_q2 lt_q2 le_q3 lt_q3 le_q4 lt_q4 le_q5 lt_q5 le_q6 lt_q6 le_q7 lt_q7 le_q8 lt_q8 le_q9 lt_q9 le_q10 lt_q10 le_q11 lt_q11 le_q12 lt_q12 le_q13 lt_q13 le_q14 lt_q14 le_q15 lt_q15 le_q16 lt_q16 le_q17 lt_q17 le_q18 lt_q18 le_q19 lt_q19 le_q20 lt_q20 le_q21 lt_q21 le_q22 lt_q22 le_q23 lt_q23 le_q24 lt_q24


/-- A node as it lies in a row. -/
structure NV where
  k : Int
  t : ByteArray
  m : Int
  s : Value

def NV.cells (n : NV) : List Value := [.int .i64 n.k, .string n.t, .int .i64 n.m, n.s]
def cellsN (l : List NV) : List Value := l.flatMap NV.cells
theorem cellsN_length (l : List NV) : (cellsN l).length = l.length * 4 := by
  induction l with
  | nil => rfl
  | cons f r ih =>
    simp only [cellsN, List.flatMap_cons, List.length_append, List.length_cons] at *
    rw [ih]
    simp [NV.cells]
    omega
theorem cellsN_append (l t : List NV) : cellsN (l ++ t) = cellsN l ++ cellsN t := by simp [cellsN]

theorem cellsN_at : ∀ (l : List NV) (j i : Nat) (hj : j < l.length), i < 4 → (cellsN l)[j * 4 + i]? = (l[j].cells)[i]? := by
  intro l
  induction l with
  | nil => intro j i hj; simp at hj
  | cons f r ih =>
    intro j i hj hi
    have e : cellsN (f :: r) = f.cells ++ cellsN r := by simp [cellsN]
    have hl : f.cells.length = 4 := rfl
    rw [e]
    cases j with
    | zero => rw [List.getElem?_append_left (by omega)]; simp
    | succ j =>
      rw [List.getElem?_append_right (by omega), show (j + 1) * 4 + i - f.cells.length = j * 4 + i by omega, ih j i (by simpa using hj) hi]
      simp

theorem infoNode : (Tryz.prog.info? 81).map (fun i => (i.zero, i.size, i.bytes)) = some (some (.agg #[.int .i64 0, .string ⟨#[]⟩, .int .i64 0, .slice none 0 0]), 4, 56) := by kernel_rfl

/-- append of one node, that lies in a block of its own. -/
theorem node_app {ops : Array Oper} {rest : List Oper} {o : Oper} {a : Act} {X : World} {Q : Exit → Act → World → Prop} (hgd : o.guard = none) (s x : Operand) (ho : o.op = .call { callee := .builtin .append, args := #[s, x], argTypes := #[51, 51] })
    {B : Nat} {W : World} {v : Value} {vs : List NV} {k m : Int} {t : ByteArray} {ao : Option Addr} {sn sc : Nat} (h : W.ownsRow B 81 4 v vs.length (cellsN vs)) (hA : Adds W X) (hB : B ≤ W.heap.size) (hs : a.eval s = v) {kk c : Nat} (hkk : kk = X.heap.size) (hx : a.eval x = .slice (some ⟨kk, 0, none⟩) 1 c) (hlen : vs.length ≤ 10000)
    (hk : ∀ v' w', w'.ownsRow B 81 4 v' (vs ++ [(⟨k, t, m, .slice ao sn sc⟩ : NV)]).length (cellsN (vs ++ [(⟨k, t, m, .slice ao sn sc⟩ : NV)])) → (X.alloc (.cells #[.int .i64 k, .string t, .int .i64 m, .slice ao sn sc] 81)).grownBy w' v.ownBlock → (v'.ownBlock = v.ownBlock ∨ v'.ownBlock = some (X.heap.size + 1)) → wpList Tryz.prog ops Q rest (a.put o.dst v') w') :
    wpList Tryz.prog ops Q (o :: rest) a (X.alloc (.cells #[.int .i64 k, .string t, .int .i64 m, .slice ao sn sc] 81)) := by
  obtain ⟨i0, hi, hz0, hz1, hz2⟩ := info_parts infoNode
  have h' := own_adds h (hA.alloc (.cells #[.int .i64 k, .string t, .int .i64 m, .slice ao sn sc] 81))
  have hnews : ∀ j y, (NV.cells ⟨k, t, m, .slice ao sn sc⟩)[j]? = some y → (X.alloc (.cells #[.int .i64 k, .string t, .int .i64 m, .slice ao sn sc] 81)).cell? ((⟨kk, 0, none⟩ : Addr).add j) = some y := by
    intro j y hj
    rw [Addr.add_lit, Nat.zero_add]
    exact cell_new hkk hj
  have hone : ∀ u ∈ NV.cells ⟨k, t, m, .slice ao sn sc⟩, u.oneCell' = true := by
    intro u hu
    simp only [NV.cells, List.mem_cons, List.mem_nil_iff, or_false] at hu
    rcases hu with rfl | rfl | rfl | rfl <;> rfl
  have hB' : B ≤ (X.alloc (.cells #[.int .i64 k, .string t, .int .i64 m, .slice ao sn sc] 81)).heap.size := by
    have := hA.below.size
    simp
    omega
  have hXs : (X.alloc (.cells #[.int .i64 k, .string t, .int .i64 m, .slice ao sn sc] 81)).heap.size = X.heap.size + 1 := by simp
  generalize X.alloc (.cells #[.int .i64 k, .string t, .int .i64 m, .slice ao sn sc] 81) = Y at *
  obtain ⟨v', w', h1, h2, h3, _⟩ := run_append_own (P := Tryz.prog) Y B 51 o.type 81 i0 _ 4 56 Tryz.underlying51 hi hz0 hz1 hz2 rfl (by decide) v vs.length (cellsN vs) h' ⟨kk, 0, none⟩ 1 c (NV.cells ⟨k, t, m, .slice ao sn sc⟩) rfl hnews hone (by unfold maxLen; omega) (by omega) hB'
  have hdet : ∀ v1 w1, (Builtin.append_ #[51, 51] o.type #[v, .slice (some ⟨kk, 0, none⟩) 1 c]).run Tryz.prog Y = .ok v1 w1 → v' = v1 := by
    intro v1 w1 h
    rw [h1] at h
    simp only [Result.ok.injEq] at h
    exact h.1
  have hlen2 : (cellsN vs).length = vs.length * i0.size := by rw [cellsN_length, hz1]
  have hl2 : (NV.cells ⟨k, t, m, .slice ao sn sc⟩).length = 1 * i0.size := by rw [hz1]; rfl
  have hvb : v'.ownBlock = v.ownBlock ∨ v'.ownBlock = some (X.heap.size + 1) := by
    rw [← hXs]
    rcases h'.2 with ⟨rfl, hn⟩ | ⟨g, cap, cur, rfl, hbg, hg, hnc, hcm, hcs, htake⟩
    · have := hdet _ _ (run_append_nil (P := Tryz.prog) Y 51 o.type 81 i0 _ Tryz.underlying51 hi hz0 ⟨kk, 0, none⟩ 1 c _ hl2 hnews (by decide) (by decide) (by rw [hz2]; decide))
      rw [this]
      exact .inr rfl
    · by_cases hroom : vs.length + 1 ≤ cap
      · have := hdet _ _ (run_append_room (P := Tryz.prog) Y 51 o.type 81 i0 Tryz.underlying51 hi g vs.length cap cur hg ⟨kk, 0, none⟩ 1 c _ hl2 hnews hone hroom (by rw [hz1, hcs]; have : (NV.cells ⟨k, t, m, .slice ao sn sc⟩).length = 4 := rfl; omega))
        rw [this]
        exact .inl rfl
      · have := hdet _ _ (run_append_grow (P := Tryz.prog) Y 51 o.type 81 i0 _ Tryz.underlying51 hi hz0 ⟨g, 0, none⟩ vs.length cap (cellsN vs) hlen2 (h'.cells (g := g) rfl) ⟨kk, 0, none⟩ 1 c _ hl2 hnews (by omega) (by omega) (by rw [hz2]; exact growslice_fits (by omega) (by omega)))
        rw [this]
        exact .inr rfl
  refine Lib.wpList_append_run _ hgd s x 51 51 ho v _ hs hx v' w' h1 (hk v' w' ?_ h3 hvb)
  rw [cellsN_append, List.length_append]
  have e1 : cellsN [(⟨k, t, m, .slice ao sn sc⟩ : NV)] = NV.cells ⟨k, t, m, .slice ao sn sc⟩ := by simp [cellsN]
  rw [e1]
  exact h2

/-- A row that reads as expressions. -/
def Nrx (D : Nat) (wr : World) (v : Value) (ns : List NV) (xs : List E) : Prop :=
  ns.length = xs.length ∧ ∀ j (h : j < xs.length) (h' : j < ns.length), ns[j].k = xs[j].toN.kind ∧ ns[j].t = xs[j].toN.text ∧ ns[j].m = xs[j].toN.num ∧ Tn (fun b => some b ≠ v.ownBlock) D wr ns[j].s xs[j].toN.args

structure Nr (w1 wr : World) (v : Value) (xs : List E) (ns : List NV) (D : Nat) : Prop where
  own : wr.ownsRow w1.heap.size 81 4 v ns.length (cellsN ns)
  rx : Nrx D wr v ns xs
  adds : Adds w1 wr

theorem nr_nil (w1 : World) : Nr w1 w1 (.slice none 0 0) [] [] 0 := ⟨World.ownsRow_nil _ _ _ _, ⟨rfl, fun j h => by simp at h⟩, Adds.refl _⟩

theorem nr_empty {X : World} {k : Nat} (hk : k = X.heap.size) : Nr X (X.alloc (.cells #[] 81)) (.slice (some ⟨k, 0, none⟩) 0 0) [] [] 0 := by
  subst hk
  exact ⟨⟨rfl, .inr ⟨X.heap.size, 0, #[], rfl, Nat.le_refl _, new_block _ _, Nat.le_refl _, by unfold maxLen; omega, rfl, rfl⟩⟩, ⟨rfl, fun j h => by simp at h⟩, (Adds.refl _).alloc _⟩

theorem Nr.addsN {w1 wr X : World} {v : Value} {xs : List E} {ns : List NV} {D : Nat} (h : Nr w1 wr v xs ns D) (hA : Adds wr X) : Nr w1 X v xs ns D :=
  ⟨own_adds h.own hA, ⟨h.rx.1, fun j hj hj' => by obtain ⟨a, b, c, d⟩ := h.rx.2 j hj hj'; exact ⟨a, b, c, d.adds hA⟩⟩, h.adds.trans hA⟩

theorem Nr.lt {w1 wr : World} {v : Value} {xs : List E} {ns : List NV} {D : Nat} (h : Nr w1 wr v xs ns D) : ∀ k, v.ownBlock = some k → w1.heap.size ≤ k ∧ k < wr.heap.size := h.own.lt

theorem Nr.push {w1 wr X w6 : World} {v v' : Value} {xs : List E} {ns : List NV} {D D' : Nat} {x : E} {ao : Option Addr} {sn sc : Nat} (h : Nr w1 wr v xs ns D) (hA : Adds wr X) (hT : Tn (fun b => wr.heap.size ≤ b) D' X (.slice ao sn sc) x.toN.args)
    (ho : w6.ownsRow w1.heap.size 81 4 v' (ns ++ [(⟨x.toN.kind, x.toN.text, x.toN.num, .slice ao sn sc⟩ : NV)]).length (cellsN (ns ++ [(⟨x.toN.kind, x.toN.text, x.toN.num, .slice ao sn sc⟩ : NV)]))) (hg : (X.alloc (.cells #[.int .i64 x.toN.kind, .string x.toN.text, .int .i64 x.toN.num, .slice ao sn sc] 81)).grownBy w6 v.ownBlock) (hv : v'.ownBlock = v.ownBlock ∨ v'.ownBlock = some (X.heap.size + 1)) :
    Nr w1 w6 v' (xs ++ [x]) (ns ++ [(⟨x.toN.kind, x.toN.text, x.toN.num, .slice ao sn sc⟩ : NV)]) (max D D') := by
  have hblk : ∀ b, b < X.heap.size → some b ≠ v.ownBlock → w6.heap[b]? = X.heap[b]? ∧ some b ≠ v'.ownBlock := by
    intro b hb hne
    refine ⟨?_, ?_⟩
    · rw [hg.block b (by simp; omega) hne]
      exact Below.heap_alloc _ _ _ hb
    · rcases hv with hv | hv
      · rw [hv]; exact hne
      · rw [hv]; simp; omega
  have hsz : X.heap.size ≤ w6.heap.size := by
    have := hg.size
    simp at this
    omega
  refine ⟨ho, ⟨by simp [h.rx.1], fun j hj hj' => ?_⟩, grown_adds ((h.adds.trans hA).alloc _) hg (fun k hk => (h.own.lt k hk).1)⟩
  by_cases hjl : j < xs.length
  · have hjn : j < ns.length := by rw [h.rx.1]; exact hjl
    obtain ⟨a, b, c, d⟩ := h.rx.2 j hjl hjn
    rw [List.getElem_append_left hjn, List.getElem_append_left hjl]
    exact ⟨a, b, c, ((d.adds hA).frame hsz (fun b hb hlt => hblk b hlt hb)).up (Nat.le_max_left _ _)⟩
  · have hje : j = xs.length := by simp at hj; omega
    have hjn : j = ns.length := by rw [h.rx.1]; exact hje
    subst hje
    have e1 : (ns ++ [(⟨x.toN.kind, x.toN.text, x.toN.num, .slice ao sn sc⟩ : NV)])[xs.length] = ⟨x.toN.kind, x.toN.text, x.toN.num, .slice ao sn sc⟩ := by
      rw [List.getElem_append_right (by omega)]
      simp
    have e2 : (xs ++ [x])[xs.length] = x := by simp
    rw [e1, e2]
    refine ⟨rfl, rfl, rfl, (hT.frame hsz (fun b hb hlt => hblk b hlt (fun e => ?_))).up (Nat.le_max_right _ _)⟩
    have := (h.lt b e.symm).2
    omega

/-- The row read as a list of nodes. -/
theorem Nr.tn {w1 wr : World} {v : Value} {xs : List E} {ns : List NV} {D : Nat} (h : Nr w1 wr v xs ns D) (hok : ∀ x ∈ xs, x.ok) : Tn (fun _ => True) (D + 1) wr v (xs.map E.toN) := by
  have hl := h.rx.1
  rcases h.own.2 with ⟨rfl, h0⟩ | ⟨g, cap, cur, rfl, hb, hg, hnc, hcm, hcs, htk⟩
  · have : xs = [] := List.length_eq_zero_iff.1 (by omega)
    subst this
    exact ⟨none, 0, rfl, Nat.le_refl _, .inl rfl⟩
  · refine ⟨some ⟨g, 0, none⟩, cap, by simp [hl], by simp; omega, ?_⟩
    by_cases hx : xs = []
    · exact .inl (by simp [hx])
    · refine .inr ⟨g, 0, rfl, lt_of_some hg, trivial, ⟨?_, fun h0 => absurd trivial h0⟩, fun j hj => ?_⟩
      · simp only [World.frozen?, hg]
        simp
      · have hjx : j < xs.length := by simpa using hj
        have hjn : j < ns.length := by omega
        obtain ⟨a, b, c, d⟩ := h.rx.2 j hjx hjn
        have hc0 := World.ownsRow.cells h.own (g := g) rfl (j * 4 + 0) (.int .i64 ns[j].k) (by rw [cellsN_at ns j 0 hjn (by omega)]; rfl)
        have hc1 := World.ownsRow.cells h.own (g := g) rfl (j * 4 + 1) (.string ns[j].t) (by rw [cellsN_at ns j 1 hjn (by omega)]; rfl)
        have hc2 := World.ownsRow.cells h.own (g := g) rfl (j * 4 + 2) (.int .i64 ns[j].m) (by rw [cellsN_at ns j 2 hjn (by omega)]; rfl)
        have hc3 := World.ownsRow.cells h.own (g := g) rfl (j * 4 + 3) ns[j].s (by rw [cellsN_at ns j 3 hjn (by omega)]; rfl)
        rw [Addr.add_lit] at hc0 hc1 hc2 hc3
        simp only [List.getElem_map]
        rw [← a, ← b, ← c]
        refine ⟨ns[j].s, ⟨by simpa using hc0, by simpa [Nat.add_assoc] using hc1, by simpa [Nat.add_assoc] using hc2, by simpa [Nat.add_assoc] using hc3⟩, ?_, d.weak (fun _ _ _ => trivial)⟩
        rw [b]
        exact ok_size (hok _ (List.getElem_mem hjx))

end Go.Proofs.YtiacnmcdfpmcfaaGreatDoor

namespace Go.Proofs.YtiacnmcdfpmcfaaGreatDoor
open Go.RowKit


theorem stringish_no {P : Program} {w : World} {b off : Nat} {cs : Array Value} {t : TypeId} {fr : Nat × Nat} (h : w.heap[b]? = some (.cells cs t fr)) (hf : ∀ o, w.frozen? ⟨b, o, none⟩ = false) : (stringish ⟨b, off, none⟩).run P w = .ok false w := by
  have h1 := hf off
  have h2 := hf cs.size
  simp [stringish, h1, World.shape?, h, h2]

theorem sameAddr_x {P : Program} {w : World} {b off b' off' : Nat} {cs cs' : Array Value} {t t' : TypeId} {fr fr' : Nat × Nat} (h : w.heap[b]? = some (.cells cs t fr)) (h' : w.heap[b']? = some (.cells cs' t' fr')) (hf : ∀ o, w.frozen? ⟨b, o, none⟩ = false) (hf' : ∀ o, w.frozen? ⟨b', o, none⟩ = false) :
    ∃ q, (sameAddr ⟨b, off, none⟩ ⟨b', off', none⟩).run P w = .ok q w ∧ (q = true ↔ (⟨b, off, none⟩ : Addr) = ⟨b', off', none⟩) := by
  by_cases hbl : b = b'
  · subst hbl
    exact ⟨(⟨b, off, none⟩ : Addr) == ⟨b, off', none⟩, by simp [sameAddr], by simp⟩
  · have hm : (mayBeOne ⟨b, off, none⟩ ⟨b', off', none⟩).run P w = .ok false w := by simp [mayBeOne, stringish_no h hf, stringish_no h' hf']
    exact ⟨false, by simp [sameAddr, hbl, hf off, noView, viewAt, World.shape?, h, h', hm], by simp⟩

/-- A place in a block that bears no mark. -/
def PX (B : Nat) (w : World) (k : Value) : Prop := ∃ b off n cs t fr, k = .agg #[.pointer (some ⟨b, off, none⟩), .int .i64 n] ∧ w.heap[b]? = some (.cells cs t fr) ∧ (∀ o, w.frozen? ⟨b, o, none⟩ = false) ∧ b < B

theorem PX.pk {B : Nat} {w : World} {k : Value} (h : PX B w k) : PK B w k := by
  obtain ⟨b, off, n, cs, t, fr, rfl, h1, h2, h4⟩ := h
  exact ⟨b, off, n, cs, t, fr, rfl, h1, h2 off, h4⟩

theorem PX.keep {B : Nat} {w w' : World} {k : Value} (h : PX B w k) (hw : ∀ (b : Nat) (cs : Array Value) (t : TypeId) (fr : Nat × Nat), b < B → w.heap[b]? = some (Obj.cells cs t fr) → w'.heap[b]? = w.heap[b]?) : PX B w' k := by
  obtain ⟨b, off, n, cs, t, fr, rfl, h1, h2, h4⟩ := h
  have h3 := hw b cs t fr h4 h1
  exact ⟨b, off, n, cs, t, fr, rfl, h3.trans h1, fun o => by rw [World.frozen?_of_block (w := w) (a := ⟨b, o, none⟩) h3]; exact h2 o, h4⟩

theorem PX.same {B : Nat} {w : World} {x y : Value} (hx : PX B w x) (hy : PX B w y) : ∃ q, (Op.equal 181 x y).run Tryz.prog w = .ok q w ∧ (q = true ↔ x = y) := by
  obtain ⟨b, off, n, cs, t, fr, rfl, h1, h2, _⟩ := hx
  obtain ⟨b', off', n', cs', t', fr', rfl, h1', h2', _⟩ := hy
  obtain ⟨q, h, hq⟩ := sameAddr_x (P := Tryz.prog) (off := off) (off' := off') h1 h1' h2 h2'
  refine ⟨_, eq_place 9998 _ _ n n' w _ q h, ?_⟩
  rw [Bool.and_eq_true, hq]
  simp

theorem asking_x {B : Nat} {k : Value} : ∀ (es : List MapEntry) (i : Nat) (w : World), PX B w k → (∀ e ∈ es, PX B w e.key) → ∃ o, (Instr.findAsking 181 k es i).run Tryz.prog w = .ok o w ∧ ((o = none ∧ ∀ e ∈ es, e.key ≠ k) ∨ ∃ j e, o = some (j, e.val) ∧ e ∈ es ∧ e.key = k) := by
  intro es
  induction es with
  | nil => intro i w _ _; exact ⟨none, by simp [Instr.findAsking], .inl ⟨rfl, fun e h => by cases h⟩⟩
  | cons e es ih =>
    intro i w hk hes
    obtain ⟨q, h, hq⟩ := hk.same (hes e (by simp))
    cases q with
    | true => exact ⟨some (i, e.val), by simp [Instr.findAsking, h], .inr ⟨i, e, rfl, by simp, (hq.1 rfl).symm⟩⟩
    | false =>
      obtain ⟨o, h', hv⟩ := ih (i + 1) w hk (fun x hx => hes x (by simp [hx]))
      refine ⟨o, by simp [Instr.findAsking, h, h'], ?_⟩
      rcases hv with ⟨rfl, hv⟩ | ⟨j, e', rfl, hm, he⟩
      · refine .inl ⟨rfl, fun x hx => ?_⟩
        rcases List.mem_cons.1 hx with rfl | hx
        · intro hxe
          have := hq.2 hxe.symm
          cases this
        · exact hv x hx
      · exact .inr ⟨j, e', rfl, by simp [hm], he⟩

theorem find_x {B : Nat} {k : Value} (es : List MapEntry) (w : World) (hk : PX B w k) (hes : ∀ e ∈ es, PX B w e.key) : ∃ o, (Instr.findKey 181 k es).run Tryz.prog w = .ok o w ∧ ((o = none ∧ ∀ e ∈ es, e.key ≠ k) ∨ ∃ j e, o = some (j, e.val) ∧ e ∈ es ∧ e.key = k) := by
  cases es with
  | nil => exact ⟨none, by simp [Instr.findKey, run_underlying Tryz.underlying181, Instr.findNow], .inl ⟨rfl, fun e h => by cases h⟩⟩
  | cons e es =>
    rw [find_asks hk.pk (hes e (by simp)).pk]
    exact asking_x (e :: es) 0 w hk hes

/-- The map of the places ks at r. -/
def SeenX (B r : Nat) (w : World) (ks : List Value) : Prop := ∃ es clock, w.heap[r]? = some (.map es clock) ∧ es.toList.map (·.key) = ks ∧ ∀ e ∈ es.toList, PX B w e.key ∧ ∃ z, e.val = .int .i64 z

theorem seenx_look {B r : Nat} {w : World} {k : Value} {ks : List Value} (h : SeenX B r w ks) (hk : PX B w k) : ∃ z q, (Instr.lookup 178 (.map (some r)) k true).run Tryz.prog w = .ok (.tuple #[.int .i64 z, .bool q]) w ∧ (q = true ↔ k ∈ ks) := by
  obtain ⟨es, clock, hm, hks, hes⟩ := h
  obtain ⟨o, hf, hv⟩ := find_x es.toList w hk (fun e he => (hes e he).1)
  rcases hv with ⟨rfl, hv⟩ | ⟨j, e, rfl, he, hke⟩
  · refine ⟨0, false, by simp [Instr.lookup, run_underlying Tryz.underlying178, MapKept.run_getObj_map hm, check_place _ hk.pk, hf, Result.andThen], ?_⟩
    rw [← hks]
    simp only [Bool.false_eq_true, List.mem_map, false_iff, not_exists, not_and]
    exact hv
  · obtain ⟨z, hz⟩ := (hes e he).2
    refine ⟨z, true, by simp [Instr.lookup, run_underlying Tryz.underlying178, MapKept.run_getObj_map hm, check_place _ hk.pk, hf, hz, Result.andThen], ?_⟩
    rw [← hks]
    simp only [true_iff, List.mem_map]
    exact ⟨e, he, hke⟩

theorem seenx_set {B r : Nat} {w : World} {k : Value} {ks : List Value} (h : SeenX B r w ks) (hk : PX B w k) (hn : k ∉ ks) (v : Int) : ∃ w', (Instr.mapUpdate 178 (.map (some r)) k (.int .i64 v)).run Tryz.prog w = .ok () w' ∧ SeenX B r w' (ks ++ [k]) ∧ w.grownBy w' (some r) ∧ w'.heap.size = w.heap.size := by
  obtain ⟨es, clock, hm, hks, hes⟩ := h
  obtain ⟨o, hf, hv⟩ := find_x es.toList w hk (fun e he => (hes e he).1)
  have hr : r < w.heap.size := lt_of_some hm
  rcases hv with ⟨rfl, hv⟩ | ⟨j, e, rfl, he, hke⟩
  · refine ⟨{ w with heap := w.heap.setIfInBounds r (.map (es.push { key := k, val := .int .i64 v, born := clock }) (clock + 1)) }, by simp [Instr.mapUpdate, run_underlying Tryz.underlying178, MapKept.run_getObj_map hm, check_place _ hk.pk, hf, MapKept.run_setObj_map _ hm, Result.andThen], ⟨_, _, by simp [hr]; exact ⟨rfl, rfl⟩, by simp [hks], fun e he => ?_⟩, ⟨rfl, rfl, rfl, by simp, fun b hb hne => ?_⟩, by simp⟩
    · have hkeep : ∀ (b : Nat) (cs : Array Value) (t : TypeId) (fr : Nat × Nat), b < B → w.heap[b]? = some (Obj.cells cs t fr) → ({ w with heap := w.heap.setIfInBounds r (.map (es.push { key := k, val := .int .i64 v, born := clock }) (clock + 1)) } : World).heap[b]? = w.heap[b]? := by
        intro b cs t fr _ hb
        have hne : b ≠ r := by
          rintro rfl
          rw [hm] at hb
          cases hb
        simp only [Array.getElem?_setIfInBounds]
        rw [if_neg (fun e => hne e.symm)]
      simp only [Array.toList_push, List.mem_append, List.mem_singleton] at he
      rcases he with he | rfl
      · exact ⟨(hes e he).1.keep hkeep, (hes e he).2⟩
      · exact ⟨hk.keep hkeep, v, rfl⟩
    · simp only [Array.getElem?_setIfInBounds]
      rw [if_neg (fun e => hne (by rw [e]))]
  · exact absurd (by rw [← hks]; exact List.mem_map.2 ⟨e, he, hke⟩) hn

/-- 'v, ok := m[k]' at the operation. -/
theorem placex_look {ops : Array Oper} {rest : List Oper} {o : Oper} {a : Act} {w : World} {Q : Exit → Act → World → Prop} (hg : o.guard = none) (m x : Operand) (hop : o.op = Op.lookup 178 m x true) {B r : Nat} {ks : List Value} (hm : a.eval m = .map (some r)) (h : SeenX B r w ks) {k : Value} (hx : a.eval x = k) (hk : PX B w k)
    (hK : ∀ z q, (q = true ↔ k ∈ ks) → wpList Tryz.prog ops Q rest (a.put o.dst (.tuple #[.int .i64 z, .bool q])) w) : wpList Tryz.prog ops Q (o :: rest) a w := by
  refine wpList_plain hg fun K' hK' => ?_
  obtain ⟨z, q, hr, hq⟩ := seenx_look h hk
  unfold Oper.wp
  simp [execOp, hop, hm, hx, hr, Result.andThen]
  exact hK' _ _ (hK z q hq)

/-- 'm[k] = v' at the operation. -/
theorem placex_set {ops : Array Oper} {rest : List Oper} {o : Oper} {a : Act} {w : World} {Q : Exit → Act → World → Prop} (hg : o.guard = none) (m x v : Operand) (hop : o.op = Op.mapUpdate 178 m x v) {B r : Nat} {ks : List Value} (hm : a.eval m = .map (some r)) (h : SeenX B r w ks) {k : Value} (hx : a.eval x = k) (hk : PX B w k) (hn : k ∉ ks) {n : Int} (hv : a.eval v = .int .i64 n)
    (hK : ∀ w', SeenX B r w' (ks ++ [k]) → w.grownBy w' (some r) → w'.heap.size = w.heap.size → wpList Tryz.prog ops Q rest (a.put o.dst undef) w') : wpList Tryz.prog ops Q (o :: rest) a w := by
  refine wpList_plain hg fun K' hK' => ?_
  obtain ⟨w', hr, h1, h2, h3⟩ := seenx_set h hk hn n
  unfold Oper.wp
  simp [execOp, hop, hm, hx, hv, hr, Result.andThen]
  exact hK' _ _ (hK w' h1 h2 h3)

end Go.Proofs.YtiacnmcdfpmcfaaGreatDoor
