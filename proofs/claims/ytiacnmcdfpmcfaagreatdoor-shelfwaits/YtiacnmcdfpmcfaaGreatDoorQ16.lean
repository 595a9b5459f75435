/-
  Maps keyed by where a list lies: look-ups and stores go through, whatever they find.
  The functions placeOf, below and tooDeep go through, whatever the tree.
-/
import Derived.Test.YtiacnmcdfpmcfaaGreatDoorNode
import Derived.LaidEqlPtr
import Derived.MapKept
import Derived.Maps.OwnOps
import Derived.Test.YtiacnmcdfpmcfaaGreatDoorJump
import Derived.Lib.AppendZerosOnto
namespace Go.Proofs.YtiacnmcdfpmcfaaGreatDoor
open Go.RowKit


theorem drewN_zero (w : World) : w.drewN 0 = w := rfl

theorem stringish_any {P : Program} {w : World} {a : Addr} {ca : Array Value} {ta : TypeId} {fa : Nat × Nat} (ha : w.heap[a.block]? = some (.cells ca ta fa)) : ∃ q, (stringish a).run P w = .ok q w := by
  cases hf : w.frozen? a with
  | true => exact ⟨true, by simp [stringish, hf]⟩
  | false => exact ⟨w.frozen? { block := a.block, off := ca.size }, by simp [stringish, hf, World.shape?, ha]⟩

theorem mayBeOne_any {P : Program} {w : World} {a b : Addr} {ca cb : Array Value} {ta tb : TypeId} {fa fb : Nat × Nat} (ha : w.heap[a.block]? = some (.cells ca ta fa)) (hb : w.heap[b.block]? = some (.cells cb tb fb)) : ∃ q, (mayBeOne a b).run P w = .ok q w := by
  obtain ⟨q1, h1⟩ := stringish_any (P := P) ha
  obtain ⟨q2, h2⟩ := stringish_any (P := P) hb
  cases q1 <;> cases q2 <;> simp [mayBeOne, h1, h2, World.shape?, ha, hb]

theorem sameAddr_any {P : Program} {w : World} {a b : Addr} {ca cb : Array Value} {ta tb : TypeId} {fa fb : Nat × Nat} (ha : w.heap[a.block]? = some (.cells ca ta fa)) (hb : w.heap[b.block]? = some (.cells cb tb fb)) (hf : w.frozen? a = false) :
    ∃ q k, (sameAddr a b).run P w = .ok q (w.drewN k) := by
  by_cases hbl : a.block = b.block
  · exact ⟨a == b, 0, by simp [sameAddr, hbl, drewN_zero]⟩
  · obtain ⟨m, hm⟩ := mayBeOne_any (P := P) ha hb
    cases m with
    | true =>
      have hq : (Question.extern "sameAddr.stringBytes" 2).forced = false := rfl
      exact ⟨(Question.extern "sameAddr.stringBytes" 2).cut (w.tape w.drawn (Question.extern "sameAddr.stringBytes" 2)) == 1, 1, by simp [sameAddr, hbl, hf, noView, viewAt, World.shape?, ha, hb, hm, hq]; rfl⟩
    | false => exact ⟨false, 0, by simp [sameAddr, hbl, hf, noView, viewAt, World.shape?, ha, hb, hm, drewN_zero]⟩

theorem Tryz.info81 : (Tryz.prog.info? 81).map (fun i => i.size) = some 4 := by kernel_rfl

set_option maxRecDepth 20000 in
theorem eq_ptr (d : Nat) (p q : Addr) (w w' : World) (r : Bool) (h : (sameAddr p q).run Tryz.prog w = .ok r w') : (Op.equalIn (d + 1) 179 (.pointer (some p)) (.pointer (some q))).run Tryz.prog w = .ok r w' := by
  have hi := Tryz.info81
  cases hh : Tryz.prog.info? 81 with
  | none => rw [hh] at hi; cases hi
  | some i =>
    rw [hh] at hi
    simp only [Option.map_some, Option.some.injEq] at hi
    simp [Op.equalIn, run_underlying Tryz.underlying179, sizeOf, typeInfo, hh, hi, h]

theorem eq_int (d : Nat) (n m : Int) (w : World) : (Op.equalIn (d + 1) 3 (.int .i64 n) (.int .i64 m)).run Tryz.prog w = .ok (n == m) w := by
  simp [Op.equalIn, run_underlying Tryz.underlying3]

theorem part_ptr (x y : Value) (w : World) : (part 179 #[x, y] 0).run Tryz.prog w = .ok x w := by
  simp [part, isAgg, run_underlying Tryz.underlying179]
theorem part_int (x y : Value) (w : World) : (part 3 #[x, y] 1).run Tryz.prog w = .ok y w := by
  simp [part, isAgg, run_underlying Tryz.underlying3]

set_option maxRecDepth 20000 in
theorem eq_place (d : Nat) (p q : Addr) (n m : Int) (w w' : World) (r : Bool) (h : (sameAddr p q).run Tryz.prog w = .ok r w') : (Op.equalIn (d + 2) 181 (.agg #[.pointer (some p), .int .i64 n]) (.agg #[.pointer (some q), .int .i64 m])).run Tryz.prog w = .ok (r && (n == m)) w' := by
  have h1 := eq_ptr d p q w w' r h
  have h2 := eq_int d n m
  rw [Op.equalIn]
  simp [run_underlying Tryz.underlying181]
  rw [part_ptr]
  simp only [Result.andThen]
  rw [part_ptr]
  simp only
  rw [h1]
  cases r with
  | false => simp
  | true =>
    simp only
    simp only [Bool.true_eq_false, if_false]
    rw [part_int]
    simp only
    rw [part_int]
    simp only
    rw [h2]
    cases hnm : (n == m) <;> simp

/-- A place: where a list lies, and how long it is. -/
def PK (B : Nat) (w : World) (k : Value) : Prop := ∃ b off n cs t fr, k = .agg #[.pointer (some ⟨b, off, none⟩), .int .i64 n] ∧ w.heap[b]? = some (.cells cs t fr) ∧ w.frozen? ⟨b, off, none⟩ = false ∧ b < B

theorem PK.keep {B : Nat} {w w' : World} {k : Value} (h : PK B w k) (hw : ∀ (b : Nat) (cs : Array Value) (t : TypeId) (fr : Nat × Nat), b < B → w.heap[b]? = some (Obj.cells cs t fr) → w'.heap[b]? = w.heap[b]?) : PK B w' k := by
  obtain ⟨b, off, n, cs, t, fr, rfl, h1, h2, h4⟩ := h
  have h3 := hw b cs t fr h4 h1
  exact ⟨b, off, n, cs, t, fr, rfl, h3.trans h1, by rw [World.frozen?_of_block (w := w) (a := ⟨b, off, none⟩) h3]; exact h2, h4⟩

theorem PK.same {B : Nat} {w : World} {x y : Value} (hx : PK B w x) (hy : PK B w y) : ∃ q j, (Op.equal 181 x y).run Tryz.prog w = .ok q (w.drewN j) := by
  obtain ⟨b, off, n, cs, t, fr, rfl, h1, h2, _⟩ := hx
  obtain ⟨b', off', n', cs', t', fr', rfl, h1', _⟩ := hy
  obtain ⟨q, j, h⟩ := sameAddr_any (P := Tryz.prog) (a := ⟨b, off, none⟩) (b := ⟨b', off', none⟩) h1 h1' h2
  exact ⟨_, j, eq_place 9998 _ _ n n' w _ q h⟩

theorem find_asks {B : Nat} {k : Value} {e : MapEntry} {es : List MapEntry} {w : World} (hk : PK B w k) (he : PK B w e.key) : (Instr.findKey 181 k (e :: es)).run Tryz.prog w = (Instr.findAsking 181 k (e :: es)).run Tryz.prog w := by
  obtain ⟨b, off, n, cs, t, fr, rfl, _⟩ := hk
  obtain ⟨b', off', n', cs', t', fr', he, _⟩ := he
  obtain ⟨ek, ev, eb⟩ := e
  simp only at he
  subst he
  simp [Instr.findKey, run_underlying Tryz.underlying181, Instr.findNow, Instr.sameNow]

theorem asking_any {B : Nat} {k : Value} : ∀ (es : List MapEntry) (i : Nat) (w : World), PK B w k → (∀ e ∈ es, PK B w e.key) → ∃ o j, (Instr.findAsking 181 k es i).run Tryz.prog w = .ok o (w.drewN j) ∧ ∀ x, o = some x → ∃ e ∈ es, x.2 = e.val := by
  intro es
  induction es with
  | nil => intro i w _ _; exact ⟨none, 0, by simp [Instr.findAsking, drewN_zero], fun x h => by cases h⟩
  | cons e es ih =>
    intro i w hk hes
    obtain ⟨q, j, h⟩ := hk.same (hes e (by simp))
    cases q with
    | true => exact ⟨some (i, e.val), j, by simp [Instr.findAsking, h], fun x hx => by cases hx; exact ⟨e, by simp, rfl⟩⟩
    | false =>
      obtain ⟨o, j', h', hv⟩ := ih (i + 1) (w.drewN j) (hk.keep (fun _ _ _ _ _ _ => rfl)) (fun x hx => (hes x (by simp [hx])).keep (fun _ _ _ _ _ _ => rfl))
      exact ⟨o, j + j', by simp [Instr.findAsking, h, h'], fun x hx => by obtain ⟨e', he', h⟩ := hv x hx; exact ⟨e', by simp [he'], h⟩⟩

theorem find_any {B : Nat} {k : Value} (es : List MapEntry) (w : World) (hk : PK B w k) (hes : ∀ e ∈ es, PK B w e.key) : ∃ o j, (Instr.findKey 181 k es).run Tryz.prog w = .ok o (w.drewN j) ∧ ∀ x, o = some x → ∃ e ∈ es, x.2 = e.val := by
  cases es with
  | nil => exact ⟨none, 0, by simp [Instr.findKey, run_underlying Tryz.underlying181, Instr.findNow, drewN_zero], fun x h => by cases h⟩
  | cons e es =>
    rw [find_asks hk (hes e (by simp))]
    exact asking_any (e :: es) 0 w hk hes

theorem check_place {B : Nat} (c : Bool) {k : Value} {w : World} (hk : PK B w k) : (Instr.checkKey c 10000 181 k).run Tryz.prog w = .ok () w := by
  obtain ⟨b, off, n, cs, t, fr, rfl, _⟩ := hk
  kernel_rfl

/-- The map of places at r. -/
def SeenM (B r : Nat) (w : World) : Prop := ∃ es clock, w.heap[r]? = some (.map es clock) ∧ ∀ e ∈ es.toList, PK B w e.key ∧ ∃ z, e.val = .int .i64 z

theorem seen_look {B r : Nat} {w : World} {k : Value} (h : SeenM B r w) (hk : PK B w k) : ∃ z q j, (Instr.lookup 178 (.map (some r)) k true).run Tryz.prog w = .ok (.tuple #[.int .i64 z, .bool q]) (w.drewN j) := by
  obtain ⟨es, clock, hm, hes⟩ := h
  obtain ⟨o, j, hf, hv⟩ := find_any es.toList w hk (fun e he => (hes e he).1)
  cases o with
  | none => exact ⟨0, false, j, by simp [Instr.lookup, run_underlying Tryz.underlying178, MapKept.run_getObj_map hm, check_place _ hk, hf, Result.andThen]⟩
  | some x =>
    obtain ⟨e, he, hx⟩ := hv x rfl
    obtain ⟨z, hz⟩ := (hes e he).2
    obtain ⟨i, xv⟩ := x
    simp only at hx
    subst hx
    exact ⟨z, true, j, by simp [Instr.lookup, run_underlying Tryz.underlying178, MapKept.run_getObj_map hm, check_place _ hk, hf, hz, Result.andThen]⟩

theorem keyStays_any (x y : Value) (w : World) : ∃ z j, (Instr.keyThatStays x y).run Tryz.prog w = .ok z (w.drewN j) ∧ (z = x ∨ z = y) := by
  cases hb : Instr.sameBits 10000 x y with
  | true => exact ⟨y, 0, by simp [Instr.keyThatStays, hb, drewN_zero], .inr rfl⟩
  | false =>
    have hq : (Question.extern "map.whichKeyStays" 2).forced = false := rfl
    by_cases h0 : (Question.extern "map.whichKeyStays" 2).cut (w.tape w.drawn (Question.extern "map.whichKeyStays" 2)) = 0
    · exact ⟨y, 1, by simp [Instr.keyThatStays, hb, hq, h0]; rfl, .inr rfl⟩
    · exact ⟨x, 1, by simp [Instr.keyThatStays, hb, hq, h0]; rfl, .inl rfl⟩

theorem seen_set {B r : Nat} {w : World} {k : Value} (h : SeenM B r w) (hk : PK B w k) (v : Int) : ∃ w', (Instr.mapUpdate 178 (.map (some r)) k (.int .i64 v)).run Tryz.prog w = .ok () w' ∧ SeenM B r w' ∧ w.grownBy w' (some r) ∧ w'.heap.size = w.heap.size := by
  obtain ⟨es, clock, hm, hes⟩ := h
  obtain ⟨o, j, hf, hv⟩ := find_any es.toList w hk (fun e he => (hes e he).1)
  have hm' : (w.drewN j).heap[r]? = some (.map es clock) := hm
  have hr : r < w.heap.size := by
    by_cases hlt : r < w.heap.size
    · exact hlt
    · rw [Array.getElem?_eq_none (by omega)] at hm
      cases hm
  have hend : ∀ (X : World) (hX : X.heap = w.heap) (hX' : X.os = w.os ∧ X.tape = w.tape ∧ X.output = w.output) (es' : Array MapEntry) (c' : Nat), (∀ e ∈ es'.toList, PK B w e.key ∧ ∃ z, e.val = .int .i64 z) →
      SeenM B r { X with heap := X.heap.setIfInBounds r (.map es' c') } ∧ w.grownBy { X with heap := X.heap.setIfInBounds r (.map es' c') } (some r) ∧ ({ X with heap := X.heap.setIfInBounds r (.map es' c') } : World).heap.size = w.heap.size := by
    intro X hX hX' es' c' hes'
    refine ⟨⟨es', c', by simp [hX, hr], fun e he => ⟨(hes' e he).1.keep (fun b cs t fr _ hb => ?_), (hes' e he).2⟩⟩, ⟨hX'.1, hX'.2.1, hX'.2.2, by simp [hX], fun b hb hne => ?_⟩, by simp [hX]⟩
    · have hne : b ≠ r := by
        rintro rfl
        rw [hm] at hb
        cases hb
      simp only [hX, Array.getElem?_setIfInBounds]
      rw [if_neg (fun e => hne e.symm)]
    · simp only [hX, Array.getElem?_setIfInBounds]
      rw [if_neg (fun e => hne (by rw [e]))]
  cases o with
  | none =>
    have h1 := hend (w.drewN j) rfl ⟨rfl, rfl, rfl⟩ (es.push { key := k, val := .int .i64 v, born := clock }) (clock + 1) (fun e he => by
      simp only [Array.toList_push, List.mem_append, List.mem_singleton] at he
      rcases he with he | rfl
      · exact hes e he
      · exact ⟨hk, v, rfl⟩)
    exact ⟨_, by simp [Instr.mapUpdate, run_underlying Tryz.underlying178, MapKept.run_getObj_map hm, check_place _ hk, hf, MapKept.run_setObj_map _ hm', Result.andThen], h1⟩
  | some x =>
    obtain ⟨i, xv⟩ := x
    obtain ⟨z, j2, hz, hzz⟩ := keyStays_any (((es[i]?).map (·.key)).getD k) k (w.drewN j)
    have hzk : PK B w z := by
      rcases hzz with rfl | rfl
      · cases hi : es[i]? with
        | none => simp [hk]
        | some e => simp only [Option.map_some, Option.getD_some]; exact (hes e (by rw [Array.getElem?_eq_some_iff] at hi; obtain ⟨h1, h2⟩ := hi; rw [← h2]; simp)).1
      · exact hk
    have hm2 : (w.drewN (j + j2)).heap[r]? = some (.map es clock) := hm
    have h1 := hend (w.drewN (j + j2)) rfl ⟨rfl, rfl, rfl⟩ (es.modify i fun e => { e with key := z, val := .int .i64 v }) clock (fun e he => by
      simp only [Array.toList_modify] at he
      obtain ⟨n, hn, hne⟩ := List.mem_iff_getElem.1 he
      rw [List.getElem_modify] at hne
      split at hne
      · rw [← hne]
        exact ⟨hzk, v, rfl⟩
      · rw [← hne]
        exact hes _ (List.getElem_mem _))
    exact ⟨_, by simp [Instr.mapUpdate, run_underlying Tryz.underlying178, MapKept.run_getObj_map hm, check_place _ hk, hf, hz, MapKept.run_setObj_map _ hm2, Result.andThen], h1⟩

/-- 'v, ok := m[k]' at the operation. -/
theorem place_look {ops : Array Oper} {rest : List Oper} {o : Oper} {a : Act} {w : World} {Q : Exit → Act → World → Prop} (hg : o.guard = none) (m x : Operand) (hop : o.op = Op.lookup 178 m x true) {B r : Nat} (hm : a.eval m = .map (some r)) (h : SeenM B r w) {k : Value} (hx : a.eval x = k) (hk : PK B w k)
    (hK : ∀ z q j, wpList Tryz.prog ops Q rest (a.put o.dst (.tuple #[.int .i64 z, .bool q])) (w.drewN j)) : wpList Tryz.prog ops Q (o :: rest) a w := by
  refine wpList_plain hg fun K' hK' => ?_
  obtain ⟨z, q, j, hr⟩ := seen_look h hk
  unfold Oper.wp
  simp [execOp, hop, hm, hx, hr, Result.andThen]
  exact hK' _ _ (hK z q j)

/-- 'm[k] = v' at the operation. -/
theorem place_set {ops : Array Oper} {rest : List Oper} {o : Oper} {a : Act} {w : World} {Q : Exit → Act → World → Prop} (hg : o.guard = none) (m x v : Operand) (hop : o.op = Op.mapUpdate 178 m x v) {B r : Nat} (hm : a.eval m = .map (some r)) (h : SeenM B r w) {k : Value} (hx : a.eval x = k) (hk : PK B w k) {n : Int} (hv : a.eval v = .int .i64 n)
    (hK : ∀ w', SeenM B r w' → w.grownBy w' (some r) → w'.heap.size = w.heap.size → wpList Tryz.prog ops Q rest (a.put o.dst undef) w') : wpList Tryz.prog ops Q (o :: rest) a w := by
  refine wpList_plain hg fun K' hK' => ?_
  obtain ⟨w', hr, h1, h2, h3⟩ := seen_set h hk n
  unfold Oper.wp
  simp [execOp, hop, hm, hx, hv, hr, Result.andThen]
  exact hK' _ _ (hK w' h1 h2 h3)

end Go.Proofs.YtiacnmcdfpmcfaaGreatDoor

namespace Go.Proofs.YtiacnmcdfpmcfaaGreatDoor
open Go.RowKit
attribute [local go_sem] cell?_more frozen?_more setCell_more size_more tape_more drew_more drewN_more more_drew more_drewN one_out plus_out plus_end lt_one le_p2 le_p3 le_p4 le_p5 le_p6 le_p7 le_p8 le_p9 le_p10 le_p11 le_p12 le_p13 le_p14 le_p15 le_p16 le_p17 le_p18 le_p19 le_p20 le_p21 le_p22 le_p23 le_p24 le_q0 le_q1 lt_q1 le_q2 lt_q2 le_q3 lt_q3 le_q4 lt_q4 le_q5 lt_q5 le_q6 lt_q6 le_q7 lt_q7 le_q8 lt_q8 le_q9 lt_q9 le_q10 lt_q10 le_q11 lt_q11 le_q12 lt_q12 le_q13 lt_q13 le_q14 lt_q14 le_q15 lt_q15 le_q16 lt_q16 le_q17 lt_q17 le_q18 lt_q18 le_q19 lt_q19 le_q20 lt_q20 le_q21 lt_q21 le_q22 lt_q22 le_q23 lt_q23 le_q24 lt_q24


/-- How many nodes there are, so deep. -/
def cntN : Nat → List N → Nat
  | 0, ts => ts.length
  | d + 1, ts => ts.length + (ts.map fun t => cntN d t.args).sum

theorem cntN_len (d : Nat) (ts : List N) : ts.length ≤ cntN d ts := by
  cases d <;> simp [cntN]

/-- The weight of lists. -/
def wt (d : Nat) (xs : List (Value × List N)) : Nat := (xs.map fun x => cntN d x.2).sum

theorem wt_append (d : Nat) (a b : List (Value × List N)) : wt d (a ++ b) = wt d a + wt d b := by simp [wt]

theorem wt_len {d : Nat} {xs : List (Value × List N)} (h : ∀ x ∈ xs, x.2 ≠ []) : xs.length ≤ wt d xs := by
  induction xs with
  | nil => simp [wt]
  | cons x r ih =>
    have h1 := ih (fun y hy => h y (by simp [hy]))
    have h2 := cntN_len d x.2
    have h3 : 0 < x.2.length := List.length_pos_iff.2 (h x (by simp))
    simp only [wt, List.map_cons, List.sum_cons, List.length_cons] at *
    omega

/-- The slice v of slices reads as the lists xs. -/
def Lvs (ok : Nat → Prop) (d : Nat) (w : World) (v : Value) (xs : List (Value × List N)) : Prop :=
  ∃ ao cap, v = .slice ao xs.length cap ∧ xs.length ≤ cap ∧ (∀ x ∈ xs, Tn ok d w x.1 x.2) ∧ (xs = [] ∨ ∃ b off, ao = some ⟨b, off, none⟩ ∧ b < w.heap.size ∧ ∀ j (h : j < xs.length), w.cell? ⟨b, off + j, none⟩ = some xs[j].1)

theorem placeOf_any (b off n c : Nat) (hn : 0 < n) (w : World) :
    Calls Tryz.prog 145 #[.slice (some ⟨b, off, none⟩) n c] w fun e w' => e = .returned (.agg #[.pointer (some ⟨b, off, none⟩), .int .i64 n]) ∧ Adds w w' := by
  have hn' : (0 : Int) < n := by omega
  go_enter Tryz.func145, Tryz.ntmps145
  go_wp2
  exact bodyPost_ret (v := .agg #[.pointer (some ⟨b, off, none⟩), .int .i64 n]) (by simp [results, Tryz.results145, go_sem]) rfl ⟨rfl, by repeat (first | with_reducible exact Adds.refl _ | with_reducible refine Adds.alloc ?_ _ | with_reducible refine Adds.more ?_ _ _ | with_reducible refine Adds.drew ?_ | with_reducible refine Adds.drewN ?_ _)⟩

theorem Tryz.info51 : (Tryz.prog.info? 51).map (fun i => (i.zero, i.size, i.bytes)) = some (some (.slice none 0 0), 1, 24) := by kernel_rfl

/-- append of one list. -/
theorem list_app {ops : Array Oper} {rest : List Oper} {o : Oper} {a : Act} {w : World} {Q : Exit → Act → World → Prop} (hgd : o.guard = none) (s x : Operand) (ho : o.op = .call { callee := .builtin .append, args := #[s, x], argTypes := #[162, 162] })
    {B : Nat} {v : Value} {xs : List Value} (h : w.ownsRow B 51 1 v xs.length xs) (hB : B ≤ w.heap.size) (hs : a.eval s = v) {u : Value} (hu : u.oneCell' = true) {k c : Nat} (hx : a.eval x = .slice (some ⟨k, 0, none⟩) 1 c) (hc : w.cell? ⟨k, 0, none⟩ = some u) (hlen : xs.length ≤ 100000)
    (hk : ∀ v' w', w'.ownsRow B 51 1 v' (xs ++ [u]).length (xs ++ [u]) → w.grownBy w' v.ownBlock → wpList Tryz.prog ops Q rest (a.put o.dst v') w') : wpList Tryz.prog ops Q (o :: rest) a w := by
  obtain ⟨i0, hi, hz0, hz1, hz2⟩ := info_parts Tryz.info51
  have hnews : ∀ j y, [u][j]? = some y → w.cell? ((⟨k, 0, none⟩ : Addr).add j) = some y := by
    intro j y hj
    rw [Addr.add_lit, Nat.zero_add]
    match j, hj with
    | 0, hj => simp at hj; subst hj; exact hc
    | (j + 1), hj => simp at hj
  obtain ⟨v', w', h1, h2, h3, _⟩ := run_append_own (P := Tryz.prog) w B 162 o.type 51 i0 _ 1 24 Tryz.underlying162 hi hz0 hz1 hz2 rfl (by decide) v xs.length xs h ⟨k, 0, none⟩ 1 c [u] rfl hnews (by intro y hy; simp at hy; rw [hy]; exact hu) (by unfold maxLen; omega) (by omega) hB
  exact Lib.wpList_append_run w hgd s x 162 162 ho v _ hs hx v' w' h1 (hk v' w' (by rw [List.length_append]; exact h2) h3)

/-- What is made of the lists so far: the row of them, in v. -/
structure Outs (B r d : Nat) (w wr : World) (v : Value) (ys : List (Value × List N)) : Prop where
  own : wr.ownsRow (B + 1) 51 1 v ys.length (ys.map Prod.fst)
  seen : SeenM B r wr
  bel : Below B w wr
  trees : ∀ y ∈ ys, Tn (fun b => b < B) d w y.1 y.2 ∧ y.2 ≠ []
  size : B < wr.heap.size

theorem Outs.adds {B r d : Nat} {w wr X : World} {v : Value} {ys : List (Value × List N)} (h : Outs B r d w wr v ys) (hA : Adds wr X) : Outs B r d w X v ys := by
  have hb := hA.below
  have hg : wr.grownBy X none := ⟨hb.os, hb.tape, hb.output, hb.size, fun k hk _ => hb.block k hk⟩
  refine ⟨h.own.kept hg ?_, ?_, h.bel.trans (hb.mono (Nat.le_of_lt h.size)), h.trees, Nat.lt_of_lt_of_le h.size hb.size⟩
  · cases v.ownBlock with
    | none => exact .inl rfl
    | some k => exact .inr (by simp)
  · obtain ⟨es, clock, hm, hes⟩ := h.seen
    exact ⟨es, clock, by rw [hb.block r (lt_of_some hm)]; exact hm, fun e he => ⟨(hes e he).1.keep (fun b _ _ _ _ hb' => hb.block b (lt_of_some hb')), (hes e he).2⟩⟩

theorem Outs.pk {B r d : Nat} {w wr : World} {v : Value} {ys : List (Value × List N)} (h : Outs B r d w wr v ys) {k : Value} (hk : PK B w k) : PK B wr k :=
  hk.keep (fun b _ _ _ hlt _ => h.bel.block b hlt)

/-- The place of a list that is not empty. -/
theorem Tn.pk {B d : Nat} {w : World} {s : Value} {ts : List N} (h : Tn (fun b => b < B) d w s ts) (hne : ts ≠ []) : ∃ b off cap, s = .slice (some ⟨b, off, none⟩) ts.length cap ∧ ts.length ≤ cap ∧ PK B w (.agg #[.pointer (some ⟨b, off, none⟩), .int .i64 ts.length]) := by
  cases d with
  | zero => exact absurd h.1 hne
  | succ d =>
    obtain ⟨ao, cap, rfl, hc, h | ⟨b, off, rfl, hlt, hb, hz, hx⟩⟩ := h
    · exact absurd h hne
    · obtain ⟨x, ⟨c0, _⟩, _⟩ := hx 0 (List.length_pos_iff.2 hne)
      have hcell : ∃ cs t fr, w.heap[b]? = some (.cells cs t fr) := by
        simp only [World.cell?] at c0
        split at c0
        · rename_i heq
          exact ⟨_, _, _, heq⟩
        · cases c0
      obtain ⟨cs, t, fr, hh⟩ := hcell
      exact ⟨b, off, cap, rfl, hc, b, off, _, cs, t, fr, rfl, hh, hz.1, hb⟩

theorem Outs.push {B r d : Nat} {w wr X w1 : World} {v v' : Value} {ys : List (Value × List N)} {y : Value × List N} (h : Outs B r d w wr v ys) (hs : SeenM B r X) (hg : wr.grownBy X (some r)) (hsz : X.heap.size = wr.heap.size) (hr : r = B) {o : Obj}
    (ho : w1.ownsRow (B + 1) 51 1 v' (ys ++ [y]).length ((ys ++ [y]).map Prod.fst)) (hg1 : (X.alloc o).grownBy w1 v.ownBlock) (hy : Tn (fun b => b < B) d w y.1 y.2 ∧ y.2 ≠ []) : Outs B r d w w1 v' (ys ++ [y]) := by
  have hvB : ∀ k, v.ownBlock = some k → B + 1 ≤ k := by
    intro k hk
    rcases h.own.2 with ⟨rfl, _⟩ | ⟨g, cap, cur, rfl, hb, _⟩
    · cases hk
    · simp only [Value.ownBlock, Option.some.injEq] at hk
      omega
  have hX : Below B w X := by
    refine ⟨hg.os.trans h.bel.os, hg.tape.trans h.bel.tape, hg.output.trans h.bel.output, Nat.le_trans h.bel.size hg.size, fun k hk => ?_⟩
    rw [hg.block k (Nat.lt_trans hk h.size) (by simp; omega)]
    exact h.bel.block k hk
  have h1 : ∀ k, k < X.heap.size → k < B + 1 → w1.heap[k]? = X.heap[k]? := by
    intro k hk hkB
    rw [hg1.block k (by simp; omega) (fun e => by have := hvB k e.symm; omega)]
    exact Below.heap_alloc _ _ _ hk
  have hBX : B < X.heap.size := by rw [hsz]; exact h.size
  refine ⟨ho, ?_, ?_, ?_, ?_⟩
  · obtain ⟨es, clock, hm, hes⟩ := hs
    exact ⟨es, clock, by rw [h1 r (lt_of_some hm) (by omega)]; exact hm, fun e he => ⟨(hes e he).1.keep (fun b _ _ _ hlt hb' => h1 b (lt_of_some hb') (by omega)), (hes e he).2⟩⟩
  · refine ⟨hg1.os.trans hX.os, hg1.tape.trans hX.tape, hg1.output.trans hX.output, ?_, fun k hk => ?_⟩
    · have := hg1.size
      simp at this
      have := hX.size
      omega
    · rw [h1 k (by omega) (by omega)]
      exact hX.block k hk
  · intro z hz
    rcases List.mem_append.1 hz with hz | hz
    · exact h.trees z hz
    · simp only [List.mem_singleton] at hz
      rw [hz]
      exact hy
  · have := hg1.size
    simp at this
    omega

theorem Outs.lv {B r d : Nat} {w wr : World} {v : Value} {ys : List (Value × List N)} (h : Outs B r d w wr v ys) (hB : B = w.heap.size) : Lvs (fun _ => True) d wr v ys ∧ Adds w wr := by
  have hA : Adds w wr := Adds.of (by rw [← hB]; exact h.bel)
  have hT : ∀ x ∈ ys, Tn (fun _ => True) d wr x.1 x.2 := fun x hx => ((h.trees x hx).1.adds hA).weak (fun _ _ _ => trivial)
  refine ⟨?_, hA⟩
  have hc := fun g => h.own.cells (g := g)
  rcases h.own.2 with ⟨rfl, h0⟩ | ⟨g, cap, cur, rfl, hb, hg, hnc, hcm, hcs, htk⟩
  · have : ys = [] := List.length_eq_zero_iff.1 h0
    subst this
    exact ⟨none, 0, rfl, Nat.le_refl _, hT, .inl rfl⟩
  · refine ⟨_, cap, rfl, hnc, hT, .inr ⟨g, 0, rfl, lt_of_some hg, fun j hj => ?_⟩⟩
    have := hc g rfl j ys[j].1 (by simp [hj])
    rwa [Addr.add_lit] at this

end Go.Proofs.YtiacnmcdfpmcfaaGreatDoor
