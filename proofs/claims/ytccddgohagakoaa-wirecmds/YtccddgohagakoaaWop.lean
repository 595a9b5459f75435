/-
  From a walk to the row; a command as an argument, opened.
-/
import Derived.Test.YtccddgohagakoaaWrp
import Derived.Test.YtccddgohagakoaaRows
import Derived.ProofKit
import Derived.Lib.SmallJoins
namespace Go.Proofs.Ytccddgohagakoaa
open Go.RowKit
attribute [local go_sem] cell?_more frozen?_more setCell_more size_more tape_more drew_more drewN_more more_drew more_drewN one_out plus_out plus_end lt_one le_p2 le_p3 le_p4 le_p5 le_p6 le_p7 le_p8 le_p9 le_p10 le_p11 le_p12 le_p13 le_p14 le_p15 le_p16 le_p17 le_p18 le_p19 le_p20 le_p21 le_p22 le_p23 le_p24 le_q0 le_q1 lt_q1 le_q2 lt_q2 le_q3 lt_q3 le_q4 lt_q4 le_q5 lt_q5 le_q6 lt_q6 le_q7 lt_q7 le_q8 lt_q8 le_q9 lt_q9 le_q10 lt_q10 le_q11 lt_q11 le_q12 lt_q12 le_q13 lt_q13 le_q14 lt_q14 le_q15 lt_q15 le_q16 lt_q16 le_q17 lt_q17 le_q18 lt_q18 le_q19 lt_q19 le_q20 lt_q20 le_q21 lt_q21 le_q22 lt_q22 le_q23 lt_q23 le_q24 lt_q24

open Go.ChangeShapes Go.WideShapes Go.ChangeAt Go.RowKit Go.Joins Go.ChangeMaps

theorem Try.own : ownKnob Try.prog.godebug = none := by kernel_rfl
theorem Try.laidOut : laidOutB Try.prog = true := by kernel_rfl

theorem trodAll_below {H : Type} {enc : TypeId × Value → H} {P : Program} (hl : laidOutB P = true) {W W' : World} (hb : Below W.heap.size W W') :
    ∀ (ts : List TypeId) (vs : List Value) (ds : List (DataW H)) (ps : List MemPlace), (∀ t ∈ ts, P.readableRec t = true ∧ t < P.types.size) → (∀ x ∈ ps, x.block < W.heap.size) →
      DataW.TrodAll enc P W 0 (fun _ => true) true ts vs ds ps → DataW.TrodAll enc P W' 0 (fun b => decide (b < W.heap.size)) true ts vs ds ps
  | [], [], [], ps, _, _, h => h
  | t :: ts, v :: vs, d :: ds, ps, hr, hlt, h => by
    obtain ⟨p, q, h1, h2, rfl⟩ := h
    have ht := hr t (by simp)
    exact ⟨p, q, Below.trod hl ht.1 ht.2 h1 hb (fun x hx => hlt x (by simp [hx])), trodAll_below hl hb ts vs ds q (fun t ht => hr t (by simp [ht])) (fun x hx => hlt x (by simp [hx])) h2, rfl⟩
  | [], [], _ :: _, _, _, _, h => h.elim
  | [], _ :: _, _, _, _, _, h => h.elim
  | _ :: _, [], _, _, _, _, h => h.elim
  | _ :: _, _ :: _, [], _, _, _, h => h.elim

theorem law_post {H : Type} {enc : TypeId × Value → H} {P : Program} {fn : Func} {s : ChangeSpec} {W W' : World} {args : Array Value} {ds : List (DataW H)} {before : List MemPlace} {tb : TypeId}
    (hl : laidOutB P = true) (hvars : s.vars = []) (hW : DataW.Whole enc P fn.params.toList s.vars false W args.toList ds [] before) (hres : fn.resultTypes = #[tb]) (htb : P.underlying tb = some .bool)
    (hr : ∀ t ∈ fn.params.toList, P.readableRec t = true ∧ t < P.types.size) (hfn : s.fn H (ds ++ []) = { results := [.lit (.bool true)], args := ds }) (hb : Below W.heap.size W W') :
    s.post enc P fn false true false false W args (.bool true) W' := by
  have hW' := hW
  obtain ⟨p, q, hA, hV, rfl, _, _⟩ := hW
  refine ⟨ds, [], _, [], p, [], hW', ?_, ?_, ?_, hb.frame _, fun h => by cases h⟩
  · rw [hfn, hres]
    exact trodAll_mk1 (shut_bool htb true)
  · rw [hfn]
    exact trodAll_below hl hb _ _ _ _ hr (fun x hx => by simpa using hW'.lt x (by simp [hx])) hA
  · rw [hfn, hvars]
    rfl


set_option maxRecDepth 20000 in
/-- A slice of rows of k cells opened, whatever its elements are. -/
theorem open_gen {H : Type} {enc : TypeId × Value → H} {w : World} {α : Type} [Nonempty α] {t e : TypeId} {k : Nat} (ht : Try.prog.underlying t = some (.slice e)) (hk : Try.prog.cellsOf e = k) (hk0 : 0 < k)
    {R : α → List Value → Prop} (hR : ∀ n cs y, DataW.trod enc Try.prog w 0 (fun _ => true) true n e cs = some y → cs.length = k → ∃ a, R a cs)
    {fuel : Nat} {c : Value} {x : DataW H × List MemPlace} (hf : DataW.trod enc Try.prog w 0 (fun _ => true) true fuel t [c] = some x) :
    ∃ (l : List α) (ao : Option Addr) (cap : Nat), c = .slice ao l.length cap ∧ l.length ≤ cap ∧ (l = [] ∨ ∃ b off, ao = some ⟨b, off, none⟩ ∧ b < w.heap.size ∧
      ∀ j (hj : j < l.length), ∃ cs, R l[j] cs ∧ cs.length = k ∧ ∀ q (hq : q < cs.length), w.cell? ⟨b, off + j * k + q, none⟩ = some cs[q]) := by
  rcases Deep.open_slice ht hf with ⟨hcs, hx⟩ | ⟨a, len, cap, m, n, D, Pl, hcs, _, hl, hm, hmm, hx, hcell⟩
  · obtain rfl : c = .slice none 0 0 := by simpa using hcs
    exact ⟨[], none, 0, rfl, Nat.le_refl _, .inl rfl⟩
  · obtain rfl : c = .slice (some a) len cap := by simpa using hcs
    simp only [if_true] at hmm
    subst hmm
    have each : ∀ i, i < len → ∃ (y : α) (cs : List Value), R y cs ∧ cs.length = k ∧ ∀ q (hq : q < cs.length), w.cell? (a.add (i * k + q)) = some cs[q] := by
      intro i hi
      obtain ⟨cs', h1, h2⟩ := hcell i (by omega)
      rw [hk] at h1
      obtain ⟨_, hlen, hc⟩ := World.cells?_some h1
      obtain ⟨y, hy⟩ := hR _ _ _ h2 hlen
      refine ⟨y, cs', hy, hlen, fun q hq => ?_⟩
      have := hc q (by omega)
      rw [Deep.add_add] at this
      rw [this, List.getElem?_eq_getElem hq]
    by_cases hl0 : len = 0
    · subst hl0
      exact ⟨[], some a, _, rfl, Nat.zero_le _, .inl rfl⟩
    obtain ⟨b, off, spot⟩ := a
    have hfirst : ∃ v, w.cell? (({ block := b, off := off, spot := spot } : Addr).add (0 * k + 0)) = some v := by
      obtain ⟨y, cs, hy, hlen, hx⟩ := each 0 (by omega)
      exact ⟨_, hx 0 (by omega)⟩
    have hspot : spot = none := by
      obtain ⟨v, hv⟩ := hfirst
      simpa [Addr.add] using World.cell?_spot hv
    subst hspot
    have hbW : b < w.heap.size := by
      obtain ⟨v, hv⟩ := hfirst
      rw [Addr.add_lit] at hv
      exact block_lt_of_cell hv
    obtain ⟨X, hX⟩ : ∃ X : Nat → α, ∀ i, i < len → ∃ cs : List Value, R (X i) cs ∧ cs.length = k ∧ ∀ q (hq : q < cs.length), w.cell? ((⟨b, off, none⟩ : Addr).add (i * k + q)) = some cs[q] :=
      ⟨fun i => if h : i < len then (each i h).choose else Classical.choice inferInstance, fun i hi => by simp only [hi, dif_pos]; exact (each i hi).choose_spec⟩
    refine ⟨(List.range len).map X, some ⟨b, off, none⟩, m, by simp, by simp; omega, .inr ⟨b, off, rfl, hbW, ?_⟩⟩
    intro i hi
    have hi' : i < len := by simpa using hi
    obtain ⟨cs, h1, h2, h3⟩ := hX i hi'
    refine ⟨cs, by simpa using h1, h2, fun q hq => ?_⟩
    have := h3 q hq
    rw [Addr.add_lit, ← Nat.add_assoc] at this
    exact this



theorem Try.cells3 : Try.prog.cellsOf 3 = 1 := by kernel_rfl
theorem Try.cells9 : Try.prog.cellsOf 9 = 1 := by kernel_rfl
theorem Try.cells22 : Try.prog.cellsOf 22 = 1 := by kernel_rfl
theorem Try.cells24 : Try.prog.cellsOf 24 = 6 := by kernel_rfl

set_option maxRecDepth 20000 in
theorem trod_ints {H : Type} {enc : TypeId × Value → H} {w : World} {fuel : Nat} {c : Value} {x : DataW H × List MemPlace} (hf : DataW.trod enc Try.prog w 0 (fun _ => true) true fuel 22 [c] = some x) : ∃ ns, LstI w c ns := by
  obtain ⟨l, ao, cap, rfl, hle, h⟩ := open_gen (α := Int) (R := fun n cs => cs = [.int .i64 n]) Try.underlying22 Try.cells3 (by omega) (fun n cs y h hl => by
    obtain ⟨m0, e0, _, _⟩ := DataW.trod_int Try.underlying3 h
    exact ⟨m0, e0⟩) hf
  refine ⟨l, ao, cap, by rw [intsV_length], by rw [intsV_length]; exact hle, ?_⟩
  rcases h with rfl | ⟨b, off, rfl, hb, hh⟩
  · exact .inl rfl
  · refine .inr ⟨b, off, rfl, hb, fun j hj => ?_⟩
    rw [intsV_length] at hj
    obtain ⟨cs, rfl, _, hc⟩ := hh j hj
    have := hc 0 (by simp)
    simpa [intsV] using this

set_option maxRecDepth 20000 in
theorem open_cmd {H : Type} {enc : TypeId × Value → H} {w : World} {b0 : Nat} {r : Reach} {v : Value} {d : DataW H} {ps : List MemPlace}
    (hv : Value.okWide Try.prog w r b0 24 v) (h : DataW.Trod enc Try.prog w 0 (fun _ => true) true 24 v d ps) : ∃ (c : Cm) (u : Value), v = c.val u ∧ LstI w u c.ns := by
  obtain ⟨cs, rfl, hsz⟩ := okWide_struct Try.underlying24 hv
  obtain ⟨fuel, hf⟩ := h
  obtain ⟨xs, n, _, _, hl, hlen, hf⟩ := DataW.trod_struct Try.underlying24 hf
  rw [Try.cells24] at hl
  match cs, hl, xs, hlen with
  | ⟨[c0, c1, c2, c3, c4, c5]⟩, _, [y0, y1, y2, y3, y4, y5], _ =>
    have h0 : DataW.trod enc Try.prog w 0 (fun _ => true) true n 3 (([c0, c1, c2, c3, c4, c5].drop 0).take (Try.prog.cellsOf 3)) = some y0 := hf 0 _ rfl
    have h1 : DataW.trod enc Try.prog w 0 (fun _ => true) true n 3 (([c0, c1, c2, c3, c4, c5].drop 1).take (Try.prog.cellsOf 3)) = some y1 := hf 1 _ rfl
    have h2 : DataW.trod enc Try.prog w 0 (fun _ => true) true n 3 (([c0, c1, c2, c3, c4, c5].drop 2).take (Try.prog.cellsOf 3)) = some y2 := hf 2 _ rfl
    have h3 : DataW.trod enc Try.prog w 0 (fun _ => true) true n 3 (([c0, c1, c2, c3, c4, c5].drop 3).take (Try.prog.cellsOf 3)) = some y3 := hf 3 _ rfl
    have h4 : DataW.trod enc Try.prog w 0 (fun _ => true) true n 9 (([c0, c1, c2, c3, c4, c5].drop 4).take (Try.prog.cellsOf 9)) = some y4 := hf 4 _ rfl
    have h5 : DataW.trod enc Try.prog w 0 (fun _ => true) true n 22 (([c0, c1, c2, c3, c4, c5].drop 5).take (Try.prog.cellsOf 22)) = some y5 := hf 5 _ rfl
    simp only [Try.cells3, Try.cells9, Try.cells22, List.drop_zero, List.take_succ_cons, List.take_zero, List.drop_succ_cons] at h0 h1 h2 h3 h4 h5
    obtain ⟨m0, e0, _, _⟩ := DataW.trod_int Try.underlying3 h0
    obtain ⟨m1, e1, _, _⟩ := DataW.trod_int Try.underlying3 h1
    obtain ⟨m2, e2, _, _⟩ := DataW.trod_int Try.underlying3 h2
    obtain ⟨m3, e3, _, _⟩ := DataW.trod_int Try.underlying3 h3
    obtain ⟨s4, e4, _⟩ := DataW.trod_string Try.underlying9 h4
    obtain ⟨ns, hn⟩ := trod_ints h5
    simp at e0 e1 e2 e3 e4
    subst e0 e1 e2 e3 e4
    exact ⟨⟨m0, m1, m2, m3, s4, ns⟩, c5, rfl, hn⟩

end Go.Proofs.Ytccddgohagakoaa
