/-
  A row of cells that is filled one by one, each with its tree.
-/
import Derived.Test.YtccddgohagakoaaLct
import Derived.OwnWalk
import Derived.Deep.MidRow
namespace Go.Proofs.Ytccddgohagakoaa
open Go.RowKit
attribute [local go_sem] cell?_more frozen?_more setCell_more size_more tape_more drew_more drewN_more more_drew more_drewN one_out plus_out plus_end lt_one le_p2 le_p3 le_p4 le_p5 le_p6 le_p7 le_p8 le_p9 le_p10 le_p11 le_p12 le_p13 le_p14 le_p15 le_p16 le_p17 le_p18 le_p19 le_p20 le_p21 le_p22 le_p23 le_p24 le_q0 le_q1 lt_q1 le_q2 lt_q2 le_q3 lt_q3 le_q4 lt_q4 le_q5 lt_q5 le_q6 lt_q6 le_q7 lt_q7 le_q8 lt_q8 le_q9 lt_q9 le_q10 lt_q10 le_q11 lt_q11 le_q12 lt_q12 le_q13 lt_q13 le_q14 lt_q14 le_q15 lt_q15 le_q16 lt_q16 le_q17 lt_q17 le_q18 lt_q18 le_q19 lt_q19 le_q20 lt_q20 le_q21 lt_q21 le_q22 lt_q22 le_q23 lt_q23 le_q24 lt_q24

theorem Oth.set (w : World) (g i : Nat) (v : Value) : Oth g w (w.setCell ⟨g, i, none⟩ v) := by
  refine ⟨by simp, fun k hk => Below.heap_setCell w ⟨g, i, none⟩ v k hk⟩

theorem Oth.trans {g : Nat} {a b c : World} (h : Oth g a b) (k : Oth g b c) : Oth g a c := ⟨k.1.trans h.1, fun j hj => (k.2 j hj).trans (h.2 j hj)⟩

/-- No byte lies in the block. -/
def NoB (W : World) (g : Nat) : Prop := ∀ j x, W.cell? ⟨g, j, none⟩ ≠ some (.int .u8 x)

theorem NoB.set {W : World} {g i : Nat} {v : Value} (h : NoB W g) (hv : ∀ x, v ≠ .int .u8 x) : NoB (W.setCell ⟨g, i, none⟩ v) g := by
  intro j x hj
  by_cases e : j = i
  · subst e
    have hsome : (W.cell? ⟨g, j, none⟩).isSome = true := by
      cases hc : W.cell? ⟨g, j, none⟩ with
      | some z => rfl
      | none =>
        have hn : (W.setCell ⟨g, j, none⟩ v).cell? ⟨g, j, none⟩ = none := by
          simp only [World.cell?, World.setCell, Array.getElem?_modify, if_true] at hc ⊢
          cases hh : W.heap[g]? with
          | none => simp
          | some o => cases o <;> simp_all
        rw [hn] at hj
        cases hj
    have := World.cell?_setCells_in g [v] j W (fun i hi => by
      have : i = 0 := by simp at hi; omega
      subst this
      exact hsome) 0 (by simp)
    have e2 : (W.setCell ⟨g, j, none⟩ v).cell? ⟨g, j, none⟩ = some v := this
    rw [e2] at hj
    exact hv x (Option.some.inj hj)
  · have := World.cell?_setCells_out g [v] i W ⟨g, j, none⟩ (fun _ _ => by simp; omega)
    have e2 : (W.setCell ⟨g, i, none⟩ v).cell? ⟨g, j, none⟩ = W.cell? ⟨g, j, none⟩ := this
    rw [e2] at hj
    exact h j x hj

/-- A cell's four values stored. -/
abbrev put4 (W : World) (g i : Nat) (t : T) (s : Value) : World := (((W.setCell ⟨g, i, none⟩ (.int .i64 t.kind)).setCell ⟨g, i + 1, none⟩ (.int .i64 t.num)).setCell ⟨g, i + 2, none⟩ (.string t.text)).setCell ⟨g, i + 3, none⟩ s

theorem put4_oth (W : World) (g i : Nat) (t : T) (s : Value) : Oth g W (put4 W g i t s) := (((Oth.set _ _ _ _).trans (Oth.set _ _ _ _)).trans (Oth.set _ _ _ _)).trans (Oth.set _ _ _ _)

/-- The block g has n places of four cells that may be written; the first of them are the cells ts. -/
def Rowg (ok : Nat → Prop) (d g n : Nat) (ts : List T) (W : World) : Prop :=
  g < W.heap.size ∧ (∀ j, j < n * 4 → ∃ z, W.cell? ⟨g, j, none⟩ = some z ∧ W.frozen? ⟨g, j, none⟩ = false) ∧ NoB W g ∧
  ∀ j (h : j < ts.length), ∃ x, (W.cell? ⟨g, j * 4, none⟩ = some (.int .i64 ts[j].kind) ∧ W.cell? ⟨g, j * 4 + 1, none⟩ = some (.int .i64 ts[j].num) ∧ W.cell? ⟨g, j * 4 + 2, none⟩ = some (.string ts[j].text) ∧ W.cell? ⟨g, j * 4 + 3, none⟩ = some x) ∧
    ts[j].text.size ≤ 9223372036854775807 ∧ Tr (fun b => b ≠ g ∧ ok b) d W x ts[j].list

theorem Rowg.frame {ok : Nat → Prop} {d g n : Nat} {ts : List T} {W W' : World} (h : Rowg ok d g n ts W) (hs : W.heap.size ≤ W'.heap.size) (hg : W'.heap[g]? = W.heap[g]?) (hb : ∀ b, ok b → b < W.heap.size → W'.heap[b]? = W.heap[b]?) : Rowg ok d g n ts W' := by
  have hk : ∀ i, W'.cell? ⟨g, i, none⟩ = W.cell? ⟨g, i, none⟩ := fun i => World.cell?_of_block (w := W) (a := ⟨g, i, none⟩) hg
  have hf : ∀ i, W'.frozen? ⟨g, i, none⟩ = W.frozen? ⟨g, i, none⟩ := fun i => World.frozen?_of_block (w := W) (a := ⟨g, i, none⟩) hg
  refine ⟨Nat.lt_of_lt_of_le h.1 hs, fun j hj => ?_, fun j x => by rw [hk]; exact h.2.2.1 j x, fun j hj => ?_⟩
  · rw [hk, hf]
    exact h.2.1 j hj
  · obtain ⟨x, ⟨h0, h1, h2, h3⟩, h4, ht⟩ := h.2.2.2 j hj
    exact ⟨x, ⟨by rw [hk]; exact h0, by rw [hk]; exact h1, by rw [hk]; exact h2, by rw [hk]; exact h3⟩, h4, ht.frame hs (fun b hb' hlt => hb b hb'.2 hlt) (fun _ h => h)⟩

theorem Rowg.kept {ok : Nat → Prop} {d g n P : Nat} {ts : List T} {W W' : World} (h : Rowg ok d g n ts W) (hg : W.grownBy W' (some P)) (hP : g ≠ P) (hok : ∀ b, ok b → b ≠ P) : Rowg ok d g n ts W' :=
  h.frame hg.size (hg.block g h.1 (fun e => hP (by simpa using e))) (fun b hb hlt => hg.block b hlt (fun e => hok b hb (by simpa using e)))

/-- One more cell stored. -/
theorem Rowg.next {ok : Nat → Prop} {d g n : Nat} {ts : List T} {W : World} (h : Rowg ok d g n ts W) (hk : ts.length < n) {t : T} {s : Value} (hx : t.text.size ≤ 9223372036854775807) (hs : Tr (fun b => b ≠ g ∧ ok b) d W s t.list) :
    Rowg ok d g n (ts ++ [t]) (put4 W g (ts.length * 4) t s) := by
  have hO := put4_oth W g (ts.length * 4) t s
  have hT : ∀ {x l}, Tr (fun b => b ≠ g ∧ ok b) d W x l → Tr (fun b => b ≠ g ∧ ok b) d (put4 W g (ts.length * 4) t s) x l :=
    fun h => h.frame (by rw [hO.1]; omega) (fun b hb _ => hO.2 b hb.1) (fun _ h => h)
  refine ⟨by rw [hO.1]; exact h.1, fun j hj => ?_, ?_, fun j hj => ?_⟩
  · obtain ⟨z, e, f⟩ := h.2.1 j hj
    have hfr : (put4 W g (ts.length * 4) t s).frozen? ⟨g, j, none⟩ = false := by simp [f]
    rw [hfr]
    have hsome := World.isSome_setCells g [.int .i64 t.kind, .int .i64 t.num, .string t.text, s] (ts.length * 4) W ⟨g, j, none⟩ (by rw [e]; rfl)
    obtain ⟨y, hy⟩ := Option.isSome_iff_exists.1 hsome
    exact ⟨y, hy, rfl⟩
  · obtain ⟨sa, sc, hsl⟩ := hs.shape
    subst hsl
    exact (((h.2.2.1.set (by simp)).set (by simp)).set (by simp)).set (by simp)
  · by_cases e : j = ts.length
    · subst e
      have hin := World.cell?_setCells_in g [.int .i64 t.kind, .int .i64 t.num, .string t.text, s] (ts.length * 4) W (fun i hi => by
        obtain ⟨z, e, _⟩ := h.2.1 (ts.length * 4 + i) (by simp at hi; omega)
        rw [e]; rfl)
      have hget : (ts ++ [t])[ts.length]'hj = t := by simp
      rw [hget]
      exact ⟨s, ⟨hin 0 (by simp), hin 1 (by simp), hin 2 (by simp), hin 3 (by simp)⟩, hx, hT hs⟩
    · have hj' : j < ts.length := by simp at hj; omega
      have hget : (ts ++ [t])[j]'hj = ts[j] := by simp [hj']
      rw [hget]
      obtain ⟨x, ⟨h0, h1, h2, h3⟩, h4, ht⟩ := h.2.2.2 j hj'
      have hout := fun i (hi : i < ts.length * 4 ∨ ts.length * 4 + 4 ≤ i) => World.cell?_setCells_out g [.int .i64 t.kind, .int .i64 t.num, .string t.text, s] (ts.length * 4) W ⟨g, i, none⟩ (fun _ _ => hi)
      exact ⟨x, ⟨(hout _ (by omega)).trans h0, (hout _ (by omega)).trans h1, (hout _ (by omega)).trans h2, (hout _ (by omega)).trans h3⟩, h4, hT ht⟩

theorem Try.info43 : (Try.prog.info? 43).map (fun i => (i.zero, i.size, i.bytes)) = some (some (.agg #[.int .i64 0, .int .i64 0, .string ⟨#[]⟩, .slice none 0 0]), 4, 56) := by kernel_rfl

theorem rowg_new {ok : Nat → Prop} {w : World} {d B g n : Nat} {xs : List Value} (h : w.ownsRow B 43 4 (.slice (some ⟨g, 0, none⟩) n n) n xs) (hx : ∀ u ∈ xs, ∀ x, u ≠ .int .u8 x) : Rowg ok d g n [] w := by
  have hlt := h.lt g rfl
  rcases h.2 with ⟨h0, _⟩ | ⟨g', cap, cur, he, hb, hg, hnc, hcm, hcs, htk⟩
  · cases h0
  · simp only [Value.slice.injEq, Option.some.injEq, Addr.mk.injEq] at he
    obtain ⟨⟨rfl, _⟩, _, rfl⟩ := he
    refine ⟨hlt.2, fun j hj => ?_, fun j x hj => ?_, fun j hj => by simp at hj⟩
    rotate_left
    · have hc : cur[j]? = some (.int .u8 x) := by simpa [World.cell?, hg] using hj
      obtain ⟨hjs, hje⟩ := Array.getElem?_eq_some_iff.1 hc
      refine hx _ ?_ x hje
      rw [← htk]
      refine List.mem_of_getElem? (i := j) ?_
      rw [List.getElem?_take_of_lt (by omega)]
      simp
    have hj' : j < cur.size := by omega
    exact ⟨cur[j], by simp [World.cell?, hg, hj'], by simp [World.frozen?, hg]⟩

theorem rowg_tr {ok : Nat → Prop} {d g n : Nat} {ts : List T} {W : World} (h : Rowg ok d g n ts W) (hn : n = ts.length) (hP : ok g) : Tr ok (d + 1) W (.slice (some ⟨g, 0, none⟩) n n) ts := by
  subst hn
  refine ⟨_, ts.length, rfl, Nat.le_refl _, .inr ⟨g, 0, rfl, h.1, hP, fun j hj => ?_⟩⟩
  obtain ⟨x, hc, hx, ht⟩ := h.2.2.2 j hj
  refine ⟨x, ?_, hx, ht.frame (Nat.le_refl _) (fun _ _ _ => rfl) (fun _ h => h.2)⟩
  simpa using hc

theorem rowg_zero {ok : Nat → Prop} {g n : Nat} {W : World} (hn : n = 0) : Tr ok 0 W (.slice (some ⟨g, 0, none⟩) n n) [] := by
  subst hn
  exact ⟨rfl, _, 0, rfl⟩

theorem Rowg.adds {ok : Nat → Prop} {d g n : Nat} {ts : List T} {W W' : World} (h : Rowg ok d g n ts W) (hA : Adds W W') : Rowg ok d g n ts W' :=
  h.frame hA.below.size (hA.below.block g h.1) (fun b _ hb => hA.below.block b hb)

/-- Bytes stay where a block has turned that holds none. -/
theorem Byt.stay {w w' : World} {v : Value} {l : List UInt8} {g : Nat} (h : Byt w v l) (ho : Oth g w w') (hno : NoB w g) : Byt w' v l := by
  obtain ⟨ao, cap, rfl, hc, hx⟩ := h.open
  refine byt_make rfl hc ?_
  by_cases hn : l = []
  · exact .inl hn
  rcases hx with hx | ⟨b, off, rfl, hb, hl⟩
  · exact absurd hx hn
  have hbg : b ≠ g := by
    rintro rfl
    exact hno _ _ (hl 0 (List.length_pos_iff.2 hn))
  refine .inr ⟨b, off, rfl, by rw [ho.1]; exact hb, fun j hj => ?_⟩
  rw [World.cell?_of_block (w := w) (a := ⟨b, off + j, none⟩) (ho.2 b hbg)]
  exact hl j hj

theorem Rd.stay {P g c : Nat} {w w' : World} {l : List UInt8} (h : Rd P w l c) (ho : Oth g w w') (hno : NoB w g) (hne : P ≠ g) : Rd P w' l c := by
  obtain ⟨v, h1, h2⟩ := h
  exact ⟨v, (ho.2 P hne).trans h1, h2.stay ho hno⟩

theorem grown_tr {a b c : World} {r : Option Nat} (h : a.grownBy b r) (h' : b.grownBy c r) : a.grownBy c r :=
  ⟨h'.os.trans h.os, h'.tape.trans h.tape, h'.output.trans h.output, Nat.le_trans h.size h'.size, fun k hk hne => (h'.block k (Nat.lt_of_lt_of_le hk h.size) hne).trans (h.block k hk hne)⟩

theorem grown_by {w X : World} (h : Adds w X) (r : Option Nat) : w.grownBy X r :=
  ⟨h.below.os, h.below.tape, h.below.output, h.below.size, fun k hk _ => h.below.block k hk⟩

/-- A block behind those that there were is turned. -/
theorem grown_set {w X : World} {r : Option Nat} {g i : Nat} {x : Value} (h : w.grownBy X r) (hg : w.heap.size ≤ g) : w.grownBy (X.setCell ⟨g, i, none⟩ x) r :=
  ⟨h.os, h.tape, h.output, by simpa using h.size, fun k hk hne => (Below.heap_setCell X ⟨g, i, none⟩ x k (by show k ≠ g; omega)).trans (h.block k hk hne)⟩

abbrev cBox : Obj := .cells #[.int .i64 0, .int .i64 0, .string ⟨#[]⟩, .slice none 0 0] 43 (0, 0)

theorem cbox_no {w : World} {r : Nat} (h : w.heap[r]? = some cBox) : NoB w r := by
  intro j x hj
  simp only [World.cell?, h] at hj
  match j, hj with
  | 0, hj => simp at hj
  | 1, hj => simp at hj
  | 2, hj => simp at hj
  | 3, hj => simp at hj
  | (n + 4), hj => simp at hj

theorem cbox_kept {W w2 : World} {P r : Nat} (h : W.grownBy w2 (some P)) (hr : W.heap[r]? = some cBox) (hne : r ≠ P) : w2.heap[r]? = some cBox ∧ r < w2.heap.size ∧
    (w2.cell? ⟨r, 0, none⟩ = some (.int .i64 0) ∧ w2.cell? ⟨r, 1, none⟩ = some (.int .i64 0) ∧ w2.cell? ⟨r, 2, none⟩ = some (.string ⟨#[]⟩) ∧ w2.cell? ⟨r, 3, none⟩ = some (.slice none 0 0)) ∧
    w2.frozen? ⟨r, 0, none⟩ = false ∧ w2.frozen? ⟨r, 1, none⟩ = false ∧ w2.frozen? ⟨r, 2, none⟩ = false ∧ w2.frozen? ⟨r, 3, none⟩ = false := by
  have hlt := (Array.getElem?_eq_some_iff.1 hr).1
  have hh : w2.heap[r]? = some cBox := (h.block r hlt (fun e => hne (Option.some.inj e))).trans hr
  exact ⟨hh, Nat.lt_of_lt_of_le hlt h.size, by simp [World.cell?, hh], by simp [World.frozen?, hh]⟩

end Go.Proofs.Ytccddgohagakoaa
