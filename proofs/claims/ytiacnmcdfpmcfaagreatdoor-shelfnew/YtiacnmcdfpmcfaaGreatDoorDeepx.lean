/-
  The function below, of trees that are new: no list is passed by.
-/
import Derived.Test.YtiacnmcdfpmcfaaGreatDoorQ29
import Derived.Test.YtiacnmcdfpmcfaaGreatDoorQ20
import Derived.Carry
namespace Go.Proofs.YtiacnmcdfpmcfaaGreatDoor
open Go.RowKit
attribute [local go_sem] cell?_more frozen?_more setCell_more size_more tape_more drew_more drewN_more more_drew more_drewN one_out plus_out plus_end lt_one le_p2 le_p3 le_p4 le_p5 le_p6 le_p7 le_p8 le_p9 le_p10 le_p11 le_p12 le_p13 le_p14 le_p15 le_p16 le_p17 le_p18 le_p19 le_p20 le_p21 le_p22 le_p23 le_p24 le_q0 le_q1 lt_q1 le_q2 lt_q2 le_q3 lt_q3 le_q4 lt_q4 le_q5 lt_q5 le_q6 lt_q6 le_q7 lt_q7 le_q8 lt_q8 le_q9 lt_q9 le_q10 lt_q10 le_q11 lt_q11 le_q12 lt_q12 le_q13 lt_q13 le_q14 lt_q14 le_q15 lt_q15 le_q16 lt_q16 le_q17 lt_q17 le_q18 lt_q18 le_q19 lt_q19 le_q20 lt_q20 le_q21 lt_q21 le_q22 lt_q22 le_q23 lt_q23 le_q24 lt_q24


/-- A block that is not the first one, and below B. -/
def okx (B : Nat) : Nat → Prop := fun b => 0 < b ∧ b < B

/-- The place of a list. -/
def placeV : Value × List N → Value
  | (.slice (some a) _ _, ts) => .agg #[.pointer (some a), .int .i64 ts.length]
  | _ => .int .i64 0

/-- The lists below are among ys. -/
def CovL (ts : List N) (ys : List (Value × List N)) : Prop := ∀ t ∈ ts, t.args ≠ [] → ∃ y ∈ ys, y.2 = t.args
def Cov (xs ys : List (Value × List N)) : Prop := ∀ x ∈ xs, CovL x.2 ys

theorem cov_next {xs ys : List (Value × List N)} {k : Nat} (hk : k < xs.length) (h1 : Cov (xs.take k) ys) (h2 : CovL xs[k].2 ys) : Cov (xs.take (k + 1)) ys := by
  intro x hx
  rw [List.take_succ_eq_append_getElem hk] at hx
  rcases List.mem_append.1 hx with hx | hx
  · exact h1 x hx
  · rw [List.mem_singleton.1 hx]
    exact h2
theorem covl_next {ts : List N} {ys : List (Value × List N)} {k : Nat} (hk : k < ts.length) (h1 : CovL (ts.take k) ys) (h2 : ts[k].args ≠ [] → ∃ y ∈ ys, y.2 = ts[k].args) : CovL (ts.take (k + 1)) ys := by
  intro x hx
  rw [List.take_succ_eq_append_getElem hk] at hx
  rcases List.mem_append.1 hx with hx | hx
  · exact h1 x hx
  · rw [List.mem_singleton.1 hx]
    exact h2
theorem covl_more {ts : List N} {ys zs : List (Value × List N)} (h : CovL ts ys) : CovL ts (ys ++ zs) := fun t ht hne => by
  obtain ⟨y, hy, e⟩ := h t ht hne
  exact ⟨y, List.mem_append_left _ hy, e⟩
theorem cov_more {xs ys zs : List (Value × List N)} (h : Cov xs ys) : Cov xs (ys ++ zs) := fun x hx => covl_more (h x hx)

theorem Tn.inj {ok ok' : Nat → Prop} {w : World} : ∀ (d : Nat) {ao : Option Addr} {n c c' : Nat} {ts ts' : List N}, Tn ok d w (.slice ao n c) ts → Tn ok' d w (.slice ao n c') ts' → ts = ts' := by
  intro d
  induction d with
  | zero => intro ao n c c' ts ts' h h'; rw [h.1, h'.1]
  | succ d ih =>
    intro ao n c c' ts ts' h h'
    obtain ⟨ao1, cap1, e1, _⟩ := id h
    obtain ⟨ao2, cap2, e2, _⟩ := id h'
    simp only [Value.slice.injEq] at e1 e2
    have hl : ts.length = ts'.length := by omega
    refine List.ext_getElem hl (fun j h1 h2 => ?_)
    obtain ⟨d1, b1, o1, x, hd1, ha, hb, ⟨c0, c1, c2, c3⟩, _, hx⟩ := h.elem h1
    obtain ⟨d2, b2, o2, y, hd2, ha', _, ⟨c0', c1', c2', c3'⟩, _, hy⟩ := h'.elem h2
    rw [ha] at ha'
    simp only [Option.some.injEq, Addr.mk.injEq] at ha'
    obtain ⟨rfl, rfl, _⟩ := ha'
    obtain rfl : d1 = d := by omega
    obtain rfl : d2 = d1 := by omega
    rw [c0] at c0'
    rw [c1] at c1'
    rw [c2] at c2'
    rw [c3] at c3'
    simp only [Option.some.injEq, Value.int.injEq, true_and, Value.string.injEq] at c0' c1' c2' c3'
    subst c3'
    obtain ⟨xo, xc, rfl⟩ := hx.shape
    have ha := ih hx hy
    generalize ts[j] = p at *
    generalize ts'[j] = q at *
    obtain ⟨k1, t1, m1, a1⟩ := p
    obtain ⟨k2, t2, m2, a2⟩ := q
    simp only [N.kind, N.text, N.num, N.args] at *
    rw [c0', c1', c2', ha]

theorem Tn.px {B d : Nat} {w : World} {s : Value} {ts : List N} (h : Tn (okx B) d w s ts) (hne : ts ≠ []) : ∃ b off cap, s = .slice (some ⟨b, off, none⟩) ts.length cap ∧ ts.length ≤ cap ∧ PX B w (.agg #[.pointer (some ⟨b, off, none⟩), .int .i64 ts.length]) := by
  cases d with
  | zero => exact absurd h.1 hne
  | succ d =>
    obtain ⟨ao, cap, rfl, hc, h | ⟨b, off, rfl, hlt, hb, hz, hx⟩⟩ := h
    · exact absurd h hne
    · obtain ⟨x, ⟨c0, _⟩, _⟩ := hx 0 (List.length_pos_iff.2 hne)
      have hcell : ∃ cs t fr, w.heap[b]? = some (.cells cs t fr) := by
        simp only [World.cell?] at c0
        split at c0
        · rename_i heq
          exact ⟨_, _, _, heq⟩
        · cases c0
      obtain ⟨cs, t, fr, hh⟩ := hcell
      exact ⟨b, off, cap, rfl, hc, b, off, _, cs, t, fr, rfl, hh, hz.2 (fun h0 => absurd h0.1 (Nat.lt_irrefl 0)), hb.2⟩

theorem found_x {B d : Nat} {w : World} {ys : List (Value × List N)} {b off c : Nat} {ts : List N} (ht : ∀ y ∈ ys, Tn (okx B) d w y.1 y.2 ∧ y.2 ≠ []) (h : Tn (okx B) d w (.slice (some ⟨b, off, none⟩) ts.length c) ts) (hm : (.agg #[.pointer (some ⟨b, off, none⟩), .int .i64 ts.length] : Value) ∈ ys.map placeV) : ∃ y ∈ ys, y.2 = ts := by
  obtain ⟨⟨v, zs⟩, hy, e⟩ := List.mem_map.1 hm
  obtain ⟨hT, hne⟩ := ht _ hy
  simp only at hT hne
  obtain ⟨b1, o1, c1, rfl, _, _⟩ := hT.px hne
  simp only [placeV, Value.agg.injEq] at e
  simp at e
  obtain ⟨⟨rfl, rfl⟩, e3⟩ := e
  refine ⟨_, hy, ?_⟩
  simp only at hT ⊢
  rw [show zs.length = ts.length by omega] at hT
  exact Tn.inj d hT h

/-- What is made of the lists so far: the row of them, in v. -/
structure Outx (B r d : Nat) (w wr : World) (v : Value) (ys : List (Value × List N)) : Prop where
  own : wr.ownsRow (B + 1) 51 1 v ys.length (ys.map Prod.fst)
  seen : SeenX B r wr (ys.map placeV)
  bel : Below B w wr
  trees : ∀ y ∈ ys, Tn (okx B) d w y.1 y.2 ∧ y.2 ≠ []
  size : B < wr.heap.size

theorem Outx.adds {B r d : Nat} {w wr X : World} {v : Value} {ys : List (Value × List N)} (h : Outx B r d w wr v ys) (hA : Adds wr X) : Outx B r d w X v ys := by
  have hb := hA.below
  have hg : wr.grownBy X none := ⟨hb.os, hb.tape, hb.output, hb.size, fun k hk _ => hb.block k hk⟩
  refine ⟨h.own.kept hg ?_, ?_, h.bel.trans (hb.mono (Nat.le_of_lt h.size)), h.trees, Nat.lt_of_lt_of_le h.size hb.size⟩
  · cases v.ownBlock with
    | none => exact .inl rfl
    | some k => exact .inr (by simp)
  · obtain ⟨es, clock, hm, hks, hes⟩ := h.seen
    exact ⟨es, clock, by rw [hb.block r (lt_of_some hm)]; exact hm, hks, fun e he => ⟨(hes e he).1.keep (fun b _ _ _ _ hb' => hb.block b (lt_of_some hb')), (hes e he).2⟩⟩

theorem Outx.pk {B r d : Nat} {w wr : World} {v : Value} {ys : List (Value × List N)} (h : Outx B r d w wr v ys) {k : Value} (hk : PX B w k) : PX B wr k :=
  hk.keep (fun b _ _ _ hlt _ => h.bel.block b hlt)

theorem Outx.push {B r d : Nat} {w wr X w1 : World} {v v' : Value} {ys : List (Value × List N)} {y : Value × List N} (h : Outx B r d w wr v ys) (hs : SeenX B r X (ys.map placeV ++ [placeV y])) (hg : wr.grownBy X (some r)) (hsz : X.heap.size = wr.heap.size) (hr : r = B) {o : Obj}
    (ho : w1.ownsRow (B + 1) 51 1 v' (ys ++ [y]).length ((ys ++ [y]).map Prod.fst)) (hg1 : (X.alloc o).grownBy w1 v.ownBlock) (hy : Tn (okx B) d w y.1 y.2 ∧ y.2 ≠ []) : Outx B r d w w1 v' (ys ++ [y]) := by
  have hvB : ∀ k, v.ownBlock = some k → B + 1 ≤ k := by
    intro k hk
    rcases h.own.2 with ⟨rfl, _⟩ | ⟨g, cap, cur, rfl, hb, _⟩
    · cases hk
    · simp only [Value.ownBlock, Option.some.injEq] at hk
      omega
  have hX : Below B w X := by
    refine ⟨hg.os.trans h.bel.os, hg.tape.trans h.bel.tape, hg.output.trans h.bel.output, Nat.le_trans h.bel.size hg.size, fun k hk => ?_⟩
    rw [hg.block k (Nat.lt_trans hk h.size) (by simp; omega)]
    exact h.bel.block k hk
  have h1 : ∀ k, k < X.heap.size → k < B + 1 → w1.heap[k]? = X.heap[k]? := by
    intro k hk hkB
    rw [hg1.block k (by simp; omega) (fun e => by have := hvB k e.symm; omega)]
    exact Below.heap_alloc _ _ _ hk
  have hBX : B < X.heap.size := by rw [hsz]; exact h.size
  refine ⟨ho, ?_, ?_, ?_, ?_⟩
  · obtain ⟨es, clock, hm, hks, hes⟩ := hs
    exact ⟨es, clock, by rw [h1 r (lt_of_some hm) (by omega)]; exact hm, by rw [hks]; simp, fun e he => ⟨(hes e he).1.keep (fun b _ _ _ hlt hb' => h1 b (lt_of_some hb') (by omega)), (hes e he).2⟩⟩
  · refine ⟨hg1.os.trans hX.os, hg1.tape.trans hX.tape, hg1.output.trans hX.output, ?_, fun k hk => ?_⟩
    · have := hg1.size
      simp at this
      have := hX.size
      omega
    · rw [h1 k (by omega) (by omega)]
      exact hX.block k hk
  · intro z hz
    rcases List.mem_append.1 hz with hz | hz
    · exact h.trees z hz
    · simp only [List.mem_singleton] at hz
      rw [hz]
      exact hy
  · have := hg1.size
    simp at this
    omega

theorem Outx.lv {B r d : Nat} {w wr : World} {v : Value} {ys : List (Value × List N)} (h : Outx B r d w wr v ys) (hB : B = w.heap.size) : Lvs (fun b => 0 < b) d wr v ys ∧ Adds w wr := by
  have hA : Adds w wr := Adds.of (by rw [← hB]; exact h.bel)
  have hT : ∀ x ∈ ys, Tn (fun b => 0 < b) d wr x.1 x.2 := fun x hx => ((h.trees x hx).1.adds hA).weak (fun _ h _ => h.1)
  refine ⟨?_, hA⟩
  have hc := fun g => h.own.cells (g := g)
  rcases h.own.2 with ⟨rfl, h0⟩ | ⟨g, cap, cur, rfl, hb, hg, hnc, hcm, hcs, htk⟩
  · have : ys = [] := List.length_eq_zero_iff.1 h0
    subst this
    exact ⟨none, 0, rfl, Nat.le_refl _, hT, .inl rfl⟩
  · refine ⟨_, cap, rfl, hnc, hT, .inr ⟨g, 0, rfl, lt_of_some hg, fun j hj => ?_⟩⟩
    have := hc g rfl j ys[j].1 (by simp [hj])
    rwa [Addr.add_lit] at this

theorem Outx.own5 {B r d : Nat} {w X w5 : World} {v : Value} {ys : List (Value × List N)} (h : Outx B r d w X v ys) (hg : X.grownBy w5 (some r)) (hr : r = B) (o : Obj) : (w5.alloc o).ownsRow (B + 1) 51 1 v (ys.map Prod.fst).length (ys.map Prod.fst) ∧ B + 1 ≤ (w5.alloc o).heap.size := by
  have h1 := h.own.kept hg (by
    cases hv : v.ownBlock with
    | none => exact .inl rfl
    | some k =>
      right
      rcases h.own.2 with ⟨rfl, _⟩ | ⟨g, cap, cur, rfl, hb, _⟩
      · cases hv
      · simp only [Value.ownBlock, Option.some.injEq] at hv
        simp only [ne_eq, Option.some.injEq]
        omega)
  have hb := ((Adds.refl w5).alloc o).below
  have h2 := h1.kept (w' := w5.alloc o) (row := none) ⟨hb.os, hb.tape, hb.output, hb.size, fun k hk _ => hb.block k hk⟩ (by
    cases v.ownBlock with
    | none => exact .inl rfl
    | some k => exact .inr (by simp))
  refine ⟨by rw [List.length_map]; exact h2, ?_⟩
  have := hg.size
  have := h.size
  simp
  omega

set_option maxHeartbeats 8000000 in
set_option maxRecDepth 20000 in
theorem below_x {d : Nat} (v : Value) (xs : List (Value × List N)) (w : World) (h : Lvs (fun b => 0 < b) (d + 1) w v xs) (hw : wt (d + 1) xs ≤ 10000) (hxl : xs.length ≤ 10000) :
    Calls Tryz.prog 123 #[v] w fun e w' => ∃ v' ys, e = .returned v' ∧ Lvs (fun b => 0 < b) d w' v' ys ∧ wt d ys ≤ wt (d + 1) xs ∧ ys.length ≤ wt d ys ∧ Adds w w' ∧ Cov xs ys := by
  obtain ⟨ao, cap, rfl, hcap, hT, ho⟩ := h
  have HT : Hid (∀ x ∈ xs, Tn (okx w.heap.size) (d + 1) w x.1 x.2) := fun x hx => (hT x hx).weak (fun _ h0 h => ⟨h0, h⟩)
  have HWL : Hid (wts d xs ≤ wt (d + 1) xs) := wts_le d xs
  have h0 : Hid (Outx w.heap.size w.heap.size d w (w.alloc (.map #[] 0)) (.slice none 0 0) []) := by
    refine ⟨World.ownsRow_nil _ _ _ _, ⟨#[], 0, new_block _ _, rfl, fun e he => by simp at he⟩, ((Adds.refl w).alloc _).below, fun y hy => by simp at hy, by simp⟩
  clear hT
  have HW : Hid (wt (d + 1) xs ≤ 10000) := hw
  clear hw
  have hmm := @run_makeMap Tryz.prog
  go_enter Tryz.func123, Tryz.ntmps123
  go_wp2
  go_loopw [3, 15] (fun ov iv wr => ∃ (k : Nat) (ys : List (Value × List N)), k ≤ xs.length ∧ iv = .int .i64 k ∧ Hid (Outx w.heap.size w.heap.size d w wr ov ys) ∧ Hid (wt d ys ≤ wts d (xs.take k)) ∧ Hid (Cov (xs.take k) ys)) (fun _ iv _ => xs.length - (intOf iv).toNat)
  case atStart => exact ⟨0, [], Nat.zero_le _, rfl, h0, Nat.le_refl _, fun x hx => by simp at hx⟩
  case round =>
    obtain ⟨k, ys, hk, rfl, hO, hWt, hCv⟩ := hrel
    clear h0
    by_cases hlt : k < xs.length
    · rcases ho with rfl | ⟨b, off, rfl, hb, hcs⟩
      · simp at hlt
      have cx := hcs k hlt
      have cx' : wr.cell? ⟨b, off + k, none⟩ = some xs[k].1 := (hO.out.bel.cell (p := ⟨b, off + k, none⟩) hb).trans cx
      have hTk := HT.out xs[k] (List.getElem_mem hlt)
      have htl : xs[k].2.length ≤ 10000 := by
        have h1 := cntN_len (d + 1) xs[k].2
        have h2 := wt_mem (d := d + 1) (List.getElem_mem hlt)
        have h3 := HW.out
        omega
      have HNX : Hid (wts d (xs.take (k + 1)) = wts d (xs.take k) + sumA d xs[k].2) := wts_take d xs hlt
      have HLE : Hid (wts d (xs.take (k + 1)) ≤ wts d xs) := wts_take_le d xs (k + 1)
      have hbr : b < wr.heap.size := Nat.lt_trans hb hO.out.size
      obtain ⟨ao1, cap1, hs1⟩ := hTk.shape
      have HTK : Hid (Tn (okx w.heap.size) (d + 1) w xs[k].1 xs[k].2) := hTk
      clear hTk cx hcs
      rw [hs1] at cx' HTK
      clear hs1
      have HCX : Hid (∀ zs, Cov (xs.take k) zs → CovL xs[k].2 zs → Cov (xs.take (k + 1)) zs) := fun zs h1 h2 => cov_next hlt h1 h2
      generalize xs[k].2 = ts at *
      go_wp2
      go_loopw [3, 21] (fun ov iv wr => ∃ (i : Nat) (zs : List (Value × List N)), i ≤ ts.length ∧ iv = .int .i64 i ∧ Hid (Outx w.heap.size w.heap.size d w wr ov zs) ∧ Hid (wt d zs ≤ wts d (xs.take k) + sumA d (ts.take i)) ∧ Hid (Cov (xs.take k) zs) ∧ Hid (CovL (ts.take i) zs)) (fun _ iv _ => ts.length - (intOf iv).toNat)
      case atStart => exact ⟨0, ys, Nat.zero_le _, rfl, hO, by simpa [sumA] using hWt, hCv, fun t ht => by simp at ht⟩
      case round =>
        clear hO hWt cx' hCv ys
        obtain ⟨i, zs, hi, rfl, hO, hWt, hCv, hCl⟩ := hrel
        have hlen : zs.length ≤ 100000 := by
          have h1 := wt_len (d := d) (fun y hy => (hO.out.trees y hy).2)
          have h2 := hWt.out
          have h3 := sumA_take_le d ts i
          have h4 := HNX.out
          have h5 := HLE.out
          have h6 := HWL.out
          have h7 := HW.out
          omega
        obtain ⟨vo, vc, hvs⟩ : ∃ vo vc, u3 = .slice vo zs.length vc := by
          rcases hO.out.own.2 with ⟨rfl, h0⟩ | ⟨g, cap, cur, rfl, _⟩
          · exact ⟨none, 0, by rw [h0]⟩
          · exact ⟨_, _, rfl⟩
        subst hvs
        by_cases hlt2 : i < ts.length
        · obtain ⟨b1, o1, c1, x, hsl, hcap1, hb1, ⟨c0, c1', c2, c3⟩, hTx⟩ := HTK.out.args hlt2
          simp only [Value.slice.injEq] at hsl
          obtain ⟨rfl, _, rfl⟩ := hsl
          have hbel := hO.out.bel
          have e0 := (hbel.cell (p := ⟨b1, o1 + i * 4, none⟩) hb1).trans c0
          have e1 := (hbel.cell (p := ⟨b1, o1 + i * 4 + 1, none⟩) hb1).trans c1'
          have e2 := (hbel.cell (p := ⟨b1, o1 + i * 4 + 2, none⟩) hb1).trans c2
          have e3 := (hbel.cell (p := ⟨b1, o1 + i * 4 + 3, none⟩) hb1).trans c3
          have hb1r : b1 < wr.heap.size := Nat.lt_trans hb1 hO.out.size
          have HCI : Hid (∀ zs, CovL (ts.take i) zs → (ts[i].args ≠ [] → ∃ y ∈ zs, y.2 = ts[i].args) → CovL (ts.take (i + 1)) zs) := fun zs h1 h2 => covl_next hlt2 h1 h2
          have HSI : Hid (sumA d (ts.take (i + 1)) = sumA d (ts.take i) + cntN d ts[i].args) := sumA_take d ts hlt2
          obtain ⟨xo, xc, hxs⟩ := hTx.shape
          rw [hxs] at e3 hTx
          have HTX : Hid (Tn (okx w.heap.size) d w (.slice xo ts[i].args.length xc) ts[i].args) := hTx
          clear c0 c1' c2 c3 hxs hbel hTx
          by_cases hz : ts[i].args = []
          · have hz' : ts[i].args.length = 0 := by rw [hz]; rfl
            rw [hz'] at e3
            have HCN : Hid (CovL (ts.take (i + 1)) zs) := HCI.out zs hCl.out (fun h => absurd hz h)
            clear hz
            generalize ts[i].kind = nk at *
            generalize ts[i].text = nt at *
            generalize ts[i].num = nn at *
            have HC0 : Hid (0 ≤ cntN d ts[i].args) := Nat.zero_le _
            go_wp2
            go_roundw
            case rel =>
              exact ⟨i + 1, zs, by omega, by go_num, hO.out.adds (by repeat (first | with_reducible exact Adds.refl _ | with_reducible refine Adds.alloc ?_ _ | with_reducible refine Adds.more ?_ _ _ | with_reducible refine Adds.drew ?_ | with_reducible refine Adds.drewN ?_ _)), by show _ ≤ _; rw [HSI.out]; have := hWt.out; omega, hCv, HCN⟩
            case measure => simp [intOf]; omega
          · obtain ⟨b2, o2, c2, hx2, hc2, hpk⟩ := HTX.out.px hz
            simp only [Value.slice.injEq] at hx2
            obtain ⟨rfl, _, rfl⟩ := hx2
            have hpos : 0 < ts[i].args.length := List.length_pos_iff.2 hz
            have hne0 : (((ts[i].args.length : Nat) : Int) == 0) = false := by simp; omega
            have kP := placeOf_any b2 o2 ts[i].args.length xc hpos
            have HZ : Hid (ts[i].args ≠ []) := hz
            have HPK : Hid (PX w.heap.size w (.agg #[.pointer (some ⟨b2, o2, none⟩), .int .i64 (ts[i].args.length : Int)])) := hpk
            clear hz hpk
            generalize ts[i].kind = nk at *
            generalize ts[i].text = nt at *
            generalize ts[i].num = nn at *
            generalize ts[i].args = ars at *
            have HO : Hid (Outx w.heap.size w.heap.size d w wr (.slice vo zs.length vc) zs) := hO
            have hBr := hO.out.size
            clear hO
            go_wp2_with (first
              | (go_at_call 145; refine (kP _).mono ?_; rintro e w2 ⟨rfl, os2, n2, rfl⟩)
              | (at_lookup; refine placex_look rfl (.tmp 33) (.tmp 34) rfl rfl (Outx.seen (Outx.adds HO.out (by repeat (first | with_reducible exact Adds.refl _ | with_reducible refine Adds.alloc ?_ _ | with_reducible refine Adds.more ?_ _ _ | with_reducible refine Adds.drew ?_ | with_reducible refine Adds.drewN ?_ _)))) rfl (Outx.pk (Outx.adds HO.out (by repeat (first | with_reducible exact Adds.refl _ | with_reducible refine Adds.alloc ?_ _ | with_reducible refine Adds.more ?_ _ _ | with_reducible refine Adds.drew ?_ | with_reducible refine Adds.drewN ?_ _))) HPK.out) ?_; intro z1 q1 hq1; have HQ1 : Hid _ := hq1; clear hq1; cases q1)
              | (at_mapUpdate; refine placex_set rfl (.tmp 40) (.tmp 41) (.tmp 43) rfl rfl (Outx.seen (Outx.adds HO.out (by repeat (first | with_reducible exact Adds.refl _ | with_reducible refine Adds.alloc ?_ _ | with_reducible refine Adds.more ?_ _ _ | with_reducible refine Adds.drew ?_ | with_reducible refine Adds.drewN ?_ _)))) rfl (Outx.pk (Outx.adds HO.out (by repeat (first | with_reducible exact Adds.refl _ | with_reducible refine Adds.alloc ?_ _ | with_reducible refine Adds.more ?_ _ _ | with_reducible refine Adds.drew ?_ | with_reducible refine Adds.drewN ?_ _))) HPK.out) (fun hm => by have := HQ1.out.2 hm; cases this) rfl ?_; intro w5 hs5 hg5 hz5; have hq5 := box3 (k := wr.heap.size) (x := .slice (some ⟨b2, o2, none⟩) ars.length xc) hg5 (by simp [size_more]; omega) (by omega) (by simp [go_sem]); have hz6 : wr.heap.size < w5.heap.size := (by rw [hz5]; simp [size_more]; omega); have HZ5 : Hid _ := hz5; clear hz5)
              | (at_builtin; refine list_app rfl (.tmp 44) (.tmp 47) rfl (xs := zs.map Prod.fst) (Outx.own5 (Outx.adds HO.out (by repeat (first | with_reducible exact Adds.refl _ | with_reducible refine Adds.alloc ?_ _ | with_reducible refine Adds.more ?_ _ _ | with_reducible refine Adds.drew ?_ | with_reducible refine Adds.drewN ?_ _))) hg5 rfl _).1 (Outx.own5 (Outx.adds HO.out (by repeat (first | with_reducible exact Adds.refl _ | with_reducible refine Adds.alloc ?_ _ | with_reducible refine Adds.more ?_ _ _ | with_reducible refine Adds.drew ?_ | with_reducible refine Adds.drewN ?_ _))) hg5 rfl _).2 rfl (u := .slice (some ⟨b2, o2, none⟩) ars.length xc) rfl rfl (by simp) (by simpa using hlen) ?_; intro v6 w6 ho6 hg6))
            · go_roundw
              case rel =>
                refine ⟨i + 1, zs ++ [(.slice (some ⟨b2, o2, none⟩) ars.length xc, ars)], by omega, by go_num, Outx.push (Outx.adds HO.out (by repeat (first | with_reducible exact Adds.refl _ | with_reducible refine Adds.alloc ?_ _ | with_reducible refine Adds.more ?_ _ _ | with_reducible refine Adds.drew ?_ | with_reducible refine Adds.drewN ?_ _))) hs5 hg5 HZ5.out rfl (by simpa using ho6) hg6 ⟨HTX.out, HZ.out⟩, ?_, cov_more hCv.out, HCI.out _ (covl_more hCl.out) (fun _ => ⟨_, List.mem_append_right _ (List.mem_singleton.2 rfl), rfl⟩)⟩
                show _ ≤ _
                rw [wt_append, HSI.out]
                have h1 := hWt.out
                have h2 : wt d [((.slice (some ⟨b2, o2, none⟩) ars.length xc : Value), ars)] = cntN d ars := by simp [wt]
                omega
              case measure => simp [intOf]; omega
            · go_roundw
              case rel =>
                refine ⟨i + 1, zs, by omega, by go_num, Outx.adds HO.out (by repeat (first | with_reducible exact Adds.refl _ | with_reducible refine Adds.alloc ?_ _ | with_reducible refine Adds.more ?_ _ _ | with_reducible refine Adds.drew ?_ | with_reducible refine Adds.drewN ?_ _)), ?_, hCv, HCI.out _ hCl.out (fun _ => found_x HO.out.trees HTX.out (HQ1.out.1 rfl))⟩
                show _ ≤ _
                rw [HSI.out]
                have h1 := hWt.out
                omega
              case measure => simp [intOf]; omega
        · have hi' : i = ts.length := by omega
          subst hi'
          have hfin : Hid (wt d zs ≤ wts d (xs.take (k + 1))) := by
            show _ ≤ _
            rw [HNX.out]
            have := hWt.out
            rw [List.take_length] at this
            exact this
          have hcf : Hid (Cov (xs.take (k + 1)) zs) := HCX.out zs hCv.out (by have := hCl.out; rw [List.take_length] at this; exact this)
          clear hWt hCv hCl
          go_wp2
          go_roundw
          case rel => exact ⟨k + 1, zs, by omega, by go_num, hO, hfin, hcf⟩
          case measure => simp [intOf]; omega
    · have hk' : k = xs.length := by omega
      subst hk'
      obtain ⟨z1, z2⟩ := hO.out.lv rfl
      have z3 : wt d ys ≤ wt (d + 1) xs := by
        have h1 := hWt.out
        have h2 := HWL.out
        rw [List.take_length] at h1
        omega
      have HZ1 : Hid (Lvs (fun b => 0 < b) d wr u3 ys) := z1
      have z4 := wt_len (d := d) (fun y hy => (hO.out.trees y hy).2)
      have HCF : Hid (Cov xs ys) := by
        have := hCv.out
        rw [List.take_length] at this
        exact this
      clear hWt hO z1 hCv
      go_wp2
      go_ret
      exact ⟨u3, ys, rfl, HZ1.out, z3, z4, z2, HCF.out⟩


end Go.Proofs.YtiacnmcdfpmcfaaGreatDoor
