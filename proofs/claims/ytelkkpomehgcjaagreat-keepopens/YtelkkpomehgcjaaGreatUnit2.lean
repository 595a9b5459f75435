/-
  The reference's function unit by contract.
-/
import Derived.Test.YtelkkpomehgcjaaGreatUnit
import Derived.Test.YtelkkpomehgcjaaGreatGen
namespace Go.Proofs.YtelkkpomehgcjaaGreat
open Go.RowKit Go.Maps
attribute [local go_sem] cell?_more frozen?_more setCell_more size_more tape_more drew_more drewN_more more_drew more_drewN more_more one_out plus_out plus_end lt_one le_p2 le_p3 le_p4 le_p5 le_p6 le_p7 le_p8 le_p9 le_p10 le_p11 le_p12 le_p13 le_p14 le_p15 le_p16 le_p17 le_p18 le_p19 le_p20 le_p21 le_p22 le_p23 le_p24 le_q0 le_q1 lt_q1 le_q2 lt_q2 le_q3 lt_q3 le_q4 lt_q4 le_q5 lt_q5 le_q6 lt_q6 le_q7 lt_q7 le_q8 lt_q8 le_q9 lt_q9 le_q10 lt_q10 le_q11 lt_q11 le_q12 lt_q12 le_q13 lt_q13 le_q14 lt_q14 le_q15 lt_q15 le_q16 lt_q16 le_q17 lt_q17 le_q18 lt_q18 le_q19 lt_q19 le_q20 lt_q20 le_q21 lt_q21 le_q22 lt_q22 le_q23 lt_q23 le_q24 lt_q24

theorem odd62 : Odd 62 := by unfold Odd; decide

/-- The row of files that is made, beside the reel. -/
structure UM (w : World) (R : Rw) (u : Un) (out : Value) (acc : List Fl) (W : World) : Prop where
  row : W.ownsRow w.heap.size 62 2 out acc.length (cellsK acc)
  safe : ∀ q ∈ acc, Safe W R q.2.1 q.2.2
  adds : Adds w W
  box : W.heap[w.heap.size]? = some (.cells #[.int .i64 u.n, .int .u8 (u.c.toNat : Int), .bool u.drop, .bool u.empty] 83 (0, 0))

theorem UM.more {w : World} {R : Rw} {u : Un} {out : Value} {acc : List Fl} {W W' : World} (h : UM w R u out acc W) (ha : Adds W W') : UM w R u out acc W' :=
  ⟨row_adds h.row ha, fun q hq => (h.safe q hq).adds ha, h.adds.trans ha, ha.at h.box⟩

theorem UM.push {w : World} {R : Rw} {u : Un} {out out' : Value} {acc : List Fl} {W w6 : World} (h : UM w R u out acc W) (q : Fl) (hq : Safe W R q.2.1 q.2.2) (ho : w6.ownsRow w.heap.size 62 2 out' (acc ++ [q]).length (cellsK (acc ++ [q]))) (hg : W.grownBy w6 out.ownBlock) : UM w R u out' (acc ++ [q]) w6 := by
  refine ⟨ho, fun x hx => ?_, adds_of_grown h.adds hg (fun i hi => (h.row.lt i hi).1), ?_⟩
  · rcases List.mem_append.1 hx with hx | hx
    · exact (h.safe x hx).grown odd62 h.row hg
    · simp only [List.mem_singleton] at hx
      subst hx
      exact hq.grown odd62 h.row hg
  · refine (hg.block _ (Array.getElem?_eq_some_iff.1 h.box).1 fun e => ?_).trans h.box
    obtain ⟨C, hC⟩ := row_block h.row e.symm
    rw [h.box] at hC
    simp at hC

theorem UM.cells {w : World} {R : Rw} {u : Un} {out : Value} {acc : List Fl} {W : World} (h : UM w R u out acc W) : W.cell? ⟨w.heap.size, 0, none⟩ = some (.int .i64 u.n) ∧ W.cell? ⟨w.heap.size, 1, none⟩ = some (.int .u8 (u.c.toNat : Int)) ∧ W.cell? ⟨w.heap.size, 2, none⟩ = some (.bool u.drop) ∧ W.cell? ⟨w.heap.size, 3, none⟩ = some (.bool u.empty) :=
  ⟨cell_of_row W _ 0 _ _ _ h.box, cell_of_row W _ 1 _ _ _ h.box, cell_of_row W _ 2 _ _ _ h.box, cell_of_row W _ 3 _ _ _ h.box⟩

theorem kf_append (a b : List Fl) : kf (a ++ b) = kf a ++ kf b := by simp [kf]
theorem kf_drop {l : List Fl} {j : Nat} (h : j < l.length) : kf (l.drop j) = (l[j].1, l[j].2.2) :: kf (l.drop (j + 1)) := by
  rw [List.drop_eq_getElem_cons h]
  rfl

/-- What is still to come. -/
def Todo (u : Un) (l acc : List Fl) (j : Nat) (p : Bool) : Prop := kf acc ++ goU u (kf (l.drop j)) p = goU u (kf l) u.drop

theorem todo_start (u : Un) (l : List Fl) : Todo u l [] 0 u.drop := by simp [Todo, kf]

theorem todo_new {u : Un} {l acc : List Fl} {j : Nat} (hj : j < l.length) (h : Todo u l acc j false) (hn : u.n < l[j].1) (v : Value) : Todo u l (acc ++ [(u.n, v, u.new.2)] ++ [l[j]]) (j + 1) true := by
  unfold Todo at *
  rw [← h, kf_drop hj]
  have hne : l[j].1 ≠ u.n := by omega
  simp [goU, hn, hne, kf, Un.new]

theorem todo_same {u : Un} {l acc : List Fl} {j : Nat} {p : Bool} (hj : j < l.length) (h : Todo u l acc j p) (hn : l[j].1 ≠ u.n) (hp : p = true ∨ ¬ u.n < l[j].1) : Todo u l (acc ++ [l[j]]) (j + 1) p := by
  unfold Todo at *
  rw [← h, kf_drop hj]
  rcases hp with rfl | hp
  · simp [goU, hn, kf]
  · cases p <;> simp [goU, hn, hp, kf]

theorem todo_drop {u : Un} {l acc : List Fl} {j : Nat} {p : Bool} (hj : j < l.length) (h : Todo u l acc j p) (hn : l[j].1 = u.n) (hd : u.drop = true) : Todo u l acc (j + 1) p := by
  unfold Todo at *
  rw [← h, kf_drop hj]
  have hlt : ¬ u.n < l[j].1 := by omega
  cases p <;> simp [goU, hn, hd]

theorem todo_put {u : Un} {l acc : List Fl} {j : Nat} {p : Bool} (hj : j < l.length) (h : Todo u l acc j p) (hn : l[j].1 = u.n) (hd : u.drop = false) (v : Value) : Todo u l (acc ++ [(l[j].1, v, if u.empty then l[j].2.2 else l[j].2.2 ++ [u.c])]) (j + 1) true := by
  unfold Todo at *
  rw [← h, kf_drop hj]
  cases p <;> simp [goU, hn, hd, kf]

theorem todo_end {u : Un} {l acc : List Fl} {p : Bool} (h : Todo u l acc l.length p) (v : Value) : kf (if p then acc else acc ++ [(u.n, v, u.new.2)]) = unitK (kf l) u := by
  unfold Todo at h
  unfold unitK
  rw [← h]
  cases p <;> simp [goU, kf, Un.new]

theorem safe_row {w w' : World} {R : Rw} {v : Value} {b : List UInt8} (hf : ∀ i, R.foot i → i < w.heap.size) (h : w'.ownsRow w.heap.size 5 1 v b.length (cellsB b)) : Safe w' R v b := by
  obtain ⟨ao, cap, rfl, hc, h⟩ := fr_row h
  refine ⟨ao, cap, rfl, hc, h.imp id ?_⟩
  rintro ⟨b, off, C, rfl, hb, hg, hl⟩
  exact ⟨b, off, C, rfl, hg, fun hx => by have := hf b hx; omega, hl⟩

theorem own5_at {w5 W : World} {g : Nat} (ha : Adds w5 W) (hg : w5.heap.size ≤ g) (hW : W.heap[g]? = some (.cells #[] 5 (0, 0))) : OwnV w5.heap.size 5 (.slice (some ⟨g, 0, none⟩) 0 0) (cellsB []) w5 W :=
  ⟨⟨rfl, .inr ⟨g, 0, #[], rfl, hg, hW, Nat.le_refl _, by decide, rfl, rfl⟩⟩, ha.below, ha.below.size⟩

theorem bytes_step {ops : Array Oper} {o : Oper} {a : Act} {w : World} {K : Act → World → Prop} {Q : Exit → Act → World → Prop} {E : Prop} (hgd : o.guard = none) (s x : Operand) (ho : o.op = .call { callee := .builtin .append, args := #[s, x], argTypes := #[40, 40] })
    {B : Nat} {v : Value} {l : List UInt8} {W0 : World} (h : OwnV B 5 v (cellsB l) W0 w) (hs : a.eval s = v) {x' : Value} {m : List UInt8} (hg : Byt w x' m) (hx : a.eval x = x') (hlen : l.length + m.length ≤ 1000001)
    (hk : ∀ v' w', OwnV B 5 v' (cellsB (l ++ m)) W0 w' → w.grownBy w' v.ownBlock → K (a.put o.dst v') w') : if Region.wanted o (yielded ops a.tmps) = true then Oper.wp Tryz.prog o a w K Q else E := by
  have hw : Region.wanted o (yielded ops a.tmps) = true := by simp [Region.wanted, hgd]
  rw [if_pos hw]
  obtain ⟨i0, hi, hz0, hzs, hzb⟩ := info_parts Tryz.info5
  obtain ⟨v', w', hr, h2, h3, h4⟩ := byte_append w B o.type v l (by rw [← cellsB_length l]; exact h.1) h.2.2 x' m hg (by omega)
  refine Lib.wp_append_run w s x 40 40 ho v x' hs hx v' w' hr (hk v' w' ⟨by rw [cellsB_length]; exact h2, ?_, Nat.le_trans h.2.2 h3.size⟩ h3)
  refine ⟨h3.os.trans h.2.1.os, h3.tape.trans h.2.1.tape, h3.output.trans h.2.1.output, Nat.le_trans h.2.1.size h3.size, fun i hi' => ?_⟩
  refine (h3.block i (Nat.lt_of_lt_of_le hi' h.2.2) fun e => ?_).trans (h.2.1.block i hi')
  have := (h.1.lt i e.symm).1
  omega

theorem byt_at {w : World} {k : Nat} {c : UInt8} (h : w.heap[k]? = some (.cells #[.int .u8 (c.toNat : Int)] 5 (0, 0))) : Byt w (.slice (some ⟨k, 0, none⟩) 1 1) [c] := by
  refine ⟨_, 1, rfl, Nat.le_refl _, .inr ⟨k, 0, rfl, (Array.getElem?_eq_some_iff.1 h).1, fun j hj => ?_⟩⟩
  have e : j = 0 := by simpa [cellsB] using hj
  subst e
  exact cell_of_row w k 0 _ _ _ h

set_option maxRecDepth 20000 in
set_option maxHeartbeats 3000000 in
theorem unit_any (v : Value) (l : List Fl) (u : Un) (R : Rw) (w : World) (h : FilesV w R v l) (hF : ∀ i, R.foot i → i < w.heap.size) (hl : l.length ≤ 2000000) (hb : ∀ p ∈ l, p.2.2.length ≤ 1000000) :
    Calls Tryz.prog 69 #[v, .agg #[.int .i64 u.n, .int .u8 (u.c.toNat : Int), .bool u.drop, .bool u.empty]] w fun e w' => ∃ r l', e = .returned r ∧ FilesV w' R r l' ∧ kf l' = unitK (kf l) u ∧ Adds w w' := by
  have HV : Hid (FilesV w R v l) := h
  have HFt : Hid (∀ i, R.foot i → i < w.heap.size) := hF
  have HB : Hid (∀ p ∈ l, p.2.2.length ≤ 1000000) := hb
  obtain ⟨ao, cap, rfl, hcap, _, _⟩ := h.row
  have hS : Hid (UM w R u (.slice (some ⟨w.heap.size + 1, 0, none⟩) 0 0) [] ((w.alloc (.cells #[.int .i64 u.n, .int .u8 (u.c.toNat : Int), .bool u.drop, .bool u.empty] 83)).alloc (.cells #[] 62))) :=
    ⟨⟨rfl, .inr ⟨w.heap.size + 1, 0, #[], rfl, Nat.le_succ _, blk_new, Nat.le_refl _, by decide, rfl, rfl⟩⟩, by simp, ((Adds.refl _).alloc _).alloc _, ((Adds.refl _).alloc _).at (new_block _ _)⟩
  clear h hF hb
  go_enter Tryz.func69, Tryz.ntmps69
  go_wp2
  go_loopw [5, 6, 7] (fun o p i W => ∃ (j : Nat) (pb : Bool) (acc : List Fl), j ≤ l.length ∧ i = .int .i64 (j : Int) ∧ p = .bool pb ∧ acc.length ≤ 2 * j ∧ UM w R u o acc W ∧ Todo u l acc j pb) (fun _ _ i _ => (l.length - intOf i).toNat)
  case atStart => exact ⟨0, u.drop, [], by omega, rfl, rfl, by simp, hS.out, todo_start u l⟩
  case round => as_aux_lemma =>
    obtain ⟨j, pb, acc, hj, rfl, rfl, hac, hum, htd⟩ := hrel
    have HU : Hid (UM w R u u5 acc wr) := hum
    have HT : Hid (Todo u l acc j pb) := htd
    obtain ⟨q0, q1, q2, q3⟩ := hum.cells
    have hws := (Array.getElem?_eq_some_iff.1 hum.box).1
    clear hum htd hS
    by_cases hlt : j < l.length
    · obtain ⟨b, off, cap', hv, _, hbl, e0, e1, hsf⟩ := FilesV.at (FilesV.adds HV.out (UM.adds HU.out)) hlt
      simp only [Value.slice.injEq, true_and] at hv
      obtain ⟨rfl, x2⟩ := hv
      clear x2
      have hbj := HB.out _ (List.getElem_mem hlt)
      have i1 : (j : Int) < (l.length : Int) := by omega
      have t1 := todo_new (u := u) (acc := acc) hlt
      have t2 := todo_same (u := u) (acc := acc) (p := pb) hlt
      have t3 := todo_drop (u := u) (acc := acc) (p := pb) hlt
      have t4 := todo_put (u := u) (acc := acc) (p := pb) hlt
      have hxl : ∃ N x bs, l[j] = (N, x, bs) := ⟨_, _, _, rfl⟩
      obtain ⟨N, x, bs, hlj⟩ := hxl
      simp only [hlj] at e0 e1 hsf hbj t1 t2 t3 t4
      obtain ⟨fo, fc, rfl, hfc, _⟩ := id hsf
      have HSf : Hid (Safe wr R (.slice fo bs.length fc) bs) := hsf
      have T1 : Hid _ := t1
      have T2 : Hid _ := t2
      have T3 : Hid _ := t3
      have T4 : Hid _ := t4
      clear hlj t1 t2 t3 t4 hsf
      have hB0 : w.heap.size ≤ wr.heap.size := (UM.adds HU.out).below.size
      have HE : Hid (∀ (W5 w6 : World) (o' : Value), Adds wr W5 → w6.ownsRow w.heap.size 62 2 o' (acc ++ [(N, Value.slice fo bs.length fc, bs)]).length (cellsK (acc ++ [(N, Value.slice fo bs.length fc, bs)])) → W5.grownBy w6 u5.ownBlock → UM w R u o' (acc ++ [(N, Value.slice fo bs.length fc, bs)]) w6) := fun W5 w6 o' ha ho hg => (UM.more HU.out ha).push (N, Value.slice fo bs.length fc, bs) (HSf.out.adds ha) ho hg
      have hrow := UM.row HU.out
      by_cases hgt : u.n < N
      · have hne : (N == u.n) = false := by simp; omega
        cases pb
        · have hfr := fun W => fresh_any u W
          have HT2 : Hid (∀ v, Todo u l (acc ++ [(u.n, v, u.new.2)] ++ [(N, Value.slice fo bs.length fc, bs)]) (j + 1) true) := fun v => T1.out HT.out hgt v
          have hol : ∀ i, u5.ownBlock = some i → i < wr.heap.size := fun i hi => (hrow.lt i hi).2
          have HOl : Hid _ := hol
          have HFw : Hid (∀ W, Adds wr W → ∀ i, R.foot i → i < W.heap.size) := fun W hW i hi => Nat.lt_of_lt_of_le (HFt.out i hi) (Nat.le_trans hB0 hW.below.size)
          clear hol
          have i2 : (u.n : Int) < N := hgt
          have HSw : Hid (∀ W w' v b, Adds wr W → w'.ownsRow W.heap.size 5 1 v b.length (cellsB b) → Safe w' R v b) := fun W w' v b hW h => safe_row (HFw.out W hW) h
          have HBoxF : Hid (∀ W4 w5, Adds (wr.alloc (.cells #[.int .i64 N, Value.slice fo bs.length fc] 62)) W4 → W4.grownBy w5 u5.ownBlock → w5.heap[wr.heap.size]? = some (.cells #[.int .i64 N, Value.slice fo bs.length fc] 62 (0, 0))) := fun W4 w5 ha hg => by
            have h1 := ha.at (new_block wr (.cells #[.int .i64 N, Value.slice fo bs.length fc] 62))
            exact (hg.block _ (Array.getElem?_eq_some_iff.1 h1).1 fun e => Nat.lt_irrefl _ (HOl.out _ e.symm)).trans h1
          as_aux_lemma =>
          go_wp2_with (first
            | (go_at_call 89; refine (hfr _).mono ?_; rintro e w4 ⟨v4, rfl, o4, a4⟩; obtain ⟨ao4, l4, c4, rfl⟩ := row_slice o4)
            | (at_builtin; refine file_app rfl (.tmp 31) (.tmp 34) rfl (row_adds hrow ((((Adds.refl wr).alloc _).trans a4).trans (by repeat (first | with_reducible exact Adds.refl _ | with_reducible refine Adds.alloc ?_ _ | with_reducible refine Adds.more ?_ _ _ | with_reducible refine Adds.drew ?_ | with_reducible refine Adds.drewN ?_ _)))) (Nat.le_trans hB0 (Adds.size_le ((((Adds.refl wr).alloc _).trans a4).trans (by repeat (first | with_reducible exact Adds.refl _ | with_reducible refine Adds.alloc ?_ _ | with_reducible refine Adds.more ?_ _ _ | with_reducible refine Adds.drew ?_ | with_reducible refine Adds.drewN ?_ _))))) rfl (u.n, Value.slice ao4 l4 c4, u.new.2) rfl _ _ rfl (by simp) (by simp) (by omega) ?_; intro v5 w5 h5 g5; have HU5 : Hid (UM w R u v5 (acc ++ [(u.n, Value.slice ao4 l4 c4, u.new.2)]) w5) := (UM.more HU.out ((((Adds.refl wr).alloc _).trans a4).trans (by repeat (first | with_reducible exact Adds.refl _ | with_reducible refine Adds.alloc ?_ _ | with_reducible refine Adds.more ?_ _ _ | with_reducible refine Adds.drew ?_ | with_reducible refine Adds.drewN ?_ _)))).push (u.n, Value.slice ao4 l4 c4, u.new.2) (Safe.adds (HSw.out _ w4 _ _ (by repeat (first | with_reducible exact Adds.refl _ | with_reducible refine Adds.alloc ?_ _ | with_reducible refine Adds.more ?_ _ _ | with_reducible refine Adds.drew ?_ | with_reducible refine Adds.drewN ?_ _)) o4) (by repeat (first | with_reducible exact Adds.refl _ | with_reducible refine Adds.alloc ?_ _ | with_reducible refine Adds.more ?_ _ _ | with_reducible refine Adds.drew ?_ | with_reducible refine Adds.drewN ?_ _))) h5 g5; have HSf5 : Hid (Safe w5 R (.slice fo bs.length fc) bs) := Safe.grown (HSf.out.adds ((((Adds.refl wr).alloc _).trans a4).trans (by repeat (first | with_reducible exact Adds.refl _ | with_reducible refine Adds.alloc ?_ _ | with_reducible refine Adds.more ?_ _ _ | with_reducible refine Adds.drew ?_ | with_reducible refine Adds.drewN ?_ _)))) odd62 (row_adds hrow ((((Adds.refl wr).alloc _).trans a4).trans (by repeat (first | with_reducible exact Adds.refl _ | with_reducible refine Adds.alloc ?_ _ | with_reducible refine Adds.more ?_ _ _ | with_reducible refine Adds.drew ?_ | with_reducible refine Adds.drewN ?_ _)))) g5; have hb5 := HBoxF.out _ w5 (a4.trans (by repeat (first | with_reducible exact Adds.refl _ | with_reducible refine Adds.alloc ?_ _ | with_reducible refine Adds.more ?_ _ _ | with_reducible refine Adds.drew ?_ | with_reducible refine Adds.drewN ?_ _))) g5; have y0 : w5.cell? ⟨wr.heap.size, 0, none⟩ = some (.int .i64 N) := cell_of_row w5 _ 0 _ _ _ hb5; have y1 : w5.cell? ⟨wr.heap.size, 1, none⟩ = some (.slice fo bs.length fc) := cell_of_row w5 _ 1 _ _ _ hb5; obtain ⟨r0, r1, r2, r3⟩ := UM.cells HU5.out; clear h5 g5 hb5)
            | (at_builtin; refine file_app rfl (.tmp 55) (.tmp 57) rfl (row_adds (UM.row HU5.out) (by repeat (first | with_reducible exact Adds.refl _ | with_reducible refine Adds.alloc ?_ _ | with_reducible refine Adds.more ?_ _ _ | with_reducible refine Adds.drew ?_ | with_reducible refine Adds.drewN ?_ _))) (Nat.le_trans (UM.adds HU5.out).below.size (Adds.size_le (by repeat (first | with_reducible exact Adds.refl _ | with_reducible refine Adds.alloc ?_ _ | with_reducible refine Adds.more ?_ _ _ | with_reducible refine Adds.drew ?_ | with_reducible refine Adds.drewN ?_ _)))) rfl (N, Value.slice fo bs.length fc, bs) rfl _ _ rfl (by simp) (by simp) (by simp; omega) ?_; intro v6 w6 h6 g6))
          have HU6 : Hid (UM w R u v6 (acc ++ [(u.n, Value.slice ao4 l4 c4, u.new.2)] ++ [(N, Value.slice fo bs.length fc, bs)]) w6) := by
            have hA : Adds w5 (w5.alloc (.cells #[.int .i64 N, Value.slice fo bs.length fc] 62)) := (Adds.refl _).alloc _
            refine (UM.more HU5.out hA).push (N, Value.slice fo bs.length fc, bs) (HSf5.out.adds hA) h6 g6
          clear h6 g6 hrow
          go_roundw
          case rel => exact ⟨j + 1, true, _, by omega, by go_num, rfl, by simp; omega, HU6.out, HT2.out _⟩
          case measure => simp [intOf]; omega
        · as_aux_lemma =>
          have HT2 : Hid (Todo u l (acc ++ [(N, Value.slice fo bs.length fc, bs)]) (j + 1) true) := T2.out HT.out (by omega) (.inl rfl)
          generalize bs.length = L at *
          go_wp2_with (at_builtin; refine file_app rfl (.tmp 55) (.tmp 57) rfl (row_adds hrow (by repeat (first | with_reducible exact Adds.refl _ | with_reducible refine Adds.alloc ?_ _ | with_reducible refine Adds.more ?_ _ _ | with_reducible refine Adds.drew ?_ | with_reducible refine Adds.drewN ?_ _))) (Nat.le_trans hB0 (Adds.size_le (by repeat (first | with_reducible exact Adds.refl _ | with_reducible refine Adds.alloc ?_ _ | with_reducible refine Adds.more ?_ _ _ | with_reducible refine Adds.drew ?_ | with_reducible refine Adds.drewN ?_ _)))) rfl (N, Value.slice fo L fc, bs) rfl _ _ rfl (by simp) (by simp) (by omega) ?_; intro v6 w6 h6 g6)
          have HU6 : Hid (UM w R u v6 (acc ++ [(N, Value.slice fo L fc, bs)]) w6) := HE.out _ w6 v6 (by repeat (first | with_reducible exact Adds.refl _ | with_reducible refine Adds.alloc ?_ _ | with_reducible refine Adds.more ?_ _ _ | with_reducible refine Adds.drew ?_ | with_reducible refine Adds.drewN ?_ _)) h6 g6
          clear h6 g6 hrow
          go_roundw
          case rel => exact ⟨j + 1, true, _, by omega, by go_num, rfl, by simp; omega, HU6.out, HT2.out⟩
          case measure => simp [intOf]; omega
      · have i2 : ¬ (u.n < N) := hgt
        by_cases heq : N = u.n
        · by_cases hd : u.drop = true
          · have HT2 : Hid (Todo u l acc (j + 1) pb) := T3.out HT.out heq hd
            subst heq
            have HU6 : Hid (UM w R u u5 acc (wr.alloc (.cells #[.int .i64 u.n, Value.slice fo bs.length fc] 62))) := UM.more HU.out ((Adds.refl _).alloc _)
            rw [hd] at q2
            clear hd
            generalize bs.length = L at *
            cases pb
            all_goals as_aux_lemma =>
              go_wp2
              go_roundw
              case rel => exact ⟨j + 1, _, acc, by omega, by go_num, rfl, by omega, HU6.out, HT2.out⟩
              case measure => simp [intOf]; omega
          · have hd' : u.drop = false := by simpa using hd
            by_cases he : u.empty = true
            · have HT2 : Hid (Todo u l (acc ++ [(N, Value.slice fo bs.length fc, bs)]) (j + 1) true) := by
                have := T4.out HT.out heq hd' (Value.slice fo bs.length fc)
                rw [he] at this
                exact this
              subst heq
              rw [hd'] at q2
              rw [he] at q3
              clear hd hd' he
              generalize bs.length = L at *
              cases pb
              all_goals as_aux_lemma =>
               go_wp2_with (at_builtin; refine file_app rfl (.tmp 55) (.tmp 57) rfl (row_adds hrow (by repeat (first | with_reducible exact Adds.refl _ | with_reducible refine Adds.alloc ?_ _ | with_reducible refine Adds.more ?_ _ _ | with_reducible refine Adds.drew ?_ | with_reducible refine Adds.drewN ?_ _))) (Nat.le_trans hB0 (Adds.size_le (by repeat (first | with_reducible exact Adds.refl _ | with_reducible refine Adds.alloc ?_ _ | with_reducible refine Adds.more ?_ _ _ | with_reducible refine Adds.drew ?_ | with_reducible refine Adds.drewN ?_ _)))) rfl (u.n, Value.slice fo L fc, bs) rfl _ _ rfl (by simp) (by simp) (by omega) ?_; intro v6 w6 h6 g6)
               have HU6 : Hid (UM w R u v6 (acc ++ [(u.n, Value.slice fo L fc, bs)]) w6) := HE.out _ w6 v6 (by repeat (first | with_reducible exact Adds.refl _ | with_reducible refine Adds.alloc ?_ _ | with_reducible refine Adds.more ?_ _ _ | with_reducible refine Adds.drew ?_ | with_reducible refine Adds.drewN ?_ _)) h6 g6
               clear h6 g6 hrow
               go_roundw
               case rel => exact ⟨j + 1, true, _, by omega, by go_num, rfl, by simp; omega, HU6.out, HT2.out⟩
               case measure => simp [intOf]; omega
            · have he' : u.empty = false := by simpa using he
              have HT2 : Hid (∀ v, Todo u l (acc ++ [(N, v, bs ++ [u.c])]) (j + 1) true) := fun v => by
                have := T4.out HT.out heq hd' v
                rw [he'] at this
                exact this
              subst heq
              rw [hd'] at q2
              rw [he'] at q3
              clear hd hd' he he'
              cases pb
              all_goals as_aux_lemma =>
                go_wp2
                obtain ⟨Wb, hWb⟩ : ∃ Wb, Wb = wr.alloc (.cells #[.int .i64 u.n, Value.slice fo bs.length fc] 62) := ⟨_, rfl⟩
                have HAb : Hid (Adds wr Wb) := by
                  show Adds wr Wb
                  rw [hWb]
                  exact (Adds.refl _).alloc _
                have hbxb : Wb.heap[wr.heap.size]? = some (.cells #[.int .i64 u.n, Value.slice fo bs.length fc] 62 (0, 0)) := by
                  rw [hWb]
                  exact new_block _ _
                have HBb : Hid (Wb.heap[wr.heap.size]? = some (.cells #[.int .i64 u.n, Value.slice fo bs.length fc] 62 (0, 0))) := hbxb
                have hq1 : Wb.cell? ⟨w.heap.size, 1, none⟩ = some (.int .u8 (u.c.toNat : Int)) := (UM.more HU.out HAb.out).cells.2.1
                have hy1 : Wb.cell? ⟨wr.heap.size, 1, none⟩ = some (.slice fo bs.length fc) := cell_of_row Wb _ 1 _ _ _ hbxb
                have hw1 : w.heap.size < Wb.heap.size := Nat.lt_of_lt_of_le hws HAb.out.below.size
                have hw2 : wr.heap.size < Wb.heap.size := (Array.getElem?_eq_some_iff.1 hbxb).1
                have HSb : Hid (Safe Wb R (.slice fo bs.length fc) bs) := HSf.out.adds HAb.out
                have HFb : Hid (∀ i, R.foot i → i < Wb.heap.size) := fun i hi => Nat.lt_of_lt_of_le (HFt.out i hi) (Nat.le_trans hB0 HAb.out.below.size)
                rw [← hWb]
                clear hbxb hWb e0 e1 q0 q1 q2 q3
                go_cut [6] from 46 to 55 (fun _ wc => ∃ xo xn xc, wc.heap[wr.heap.size]? = some (.cells #[.int .i64 u.n, Value.slice xo xn xc] 62 (0, 0)) ∧ Safe wc R (Value.slice xo xn xc) (bs ++ [u.c]) ∧ Adds wr wc)
                case first =>
                  go_region_law (first
                    | (refine bytes_step (v := .slice (some ⟨_, 0, none⟩) 0 0) (l := []) (m := bs) rfl (.tmp 46) (.tmp 48) rfl (by first | exact own5_at (by repeat (first | with_reducible exact Adds.refl _ | with_reducible refine Adds.alloc ?_ _ | with_reducible refine Adds.more ?_ _ _ | with_reducible refine Adds.drew ?_ | with_reducible refine Adds.drewN ?_ _)) (Nat.le_refl _) (new_block _ _) | exact own5_at (by repeat (first | with_reducible exact Adds.refl _ | with_reducible refine Adds.alloc ?_ _ | with_reducible refine Adds.more ?_ _ _ | with_reducible refine Adds.drew ?_ | with_reducible refine Adds.drewN ?_ _)) (Nat.le_refl _) blk_old | exact own5_at (by repeat (first | with_reducible exact Adds.refl _ | with_reducible refine Adds.alloc ?_ _ | with_reducible refine Adds.more ?_ _ _ | with_reducible refine Adds.drew ?_ | with_reducible refine Adds.drewN ?_ _)) (Nat.le_succ _) blk_new) rfl ((HSb.out.adds (by repeat (first | with_reducible exact Adds.refl _ | with_reducible refine Adds.alloc ?_ _ | with_reducible refine Adds.more ?_ _ _ | with_reducible refine Adds.drew ?_ | with_reducible refine Adds.drewN ?_ _))).byt) rfl (by simp; omega) ?_; intro v6 w6 h6 g6; have x6 : w6.cell? ⟨w.heap.size, 1, none⟩ = some (.int .u8 (u.c.toNat : Int)) := (World.cell?_of_block ((OwnV.added h6).below.block _ hw1)).trans hq1; have HQ6 : Hid _ := g6.block; clear g6)
                    | (refine bytes_step (l := [] ++ bs) (m := [u.c]) rfl (.tmp 49) (.tmp 52) rfl (h6.adds (by repeat (first | with_reducible exact Adds.refl _ | with_reducible refine Adds.alloc ?_ _ | with_reducible refine Adds.more ?_ _ _ | with_reducible refine Adds.drew ?_ | with_reducible refine Adds.drewN ?_ _))) rfl (by first | exact byt_at (new_block _ _) | exact byt_at ((HQ6.out _ (by first | (simp; done) | (simp; omega)) (by simp [Value.ownBlock])).trans blk_new) | exact byt_at ((HQ6.out _ (by first | (simp; done) | (simp; omega)) (by simp [Value.ownBlock])).trans blk_old)) rfl (by simp; omega) ?_; intro v7 w7 h7 g7; obtain ⟨ao7, l7, c7, rfl⟩ := row_slice h7.1; have hb7 := (OwnV.added h7).at HBb.out; have y7 : w7.cell? ⟨wr.heap.size, 1, none⟩ = some (.slice fo bs.length fc) := cell_of_row w7 _ 1 _ _ _ hb7; have z7 : w7.frozen? ⟨wr.heap.size, 1, none⟩ = false := frozen_of hb7))
                  all_goals
                    go_wp2
                    go_meet
                    case rel =>
                      have hgs := grown_set w7 wr.heap.size 1 (Value.slice ao7 l7 c7)
                      have hA7 : Adds Wb w7 := OwnV.added h7
                      refine ⟨ao7, l7, c7, ?_, ?_, adds_of_grown (HAb.out.trans hA7) hgs (fun i hi => by cases hi; exact Nat.le_refl _)⟩
                      · rw [heap_setCell_at _ hb7 (by simp)]
                        rfl
                      · have hrw := h7.1
                        rw [cellsB_length, List.nil_append] at hrw
                        refine (safe_row HFb.out hrw).keep fun b C hb hf => ⟨hgs.block b (Array.getElem?_eq_some_iff.1 hb).1 fun e => ?_, hf⟩
                        have e' : b = wr.heap.size := by simpa using e
                        rw [e', hb7] at hb
                        simp at hb
                case rest =>
                  obtain ⟨xo, xn, xc, hbc, hsc, hAc⟩ := hcut
                  have HSc : Hid (Safe wc R (Value.slice xo xn xc) (bs ++ [u.c]) ∧ Adds wr wc) := ⟨hsc, hAc⟩
                  have c0 : wc.cell? ⟨wr.heap.size, 0, none⟩ = some (.int .i64 u.n) := cell_of_row wc _ 0 _ _ _ hbc
                  have c1 : wc.cell? ⟨wr.heap.size, 1, none⟩ = some (.slice xo xn xc) := cell_of_row wc _ 1 _ _ _ hbc
                  clear hq1 hy1 HSb hbc hsc hAc
                  go_wp2_with (at_builtin; refine file_app rfl (.tmp 55) (.tmp 57) rfl (row_adds hrow (HSc.out.2.trans (by repeat (first | with_reducible exact Adds.refl _ | with_reducible refine Adds.alloc ?_ _ | with_reducible refine Adds.more ?_ _ _ | with_reducible refine Adds.drew ?_ | with_reducible refine Adds.drewN ?_ _)))) (Nat.le_trans hB0 (Adds.size_le (HSc.out.2.trans (by repeat (first | with_reducible exact Adds.refl _ | with_reducible refine Adds.alloc ?_ _ | with_reducible refine Adds.more ?_ _ _ | with_reducible refine Adds.drew ?_ | with_reducible refine Adds.drewN ?_ _))))) rfl (u.n, Value.slice xo xn xc, bs ++ [u.c]) rfl _ _ rfl (by simp) (by simp) (by omega) ?_; intro v6 w6 h6 g6)
                  have HU6 : Hid (UM w R u v6 (acc ++ [(u.n, Value.slice xo xn xc, bs ++ [u.c])]) w6) := by
                    have hA : Adds wc (wc.alloc (.cells #[.int .i64 u.n, Value.slice xo xn xc] 62)) := (Adds.refl _).alloc _
                    exact (UM.more HU.out (HSc.out.2.trans hA)).push (u.n, Value.slice xo xn xc, bs ++ [u.c]) (HSc.out.1.adds hA) h6 g6
                  clear h6 g6 hrow
                  go_roundw
                  case rel => exact ⟨j + 1, true, _, by omega, by go_num, rfl, by simp; omega, HU6.out, HT2.out _⟩
                  case measure => simp [intOf]; omega
        · have hne : (N == u.n) = false := by simpa using heq
          have HT2 : Hid (Todo u l (acc ++ [(N, Value.slice fo bs.length fc, bs)]) (j + 1) pb) := T2.out HT.out heq (.inr hgt)
          clear heq
          generalize bs.length = L at *
          cases pb
          all_goals as_aux_lemma =>
            go_wp2_with (at_builtin; refine file_app rfl (.tmp 55) (.tmp 57) rfl (row_adds hrow (by repeat (first | with_reducible exact Adds.refl _ | with_reducible refine Adds.alloc ?_ _ | with_reducible refine Adds.more ?_ _ _ | with_reducible refine Adds.drew ?_ | with_reducible refine Adds.drewN ?_ _))) (Nat.le_trans hB0 (Adds.size_le (by repeat (first | with_reducible exact Adds.refl _ | with_reducible refine Adds.alloc ?_ _ | with_reducible refine Adds.more ?_ _ _ | with_reducible refine Adds.drew ?_ | with_reducible refine Adds.drewN ?_ _)))) rfl (N, Value.slice fo L fc, bs) rfl _ _ rfl (by simp) (by simp) (by omega) ?_; intro v6 w6 h6 g6)
            have HU6 : Hid (UM w R u v6 (acc ++ [(N, Value.slice fo L fc, bs)]) w6) := HE.out _ w6 v6 (by repeat (first | with_reducible exact Adds.refl _ | with_reducible refine Adds.alloc ?_ _ | with_reducible refine Adds.more ?_ _ _ | with_reducible refine Adds.drew ?_ | with_reducible refine Adds.drewN ?_ _)) h6 g6
            clear h6 g6 hrow
            go_roundw
            case rel => exact ⟨j + 1, _, _, by omega, by go_num, rfl, by simp; omega, HU6.out, HT2.out⟩
            case measure => simp [intOf]; omega
    · obtain rfl : j = l.length := by omega
      have hB0 : w.heap.size ≤ wr.heap.size := (UM.adds HU.out).below.size
      have hrow := UM.row HU.out
      have HEnd : Hid (∀ v, kf (if pb then acc else acc ++ [(u.n, v, u.new.2)]) = unitK (kf l) u) := fun v => todo_end HT.out v
      cases pb
      · have hfr := fun W => fresh_any u W
        have HFw : Hid (∀ W, Adds wr W → ∀ i, R.foot i → i < W.heap.size) := fun W hW i hi => Nat.lt_of_lt_of_le (HFt.out i hi) (Nat.le_trans hB0 hW.below.size)
        go_wp2_with (first
          | (go_at_call 89; refine (hfr _).mono ?_; rintro e w4 ⟨v4, rfl, o4, a4⟩; obtain ⟨ao4, l4, c4, rfl⟩ := row_slice o4)
          | (at_builtin; refine file_app rfl (.tmp 61) (.tmp 64) rfl (row_adds hrow (a4.trans (by repeat (first | with_reducible exact Adds.refl _ | with_reducible refine Adds.alloc ?_ _ | with_reducible refine Adds.more ?_ _ _ | with_reducible refine Adds.drew ?_ | with_reducible refine Adds.drewN ?_ _)))) (Nat.le_trans hB0 (Adds.size_le (a4.trans (by repeat (first | with_reducible exact Adds.refl _ | with_reducible refine Adds.alloc ?_ _ | with_reducible refine Adds.more ?_ _ _ | with_reducible refine Adds.drew ?_ | with_reducible refine Adds.drewN ?_ _))))) rfl (u.n, Value.slice ao4 l4 c4, u.new.2) rfl _ _ rfl (by simp) (by simp) (by omega) ?_; intro v5 w5 h5 g5))
        go_ret
        have HU5 : UM w R u v5 (acc ++ [(u.n, Value.slice ao4 l4 c4, u.new.2)]) w5 := (UM.more HU.out (a4.trans (by repeat (first | with_reducible exact Adds.refl _ | with_reducible refine Adds.alloc ?_ _ | with_reducible refine Adds.more ?_ _ _ | with_reducible refine Adds.drew ?_ | with_reducible refine Adds.drewN ?_ _)))).push (u.n, Value.slice ao4 l4 c4, u.new.2) (Safe.adds (safe_row (HFw.out wr (Adds.refl _)) o4) (by repeat (first | with_reducible exact Adds.refl _ | with_reducible refine Adds.alloc ?_ _ | with_reducible refine Adds.more ?_ _ _ | with_reducible refine Adds.drew ?_ | with_reducible refine Adds.drewN ?_ _))) h5 g5
        exact ⟨_, _, rfl, ⟨lie_of_row HU5.row, HU5.safe⟩, HEnd.out _, HU5.adds⟩
      · as_aux_lemma =>
        go_wp2
        go_ret
        exact ⟨_, rfl, acc, ⟨lie_of_row (UM.row HU.out), UM.safe HU.out⟩, HEnd.out (.slice none 0 0), UM.adds HU.out⟩

end Go.Proofs.YtelkkpomehgcjaaGreat
