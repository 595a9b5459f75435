/-
  The function Cell of package paper, by contracts.
-/
import Derived.Test.YtgnhkpihlghbmaaTree
import Derived.OwnWalk
import Derived.Deep.MidRow
namespace Go.Proofs.Ytgnhkpihlghbmaa
open Go.RowKit
attribute [local go_sem] cell?_more frozen?_more setCell_more size_more tape_more drew_more drewN_more more_drew more_drewN one_out plus_out plus_end lt_one le_p2 le_p3 le_p4 le_p5 le_p6 le_p7 le_p8 le_p9 le_p10 le_p11 le_p12 le_p13 le_p14 le_p15 le_p16 le_p17 le_p18 le_p19 le_p20 le_p21 le_p22 le_p23 le_p24 le_q0 le_q1 lt_q1 le_q2 lt_q2 le_q3 lt_q3 le_q4 lt_q4 le_q5 lt_q5 le_q6 lt_q6 le_q7 lt_q7 le_q8 lt_q8 le_q9 lt_q9 le_q10 lt_q10 le_q11 lt_q11 le_q12 lt_q12 le_q13 lt_q13 le_q14 lt_q14 le_q15 lt_q15 le_q16 lt_q16 le_q17 lt_q17 le_q18 lt_q18 le_q19 lt_q19 le_q20 lt_q20 le_q21 lt_q21 le_q22 lt_q22 le_q23 lt_q23 le_q24 lt_q24

theorem below_setCells {B : Nat} {a w : World} (h : Below B a w) {g : Nat} (hg : B ≤ g) : ∀ (vs : List Value) (o : Nat), Below B a (w.setCells g o vs) := by
  intro vs o
  induction vs generalizing w o with
  | nil => exact h
  | cons v r ih =>
    show Below B a ((w.setCell ⟨g, o, none⟩ v).setCells g (o + 1) r)
    refine ih (w := w.setCell ⟨g, o, none⟩ v) ⟨h.os, h.tape, h.output, ?_, fun k hk => ?_⟩ (o + 1)
    · have := h.size
      simpa using this
    · rw [Below.heap_setCell w ⟨g, o, none⟩ v k (by show k ≠ g; omega)]
      exact h.block k hk


theorem Oth.set (w : World) (g i : Nat) (v : Value) : Oth g w (w.setCell ⟨g, i, none⟩ v) := by
  refine ⟨by simp, fun k hk => Below.heap_setCell w ⟨g, i, none⟩ v k hk⟩

theorem Oth.trans {g : Nat} {a b c : World} (h : Oth g a b) (k : Oth g b c) : Oth g a c := ⟨k.1.trans h.1, fun j hj => (k.2 j hj).trans (h.2 j hj)⟩

/-- The block g has n places of four cells that may be written; the first of them are fields' cells. -/
def Rowt (P : Nat → Prop) (g n k : Nat) (fs : List F) (W : World) : Prop :=
  g < W.heap.size ∧ (∀ j, j < n * 4 → ∃ z, W.cell? ⟨g, j, none⟩ = some z ∧ W.frozen? ⟨g, j, none⟩ = false) ∧
  ∀ j (h : j < fs.length), j < k → ∃ x, (W.cell? ⟨g, j * 4, none⟩ = some (.int .i64 3) ∧ W.cell? ⟨g, j * 4 + 1, none⟩ = some (.int .i64 0) ∧ W.cell? ⟨g, j * 4 + 2, none⟩ = some (.string ⟨#[]⟩) ∧ W.cell? ⟨g, j * 4 + 3, none⟩ = some x) ∧
    Tr (fun b => b ≠ g ∧ P b) 2 W x (fieldT fs[j]).list

theorem Rowt.adds {P : Nat → Prop} {g n k : Nat} {fs : List F} {W W' : World} (h : Rowt P g n k fs W) (hA : Adds W W') : Rowt P g n k fs W' := by
  have hb := hA.below
  have hk : ∀ i, W'.cell? ⟨g, i, none⟩ = W.cell? ⟨g, i, none⟩ := fun i => World.cell?_of_block (w := W) (a := ⟨g, i, none⟩) (hb.block g h.1)
  have hf : ∀ i, W'.frozen? ⟨g, i, none⟩ = W.frozen? ⟨g, i, none⟩ := fun i => World.frozen?_of_block (w := W) (a := ⟨g, i, none⟩) (hb.block g h.1)
  refine ⟨Nat.lt_of_lt_of_le h.1 hb.size, fun j hj => ?_, fun j hj hjk => ?_⟩
  · rw [hk, hf]
    exact h.2.1 j hj
  · obtain ⟨x, ⟨h0, h1, h2, h3⟩, ht⟩ := h.2.2 j hj hjk
    exact ⟨x, ⟨by rw [hk]; exact h0, by rw [hk]; exact h1, by rw [hk]; exact h2, by rw [hk]; exact h3⟩, ht.adds hA⟩

/-- One more field's cell stored. -/
theorem Rowt.next {P : Nat → Prop} {g n k : Nat} {fs : List F} {W : World} (h : Rowt P g n k fs W) (hk : k < n) (hn : n = fs.length) {s : Value} (hs : Tr (fun b => b ≠ g ∧ P b) 2 W s (fieldT (fs[k]'(by omega))).list) :
    Rowt P g n (k + 1) fs ((((W.setCell ⟨g, k * 4, none⟩ (.int .i64 3)).setCell ⟨g, k * 4 + 1, none⟩ (.int .i64 0)).setCell ⟨g, k * 4 + 2, none⟩ (.string ⟨#[]⟩)).setCell ⟨g, k * 4 + 3, none⟩ s) := by
  have hO : Oth g W ((((W.setCell ⟨g, k * 4, none⟩ (.int .i64 3)).setCell ⟨g, k * 4 + 1, none⟩ (.int .i64 0)).setCell ⟨g, k * 4 + 2, none⟩ (.string ⟨#[]⟩)).setCell ⟨g, k * 4 + 3, none⟩ s) :=
    (((Oth.set _ _ _ _).trans (Oth.set _ _ _ _)).trans (Oth.set _ _ _ _)).trans (Oth.set _ _ _ _)
  have hT : ∀ {x ts}, Tr (fun b => b ≠ g ∧ P b) 2 W x ts → Tr (fun b => b ≠ g ∧ P b) 2 ((((W.setCell ⟨g, k * 4, none⟩ (.int .i64 3)).setCell ⟨g, k * 4 + 1, none⟩ (.int .i64 0)).setCell ⟨g, k * 4 + 2, none⟩ (.string ⟨#[]⟩)).setCell ⟨g, k * 4 + 3, none⟩ s) x ts :=
    fun h => h.frame (by rw [hO.1]; omega) (fun b hb _ => hO.2 b hb.1) (fun _ h => h)
  obtain ⟨z0, e0, f0⟩ := h.2.1 (k * 4) (by omega)
  obtain ⟨z1, e1, f1⟩ := h.2.1 (k * 4 + 1) (by omega)
  obtain ⟨z2, e2, f2⟩ := h.2.1 (k * 4 + 2) (by omega)
  obtain ⟨z3, e3, f3⟩ := h.2.1 (k * 4 + 3) (by omega)
  refine ⟨by rw [hO.1]; exact h.1, fun j hj => ?_, fun j hj hjk => ?_⟩
  · obtain ⟨z, e, f⟩ := h.2.1 j hj
    have hfr : ((((W.setCell ⟨g, k * 4, none⟩ (.int .i64 3)).setCell ⟨g, k * 4 + 1, none⟩ (.int .i64 0)).setCell ⟨g, k * 4 + 2, none⟩ (.string ⟨#[]⟩)).setCell ⟨g, k * 4 + 3, none⟩ s).frozen? ⟨g, j, none⟩ = false := by
      simp [f]
    rw [hfr]
    have hsome := World.isSome_setCells g [.int .i64 3, .int .i64 0, .string ⟨#[]⟩, s] (k * 4) W ⟨g, j, none⟩ (by rw [e]; rfl)
    obtain ⟨y, hy⟩ := Option.isSome_iff_exists.1 hsome
    exact ⟨y, hy, rfl⟩
  · by_cases e : j = k
    · subst e
      have hin := World.cell?_setCells_in g [.int .i64 3, .int .i64 0, .string ⟨#[]⟩, s] (j * 4) W (fun i hi => by
        obtain ⟨z, e, _⟩ := h.2.1 (j * 4 + i) (by simp at hi; omega)
        rw [e]; rfl)
      exact ⟨s, ⟨hin 0 (by simp), hin 1 (by simp), hin 2 (by simp), hin 3 (by simp)⟩, hT hs⟩
    · obtain ⟨x, ⟨h0, h1, h2, h3⟩, ht⟩ := h.2.2 j hj (by omega)
      have hout := fun i (hi : i < k * 4 ∨ k * 4 + 4 ≤ i) => World.cell?_setCells_out g [.int .i64 3, .int .i64 0, .string ⟨#[]⟩, s] (k * 4) W ⟨g, i, none⟩ (fun _ _ => hi)
      exact ⟨x, ⟨(hout _ (by omega)).trans h0, (hout _ (by omega)).trans h1, (hout _ (by omega)).trans h2, (hout _ (by omega)).trans h3⟩, hT ht⟩

theorem Try.info73 : (Try.prog.info? 73).map (fun i => (i.zero, i.size, i.bytes)) = some (some (.agg #[.int .i64 0, .int .i64 0, .string ⟨#[]⟩, .slice none 0 0]), 4, 56) := by kernel_rfl

theorem rowt_new {P : Nat → Prop} {w : World} {B g n : Nat} {xs : List Value} (fs : List F) (h : w.ownsRow B 73 4 (.slice (some ⟨g, 0, none⟩) n n) n xs) : Rowt P g n 0 fs w := by
  have hlt := h.lt g rfl
  rcases h.2 with ⟨h0, _⟩ | ⟨g', cap, cur, he, hb, hg, hnc, hcm, hcs, htk⟩
  · cases h0
  · simp only [Value.slice.injEq, Option.some.injEq, Addr.mk.injEq] at he
    obtain ⟨⟨rfl, _⟩, _, rfl⟩ := he
    refine ⟨hlt.2, fun j hj => ?_, fun j hj h0 => absurd h0 (by omega)⟩
    have hj' : j < cur.size := by omega
    exact ⟨cur[j], by simp [World.cell?, hg, hj'], by simp [World.frozen?, hg]⟩

theorem rowt_tr {P : Nat → Prop} {g n : Nat} {fs : List F} {W : World} (h : Rowt P g n n fs W) (hn : n = fs.length) (hP : P g) : Tr P 3 W (.slice (some ⟨g, 0, none⟩) n n) (docT fs).list := by
  subst hn
  have hl : (docT fs).list = fs.map fieldT := rfl
  rw [hl]
  refine ⟨_, fs.length, by simp, by simp, .inr ⟨g, 0, rfl, h.1, hP, fun j hj => ?_⟩⟩
  have hj' : j < fs.length := by simpa using hj
  obtain ⟨x, hc, ht⟩ := h.2.2 j hj' hj'
  refine ⟨x, ?_, ?_, ?_⟩
  · simpa [fieldT, tList, T.kind, T.num, T.text] using hc
  · simp only [List.getElem_map]
    exact Nat.zero_le _
  · simpa using ht.frame (Nat.le_refl _) (fun _ _ _ => rfl) (fun _ h => h.2)

theorem valT_text {v : V} (h : v.check = 0) : (valT v).text.size ≤ 9223372036854775807 := by
  unfold valT
  split
  · exact Nat.zero_le _
  · split
    · rename_i h2
      have : v.text.size ≤ 256 := by
        unfold V.check at h
        split at h
        · cases h
        · omega
      show v.text.size ≤ _
      omega
    · exact Nat.zero_le _

theorem cell_bad (s : Value) (fs : List F) (w : World) (h : Lst w s fs) (hb : ¬ May fs) :
    Calls Try.prog 34 #[s] w fun e w' => e = .returned (.tuple #[.agg #[.int .i64 0, .int .i64 0, .string ⟨#[]⟩, .slice none 0 0], .int .i64 1]) ∧ Adds w w' := by
  have hd0 := check_doc s fs (w.alloc (.cells #[.int .i64 0, .int .i64 0, .string ⟨#[]⟩, .slice none 0 0] 73)) (h.adds ((Adds.refl _).alloc _))
  rw [err_bad hb] at hd0
  obtain ⟨ao, cap, rfl, hcap, hlo⟩ := h
  go_enter Try.func34, Try.ntmps34
  go_wp2_with (go_at_call 50; refine hd0.mono ?_; rintro e w1 ⟨rfl, os1, n1, rfl⟩)
  refine bodyPost_ret (v := .tuple #[.agg #[.int .i64 0, .int .i64 0, .string ⟨#[]⟩, .slice none 0 0], .int .i64 1]) (by simp [results, Try.results34, go_sem]) rfl ⟨rfl, ?_⟩
  repeat (first | with_reducible exact Adds.refl _ | with_reducible refine Adds.alloc ?_ _ | with_reducible refine Adds.more ?_ _ _ | with_reducible refine Adds.drew ?_ | with_reducible refine Adds.drewN ?_ _)

set_option maxHeartbeats 3000000 in
theorem cell_ok (s : Value) (fs : List F) (w : World) (h : Lst w s fs) (hb : May fs) :
    Calls Try.prog 34 #[s] w fun e w' => ∃ r, e = .returned (.tuple #[.agg #[.int .i64 3, .int .i64 0, .string ⟨#[]⟩, r], .int .i64 0]) ∧ Tr (fun _ => True) 3 w' r (docT fs).list ∧ Adds w w' := by
  have hd0 := check_doc s fs (w.alloc (.cells #[.int .i64 0, .int .i64 0, .string ⟨#[]⟩, .slice none 0 0] 73)) (h.adds ((Adds.refl _).alloc _))
  rw [err_ok hb] at hd0
  have hle := hb.1
  obtain ⟨ao, cap, rfl, hcap, hlo⟩ := h
  obtain ⟨i0, hi, hz0, hz1, hz2⟩ := info_parts Try.info73
  go_enter Try.func34, Try.ntmps34
  go_wp2_with (first
    | (go_at_call 50; refine hd0.mono ?_; rintro e w1 ⟨rfl, os1, n1, rfl⟩)
    | (at_make; refine wpList_make_full _ rfl (.tmp 15) (.tmp 15) 71 rfl 0 73 i0 _ 4 Try.underlying71 hi hz0 hz1 .i64 .i64 _ _ fs.length rfl rfl rfl rfl (by rw [hz2]; omega) (by unfold maxLen; omega) (Nat.zero_le _) ?_; intro w2 hrow hgrow))
  have hsz : (more (w.alloc (.cells #[.int .i64 0, .int .i64 0, .string ⟨#[]⟩, .slice none 0 0] 73)) os1 n1).heap.size = w.heap.size + os1.size + 1 := by simp [go_sem]
  rw [hsz] at hrow
  have hgood := hb.2
  have hr0 : Rowt (fun b => b ≠ w.heap.size) (w.heap.size + os1.size + 1) fs.length 0 fs w2 := rowt_new fs hrow
  have hA1 : Adds w (more (w.alloc (.cells #[.int .i64 0, .int .i64 0, .string ⟨#[]⟩, .slice none 0 0] 73)) os1 n1) := by repeat (first | with_reducible exact Adds.refl _ | with_reducible refine Adds.alloc ?_ _ | with_reducible refine Adds.more ?_ _ _ | with_reducible refine Adds.drew ?_ | with_reducible refine Adds.drewN ?_ _)
  have hB2 : Below (w.heap.size + os1.size + 1) (more (w.alloc (.cells #[.int .i64 0, .int .i64 0, .string ⟨#[]⟩, .slice none 0 0] 73)) os1 n1) w2 := ⟨hgrow.os, hgrow.tape, hgrow.output, hgrow.size, fun k hk => hgrow.block k (by rw [hsz]; exact hk) (by simp)⟩
  clear hrow hgrow hd0 hi hz0 hz1 hz2
  obtain ⟨g, hg⟩ : ∃ g, g = w.heap.size + os1.size + 1 := ⟨_, rfl⟩
  rw [← hg] at hr0 hB2 hsz ⊢
  have hwg : w.heap.size < g := by omega
  have HG : Hid _ := hg
  clear hg
  have hbx := fun i => cell?_more (w := w.alloc (.cells #[.int .i64 0, .int .i64 0, .string ⟨#[]⟩, .slice none 0 0] 73)) os1 n1 w.heap.size i (by simp)
  have hbf := fun i => frozen?_more (w := w.alloc (.cells #[.int .i64 0, .int .i64 0, .string ⟨#[]⟩, .slice none 0 0] 73)) os1 n1 w.heap.size i (by simp)
  generalize more (w.alloc (.cells #[.int .i64 0, .int .i64 0, .string ⟨#[]⟩, .slice none 0 0] 73)) os1 n1 = W1 at *
  go_loopw [19] (fun iv wr => ∃ k : Nat, k ≤ fs.length ∧ iv = .int .i64 k ∧ Rowt (fun b => b ≠ w.heap.size) g fs.length k fs wr ∧ Below g W1 wr) (fun iv _ => fs.length - (intOf iv).toNat)
  case atStart => exact ⟨0, Nat.zero_le _, rfl, hr0, hB2⟩
  case round =>
    clear hr0 hB2
    obtain ⟨k, hk, rfl, hrow, hbel⟩ := hrel
    have hgs := hrow.1
    have hbw : Below w.heap.size w wr := hA1.below.trans (hbel.mono (by omega))
    by_cases hlt : k < fs.length
    · rcases hlo with rfl | ⟨b, off, rfl, hbb, hl⟩
      · simp at hlt
      obtain ⟨c0, c1, c2, c3, c4, c5⟩ := hl.below hbw hbb k hlt
      obtain ⟨z0, e0, f0⟩ := hrow.2.1 (k * 4) (by omega)
      obtain ⟨z1, e1, f1⟩ := hrow.2.1 (k * 4 + 1) (by omega)
      obtain ⟨z2, e2, f2⟩ := hrow.2.1 (k * 4 + 2) (by omega)
      obtain ⟨z3, e3, f3⟩ := hrow.2.1 (k * 4 + 3) (by omega)
      have hck := (hgood k hlt).2.1
      have HX : Hid (∀ (W : World) (s : Value), Adds wr W → Tr (fun b => b ≠ g ∧ b ≠ w.heap.size) 2 W s [tText fs[k].path, valT fs[k].val] → Rowt (fun b => b ≠ w.heap.size) g fs.length (k + 1) fs ((((W.setCell ⟨g, k * 4, none⟩ (.int .i64 3)).setCell ⟨g, k * 4 + 1, none⟩ (.int .i64 0)).setCell ⟨g, k * 4 + 2, none⟩ (.string ⟨#[]⟩)).setCell ⟨g, k * 4 + 3, none⟩ s) ∧
          Below g W1 ((((W.setCell ⟨g, k * 4, none⟩ (.int .i64 3)).setCell ⟨g, k * 4 + 1, none⟩ (.int .i64 0)).setCell ⟨g, k * 4 + 2, none⟩ (.string ⟨#[]⟩)).setCell ⟨g, k * 4 + 3, none⟩ s)) :=
        fun W s h1 h2 => ⟨(hrow.adds h1).next hlt rfl h2, below_setCells (hbel.trans (h1.below.mono (Nat.le_of_lt hgs))) (Nat.le_refl g) [.int .i64 3, .int .i64 0, .string ⟨#[]⟩, s] (k * 4)⟩
      generalize fs[k] = x at *
      have kC := fun W (hW : g < W.heap.size) => cellOf_any (ok := fun b => b ≠ g ∧ b ≠ w.heap.size) x.val W (fun k hk => ⟨by omega, by omega⟩)
      have kP := fun W s (hW : g < W.heap.size) h => pair_any (ok := fun b => b ≠ g ∧ b ≠ w.heap.size) (d := 1) (tText x.path) (valT x.val) (.slice none 0 0) s W (fun k hk => ⟨by omega, by omega⟩) (Tr.nil _ _ _) h x.fits (valT_text hck)
      simp only [cellV, V.val, show (tText x.path).kind = 2 from rfl, show (tText x.path).num = 0 from rfl, show (tText x.path).text = x.path from rfl] at kC kP
      clear hl
      go_wp2
      go_region_with (first
        | (go_at_call 52; refine (cellText_any _ _).mono ?_; rintro e w3 ⟨rfl, os3, n3, rfl⟩)
        | (go_at_call 53; refine (kC _ (by simp only [World.size_alloc, size_more]; omega)).mono ?_; rintro e w4 ⟨s4, rfl, ht4, os4, n4, rfl⟩; obtain ⟨sa4, sc4, hs4⟩ := ht4.shape; subst hs4)
        | (go_at_call 51; refine (kP _ _ (by simp only [World.size_alloc, size_more]; omega) (ht4.adds (by repeat (first | with_reducible exact Adds.refl _ | with_reducible refine Adds.alloc ?_ _ | with_reducible refine Adds.more ?_ _ _ | with_reducible refine Adds.drew ?_ | with_reducible refine Adds.drewN ?_ _)))).mono ?_; rintro e w5 ⟨s5, rfl, ht5, os5, n5, rfl⟩; obtain ⟨sa5, sc5, hs5⟩ := ht5.shape; subst hs5))
      all_goals
        have hF := HX.out _ _ (by repeat (first | with_reducible exact Adds.refl _ | with_reducible refine Adds.alloc ?_ _ | with_reducible refine Adds.more ?_ _ _ | with_reducible refine Adds.drew ?_ | with_reducible refine Adds.drewN ?_ _)) ht5
        go_wp2
        go_roundw
        case rel => exact ⟨k + 1, by omega, by go_num, by simpa [go_sem, hgs] using hF.1, by simpa [go_sem, hgs] using hF.2⟩
        case measure => simp [intOf]; omega
    · have hk' : k = fs.length := by omega
      subst hk'
      have hx := fun i => (hbel.cell (p := ⟨w.heap.size, i, none⟩) hwg).trans (hbx i)
      have hy := fun i => (World.frozen?_of_block (w := W1) (w' := wr) (a := ⟨w.heap.size, i, none⟩) (hbel.block w.heap.size hwg)).trans (hbf i)
      have x0 := hx 0
      have x1 := hx 1
      have x2 := hx 2
      have x3 := hx 3
      have y0 := hy 0
      have y1 := hy 1
      have y2 := hy 2
      have y3 := hy 3
      simp at x0 x1 x2 x3 y0 y1 y2 y3
      have hT := rowt_tr (P := fun b => b ≠ w.heap.size) hrow rfl (by omega)
      clear hx hy hbx hbf
      go_wp2
      refine bodyPost_ret (v := .tuple #[.agg #[.int .i64 3, .int .i64 0, .string ⟨#[]⟩, .slice (some ⟨g, 0, none⟩) fs.length fs.length], .int .i64 0]) (by simp [results, Try.results34, go_sem, x0, x1, x2, x3]) rfl ⟨_, rfl, ?_, ?_⟩
      · exact (hT.frame (ok' := fun b => b ≠ w.heap.size ∧ True) (Nat.le_refl _) (fun _ _ _ => rfl) (fun _ h => ⟨h, trivial⟩)).oth ((((Oth.set _ _ _ _).trans (Oth.set _ _ _ _)).trans (Oth.set _ _ _ _)).trans (Oth.set _ _ _ _))
      · exact Adds.of (below_setCells hbw (Nat.le_refl _) [.int .i64 3, .int .i64 0, .string ⟨#[]⟩, .slice (some ⟨g, 0, none⟩) fs.length fs.length] 0)

end Go.Proofs.Ytgnhkpihlghbmaa
