/-
  The reference's function Open of keeps, by contract.
-/
import Derived.Test.YtelkkpomehgcjaaGreatRapply
import Derived.Test.YtelkkpomehgcjaaGreatVbeg
import Derived.StillTailTactics
namespace Go.Proofs.YtelkkpomehgcjaaGreat
open Go.RowKit Go.Maps
attribute [local go_sem] cell?_more frozen?_more setCell_more size_more tape_more drew_more drewN_more more_drew more_drewN more_more one_out plus_out plus_end lt_one le_p2 le_p3 le_p4 le_p5 le_p6 le_p7 le_p8 le_p9 le_p10 le_p11 le_p12 le_p13 le_p14 le_p15 le_p16 le_p17 le_p18 le_p19 le_p20 le_p21 le_p22 le_p23 le_p24 le_q0 le_q1 lt_q1 le_q2 lt_q2 le_q3 lt_q3 le_q4 lt_q4 le_q5 lt_q5 le_q6 lt_q6 le_q7 lt_q7 le_q8 lt_q8 le_q9 lt_q9 le_q10 lt_q10 le_q11 lt_q11 le_q12 lt_q12 le_q13 lt_q13 le_q14 lt_q14 le_q15 lt_q15 le_q16 lt_q16 le_q17 lt_q17 le_q18 lt_q18 le_q19 lt_q19 le_q20 lt_q20 le_q21 lt_q21 le_q22 lt_q22 le_q23 lt_q23 le_q24 lt_q24

theorem RwsO.at {B : Nat} {w : World} {ao : Option Addr} {n cap : Nat} {ls : List (List UInt8)} (h : RwsO B w (.slice ao n cap) ls) {k : Nat} (hk : k < ls.length) : ∃ b off x, ao = some ⟨b, off, none⟩ ∧ b < w.heap.size ∧ w.cell? ⟨b, off + k, none⟩ = some x ∧ BytO B w x ls[k] := by
  obtain ⟨xs, ao', cap', e, hc, h, he⟩ := h
  have hl := he.length
  simp only [Value.slice.injEq] at e
  obtain ⟨rfl, rfl, rfl⟩ := e
  rcases h with rfl | ⟨b, off, rfl, hb, _, hls⟩
  · simp at hl
    omega
  · exact ⟨b, off, xs[k], rfl, hb, hls k (by omega), he.get k (by omega) hk⟩

theorem BytO.keep2 {B : Nat} {w w' : World} {v : Value} {l : List UInt8} (h : BytO B w v l) (hs : w.heap.size ≤ w'.heap.size) (hk : ∀ b, b < w.heap.size → (b < B ∨ ∃ C fr, w.heap[b]? = some (.cells C 5 fr)) → w'.heap[b]? = w.heap[b]?) : BytO B w' v l := by
  obtain ⟨ao, cap, rfl, hc, h⟩ := h
  refine ⟨ao, cap, rfl, hc, h.imp id ?_⟩
  rintro ⟨b, off, rfl, hb, ho, hl⟩
  have e := hk b hb ho
  exact ⟨b, off, rfl, Nat.lt_of_lt_of_le hb hs, ho.imp id (fun ⟨C, fr, hC⟩ => ⟨C, fr, by rw [e]; exact hC⟩), fun j hj => by rw [World.cell?_of_block e]; exact hl j hj⟩

theorem box_set11 {w : World} {P : Nat} {c0 c1 c2 c3 c4 c5 c6 c7 c8 c9 c10 : Value} (h : w.heap[P]? = some (.cells #[c0, c1, c2, c3, c4, c5, c6, c7, c8, c9, c10] 42 (0, 0))) (a9 a10 : Value) :
    ((w.setCell ⟨P, 9, none⟩ a9).setCell ⟨P, 10, none⟩ a10).heap[P]? = some (.cells #[c0, c1, c2, c3, c4, c5, c6, c7, c8, a9, a10] 42 (0, 0)) := by
  have e1 := heap_setCell_at a9 h (i := 9) (by simp)
  have e2 := heap_setCell_at a10 e1 (i := 10) (by simp)
  rw [e2]
  rfl

/-- What the reference's Open tells of records. -/
def OpkTold (w : World) (ls : List (List UInt8)) (e : Ending) (w' : World) : Prop :=
  ∃ (i0 : Int) (ko : Option Addr) (kn kc : Nat) (dO : Option Addr) (dn dc : Nat) (i3 : Int) (g4 : Bool) (i5 i6 : Int) (lo : Option Addr) (lc : Nat) (i8 : Int) (Lo : Option Addr) (Ln Lc : Nat) (No : Option Addr) (Nn Nc : Nat),
    e = .returned (.tuple #[.agg #[.int .i64 i0, .slice ko kn kc, .slice dO dn dc, .int .i64 i3, .bool g4, .int .i64 i5, .int .i64 i6, .slice lo ls.length lc, .int .i64 i8, .slice Lo Ln Lc, .slice No Nn Nc], .int .i64 (if ls.all knownK then 0 else 5)]) ∧ (ls.all knownK = true → Rws w' (.slice Lo Ln Lc) (viewK (foldT ls)).1 ∧ Byt w' (.slice No Nn Nc) (viewK (foldT ls)).2) ∧ Adds w w'

/-- Behind one Apply: both boxes, what the keep shows. -/
def RopMid (w w1 : World) (i0 : Int) (ko : Option Addr) (kn kc : Nat) (dO : Option Addr) (dn dc : Nat) (i3 : Int) (g4 : Bool) (i5 i6 : Int) (lo : Option Addr) (lc : Nat) (i8 : Int) (ls : List (List UInt8)) (j : Nat) (km : Bool) (W : World) : Prop :=
  ∃ Lo Ln Lc No Nn Nc, W.heap[w1.heap.size]? = some (.cells #[.int .i64 i0, .slice ko kn kc, .slice dO dn dc, .int .i64 i3, .bool g4, .int .i64 i5, .int .i64 i6, .slice lo ls.length lc, .int .i64 i8] 39 (0, 0)) ∧ W.heap[w1.heap.size + 1]? = some (.cells #[.int .i64 i0, .slice ko kn kc, .slice dO dn dc, .int .i64 i3, .bool g4, .int .i64 i5, .int .i64 i6, .slice lo ls.length lc, .int .i64 i8, .slice Lo Ln Lc, .slice No Nn Nc] 42 (0, 0)) ∧ W.heap[w.heap.size + 1]? = some (.cells #[.int .i64 0, .slice none 0 0, .slice none 0 0, .int .i64 0, .bool false, .int .i64 0, .int .i64 0, .slice none 0 0, .int .i64 0, .slice none 0 0, .slice none 0 0] 42 (0, 0)) ∧ (km = true → RwsO 0 W (.slice Lo Ln Lc) (viewK (foldT (ls.take j))).1 ∧ BytO 0 W (.slice No Nn Nc) (viewK (foldT (ls.take j))).2) ∧ Adds w1 W

theorem ropMid_of {w w1 wr w5 : World} {i0 : Int} {ko : Option Addr} {kn kc : Nat} {dO : Option Addr} {dn dc : Nat} {i3 : Int} {g4 : Bool} {i5 i6 : Int} {lo : Option Addr} {lc : Nat} {i8 : Int} {ls : List (List UInt8)} {j : Nat} {km : Bool} {Lo : Option Addr} {Ln Lc : Nat} {No : Option Addr} {Nn Nc : Nat} {lo5 : Option Addr} {ln5 lc5 : Nat} {no5 : Option Addr} {nn5 nc5 : Nat}
    (hpr : w.heap.size + 1 < w1.heap.size) (hA : Adds w1 wr) (h5 : Adds wr w5) (hT : wr.heap[w1.heap.size]? = some (.cells #[.int .i64 i0, .slice ko kn kc, .slice dO dn dc, .int .i64 i3, .bool g4, .int .i64 i5, .int .i64 i6, .slice lo ls.length lc, .int .i64 i8] 39 (0, 0))) (hK : wr.heap[w1.heap.size + 1]? = some (.cells #[.int .i64 i0, .slice ko kn kc, .slice dO dn dc, .int .i64 i3, .bool g4, .int .i64 i5, .int .i64 i6, .slice lo ls.length lc, .int .i64 i8, .slice Lo Ln Lc, .slice No Nn Nc] 42 (0, 0))) (hR : w1.heap[w.heap.size + 1]? = some (.cells #[.int .i64 0, .slice none 0 0, .slice none 0 0, .int .i64 0, .bool false, .int .i64 0, .int .i64 0, .slice none 0 0, .int .i64 0, .slice none 0 0, .slice none 0 0] 42 (0, 0)))
    (hv : km = true → RwsO 0 w5 (.slice lo5 ln5 lc5) (viewK (foldT (ls.take j))).1 ∧ BytO 0 w5 (.slice no5 nn5 nc5) (viewK (foldT (ls.take j))).2) :
    RopMid w w1 i0 ko kn kc dO dn dc i3 g4 i5 i6 lo lc i8 ls j km ((w5.setCell ⟨w1.heap.size + 1, 9, none⟩ (.slice lo5 ln5 lc5)).setCell ⟨w1.heap.size + 1, 10, none⟩ (.slice no5 nn5 nc5)) := by
  have hK5 := h5.at hK
  have t := ((Turn2.refl (w1.heap.size + 1) (w1.heap.size + 1) w5).set1 9 (.slice lo5 ln5 lc5)).set1 10 (.slice no5 nn5 nc5)
  have hne : ∀ b, b < w5.heap.size → b ≠ w1.heap.size + 1 → ((w5.setCell ⟨w1.heap.size + 1, 9, none⟩ (.slice lo5 ln5 lc5)).setCell ⟨w1.heap.size + 1, 10, none⟩ (.slice no5 nn5 nc5)).heap[b]? = w5.heap[b]? := fun b hb hn => t.block b hb hn hn
  have hlt5 : w1.heap.size + 1 < w5.heap.size := (Array.getElem?_eq_some_iff.1 hK5).1
  refine ⟨lo5, ln5, lc5, no5, nn5, nc5, (hne _ (by omega) (by omega)).trans (h5.at hT), box_set11 hK5 _ _, (hne _ (by omega) (by omega)).trans ((hA.trans h5).at hR), fun hk => ?_, turn2_adds (hA.trans h5) (by omega) (by omega) t⟩
  obtain ⟨h1, h2⟩ := hv hk
  refine ⟨h1.keep t.size fun b hb ho => hne b hb ?_, h2.keep2 t.size fun b hb ho => hne b hb ?_⟩
  · rintro rfl
    rcases ho with ho | ⟨C, hC⟩ | ⟨C, fr, hC⟩
    · omega
    · rw [hK5] at hC
      simp at hC
    · rw [hK5] at hC
      simp at hC
  · rintro rfl
    rcases ho with ho | ⟨C, fr, hC⟩
    · omega
    · rw [hK5] at hC
      simp at hC

theorem opk_keep {w w' : World} {p : Nat} {C : Array Value} {v n : Value} {ls : List (List UInt8)} {nt : List UInt8} (hp : w.heap[p]? = some (.cells C 42 (0, 0))) (h : RwsO 0 w v ls ∧ BytO 0 w n nt) (t : Turn2 p p w w') : Rws w' v ls ∧ Byt w' n nt := by
  refine ⟨(h.1.keep t.size fun b hb ho => t.block b hb ?_ ?_).rws (Nat.zero_le _), (h.2.keep2 t.size fun b hb ho => t.block b hb ?_ ?_).byt⟩
  all_goals
    rintro rfl
    first
      | (rcases ho with ho | ⟨C, hC⟩ | ⟨C, fr, hC⟩ <;> first | omega | (rw [hp] at hC; simp at hC))
      | (rcases ho with ho | ⟨C, fr, hC⟩ <;> first | omega | (rw [hp] at hC; simp at hC))

theorem view_length (s : List (List UInt8) × List UInt8) : (viewK s).1.length = s.1.length := by simp [viewK]

set_option maxRecDepth 20000 in
set_option maxHeartbeats 4000000 in
theorem refOpenK_any {w : World} {j0 j3 j5 : Int} {h4 : Bool} {ko' dO' : Option Addr} {kn' kc' dn' dc' : Nat} {ls : List (List UInt8)} (hln : ls.length ≤ 10000)
    (kO : ∀ W, Adds w W → Calls Tryz.prog 19 #[.agg #[.int .i64 j0, .slice ko' kn' kc', .slice dO' dn' dc', .int .i64 j3, .bool h4, .int .i64 j5]] W fun e w' => ∃ (i0 : Int) (ko : Option Addr) (kn kc : Nat) (dO : Option Addr) (dn dc : Nat) (i3 : Int) (g4 : Bool) (i5 i6 : Int) (lo : Option Addr) (lc : Nat) (i8 : Int), e = .returned (.tuple #[.agg #[.int .i64 i0, .slice ko kn kc, .slice dO dn dc, .int .i64 i3, .bool g4, .int .i64 i5, .int .i64 i6, .slice lo ls.length lc, .int .i64 i8], .int .i64 0]) ∧ RwsO 0 w' (.slice lo ls.length lc) ls ∧ Adds W w') :
    Calls Tryz.prog 10 #[.agg #[.int .i64 j0, .slice ko' kn' kc', .slice dO' dn' dc', .int .i64 j3, .bool h4, .int .i64 j5]] w (OpkTold w ls) := by
  have HBr : Hid (((w.alloc (.cells #[.int .i64 j0, .slice ko' kn' kc', .slice dO' dn' dc', .int .i64 j3, .bool h4, .int .i64 j5] 36)).alloc (.cells #[.int .i64 0, .slice none 0 0, .slice none 0 0, .int .i64 0, .bool false, .int .i64 0, .int .i64 0, .slice none 0 0, .int .i64 0, .slice none 0 0, .slice none 0 0] 42)).heap[w.heap.size + 1]? = some (.cells #[.int .i64 0, .slice none 0 0, .slice none 0 0, .int .i64 0, .bool false, .int .i64 0, .int .i64 0, .slice none 0 0, .int .i64 0, .slice none 0 0, .slice none 0 0] 42 (0, 0))) := blkR_new
  go_enter Tryz.func10, Tryz.ntmps10
  go_wp2_with (go_at_call 19; refine (kO _ (by repeat (first | with_reducible exact Adds.refl _ | with_reducible refine Adds.alloc ?_ _ | with_reducible refine Adds.more ?_ _ _ | with_reducible refine Adds.drew ?_ | with_reducible refine Adds.drewN ?_ _))).mono ?_; rintro e w1 ⟨i0, ko, kn, kc, dO, dn, dc, i3, g4, i5, i6, lo, lc, i8, rfl, hr1, a1⟩; have HR1 : Hid (RwsO 0 w1 (.slice lo ls.length lc) ls) := hr1; have HA1 : Hid (Adds ((w.alloc (.cells #[.int .i64 j0, .slice ko' kn' kc', .slice dO' dn' dc', .int .i64 j3, .bool h4, .int .i64 j5] 36)).alloc (.cells #[.int .i64 0, .slice none 0 0, .slice none 0 0, .int .i64 0, .bool false, .int .i64 0, .int .i64 0, .slice none 0 0, .int .i64 0, .slice none 0 0, .slice none 0 0] 42)) w1) := a1; clear hr1 a1)
  have HW1 : Hid (Adds w w1) := Adds.trans (by repeat (first | with_reducible exact Adds.refl _ | with_reducible refine Adds.alloc ?_ _ | with_reducible refine Adds.more ?_ _ _ | with_reducible refine Adds.drew ?_ | with_reducible refine Adds.drewN ?_ _)) HA1.out
  have HBr1 : Hid (w1.heap[w.heap.size + 1]? = some (.cells #[.int .i64 0, .slice none 0 0, .slice none 0 0, .int .i64 0, .bool false, .int .i64 0, .int .i64 0, .slice none 0 0, .int .i64 0, .slice none 0 0, .slice none 0 0] 42 (0, 0))) := HA1.out.at HBr.out
  have hpr : w.heap.size + 1 < w1.heap.size := (Array.getElem?_eq_some_iff.1 HBr1.out).1
  have HBt : Hid (((w1.alloc (.cells #[.int .i64 i0, .slice ko kn kc, .slice dO dn dc, .int .i64 i3, .bool g4, .int .i64 i5, .int .i64 i6, .slice lo ls.length lc, .int .i64 i8] 39)).alloc (.cells #[.int .i64 i0, .slice ko kn kc, .slice dO dn dc, .int .i64 i3, .bool g4, .int .i64 i5, .int .i64 i6, .slice lo ls.length lc, .int .i64 i8, .slice none 0 0, .slice none 0 0] 42)).heap[w1.heap.size]? = some (.cells #[.int .i64 i0, .slice ko kn kc, .slice dO dn dc, .int .i64 i3, .bool g4, .int .i64 i5, .int .i64 i6, .slice lo ls.length lc, .int .i64 i8] 39 (0, 0))) := blkR_old
  have HBk : Hid (((w1.alloc (.cells #[.int .i64 i0, .slice ko kn kc, .slice dO dn dc, .int .i64 i3, .bool g4, .int .i64 i5, .int .i64 i6, .slice lo ls.length lc, .int .i64 i8] 39)).alloc (.cells #[.int .i64 i0, .slice ko kn kc, .slice dO dn dc, .int .i64 i3, .bool g4, .int .i64 i5, .int .i64 i6, .slice lo ls.length lc, .int .i64 i8, .slice none 0 0, .slice none 0 0] 42)).heap[w1.heap.size + 1]? = some (.cells #[.int .i64 i0, .slice ko kn kc, .slice dO dn dc, .int .i64 i3, .bool g4, .int .i64 i5, .int .i64 i6, .slice lo ls.length lc, .int .i64 i8, .slice none 0 0, .slice none 0 0] 42 (0, 0))) := blkR_new
  have HA2 : Hid (Adds w1 ((w1.alloc (.cells #[.int .i64 i0, .slice ko kn kc, .slice dO dn dc, .int .i64 i3, .bool g4, .int .i64 i5, .int .i64 i6, .slice lo ls.length lc, .int .i64 i8] 39)).alloc (.cells #[.int .i64 i0, .slice ko kn kc, .slice dO dn dc, .int .i64 i3, .bool g4, .int .i64 i5, .int .i64 i6, .slice lo ls.length lc, .int .i64 i8, .slice none 0 0, .slice none 0 0] 42))) := (show Adds w1 _ from (by repeat (first | with_reducible exact Adds.refl _ | with_reducible refine Adds.alloc ?_ _ | with_reducible refine Adds.more ?_ _ _ | with_reducible refine Adds.drew ?_ | with_reducible refine Adds.drewN ?_ _)))
  clear kO HBr HA1
  go_loopw [7] (fun i W => ∃ (j : Nat) (Lo : Option Addr) (Ln Lc : Nat) (No : Option Addr) (Nn Nc : Nat), j ≤ ls.length ∧ i = .int .i64 (j : Int) ∧ (ls.take j).all knownK = true ∧ W.heap[w1.heap.size]? = some (.cells #[.int .i64 i0, .slice ko kn kc, .slice dO dn dc, .int .i64 i3, .bool g4, .int .i64 i5, .int .i64 i6, .slice lo ls.length lc, .int .i64 i8] 39 (0, 0)) ∧ W.heap[w1.heap.size + 1]? = some (.cells #[.int .i64 i0, .slice ko kn kc, .slice dO dn dc, .int .i64 i3, .bool g4, .int .i64 i5, .int .i64 i6, .slice lo ls.length lc, .int .i64 i8, .slice Lo Ln Lc, .slice No Nn Nc] 42 (0, 0)) ∧ RwsO 0 W (.slice Lo Ln Lc) (viewK (foldT (ls.take j))).1 ∧ BytO 0 W (.slice No Nn Nc) (viewK (foldT (ls.take j))).2 ∧ Adds w1 W) (fun i _ => (ls.length - intOf i).toNat)
  case atStart => exact ⟨0, none, 0, 0, none, 0, 0, by omega, rfl, rfl, HBt.out, HBk.out, rwsO_nil _ _, ⟨none, 0, rfl, Nat.le_refl _, .inl rfl⟩, HA2.out⟩
  case round =>
    obtain ⟨j, Lo, Ln, Lc, No, Nn, Nc, hj, rfl, hall, hbt, hbk, hL, hN, hA⟩ := hrel
    have ct7 : wr.cell? ⟨w1.heap.size, 7, none⟩ = some (.slice lo ls.length lc) := cell_of_row wr _ 7 _ _ _ hbt
    have hpk : w1.heap.size + 1 < wr.heap.size := (Array.getElem?_eq_some_iff.1 hbk).1
    have HL : Hid (RwsO 0 wr (.slice Lo Ln Lc) (viewK (foldT (ls.take j))).1) := hL
    have HN : Hid (BytO 0 wr (.slice No Nn Nc) (viewK (foldT (ls.take j))).2) := hN
    have HA : Hid (Adds w1 wr) := hA
    have HT : Hid (wr.heap[w1.heap.size]? = some (.cells #[.int .i64 i0, .slice ko kn kc, .slice dO dn dc, .int .i64 i3, .bool g4, .int .i64 i5, .int .i64 i6, .slice lo ls.length lc, .int .i64 i8] 39 (0, 0))) := hbt
    have HK : Hid (wr.heap[w1.heap.size + 1]? = some (.cells #[.int .i64 i0, .slice ko kn kc, .slice dO dn dc, .int .i64 i3, .bool g4, .int .i64 i5, .int .i64 i6, .slice lo ls.length lc, .int .i64 i8, .slice Lo Ln Lc, .slice No Nn Nc] 42 (0, 0))) := hbk
    clear HBt HBk HA2
    by_cases hlt : j < ls.length
    · obtain ⟨b, off, x, rfl, hb, hc, hx⟩ := RwsO.at HR1.out hlt
      have hc' : wr.cell? ⟨b, off + j, none⟩ = some x := (World.cell?_of_block (hA.below.block b hb)).trans hc
      obtain ⟨ax, cx, rfl, _⟩ := id hx
      have HX : Hid (BytO 0 w1 (.slice ax ls[j].length cx) ls[j]) := hx
      have ck9 : wr.cell? ⟨w1.heap.size + 1, 9, none⟩ = some (.slice Lo Ln Lc) := cell_of_row wr _ 9 _ _ _ hbk
      have ck10 : wr.cell? ⟨w1.heap.size + 1, 10, none⟩ = some (.slice No Nn Nc) := cell_of_row wr _ 10 _ _ _ hbk
      have i1 : (j : Int) < (ls.length : Int) := by omega
      have hvl : (viewK (foldT (ls.take j))).1.length ≤ 900000 := by
        rw [view_length]
        have := foldT_length (ls.take j)
        simp at this
        omega
      have kA : ∀ W, Adds wr W → Calls Tryz.prog 33 #[.slice Lo Ln Lc, .slice No Nn Nc, .slice ax ls[j].length cx] W (ApTold 0 W (foldT (ls.take j)) ls[j]) := fun W hW => apply_any (HL.out.adds hW) (HN.out.adds hW) (HX.out.adds (HA.out.trans hW)) hvl
      have HNx : Hid (foldT (ls.take (j + 1)) = turnK (foldT (ls.take j)) ls[j]) := foldT_take hlt
      have HNa : Hid ((ls.take (j + 1)).all knownK = knownK ls[j]) := by
        show _ = _
        rw [List.take_succ_eq_append_getElem hlt, List.all_append, hall]
        simp
      have HNb : Hid (knownK ls[j] = false → ls.all knownK = false) := by
        intro e
        rw [List.all_eq_false]
        exact ⟨ls[j], List.getElem_mem hlt, by simp [e]⟩
      clear hL hN hx hc hall hvl
      generalize ls[j] = m at *
      have d9 : wr.drew.cell? ⟨w1.heap.size + 1, 9, none⟩ = some (.slice Lo Ln Lc) := ck9
      have d10 : wr.drew.cell? ⟨w1.heap.size + 1, 10, none⟩ = some (.slice No Nn Nc) := ck10
      have d7 : wr.drew.cell? ⟨w1.heap.size, 7, none⟩ = some (.slice (some ⟨b, off, none⟩) ls.length lc) := ct7
      have dx : wr.drew.cell? ⟨b, off + j, none⟩ = some (.slice ax m.length cx) := hc'
      have at5 : ∀ w5, Adds wr w5 → w5.heap[w1.heap.size + 1]? = some (.cells #[.int .i64 i0, .slice ko kn kc, .slice dO dn dc, .int .i64 i3, .bool g4, .int .i64 i5, .int .i64 i6, .slice (some ⟨b, off, none⟩) ls.length lc, .int .i64 i8, .slice Lo Ln Lc, .slice No Nn Nc] 42 (0, 0)) ∧ w5.heap[w.heap.size + 1]? = some (.cells #[.int .i64 0, .slice none 0 0, .slice none 0 0, .int .i64 0, .bool false, .int .i64 0, .int .i64 0, .slice none 0 0, .int .i64 0, .slice none 0 0, .slice none 0 0] 42 (0, 0)) ∧ w1.heap.size + 1 < w5.heap.size := fun w5 h5 => ⟨h5.at HK.out, (HA.out.trans h5).at HBr1.out, Nat.lt_of_lt_of_le hpk h5.below.size⟩
      have kA1 : ∀ W, Adds wr W → Calls Tryz.prog 33 #[.slice Lo Ln Lc, .slice No Nn Nc, .slice ax m.length cx] W fun e w' => ∃ lo' ln' lc' no' nn' nc', e = .returned (.tuple #[.slice lo' ln' lc', .slice no' nn' nc', .bool (knownK m)]) ∧ (knownK m = true → RwsO 0 w' (.slice lo' ln' lc') (viewK (foldT (ls.take (j + 1)))).1 ∧ BytO 0 w' (.slice no' nn' nc') (viewK (foldT (ls.take (j + 1)))).2) ∧ Adds W w' := fun W hW => by
        refine (kA W hW).mono ?_
        rintro e w' ⟨lo', ln', lc', no', nn', nc', rfl, h1, h2⟩
        rw [HNx.out]
        exact ⟨lo', ln', lc', no', nn', nc', rfl, h1, h2⟩
      clear kA HNx
      generalize knownK m = km at *
      have HEnd : Hid (∀ w5 lo5 ln5 lc5 no5 nn5 nc5, Adds wr w5 → (km = true → RwsO 0 w5 (.slice lo5 ln5 lc5) (viewK (foldT (ls.take (j + 1)))).1 ∧ BytO 0 w5 (.slice no5 nn5 nc5) (viewK (foldT (ls.take (j + 1)))).2) →
          RopMid w w1 i0 ko kn kc dO dn dc i3 g4 i5 i6 (some ⟨b, off, none⟩) lc i8 ls (j + 1) km ((w5.setCell ⟨w1.heap.size + 1, 9, none⟩ (.slice lo5 ln5 lc5)).setCell ⟨w1.heap.size + 1, 10, none⟩ (.slice no5 nn5 nc5))) := by
        intro w5 lo5 ln5 lc5 no5 nn5 nc5 h5 hv
        exact ropMid_of hpr HA.out h5 HT.out HK.out HBr1.out hv
      go_wp2
      go_cut [8] from 27 to 42 (fun q wc => q = .bool km ∧ RopMid w w1 i0 ko kn kc dO dn dc i3 g4 i5 i6 (some ⟨b, off, none⟩) lc i8 ls (j + 1) km wc)
      case first =>
        go_region_with (go_at_call 33; refine (kA1 _ (by repeat (first | with_reducible exact Adds.refl _ | with_reducible refine Adds.alloc ?_ _ | with_reducible refine Adds.more ?_ _ _ | with_reducible refine Adds.drew ?_ | with_reducible refine Adds.drewN ?_ _))).mono ?_; rintro e w5 ⟨lo5, ln5, lc5, no5, nn5, nc5, rfl, r5, a5⟩; have HA5 : Hid (Adds wr w5) := Adds.trans (by repeat (first | with_reducible exact Adds.refl _ | with_reducible refine Adds.alloc ?_ _ | with_reducible refine Adds.more ?_ _ _ | with_reducible refine Adds.drew ?_ | with_reducible refine Adds.drewN ?_ _)) a5; have HR5 : Hid _ := r5; obtain ⟨z1, z2, z3⟩ := at5 w5 HA5.out; have k9 : w5.cell? ⟨w1.heap.size + 1, 9, none⟩ = some (.slice Lo Ln Lc) := cell_of_row w5 _ 9 _ _ _ z1; have k10 : w5.cell? ⟨w1.heap.size + 1, 10, none⟩ = some (.slice No Nn Nc) := cell_of_row w5 _ 10 _ _ _ z1; have fk : ∀ i, w5.frozen? ⟨w1.heap.size + 1, i, none⟩ = false := (fun i => frozen_of z1); clear z1 z2 a5 r5)
        all_goals go_wp2
        all_goals go_meet
        all_goals exact ⟨rfl, HEnd.out _ _ _ _ _ _ _ HA5.out HR5.out⟩
      case rest =>
        obtain ⟨rfl, hmid⟩ := hcut
        have HM : Hid _ := hmid
        obtain ⟨Lq, Lqn, Lqc, Nq, Nqn, Nqc, q1, q2, q3, q4, q5⟩ := id hmid
        clear hmid kA1 HEnd at5 d9 d10 d7 dx ck9 ck10 ct7 hc'
        cases km with
        | true =>
          obtain ⟨q6, q7⟩ := q4 rfl
          have HQ : Hid _ := And.intro q1 (And.intro q2 (And.intro q6 (And.intro q7 q5)))
          clear q1 q2 q3 q4 q5 q6 q7 HM
          go_wp2
          go_roundw
          case rel => exact ⟨j + 1, Lq, Lqn, Lqc, Nq, Nqn, Nqc, by omega, by go_num, HNa.out, HQ.out.1, HQ.out.2.1, HQ.out.2.2.1, HQ.out.2.2.2.1, HQ.out.2.2.2.2⟩
          case measure => simp [intOf]; omega
        | false =>
          have HF : Hid (ls.all knownK = false) := HNb.out rfl
          have HA9 : Hid (Adds w1 wc) := q5
          have k0 : wc.cell? ⟨w1.heap.size + 1, 0, none⟩ = some (.int .i64 i0) := cell_of_row wc _ 0 _ _ _ q2
          have k1 : wc.cell? ⟨w1.heap.size + 1, 1, none⟩ = some (.slice ko kn kc) := cell_of_row wc _ 1 _ _ _ q2
          have k2 : wc.cell? ⟨w1.heap.size + 1, 2, none⟩ = some (.slice dO dn dc) := cell_of_row wc _ 2 _ _ _ q2
          have k3 : wc.cell? ⟨w1.heap.size + 1, 3, none⟩ = some (.int .i64 i3) := cell_of_row wc _ 3 _ _ _ q2
          have k4 : wc.cell? ⟨w1.heap.size + 1, 4, none⟩ = some (.bool g4) := cell_of_row wc _ 4 _ _ _ q2
          have k5 : wc.cell? ⟨w1.heap.size + 1, 5, none⟩ = some (.int .i64 i5) := cell_of_row wc _ 5 _ _ _ q2
          have k6 : wc.cell? ⟨w1.heap.size + 1, 6, none⟩ = some (.int .i64 i6) := cell_of_row wc _ 6 _ _ _ q2
          have k7 : wc.cell? ⟨w1.heap.size + 1, 7, none⟩ = some (.slice (some ⟨b, off, none⟩) ls.length lc) := cell_of_row wc _ 7 _ _ _ q2
          have k8 : wc.cell? ⟨w1.heap.size + 1, 8, none⟩ = some (.int .i64 i8) := cell_of_row wc _ 8 _ _ _ q2
          have k9 : wc.cell? ⟨w1.heap.size + 1, 9, none⟩ = some (.slice Lq Lqn Lqc) := cell_of_row wc _ 9 _ _ _ q2
          have k10 : wc.cell? ⟨w1.heap.size + 1, 10, none⟩ = some (.slice Nq Nqn Nqc) := cell_of_row wc _ 10 _ _ _ q2
          have r0 : wc.cell? ⟨w.heap.size + 1, 0, none⟩ = some (.int .i64 0) := cell_of_row wc _ 0 _ _ _ q3
          have r1 : wc.cell? ⟨w.heap.size + 1, 1, none⟩ = some (.slice none 0 0) := cell_of_row wc _ 1 _ _ _ q3
          have r2 : wc.cell? ⟨w.heap.size + 1, 2, none⟩ = some (.slice none 0 0) := cell_of_row wc _ 2 _ _ _ q3
          have r3 : wc.cell? ⟨w.heap.size + 1, 3, none⟩ = some (.int .i64 0) := cell_of_row wc _ 3 _ _ _ q3
          have r4 : wc.cell? ⟨w.heap.size + 1, 4, none⟩ = some (.bool false) := cell_of_row wc _ 4 _ _ _ q3
          have r5 : wc.cell? ⟨w.heap.size + 1, 5, none⟩ = some (.int .i64 0) := cell_of_row wc _ 5 _ _ _ q3
          have r6 : wc.cell? ⟨w.heap.size + 1, 6, none⟩ = some (.int .i64 0) := cell_of_row wc _ 6 _ _ _ q3
          have r7 : wc.cell? ⟨w.heap.size + 1, 7, none⟩ = some (.slice none 0 0) := cell_of_row wc _ 7 _ _ _ q3
          have r8 : wc.cell? ⟨w.heap.size + 1, 8, none⟩ = some (.int .i64 0) := cell_of_row wc _ 8 _ _ _ q3
          have r9 : wc.cell? ⟨w.heap.size + 1, 9, none⟩ = some (.slice none 0 0) := cell_of_row wc _ 9 _ _ _ q3
          have r10 : wc.cell? ⟨w.heap.size + 1, 10, none⟩ = some (.slice none 0 0) := cell_of_row wc _ 10 _ _ _ q3
          have fr : ∀ i, wc.frozen? ⟨w.heap.size + 1, i, none⟩ = false := fun i => frozen_of q3
          have hsz : w1.heap.size + 1 < wc.heap.size := (Array.getElem?_eq_some_iff.1 q2).1
          clear q1 q2 q3 q4 q5 HM
          go_wp2
          refine bodyPost_ret (v := .tuple #[.agg #[.int .i64 i0, .slice ko kn kc, .slice dO dn dc, .int .i64 i3, .bool g4, .int .i64 i5, .int .i64 i6, .slice (some ⟨b, off, none⟩) ls.length lc, .int .i64 i8, .slice Lq Lqn Lqc, .slice Nq Nqn Nqc], .int .i64 5]) (by simp [results, Tryz.results10, go_sem, r0, r1, r2, r3, r4, r5, r6, r7, r8, r9, r10]) rfl ⟨_, _, _, _, _, _, _, _, _, _, _, _, _, _, _, _, _, _, _, _, by rw [HF.out]; rfl, fun h => (by rw [HF.out] at h; cases h), ?_⟩
          exact turn2_adds (p := w.heap.size + 1) (q := w.heap.size + 1) (HW1.out.trans HA9.out) (by omega) (by omega) (by repeat (first | with_reducible refine Turn2.set1 ?_ _ _ | with_reducible exact Turn2.refl _ _ _))
    · obtain rfl : j = ls.length := by omega
      rw [List.take_length] at hall
      have HF : Hid (ls.all knownK = true) := hall
      have HV : Hid (RwsO 0 wr (.slice Lo Ln Lc) (viewK (foldT ls)).1 ∧ BytO 0 wr (.slice No Nn Nc) (viewK (foldT ls)).2) := by
        have h1 := HL.out
        have h2 := HN.out
        rw [List.take_length] at h1 h2
        exact ⟨h1, h2⟩
      have q3 := hA.at HBr1.out
      have k0 : wr.cell? ⟨w1.heap.size + 1, 0, none⟩ = some (.int .i64 i0) := cell_of_row wr _ 0 _ _ _ hbk
      have k1 : wr.cell? ⟨w1.heap.size + 1, 1, none⟩ = some (.slice ko kn kc) := cell_of_row wr _ 1 _ _ _ hbk
      have k2 : wr.cell? ⟨w1.heap.size + 1, 2, none⟩ = some (.slice dO dn dc) := cell_of_row wr _ 2 _ _ _ hbk
      have k3 : wr.cell? ⟨w1.heap.size + 1, 3, none⟩ = some (.int .i64 i3) := cell_of_row wr _ 3 _ _ _ hbk
      have k4 : wr.cell? ⟨w1.heap.size + 1, 4, none⟩ = some (.bool g4) := cell_of_row wr _ 4 _ _ _ hbk
      have k5 : wr.cell? ⟨w1.heap.size + 1, 5, none⟩ = some (.int .i64 i5) := cell_of_row wr _ 5 _ _ _ hbk
      have k6 : wr.cell? ⟨w1.heap.size + 1, 6, none⟩ = some (.int .i64 i6) := cell_of_row wr _ 6 _ _ _ hbk
      have k7 : wr.cell? ⟨w1.heap.size + 1, 7, none⟩ = some (.slice lo ls.length lc) := cell_of_row wr _ 7 _ _ _ hbk
      have k8 : wr.cell? ⟨w1.heap.size + 1, 8, none⟩ = some (.int .i64 i8) := cell_of_row wr _ 8 _ _ _ hbk
      have k9 : wr.cell? ⟨w1.heap.size + 1, 9, none⟩ = some (.slice Lo Ln Lc) := cell_of_row wr _ 9 _ _ _ hbk
      have k10 : wr.cell? ⟨w1.heap.size + 1, 10, none⟩ = some (.slice No Nn Nc) := cell_of_row wr _ 10 _ _ _ hbk
      have r0 : wr.cell? ⟨w.heap.size + 1, 0, none⟩ = some (.int .i64 0) := cell_of_row wr _ 0 _ _ _ q3
      have r1 : wr.cell? ⟨w.heap.size + 1, 1, none⟩ = some (.slice none 0 0) := cell_of_row wr _ 1 _ _ _ q3
      have r2 : wr.cell? ⟨w.heap.size + 1, 2, none⟩ = some (.slice none 0 0) := cell_of_row wr _ 2 _ _ _ q3
      have r3 : wr.cell? ⟨w.heap.size + 1, 3, none⟩ = some (.int .i64 0) := cell_of_row wr _ 3 _ _ _ q3
      have r4 : wr.cell? ⟨w.heap.size + 1, 4, none⟩ = some (.bool false) := cell_of_row wr _ 4 _ _ _ q3
      have r5 : wr.cell? ⟨w.heap.size + 1, 5, none⟩ = some (.int .i64 0) := cell_of_row wr _ 5 _ _ _ q3
      have r6 : wr.cell? ⟨w.heap.size + 1, 6, none⟩ = some (.int .i64 0) := cell_of_row wr _ 6 _ _ _ q3
      have r7 : wr.cell? ⟨w.heap.size + 1, 7, none⟩ = some (.slice none 0 0) := cell_of_row wr _ 7 _ _ _ q3
      have r8 : wr.cell? ⟨w.heap.size + 1, 8, none⟩ = some (.int .i64 0) := cell_of_row wr _ 8 _ _ _ q3
      have r9 : wr.cell? ⟨w.heap.size + 1, 9, none⟩ = some (.slice none 0 0) := cell_of_row wr _ 9 _ _ _ q3
      have r10 : wr.cell? ⟨w.heap.size + 1, 10, none⟩ = some (.slice none 0 0) := cell_of_row wr _ 10 _ _ _ q3
      have fr : ∀ i, wr.frozen? ⟨w.heap.size + 1, i, none⟩ = false := fun i => frozen_of q3
      have HPr : Hid (wr.heap[w.heap.size + 1]? = some (.cells #[.int .i64 0, .slice none 0 0, .slice none 0 0, .int .i64 0, .bool false, .int .i64 0, .int .i64 0, .slice none 0 0, .int .i64 0, .slice none 0 0, .slice none 0 0] 42 (0, 0))) := q3
      have i1 : ¬ (ls.length : Int) < (ls.length : Int) := by omega
      clear hL hN hall hbt hbk HL HN HT HK q3
      go_wp2
      refine bodyPost_ret (v := .tuple #[.agg #[.int .i64 i0, .slice ko kn kc, .slice dO dn dc, .int .i64 i3, .bool g4, .int .i64 i5, .int .i64 i6, .slice lo ls.length lc, .int .i64 i8, .slice Lo Ln Lc, .slice No Nn Nc], .int .i64 0]) (by simp [results, Tryz.results10, go_sem, r0, r1, r2, r3, r4, r5, r6, r7, r8, r9, r10]) rfl ⟨_, _, _, _, _, _, _, _, _, _, _, _, _, _, _, _, _, _, _, _, by rw [HF.out]; rfl, fun _ => ?_, ?_⟩
      · exact opk_keep HPr.out HV.out (by repeat (first | with_reducible refine Turn2.set1 ?_ _ _ | with_reducible exact Turn2.refl _ _ _))
      · exact turn2_adds (p := w.heap.size + 1) (q := w.heap.size + 1) (HW1.out.trans HA.out) (by omega) (by omega) (by repeat (first | with_reducible refine Turn2.set1 ?_ _ _ | with_reducible exact Turn2.refl _ _ _))

end Go.Proofs.YtelkkpomehgcjaaGreat
