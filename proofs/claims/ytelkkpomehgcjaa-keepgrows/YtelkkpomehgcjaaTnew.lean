/-
  The function newest by contract.
-/
import Derived.Test.YtelkkpomehgcjaaTwhole
import Derived.Test.YtelkkpomehgcjaaTbegin
import Derived.Deep.RegionHeld3
namespace Go.Proofs.Ytelkkpomehgcjaa
open Go.RowKit Go.Maps
attribute [local go_sem] cell?_more frozen?_more setCell_more size_more tape_more drew_more drewN_more more_drew more_drewN more_more one_out plus_out plus_end lt_one le_p2 le_p3 le_p4 le_p5 le_p6 le_p7 le_p8 le_p9 le_p10 le_p11 le_p12 le_p13 le_p14 le_p15 le_p16 le_p17 le_p18 le_p19 le_p20 le_p21 le_p22 le_p23 le_p24 le_q0 le_q1 lt_q1 le_q2 lt_q2 le_q3 lt_q3 le_q4 lt_q4 le_q5 lt_q5 le_q6 lt_q6 le_q7 lt_q7 le_q8 lt_q8 le_q9 lt_q9 le_q10 lt_q10 le_q11 lt_q11 le_q12 lt_q12 le_q13 lt_q13 le_q14 lt_q14 le_q15 lt_q15 le_q16 lt_q16 le_q17 lt_q17 le_q18 lt_q18 le_q19 lt_q19 le_q20 lt_q20 le_q21 lt_q21 le_q22 lt_q22 le_q23 lt_q23 le_q24 lt_q24

/-- A list of records that a call has made: its row and its bytes lie at B or above. -/
def RwsF (B : Nat) (w : World) (v : Value) (ls : List (List UInt8)) : Prop :=
  ∃ xs ao cap, v = .slice ao xs.length cap ∧ xs.length ≤ cap ∧ (xs = [] ∨ ∃ b off C, ao = some ⟨b, off, none⟩ ∧ B ≤ b ∧ w.heap[b]? = some (.cells C 22 (0, 0)) ∧ LiesV w b off xs) ∧ EachF B w xs ls

theorem RwsF.rwsA {B : Nat} {w : World} {F : Nat → Prop} {v : Value} {ls : List (List UInt8)} (h : RwsF B w v ls) (hF : ∀ b C T, B ≤ b → w.heap[b]? = some (.cells C T (0, 0)) → (T = 22 ∨ T = 5) → ¬ F b) : RwsA w F v ls := by
  obtain ⟨xs, ao, cap, rfl, hc, h, he⟩ := h
  refine ⟨xs, ao, cap, rfl, hc, h.imp id ?_, he.eachA fun b C hb hg => hF b C 5 hb hg (.inr rfl)⟩
  rintro ⟨b, off, C, rfl, hb, hg, hl⟩
  exact ⟨b, off, rfl, (Array.getElem?_eq_some_iff.1 hg).1, hF b C 22 hb hg (.inl rfl), hl⟩

theorem RwsF.keep {B : Nat} {w w' : World} {v : Value} {ls : List (List UInt8)} (h : RwsF B w v ls) (hk : ∀ b C T, B ≤ b → w.heap[b]? = some (.cells C T (0, 0)) → (T = 22 ∨ T = 5) → w'.heap[b]? = w.heap[b]?) : RwsF B w' v ls := by
  obtain ⟨xs, ao, cap, rfl, hc, h, he⟩ := h
  refine ⟨xs, ao, cap, rfl, hc, h.imp id ?_, he.keep fun b C hb hg => hk b C 5 hb hg (.inr rfl)⟩
  rintro ⟨b, off, C, rfl, hb, hg, hl⟩
  have e := hk b C 22 hb hg (.inl rfl)
  refine ⟨b, off, C, rfl, hb, e.trans hg, fun j hj => ?_⟩
  rw [World.cell?_of_block e]
  exact hl j hj

theorem RwsF.mono {B B' : Nat} {w : World} {v : Value} {ls : List (List UInt8)} (h : RwsF B w v ls) (hB : B' ≤ B) : RwsF B' w v ls := by
  obtain ⟨xs, ao, cap, rfl, hc, h, he⟩ := h
  refine ⟨xs, ao, cap, rfl, hc, h.imp id ?_, he.imp fun _ _ hx => hx.mono hB⟩
  rintro ⟨b, off, C, rfl, hb, hg, hl⟩
  exact ⟨b, off, C, rfl, Nat.le_trans hB hb, hg, hl⟩

theorem RwsF.adds {B : Nat} {w w' : World} {v : Value} {ls : List (List UInt8)} (h : RwsF B w v ls) (ha : Adds w w') : RwsF B w' v ls :=
  h.keep fun b _ _ _ hg _ => ha.below.block b (Array.getElem?_eq_some_iff.1 hg).1

/-- A row that the call owns, but its first record. -/
theorem rest_of {B : Nat} {w w0 : World} {g n cap : Nat} {xs : List Value} {ls : List (List UInt8)} (h : OwnV B 22 (.slice (some ⟨g, 0, none⟩) n cap) xs w0 w) (he : EachF B w xs ls) (hn : 1 ≤ n) :
    RwsF B w (.slice (if cap = 1 then some ⟨g, 0, none⟩ else some ⟨g, 1, none⟩) (n - 1) (cap - 1)) (ls.drop 1) := by
  obtain ⟨hl, h2⟩ := h.1
  rcases h2 with ⟨e, _⟩ | ⟨g', cap', cur, e, hB, hg, hnc, hcm, hcs, htk⟩
  · cases e
  · simp only [Value.slice.injEq, Option.some.injEq, Addr.mk.injEq, and_true] at e
    obtain ⟨rfl, rfl, rfl⟩ := e
    refine ⟨xs.drop 1, (if cap = 1 then some ⟨g, 0, none⟩ else some ⟨g, 1, none⟩), cap - 1, by simp, by simp; omega, ?_, he.rest⟩
    by_cases hc1 : cap = 1
    · left
      apply List.length_eq_zero_iff.1
      simp
      omega
    · right
      refine ⟨g, 1, cur, if_neg hc1, hB, hg, fun j hj => ?_⟩
      have hj' : j + 1 < xs.length := by simp at hj; omega
      have hc := h.1.cells (g := g) rfl (1 + j) (xs[1 + j]'(by omega)) (by simp)
      rw [add_at] at hc
      rw [Nat.zero_add] at hc
      rw [hc]
      simp [Nat.add_comm]

theorem newK_drop {K : Kf} {j : Nat} (hj : j < K.length) (h : newK (K.drop (j + 1)) = none) : newK (K.drop j) = (segOf K[j].2).map fun s => (K[j].1, s) := by
  rw [List.drop_eq_getElem_cons hj]
  show (match newK (K.drop (j + 1)) with | some s => some s | none => _) = _
  rw [h]

theorem newK_some {K : Kf} {j : Nat} {s : Int × Nat × List (List UInt8) × Bool} (h : newK (K.drop j) = some s) : newK K = some s := by
  induction j generalizing K with
  | zero => simpa using h
  | succ j ih =>
    cases K with
    | nil => simpa using h
    | cons p r =>
      rw [List.drop_succ_cons] at h
      show (match newK r with | some s => some s | none => _) = _
      rw [ih h]

theorem le_sum_mem : ∀ {l : List Nat} {a : Nat}, a ∈ l → a ≤ l.sum
  | b :: r, a, h => by
    rw [List.sum_cons]
    rcases List.mem_cons.1 h with rfl | h
    · omega
    · have := le_sum_mem h
      omega

theorem row_base {w : World} {B B' : Nat} {e : TypeId} {k n : Nat} {v : Value} {xs : List Value} (h : w.ownsRow B' e k v n xs) (hB : B ≤ B') : w.ownsRow B e k v n xs := by
  refine ⟨h.1, ?_⟩
  rcases h.2 with hn | ⟨g, cap, cur, rfl, hb, rest⟩
  · exact .inl hn
  · exact .inr ⟨g, cap, cur, rfl, Nat.le_trans hB hb, rest⟩

theorem segOf_some {b : List UInt8} (h : wholeB (rows b).1 = true) : segOf b = some (num4 ((rows b).1.headD []), (rows b).1.drop 1, decide ((rows b).2 = b.length)) := if_pos h
theorem segOf_none {b : List UInt8} (h : ¬ wholeB (rows b).1 = true) : segOf b = none := if_neg h

def newest (K : Kf) (e : Ending) (B : Nat) (w' : World) : Prop :=
  match newK K with
  | some (file, base, ls, clean) => ∃ v, e = .returned (.tuple #[.agg #[.int .i64 file, .int .i64 (base : Int), v], .bool clean]) ∧ RwsF B w' v ls
  | none => e = .returned (.tuple #[.agg #[.int .i64 0, .int .i64 0, .slice none 0 0], .bool false])

set_option maxHeartbeats 3000000 in
theorem newest_any {w : World} {B : Nat} {R : Rw} {d : Dk} {K : Kf} (h : St w B R d) (hK : SrtK K) (hf : filesK K = d.now) (hb : R.bulk ≤ 68719476736) (hsz : sizeK K ≤ 1000000) :
    Calls Try.prog 32 #[ptr R.p] w fun e w' => newest K e w.heap.size w' ∧ Adds w w' := by
  have kF := st_files (h.adds ((Adds.refl w).alloc (.cells #[.int .i64 0, .int .i64 0, .slice none 0 0] 65))) hK hf
  have hfew := few_keys h hK hf
  have hkl : (keysK K).length = K.length := by simp [keysK]
  have kR : ∀ W, Adds w W → ∀ j (hj : j < K.length), Calls Try.prog 45 #[ptr R.p, .int .i64 K[j].1] W fun e w' => ∃ r, e = .returned (.tuple #[r, .bool true]) ∧ Byt w' r K[j].2 ∧ Adds W w' := fun W hW j hj => by
    refine (st_read (h.adds hW) K[j].1 K[j].2 ?_ (by omega)).mono ?_
    · rw [← hf]
      exact getK_mem hK (List.getElem_mem hj)
    · rintro e w' ⟨r, rfl, h1, h2⟩
      exact ⟨r, rfl, row_byt h1, h2⟩
  have hsz2 : ∀ j (hj : j < K.length), K[j].2.length ≤ 1000000 := fun j hj => by
    refine Nat.le_trans ?_ hsz
    unfold sizeK
    exact le_sum_mem (List.mem_map.2 ⟨K[j], List.getElem_mem hj, rfl⟩)
  clear h hf hb
  rw [hkl] at kF
  go_enter Try.func32, Try.ntmps32
  go_wp2_with (go_at_call 44; refine kF.mono ?_; rintro e w1 ⟨v1, rfl, h1, a1⟩; obtain ⟨ao, cap, rfl, hcap⟩ := row_slice_len h1)
  clear kF
  have b1 : w1.heap[w.heap.size]? = some (.cells #[.int .i64 0, .int .i64 0, .slice none 0 0] 65 (0, 0)) := a1.at (new_block _ _)
  have h1' := row_base h1 (B := w.heap.size) (by simp)
  have A1 : Adds w w1 := ((Adds.refl w).alloc _).trans a1
  clear a1 h1
  go_loopw [5] (fun i W => ∃ j : Nat, j ≤ K.length ∧ i = .int .i64 ((j : Int) - 1) ∧ newK (K.drop j) = none ∧ Adds w W ∧ W.heap[w.heap.size]? = some (.cells #[.int .i64 0, .int .i64 0, .slice none 0 0] 65 (0, 0)) ∧ W.ownsRow w.heap.size 3 1 (.slice ao K.length cap) K.length (cellsZ (keysK K))) (fun i _ => (intOf i + 1).toNat)
  case atStart =>
    refine ⟨K.length, by omega, by go_num, by simp [newK], A1, b1, h1'⟩
  case round =>
    obtain ⟨j, hj, rfl, hnone, hA, hbx, hrow⟩ := hrel
    have HA : Hid (Adds w wr) := hA
    have HB : Hid (wr.heap[w.heap.size]? = some (.cells #[.int .i64 0, .int .i64 0, .slice none 0 0] 65 (0, 0))) := hbx
    have HN : Hid (newK (K.drop j) = none) := hnone
    have hws : w.heap.size < wr.heap.size := (Array.getElem?_eq_some_iff.1 hbx).1
    clear hA hnone b1 h1' A1
    rcases j with _ | j
    · have z : ∀ i, wr.frozen? ⟨w.heap.size, i, none⟩ = false := fun i => frozen_of hbx
      have x0 : wr.cell? ⟨w.heap.size, 0, none⟩ = some (.int .i64 0) := cell_of_row wr _ 0 _ _ _ hbx
      have x1 : wr.cell? ⟨w.heap.size, 1, none⟩ = some (.int .i64 0) := cell_of_row wr _ 1 _ _ _ hbx
      have x2 : wr.cell? ⟨w.heap.size, 2, none⟩ = some (.slice none 0 0) := cell_of_row wr _ 2 _ _ _ hbx
      clear hbx kR hsz2 hrow
      go_wp2
      refine bodyPost_ret (v := .tuple #[.agg #[.int .i64 0, .int .i64 0, .slice none 0 0], .bool false]) (by simp [results, Try.results32, go_sem, x0, x1, x2]) rfl ⟨?_, ?_⟩
      · unfold newest
        have := HN.out
        rw [List.drop_zero] at this
        rw [this]
      · exact adds_of_grown HA.out (((grown_set wr w.heap.size 0 (.int .i64 0)).trans (grown_set _ w.heap.size 1 (.int .i64 0))).trans (grown_set _ w.heap.size 2 (.slice none 0 0))) (fun i hi => by cases hi; exact Nat.le_refl _)
    · have hlt : j < K.length := by omega
      have kr := kR wr HA.out j hlt
      have hbl := hsz2 j hlt
      obtain ⟨gi, capi, ei, hci, _, hgi, hxi, _⟩ := row_at (xs := cellsZ (keysK K)) (B := w.heap.size) (e := 3) (v := .slice ao K.length cap) (w := wr) (by rw [keys_len]; exact hrow) (j := j) (by rw [keys_len]; exact hlt)
      simp only [Value.slice.injEq] at ei
      obtain ⟨rfl, e1, e2⟩ := ei
      clear e1 e2 hci
      have ec : (cellsZ (keysK K))[j]'(by rw [keys_len]; exact hlt) = .int .i64 K[j].1 := by simp [cellsZ, keysK]
      rw [ec] at hxi
      have HR : Hid (wr.ownsRow w.heap.size 3 1 (.slice (some ⟨gi, 0, none⟩) K.length cap) K.length (cellsZ (keysK K))) := hrow
      have hnd := newK_drop hlt HN.out
      obtain ⟨f1, f2, f3⟩ := rows_few K[j].2
      have hseg1 := segOf_some (b := K[j].2)
      have hseg0 := segOf_none (b := K[j].2)
      have HD : Hid (newK (K.drop j) = (segOf K[j].2).map fun s => (K[j].1, s)) := hnd
      clear hnd ec hrow hbx kR hsz2 HN
      generalize K[j].1 = key at *
      generalize hbb : K[j].2 = b at *
      by_cases hw : wholeB (rows b).1 = true
      · have HS : Hid _ := hseg1 hw
        obtain ⟨b0, rr, hrr⟩ : ∃ b0 rr, (rows b).1 = b0 :: rr := by
          cases hx : (rows b).1 with
          | nil => rw [hx] at hw; cases hw
          | cons b0 rr => exact ⟨b0, rr, rfl⟩
        have hw4 : b0.length = 4 := by
          rw [hrr, wholeB_cons] at hw
          simp at hw
          exact hw.1
        have kRow := fun r w2 hb2 => row_any r b w2 hb2 hbl
        clear hseg1 hseg0 hbb
        rw [hrr] at kRow f1 hw
        have HS2 : Hid (segOf b = some (num4 b0, rr, decide ((rows b).2 = b.length))) := by
          show _ = _
          rw [HS.out, hrr]
          rfl
        clear HS hrr
        generalize (rows b).2 = T at *
        go_wp2_with (first
          | (go_at_call 45; refine kr.mono ?_; rintro e w2 ⟨r2, rfl, hb2, a2⟩; obtain ⟨ao2, cap2, rfl, _⟩ := hb2.open)
          | (go_at_call 48; refine (kRow _ w2 hb2).mono ?_; rintro e w3 ⟨r3, xs, rfl, o3, e3⟩; have kW := whole_any r3 _ w3 ⟨xs, o3.lst, e3.each⟩ (by omega); rw [hw] at kW)
          | (go_at_call 49; refine kW.mono ?_; rintro e w4 ⟨rfl, a4⟩))
        have A4 : Adds wr w4 := (a2.trans o3.added).trans a4
        have HA4 : Hid (Adds w w4) := HA.out.trans A4
        have HA4' : Hid (Adds wr w4) := A4
        have hB4 : w.heap.size < w2.heap.size := Nat.lt_of_lt_of_le hws a2.below.size
        rcases xs with _ | ⟨x0, xs⟩
        · exact e3.elim
        have o4 := o3.adds a4
        have e4 := e3.imp fun _ _ hx => hx.adds a4
        have hx0 : Byt w4 x0 b0 := e4.1.tag.byt
        obtain ⟨g3, cap3, er, hc3, hB3, hg3, hx3, _⟩ := row_at o4.1 (j := 0) (by simp)
        subst er
        have d1 : w4.cell? ⟨gi, j, none⟩ = some (.int .i64 key) := (World.cell?_of_block (A4.below.block gi hgi)).trans hxi
        have d2 : w4.cell? ⟨g3, 0, none⟩ = some x0 := hx3
        have hgi4 : gi < w4.heap.size := Nat.lt_of_lt_of_le hgi A4.below.size
        have hb4 := A4.at HB.out
        have hws4 : w.heap.size < w4.heap.size := (Array.getElem?_eq_some_iff.1 hb4).1
        have k58 : ∀ W, Adds w4 W → Calls Try.prog 50 #[x0] W fun e w' => e = .returned (.int .u32 (num4 b0 : Nat)) ∧ Adds W w' := fun W hW => number4_any _ _ _ (hx0.adds hW) (by omega)
        have HF : Hid (RwsF w2.heap.size w4 (.slice (if cap3 = 1 then some ⟨g3, 0, none⟩ else some ⟨g3, 1, none⟩) ((x0 :: xs).length - 1) (cap3 - 1)) rr) := rest_of o4 e4 (by simp)
        have hlx : xs.length ≤ 1000000 := by have := e4.length; simp at this f1; omega
        have hnl := num4_lt b0
        generalize num4 b0 = n0 at *
        generalize hL : (x0 :: xs).length = L at *
        have hL1 : 1 ≤ L := by rw [← hL]; simp
        clear kRow kr kW hb2 o3 e3 o4 e4 hx0 a2 a4 A4 hx3 hxi hL
        by_cases hc1 : cap3 = 1
        · subst hc1
          obtain rfl : L = 1 := by omega
          rw [if_pos rfl] at HF
          have hne : w.heap.size ≠ g3 := by omega
          have hwr : IntKind.i64.wrap (n0 : Int) = (n0 : Int) := by rw [IntKind.wrap_i64]; omega
          clear hb4
          go_cut [10] from 36 (fun q wc => ∃ g, q = .pointer (some ⟨g, 0, none⟩) ∧ wc.cell? ⟨g, 0, none⟩ = some (.int .i64 key) ∧ wc.cell? ⟨g, 1, none⟩ = some (.int .i64 (n0 : Int)) ∧ wc.cell? ⟨g, 2, none⟩ = some (.slice (some ⟨g3, 0, none⟩) 0 0) ∧ w.heap.size < g ∧ Adds w4 wc)
          case first =>
            go_region_held3 (fun w' => w'.cell? ⟨gi, j, none⟩ = some (.int .i64 key) ∧ w'.cell? ⟨g3, 0, none⟩ = some x0 ∧ gi < w'.heap.size ∧ g3 < w'.heap.size ∧ w.heap.size < w'.heap.size)
              (refine ⟨?_, ?_, ?_, ?_, ?_⟩ <;> simp [go_sem, *])
              (first | (go_at_call 50; refine (k58 _ (by repeat (first | with_reducible exact Adds.refl _ | with_reducible refine Adds.alloc ?_ _ | with_reducible refine Adds.more ?_ _ _ | with_reducible refine Adds.drew ?_ | with_reducible refine Adds.drewN ?_ _))).mono ?_; rintro e w5 ⟨rfl, os5, n5, rfl⟩))
            all_goals go_wp2
            all_goals go_meet
            all_goals
              refine ⟨_, rfl, by simp [go_sem], by simp [go_sem], by simp [go_sem], by first | omega | (simp [go_sem]; omega), ?_⟩
              repeat (first | with_reducible exact Adds.refl _ | with_reducible refine Adds.alloc ?_ _ | with_reducible refine Adds.more ?_ _ _ | with_reducible refine Adds.drew ?_ | with_reducible refine Adds.drewN ?_ _)
          case rest =>
            obtain ⟨g, rfl, q0, q1, q2, hlt, ha⟩ := hcut
            have hbc := ha.at (HA4'.out.at HB.out)
            have z : ∀ i, wc.frozen? ⟨w.heap.size, i, none⟩ = false := fun i => frozen_of hbc
            have x0' : wc.cell? ⟨w.heap.size, 0, none⟩ = some (.int .i64 0) := cell_of_row wc _ 0 _ _ _ hbc
            have x1' : wc.cell? ⟨w.heap.size, 1, none⟩ = some (.int .i64 0) := cell_of_row wc _ 1 _ _ _ hbc
            have x2' : wc.cell? ⟨w.heap.size, 2, none⟩ = some (.slice none 0 0) := cell_of_row wc _ 2 _ _ _ hbc
            have HAc : Hid (Adds w wc) := HA4.out.trans ha
            have HFc : Hid (RwsF w2.heap.size wc (.slice (some ⟨g3, 0, none⟩) 0 0) rr) := RwsF.adds HF.out ha
            have HWc : Hid (w.heap.size < w2.heap.size) := hB4
            clear hbc ha k58 d1 d2
            go_wp2
            refine bodyPost_ret (v := .tuple #[.agg #[.int .i64 key, .int .i64 (n0 : Int), .slice (some ⟨g3, 0, none⟩) 0 0], .bool ((T : Int) == (b.length : Int))]) (by simp [results, Try.results32, go_sem, x0', x1', x2']) rfl ⟨?_, ?_⟩
            · unfold newest
              rw [newK_some (HD.out.trans (congrArg _ HS2.out))]
              dsimp only
              refine ⟨_, by rw [beq_cast], ?_⟩
              refine RwsF.mono (RwsF.keep HFc.out fun b' C' T' hb' hg' hT' => ?_) (Nat.le_of_lt HWc.out)
              have hgw := ((grown_set wc w.heap.size 0 (.int .i64 key)).trans (grown_set _ w.heap.size 1 (.int .i64 (n0 : Int)))).trans (grown_set _ w.heap.size 2 (.slice (some ⟨g3, 0, none⟩) 0 0))
              exact hgw.block b' (Array.getElem?_eq_some_iff.1 hg').1 (fun e => by have := HWc.out; simp at e; omega)
            · exact adds_of_grown HAc.out (((grown_set wc w.heap.size 0 (.int .i64 key)).trans (grown_set _ w.heap.size 1 (.int .i64 (n0 : Int)))).trans (grown_set _ w.heap.size 2 (.slice (some ⟨g3, 0, none⟩) 0 0))) (fun i hi => by cases hi; exact Nat.le_refl _)
        · rw [if_neg hc1] at HF
          have hne : w.heap.size ≠ g3 := by omega
          have hwr : IntKind.i64.wrap (n0 : Int) = (n0 : Int) := by rw [IntKind.wrap_i64]; omega
          have i0 : (0 : Int) < (L : Int) := by omega
          have i4 : 0 < L := hL1
          have i1 : (1 : Int) ≤ (L : Int) := by omega
          have i2 : (L : Int) ≤ (cap3 : Int) := by omega
          have i3 : (1 : Int) ≤ (cap3 : Int) := by omega
          clear hb4
          go_cut [10] from 36 (fun q wc => ∃ g, q = .pointer (some ⟨g, 0, none⟩) ∧ wc.cell? ⟨g, 0, none⟩ = some (.int .i64 key) ∧ wc.cell? ⟨g, 1, none⟩ = some (.int .i64 (n0 : Int)) ∧ wc.cell? ⟨g, 2, none⟩ = some (.slice (some ⟨g3, 1, none⟩) (L - 1) (cap3 - 1)) ∧ w.heap.size < g ∧ Adds w4 wc)
          case first =>
            go_region_held3 (fun w' => w'.cell? ⟨gi, j, none⟩ = some (.int .i64 key) ∧ w'.cell? ⟨g3, 0, none⟩ = some x0 ∧ gi < w'.heap.size ∧ g3 < w'.heap.size ∧ w.heap.size < w'.heap.size)
              (refine ⟨?_, ?_, ?_, ?_, ?_⟩ <;> simp [go_sem, *])
              (first | (go_at_call 50; refine (k58 _ (by repeat (first | with_reducible exact Adds.refl _ | with_reducible refine Adds.alloc ?_ _ | with_reducible refine Adds.more ?_ _ _ | with_reducible refine Adds.drew ?_ | with_reducible refine Adds.drewN ?_ _))).mono ?_; rintro e w5 ⟨rfl, os5, n5, rfl⟩))
            all_goals go_wp2
            all_goals go_meet
            all_goals
              refine ⟨_, rfl, by simp [go_sem], by simp [go_sem], by simp [go_sem], by first | omega | (simp [go_sem]; omega), ?_⟩
              repeat (first | with_reducible exact Adds.refl _ | with_reducible refine Adds.alloc ?_ _ | with_reducible refine Adds.more ?_ _ _ | with_reducible refine Adds.drew ?_ | with_reducible refine Adds.drewN ?_ _)
          case rest =>
            obtain ⟨g, rfl, q0, q1, q2, hlt, ha⟩ := hcut
            have hbc := ha.at (HA4'.out.at HB.out)
            have z : ∀ i, wc.frozen? ⟨w.heap.size, i, none⟩ = false := fun i => frozen_of hbc
            have x0' : wc.cell? ⟨w.heap.size, 0, none⟩ = some (.int .i64 0) := cell_of_row wc _ 0 _ _ _ hbc
            have x1' : wc.cell? ⟨w.heap.size, 1, none⟩ = some (.int .i64 0) := cell_of_row wc _ 1 _ _ _ hbc
            have x2' : wc.cell? ⟨w.heap.size, 2, none⟩ = some (.slice none 0 0) := cell_of_row wc _ 2 _ _ _ hbc
            have HAc : Hid (Adds w wc) := HA4.out.trans ha
            have HFc : Hid (RwsF w2.heap.size wc (.slice (some ⟨g3, 1, none⟩) (L - 1) (cap3 - 1)) rr) := RwsF.adds HF.out ha
            have HWc : Hid (w.heap.size < w2.heap.size) := hB4
            clear hbc ha k58 d1 d2
            go_wp2
            refine bodyPost_ret (v := .tuple #[.agg #[.int .i64 key, .int .i64 (n0 : Int), .slice (some ⟨g3, 1, none⟩) (L - 1) (cap3 - 1)], .bool ((T : Int) == (b.length : Int))]) (by simp [results, Try.results32, go_sem, x0', x1', x2']) rfl ⟨?_, ?_⟩
            · unfold newest
              rw [newK_some (HD.out.trans (congrArg _ HS2.out))]
              dsimp only
              refine ⟨_, by rw [beq_cast], ?_⟩
              refine RwsF.mono (RwsF.keep HFc.out fun b' C' T' hb' hg' hT' => ?_) (Nat.le_of_lt HWc.out)
              have hgw := ((grown_set wc w.heap.size 0 (.int .i64 key)).trans (grown_set _ w.heap.size 1 (.int .i64 (n0 : Int)))).trans (grown_set _ w.heap.size 2 (.slice (some ⟨g3, 1, none⟩) (L - 1) (cap3 - 1)))
              exact hgw.block b' (Array.getElem?_eq_some_iff.1 hg').1 (fun e => by have := HWc.out; simp at e; omega)
            · exact adds_of_grown HAc.out (((grown_set wc w.heap.size 0 (.int .i64 key)).trans (grown_set _ w.heap.size 1 (.int .i64 (n0 : Int)))).trans (grown_set _ w.heap.size 2 (.slice (some ⟨g3, 1, none⟩) (L - 1) (cap3 - 1)))) (fun i hi => by cases hi; exact Nat.le_refl _)
      · have HS : Hid (segOf b = none) := hseg0 hw
        have hwf : wholeB (rows b).1 = false := by simpa using hw
        clear hseg1 hseg0 hbb
        go_wp2_with (first
          | (go_at_call 45; refine kr.mono ?_; rintro e w2 ⟨r2, rfl, hb2, a2⟩; have kRow := row_any r2 b w2 hb2 hbl)
          | (go_at_call 48; refine kRow.mono ?_; rintro e w3 ⟨r3, xs, rfl, o3, e3⟩; have kW := whole_any r3 _ w3 ⟨xs, o3.lst, e3.each⟩ (by omega); rw [hwf] at kW)
          | (go_at_call 49; refine kW.mono ?_; rintro e w4 ⟨rfl, a4⟩))
        have HA4' : Hid (Adds wr w4) := (a2.trans o3.added).trans a4
        have HA4 : Hid (Adds w w4) := HA.out.trans HA4'.out
        go_roundw
        case rel =>
          refine ⟨j, by omega, by go_num, ?_, HA4.out, HA4'.out.at HB.out, row_adds HR.out HA4'.out⟩
          rw [HD.out, HS.out]
          rfl
        case measure => simp [intOf]

end Go.Proofs.Ytelkkpomehgcjaa
