/-
  The tape's method Restart by contract, where there is room.
-/
import Derived.Test.YtelkkpomehgcjaaGreatTwrite
namespace Go.Proofs.YtelkkpomehgcjaaGreat
open Go.RowKit Go.Maps
attribute [local go_sem] cell?_more frozen?_more setCell_more size_more tape_more drew_more drewN_more more_drew more_drewN more_more one_out plus_out plus_end lt_one le_p2 le_p3 le_p4 le_p5 le_p6 le_p7 le_p8 le_p9 le_p10 le_p11 le_p12 le_p13 le_p14 le_p15 le_p16 le_p17 le_p18 le_p19 le_p20 le_p21 le_p22 le_p23 le_p24 le_q0 le_q1 lt_q1 le_q2 lt_q2 le_q3 lt_q3 le_q4 lt_q4 le_q5 lt_q5 le_q6 lt_q6 le_q7 lt_q7 le_q8 lt_q8 le_q9 lt_q9 le_q10 lt_q10 le_q11 lt_q11 le_q12 lt_q12 le_q13 lt_q13 le_q14 lt_q14 le_q15 lt_q15 le_q16 lt_q16 le_q17 lt_q17 le_q18 lt_q18 le_q19 lt_q19 le_q20 lt_q20 le_q21 lt_q21 le_q22 lt_q22 le_q23 lt_q23 le_q24 lt_q24

/-- What a beginning anew leaves. -/
structure Begun (w : World) (B : Nat) (T : Tw) (d : Dk) (K : Kf) (l0 : List (List UInt8)) (w' : World) (T' : Tw) : Prop where
  tap : TapW w' B T' (d.begun K l0)
  p : T'.p = T.p
  file : T'.file = nextK K
  base : T'.base = l0.length
  ls : T'.ls = l0
  rp : T'.R.p = T.R.p
  room : T'.R.room = T.R.room
  bulk : T'.R.bulk ≤ T.R.bulk + 2 * segLen l0 + 1 + 2 * (K.length + 1)
  mv : Mv w T.core w' T'.foot

/-- A new row of records. -/
theorem tapW_row {w3 w4 : World} {B : Nat} {R : Rw} {d : Dk} {p : Nat} {file : Int} {base : Nat} {v0 r : Value} {xs : List Value} {ls : List (List UInt8)} (s : St w3 B R d) (hp : w3.heap[p]? = some (.cells #[ptr R.p, .int .i64 file, .int .i64 (base : Int), v0] 112 (0, 0))) (bp : B ≤ p)
    (ho : OwnV w3.heap.size 40 r xs w3 w4) (he : EachF w3.heap.size w4 xs ls) :
    TapW (w4.setCell ⟨p, 3, none⟩ r) B ⟨R, p, file, base, r, ls⟩ d ∧ Mv w3 (with1 R p) (w4.setCell ⟨p, 3, none⟩ r) (⟨R, p, file, base, r, ls⟩ : Tw).foot := by
  have ha := ho.added
  have hpl := (Array.getElem?_eq_some_iff.1 hp).1
  have hs := grown_set w4 p 3 r
  have hpo := tape_out s.live.mem hp odd112
  have hrb : ∀ i, r.ownBlock = some i → w3.heap.size ≤ i := fun i hi => (ho.1.lt i hi).1
  have hlow := s.live.low
  refine ⟨⟨?_, set_recs r (ha.at hp), bp, xs, ?_, ?_⟩, ?_⟩
  · refine (s.adds ha).keep hs.size fun i hi => hs.block i ((s.adds ha).live.mem.lt hi).2 fun e => ?_
    have e' : i = p := by simpa using e
    exact hpo (e' ▸ hi)
  · refine row_base (row_keep ho.1 fun i hi => hs.block i (ho.1.lt i hi).2 fun e => ?_) hlow
    have e' : i = p := by simpa using e
    have := hrb i hi
    omega
  · refine EachF.eachA (B := w3.heap.size) (he.keep fun b C hb hg => hs.block b (Array.getElem?_eq_some_iff.1 hg).1 fun e => ?_) fun b C hb hg hc => ?_
    · have e' : b = p := by simpa using e
      omega
    · rcases hc with hc | hc | hc
      · have := (s.live.mem.lt hc).2
        omega
      · have e' : b = p := hc
        omega
      · obtain ⟨C', hC'⟩ := row_block (row_keep ho.1 fun i hi => hs.block i (ho.1.lt i hi).2 fun e => by
          have e' : i = p := by simpa using e
          have := hrb i hi
          omega) hc
        rw [hg] at hC'
        simp at hC'
  · refine ⟨hs.os.trans ha.below.os, hs.tape.trans ha.below.tape, hs.output.trans ha.below.output, Nat.le_trans ha.below.size hs.size, fun i hi hn => ⟨?_, ?_⟩⟩
    · exact (hs.block i (Nat.lt_of_lt_of_le hi ha.below.size) fun e => hn (.inr (by simpa using e))).trans (ha.below.block i hi)
    · rintro (hc | hc | hc)
      · exact hn (.inl hc)
      · exact hn (.inr hc)
      · have := hrb i hc
        omega

set_option maxRecDepth 20000 in
theorem restart_tape {w : World} {B : Nat} {T : Tw} {d : Dk} {K : Kf} (h : Tap w B T d) (hK : SrtK K) (hf : filesK K = d.now) (hb : T.R.bulk ≤ 68719476736) (l : Value) (ls : List (List UInt8)) (hl : RwsA w T.core l ls) (hfit : fits ls) (hr1 : T.R.room ≤ 1000000) (hroom : segLen ls + sizeK K ≤ T.R.room) (hnext : nextK K ≤ 1048576) :
    Calls Tryz.prog 95 #[ptr T.p, l] w fun e w' => e = .returned (.int .i64 0) ∧ ∃ T', Begun w B T d K ls w' T' := by
  have kO := opened_any h
  have hln : ls.length ≤ 1000000 := by unfold segLen at hroom; omega
  have kT := tooLong_any l ls w hl.rws hln
  rw [decide_eq_true hfit] at kT
  have kB : ∀ W, Adds w W → Calls Tryz.prog 63 #[ptr T.p, l] W fun e w' => e = .returned (.int .i64 0) ∧ ∃ R', St w' B R' (d.begun K ls) ∧ R'.p = T.R.p ∧ R'.room = T.R.room ∧ R'.bulk ≤ T.R.bulk + 2 * segLen ls + 1 + 2 * (K.length + 1)
      ∧ w'.heap[T.p]? = some (.cells #[ptr T.R.p, .int .i64 (nextK K), .int .i64 (ls.length : Int), T.v] 112 (0, 0)) ∧ Mv w T.core w' (with1 R' T.p) := fun W hW => by
    refine (begin_any (h.st.adds hW) hK hf T.p T.file (T.base : Int) T.v (hW.at h.hp) hb l ls (hl.rws.adds hW) hfit (by omega) (by omega) hnext).mono ?_
    rintro e w' ⟨rfl, R', s', p', r', b', hp', m'⟩
    exact ⟨rfl, R', s', p', r', b', hp', (Mv.adds _ hW).trans m'⟩
  have kC : ∀ W R', Mv w T.core W (with1 R' T.p) → ∀ W', Adds W W' → Calls Tryz.prog 103 #[l] W' fun e w' => ∃ r xs, e = .returned r ∧ OwnV W'.heap.size 40 r xs W' w' ∧ EachF W'.heap.size w' xs ls := fun W R' m W' hW' =>
    copied_any l ls W' ((hl.mv m).rws.adds hW') hfit hln
  go_enter Tryz.func95, Tryz.ntmps95
  go_wp2_with (first
    | (go_at_call 64; refine kO.mono ?_; rintro e w1 ⟨rfl, rfl⟩)
    | (go_at_call 102; refine kT.mono ?_; rintro e w2 ⟨rfl, a2⟩)
    | (go_at_call 63; refine (kB _ a2).mono ?_; rintro e w3 ⟨rfl, R3, s3, p3, r3, b3, hp3, m3⟩; have kC3 := kC w3 R3 m3; have z3 : w3.frozen? ⟨T.p, 3, none⟩ = false := frozen_of hp3; have x3 : w3.cell? ⟨T.p, 3, none⟩ = some T.v := cell_of_row w3 T.p 3 _ _ _ hp3; have hpl : T.p < w3.heap.size := (Array.getElem?_eq_some_iff.1 hp3).1)
    | (go_at_call 103; refine (kC3 _ (Adds.refl _)).mono ?_; rintro e w4 ⟨r4, xs4, rfl, o4, e4⟩; obtain ⟨ao4, l4, c4, rfl⟩ := row_slice o4.1; have z4 : w4.frozen? ⟨T.p, 3, none⟩ = false := frozen_of (o4.added.at hp3); have x4 : w4.cell? ⟨T.p, 3, none⟩ = some T.v := cell_of_row w4 T.p 3 _ _ _ (o4.added.at hp3)))
  go_ret
  rw [← p3] at hp3
  obtain ⟨t5, m5⟩ := tapW_row s3 hp3 h.bp o4 e4
  exact ⟨rfl, _, ⟨t5, rfl, rfl, rfl, rfl, p3, r3, b3, m3.trans m5⟩⟩

end Go.Proofs.YtelkkpomehgcjaaGreat
