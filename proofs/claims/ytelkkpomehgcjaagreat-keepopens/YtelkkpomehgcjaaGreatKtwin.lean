/-
  The function twin of the keep by contract: a reel with the files of another.
-/
import Derived.Test.YtelkkpomehgcjaaGreatKturn
import Derived.Test.YtelkkpomehgcjaaGreatTbase
namespace Go.Proofs.YtelkkpomehgcjaaGreat
open Go.RowKit Go.Maps
attribute [local go_sem] cell?_more frozen?_more setCell_more size_more tape_more drew_more drewN_more more_drew more_drewN more_more one_out plus_out plus_end lt_one le_p2 le_p3 le_p4 le_p5 le_p6 le_p7 le_p8 le_p9 le_p10 le_p11 le_p12 le_p13 le_p14 le_p15 le_p16 le_p17 le_p18 le_p19 le_p20 le_p21 le_p22 le_p23 le_p24 le_q0 le_q1 lt_q1 le_q2 lt_q2 le_q3 lt_q3 le_q4 lt_q4 le_q5 lt_q5 le_q6 lt_q6 le_q7 lt_q7 le_q8 lt_q8 le_q9 lt_q9 le_q10 lt_q10 le_q11 lt_q11 le_q12 lt_q12 le_q13 lt_q13 le_q14 lt_q14 le_q15 lt_q15 le_q16 lt_q16 le_q17 lt_q17 le_q18 lt_q18 le_q19 lt_q19 le_q20 lt_q20 le_q21 lt_q21 le_q22 lt_q22 le_q23 lt_q23 le_q24 lt_q24

theorem sizeK_take {K : Kf} {k : Nat} (hk : k < K.length) : sizeK (K.take (k + 1)) = sizeK (K.take k) + K[k].2.length := by
  unfold sizeK
  rw [List.take_succ_eq_append_getElem hk, List.map_append, List.sum_append]
  simp

theorem sizeK_le {K : Kf} (k : Nat) : sizeK (K.take k) ≤ sizeK K := by
  have : sizeK K = sizeK (K.take k) + sizeK (K.drop k) := by
    unfold sizeK
    rw [← List.sum_append, ← List.map_append, List.take_append_drop]
  omega

/-- The twin's disk. -/
def twinD (K : Kf) : Dk := K.foldl (fun d p => d.app p.1 p.2) (calm [] 0)

theorem twinD_snoc (K : Kf) (p : Int × List UInt8) : twinD (K ++ [p]) = (twinD K).app p.1 p.2 := by simp [twinD]

theorem twinD_take {K : Kf} {k : Nat} (hk : k < K.length) : twinD (K.take (k + 1)) = (twinD (K.take k)).app K[k].1 K[k].2 := by
  rw [List.take_succ_eq_append_getElem hk, twinD_snoc]

theorem srt_take {K : Kf} (hK : SrtK K) (k : Nat) : SrtK (K.take k) := List.Pairwise.sublist (List.take_sublist k K) hK

theorem twinD_now {K : Kf} (hK : SrtK K) : ∀ k, k ≤ K.length → (twinD (K.take k)).now = filesK (K.take k)
  | 0, _ => rfl
  | k + 1, hk => by
    have hk' : k < K.length := hk
    have hn : K[k].1 ∉ keysK (K.take k) := by
      have h := (keys_at hK (k := k) (by simpa [keysK] using hk')).2
      have e1 : (keysK K)[k]'(by simpa [keysK] using hk') = K[k].1 := by simp [keysK]
      have e2 : (keysK K).take k = keysK (K.take k) := by simp [keysK]
      rw [e1, e2] at h
      exact h
    have h0 := getK_none_of hn
    rw [twinD_take hk', app_now, twinD_now hK k (by omega)]
    have e0 : filesK (K.take k) K[k].1 = none := h0
    rw [e0]
    funext j
    rw [List.take_succ_eq_append_getElem hk']
    show _ = getK j _
    rw [getK_append, getK_cons]
    unfold Fs.set
    by_cases e : j = K[k].1
    · subst e
      simp [h0]
    · rw [if_neg e, if_neg (fun x => e x.symm)]
      show getK j (K.take k) = _
      cases getK j (K.take k) <;> rfl

theorem free_twin (K : Kf) : Free (twinD K) 0 := by
  unfold twinD
  have : ∀ d : Dk, Free d 0 → Free (K.foldl (fun d p => d.app p.1 p.2) d) 0 := by
    induction K with
    | nil => exact fun d h => h
    | cons p r ih => exact fun d h => ih _ (h.app p.1 p.2)
  exact this _ (free_calm [] 0)

theorem row_below {w w' : World} {B : Nat} {e : TypeId} {k n : Nat} {v : Value} {xs : List Value} (h : w.ownsRow B e k v n xs) {F F' : Nat → Prop} (m : Mv w F w' F') (hF : ∀ i, v.ownBlock = some i → ¬ F i) : w'.ownsRow B e k v n xs :=
  row_keep h fun i hi => (m.block i (h.lt i hi).2 (hF i hi)).1

set_option maxRecDepth 20000 in
theorem twin_any {w : World} {B : Nat} {R : Rw} {d : Dk} {K : Kf} (h : St w B R d) (hK : SrtK K) (hf : filesK K = d.now) (hb : R.bulk ≤ 34359738368) (hr : R.room ≤ 1000000) (hsz : sizeK K ≤ R.room) :
    Calls Tryz.prog 58 #[ptr R.p] w fun e w' => ∃ R' B', e = .returned (ptr R'.p) ∧ w.heap.size ≤ B' ∧ St w' B' R' (twinD K) ∧ R'.room = R.room ∧ R'.bulk ≤ 10000000 ∧ Adds w w' := by
  have kL := st_left h hK hf (by omega)
  have kF : ∀ W, Adds w W → _ := fun W hW => st_files (h.adds hW) hK hf
  have hkl : (keysK K).length = K.length := by simp [keysK]
  have hfew := few_keys h hK hf
  have hrng := h.range hK hf
  have hHK : Hid (SrtK K) := hK
  have hHf : Hid (filesK K = d.now) := hf
  have kR : ∀ W k (hk : k < K.length), Adds w W → Calls Tryz.prog 80 #[ptr R.p, .int .i64 (keysK K)[k]] W fun e w' => ∃ ao c, e = .returned (.tuple #[.slice ao K[k].2.length c, .bool true]) ∧ Byt w' (.slice ao K[k].2.length c) K[k].2 ∧ Adds W w' := fun W k hk hW => by
    have e1 : (keysK K)[k] = K[k].1 := by simp [keysK]
    have hg : d.now (keysK K)[k] = some K[k].2 := by
      rw [e1, ← hf]
      exact getK_mem hK (List.getElem_mem hk)
    refine (st_read (h.adds hW) _ _ hg (by omega)).mono ?_
    rintro e w' ⟨r, rfl, h1, h2⟩
    obtain ⟨ao, c, rfl, _⟩ := row_slice_len h1
    exact ⟨ao, c, rfl, row_byt h1, h2⟩
  clear hK hf h
  go_enter Tryz.func58, Tryz.ntmps58
  go_wp2_with (first
    | (go_at_call 52; refine kL.mono ?_; rintro e w1 ⟨rfl, a1⟩)
    | (go_at_call 79; refine (kF _ a1).mono ?_; rintro e w2 ⟨v2, rfl, h2, a2⟩; obtain ⟨ao, cap, rfl, hcap⟩ := row_slice_len h2; rw [hkl] at h2 hcap ⊢))
  have HA2 : Hid (Adds w w2) := a1.trans a2
  have h2' : w2.ownsRow w.heap.size 3 1 (.slice ao K.length cap) K.length (cellsZ (keysK K)) := row_mono h2 a1.below.size
  clear kL a1 a2 h2
  go_loopw [3, 19] (fun r i W => ∃ k : Nat, k ≤ K.length ∧ i = .int .i64 k ∧ r = .int .i64 ((R.room : Int) - (sizeK K : Int) + (sizeK (K.take k) : Int)) ∧ Adds w W
      ∧ W.ownsRow w.heap.size 3 1 (.slice ao K.length cap) K.length (cellsZ (keysK K))) (fun _ i _ => (K.length - intOf i).toNat)
  case atStart => exact ⟨0, by omega, rfl, by simp [sizeK], HA2.out, h2'⟩
  case round =>
    obtain ⟨k, hk, rfl, rfl, hA, hrow⟩ := hrel
    by_cases hlt : k < K.length
    · have hlt' : k < (keysK K).length := by omega
      obtain ⟨g, cap', e1, _, _, hg, hc, _⟩ := row_at (xs := cellsZ (keysK K)) (B := w.heap.size) (e := 3) (v := .slice ao K.length cap) (w := wr) (by rw [keys_len]; exact hrow) (j := k) (by rw [keys_len]; exact hlt)
      simp only [Value.slice.injEq] at e1
      obtain ⟨rfl, x1, x2⟩ := e1
      clear x1 x2
      have ec : (cellsZ (keysK K))[k]'(by rw [keys_len]; exact hlt) = .int .i64 (keysK K)[k] := by simp [cellsZ]
      rw [ec] at hc
      have k1 := kR wr k hlt hA
      have HZ : Hid (sizeK (K.take (k + 1)) = sizeK (K.take k) + K[k].2.length) := sizeK_take hlt
      have hz1 := sizeK_le (K := K) (k + 1)
      have hz2 := HZ.out
      have HR : Hid (wr.ownsRow w.heap.size 3 1 (.slice (some ⟨g, 0, none⟩) K.length cap) K.length (cellsZ (keysK K))) := hrow
      have i1 : IntKind.i64.wrap ((R.room : Int) - (sizeK K : Int) + (sizeK (K.take k) : Int) + (K[k].2.length : Int)) = (R.room : Int) - (sizeK K : Int) + (sizeK (K.take k) : Int) + (K[k].2.length : Int) := by rw [IntKind.wrap_i64]; omega
      have HN : Hid ((R.room : Int) - (sizeK K : Int) + (sizeK (K.take k) : Int) + (K[k].2.length : Int) = (R.room : Int) - (sizeK K : Int) + (sizeK (K.take (k + 1)) : Int)) := by
        show _ = _
        omega
      clear hrow ec hz1 hz2 HZ
      generalize (keysK K)[k] = z at *
      generalize (R.room : Int) - (sizeK K : Int) + (sizeK (K.take k) : Int) = s at *
      generalize K[k].2.length = n at *
      go_wp2_with (go_at_call 80; refine k1.mono ?_; rintro e w3 ⟨ao3, c3, rfl, b3, a3⟩)
      go_roundw
      case rel => exact ⟨k + 1, by omega, by go_num, by rw [← HN.out], hA.trans a3, row_adds HR.out a3⟩
      case measure => simp [intOf]; omega
    · obtain rfl : k = K.length := by omega
      have hS : (R.room : Int) - (sizeK K : Int) + (sizeK (K.take K.length) : Int) = (R.room : Int) := by
        rw [List.take_length]
        omega
      rw [hS]
      clear hS
      have kN := st_new R.room (by omega) wr
      go_wp2_with (first
        | (go_at_call 6; refine kN.mono ?_; rintro e w3 ⟨rfl, R3, p3, s3, r3, b3, a3⟩)
        | (go_at_call 79; refine (kF _ (hA.trans a3)).mono ?_; rintro e w4 ⟨v4, rfl, h4, a4⟩; obtain ⟨ao4, cap4, rfl, hcap4⟩ := row_slice_len h4; rw [hkl] at h4 hcap4 ⊢))
      have HA4 : Hid (Adds w w4) := (hA.trans a3).trans a4
      have hlow : w.heap.size ≤ wr.heap.size := hA.below.size
      have h4' := row_mono h4 (Nat.le_trans hlow a3.below.size)
      have HS4 : Hid (St w4 wr.heap.size R3 (calm [] 0)) := s3.adds a4
      clear kN kF s3 a3 a4 hA h4 hrow
      generalize wr.heap.size = s0 at *
      go_loopw [42] (fun i W => ∃ (k : Nat) (R2 : Rw), k ≤ K.length ∧ i = .int .i64 k ∧ Adds w W ∧ W.ownsRow w.heap.size 3 1 (.slice ao4 K.length cap4) K.length (cellsZ (keysK K))
          ∧ St W s0 R2 (twinD (K.take k)) ∧ R2.p = s0 + 1 ∧ R2.room = R.room ∧ R2.bulk ≤ 2 * sizeK (K.take k) + k) (fun i _ => (K.length - intOf i).toNat)
      case atStart => exact ⟨0, R3, by omega, rfl, HA4.out, h4', HS4.out, p3, r3, by rw [b3]; omega⟩
      case round =>
        obtain ⟨k, R2, hk, rfl, hA, hrow, hst, hp2, hr2, hb2⟩ := hrel
        by_cases hlt : k < K.length
        · have hlt' : k < (keysK K).length := by omega
          obtain ⟨g, cap', e1, _, _, hg, hc, _⟩ := row_at (xs := cellsZ (keysK K)) (B := w.heap.size) (e := 3) (v := .slice ao4 K.length cap4) (w := wr) (by rw [keys_len]; exact hrow) (j := k) (by rw [keys_len]; exact hlt)
          simp only [Value.slice.injEq] at e1
          obtain ⟨rfl, x1, x2⟩ := e1
          clear x1 x2
          have ec : (cellsZ (keysK K))[k]'(by rw [keys_len]; exact hlt) = .int .i64 (keysK K)[k] := by simp [cellsZ]
          rw [ec] at hc
          have k1 := kR wr k hlt hA
          have hz0 := sizeK_take hlt
          have hz1 := sizeK_le (K := K) (k + 1)
          have e1 : (keysK K)[k] = K[k].1 := by simp [keysK]
          have hrg := hrng _ (List.getElem_mem hlt')
          have kP : ∀ w5 x, Adds wr w5 → Byt w5 x K[k].2 → Calls Tryz.prog 22 #[ptr (s0 + 1), .int .i64 (keysK K)[k], x] w5 fun e w' => e = .returned (.int .i64 0) ∧ ∃ R', Adds w w' ∧ w'.ownsRow w.heap.size 3 1 (.slice (some ⟨g, 0, none⟩) K.length cap4) K.length (cellsZ (keysK K)) ∧ St w' s0 R' (twinD (K.take (k + 1))) ∧ R'.p = s0 + 1 ∧ R'.room = R.room ∧ R'.bulk ≤ 2 * sizeK (K.take (k + 1)) + (k + 1) := fun w5 x h5 hx => by
            have kk := st_append (hst.adds h5) (keysK K)[k] hrg x K[k].2 hx (by rw [(hst.adds h5).total (srt_take hHK.out k) (twinD_now hHK.out k hk).symm, hr2]; omega) (by omega)
            rw [hp2] at kk
            refine kk.mono ?_
            rintro e w' ⟨rfl, R', s', g'⟩
            refine ⟨rfl, R', adds_mv (hA.trans h5) g'.moves.mv fun i hi => Nat.le_trans hlow (((hst.adds h5).live.mem.lt hi).1), row_moves (hst.adds h5).live.mem g'.moves odd3 (row_adds hrow h5), ?_, g'.p.trans hp2, g'.room.trans hr2, ?_⟩
            · rw [twinD_take hlt, ← e1]
              exact s'
            · have := g'.bulk
              omega
          clear hrow ec hz0 hz1 e1 hrg hst hb2 hr2 hp2
          generalize (keysK K)[k] = z at *
          go_wp2_with (first
            | (go_at_call 80; refine k1.mono ?_; rintro e w5 ⟨ao5, c5, rfl, b5, a5⟩)
            | (go_at_call 22; refine (kP _ _ a5 b5).mono ?_; rintro e w6 ⟨rfl, R6, y1, y2, y3, y4, y5, y6⟩))
          go_roundw
          case rel => exact ⟨k + 1, R6, by omega, by go_num, y1, y2, y3, y4, y5, y6⟩
          case measure => simp [intOf]; omega
        · obtain rfl : k = K.length := by omega
          rw [List.take_length] at hst hb2
          clear kR
          go_wp2
          go_ret
          exact ⟨R2, s0, by rw [hp2]; rfl, hlow, hst, hr2, by omega, hA⟩

end Go.Proofs.YtelkkpomehgcjaaGreat
