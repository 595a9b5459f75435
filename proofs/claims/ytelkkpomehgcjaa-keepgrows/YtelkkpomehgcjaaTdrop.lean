/-
  The method dropOthers by contract.
-/
import Derived.Test.YtelkkpomehgcjaaTmem
namespace Go.Proofs.Ytelkkpomehgcjaa
open Go.RowKit Go.Maps
attribute [local go_sem] cell?_more frozen?_more setCell_more size_more tape_more drew_more drewN_more more_drew more_drewN more_more one_out plus_out plus_end lt_one le_p2 le_p3 le_p4 le_p5 le_p6 le_p7 le_p8 le_p9 le_p10 le_p11 le_p12 le_p13 le_p14 le_p15 le_p16 le_p17 le_p18 le_p19 le_p20 le_p21 le_p22 le_p23 le_p24 le_q0 le_q1 lt_q1 le_q2 lt_q2 le_q3 lt_q3 le_q4 lt_q4 le_q5 lt_q5 le_q6 lt_q6 le_q7 lt_q7 le_q8 lt_q8 le_q9 lt_q9 le_q10 lt_q10 le_q11 lt_q11 le_q12 lt_q12 le_q13 lt_q13 le_q14 lt_q14 le_q15 lt_q15 le_q16 lt_q16 le_q17 lt_q17 le_q18 lt_q18 le_q19 lt_q19 le_q20 lt_q20 le_q21 lt_q21 le_q22 lt_q22 le_q23 lt_q23 le_q24 lt_q24

theorem keys_at {K : Kf} (hK : SrtK K) {k : Nat} (hk : k < (keysK K).length) : (∃ b, filesK K (keysK K)[k] = some b) ∧ (keysK K)[k] ∉ (keysK K).take k := by
  have hk' : k < K.length := by simpa [keysK] using hk
  have e : (keysK K)[k] = K[k].1 := by simp [keysK]
  refine ⟨⟨K[k].2, ?_⟩, ?_⟩
  · rw [e]
    exact getK_mem hK (List.getElem_mem hk')
  · intro hm
    obtain ⟨j, hj, he⟩ := List.getElem_of_mem hm
    have hjk : j < k := by
      simp at hj
      omega
    rw [List.getElem_take] at he
    have hlt := List.pairwise_iff_getElem.1 hK j k (by omega) hk' hjk
    have e2 : (keysK K)[j]'(by omega) = K[j].1 := by simp [keysK]
    rw [e2, e] at he
    omega

theorem keys_len (K : Kf) : (cellsZ (keysK K)).length = K.length := by simp [cellsZ, keysK]

theorem few_keys {w : World} {B : Nat} {R : Rw} {d : Dk} {K : Kf} (h : St w B R d) (hK : SrtK K) (hf : filesK K = d.now) : K.length ≤ 1048577 := by
  have := h.live.mem.few
  have e : K.length = R.fs.length := by
    rw [← h.kbs hK hf]
    simp [kbs]
  omega

theorem row_slice_len {w : World} {B : Nat} {e : TypeId} {n : Nat} {v : Value} {xs : List Value} (h : w.ownsRow B e 1 v n xs) : ∃ ao cap, v = .slice ao n cap ∧ n ≤ cap := by
  rcases h.2 with ⟨rfl, hn⟩ | ⟨g, cap, cur, rfl, _, _, hc, _⟩
  · exact ⟨none, 0, by rw [hn], by omega⟩
  · exact ⟨_, cap, rfl, hc⟩

theorem others_any {w : World} {B : Nat} {R : Rw} {d : Dk} {K : Kf} (h : St w B R d) (hK : SrtK K) (hf : filesK K = d.now) (p : Nat) (file base : Int) (v : Value)
    (hp : w.heap[p]? = some (.cells #[ptr R.p, .int .i64 file, .int .i64 base, v] 69 (0, 0))) (hb : R.bulk ≤ 137438953472) :
    Calls Try.prog 33 #[ptr p] w fun e w' => e = .returned (.tuple #[]) ∧ ∃ R', St w' B R' (d.others file (keysK K)) ∧ Goes w R w' R' (2 * K.length) := by
  have c0 : w.cell? ⟨p, 0, none⟩ = some (ptr R.p) := cell_of_row w p 0 _ _ _ hp
  have kF := st_files h hK hf
  have hfew := few_keys h hK hf
  have hkl : (keysK K).length = K.length := by simp [keysK]
  have hHK : Hid (SrtK K) := hK
  have hHf : Hid (filesK K = d.now) := hf
  clear hK hf
  by_cases h2 : K.length < 2
  · have HO : Hid (d.others file (keysK K) = d) := by
      show _ = _
      unfold Dk.others
      rw [if_pos (by omega)]
    go_enter Try.func33, Try.ntmps33
    go_wp2_with (go_at_call 44; refine kF.mono ?_; rintro e w1 ⟨v1, rfl, h1, a1⟩; obtain ⟨ao, cap, rfl, hcap⟩ := row_slice_len h1; rw [hkl] at h1 hcap ⊢)
    refine bodyPost_ret (results_none rfl _ _ _) rfl ?_
    exact ⟨rfl, R, by rw [HO.out]; exact h.adds a1, (Goes.adds R a1).mono (by omega)⟩
  · have HO : Hid (d.others file (keysK K) = (d.drops file (keysK K)).sync) := by
      show _ = _
      unfold Dk.others
      rw [if_neg (by omega)]
    go_enter Try.func33, Try.ntmps33
    go_wp2_with (go_at_call 44; refine kF.mono ?_; rintro e w1 ⟨v1, rfl, h1, a1⟩; obtain ⟨ao, cap, rfl, hcap⟩ := row_slice_len h1; rw [hkl] at h1 hcap ⊢)
    clear kF c0
    have HA1 : Hid (Adds w w1) := a1
    go_loopw [15] (fun i W => ∃ (k : Nat) (R' : Rw), k ≤ K.length ∧ i = .int .i64 k ∧ St W B R' (d.drops file ((keysK K).take k)) ∧ Goes w R W R' (2 * k)
      ∧ W.heap[p]? = some (.cells #[ptr R.p, .int .i64 file, .int .i64 base, v] 69 (0, 0)) ∧ W.ownsRow w.heap.size 3 1 (.slice ao K.length cap) K.length (cellsZ (keysK K))) (fun i _ => (K.length - intOf i).toNat)
    case atStart =>
      exact ⟨0, R, by omega, rfl, by simpa [Dk.drops] using h.adds a1, Goes.adds R a1, a1.at hp, h1⟩
    case round =>
      obtain ⟨k, R', hk, rfl, hst, hgo, hpw, hrow⟩ := hrel
      have c0 : wr.cell? ⟨p, 0, none⟩ = some (ptr R.p) := cell_of_row wr p 0 _ _ _ hpw
      have c1 : wr.cell? ⟨p, 1, none⟩ = some (.int .i64 file) := cell_of_row wr p 1 _ _ _ hpw
      have HS : Hid (St wr B R' (d.drops file ((keysK K).take k))) := hst
      have HG : Hid (Goes w R wr R' (2 * k)) := hgo
      have HP : Hid (wr.heap[p]? = some (.cells #[ptr R.p, .int .i64 file, .int .i64 base, v] 69 (0, 0))) := hpw
      clear hst hgo hpw
      by_cases hlt : k < K.length
      · have hlt' : k < (keysK K).length := by omega
        obtain ⟨⟨b, hkb⟩, hnin⟩ := keys_at hHK.out hlt'
        obtain ⟨g, cap', e1, _, _, hg, hc, _⟩ := row_at (xs := cellsZ (keysK K)) (B := w.heap.size) (e := 3) (v := .slice ao K.length cap) (w := wr) (by rw [keys_len]; exact hrow) (j := k) (by rw [keys_len]; exact hlt)
        simp only [Value.slice.injEq] at e1
        obtain ⟨rfl, x1, x2⟩ := e1
        clear x1 x2
        have ec : (cellsZ (keysK K))[k]'(by rw [keys_len]; exact hlt) = .int .i64 (keysK K)[k] := by simp [cellsZ]
        rw [ec] at hc
        have hnext := drops_next d file hlt'
        have hnow : (d.drops file ((keysK K).take k)).now (keysK K)[k] = some b := by
          rw [drops_now, if_neg (fun hh => hnin hh.1), ← hHf.out]
          exact hkb
        have HN : Hid _ := hnext
        have kD := st_drop HS.out (keysK K)[k] b hnow (by have := HG.out.bulk; omega)
        rw [HG.out.p] at kD
        have HR : Hid (wr.ownsRow w.heap.size 3 1 (.slice (some ⟨g, 0, none⟩) K.length cap) K.length (cellsZ (keysK K))) := hrow
        clear hnext hnow hnin hkb ec hrow
        by_cases hE : (keysK K)[k] = file
        · rw [hE] at hc
          have HN2 : Hid (d.drops file ((keysK K).take (k + 1)) = d.drops file ((keysK K).take k)) := by
            show _ = _
            rw [HN.out, if_pos hE]
          clear HN kD hE
          go_wp2
          go_roundw
          case rel => exact ⟨k + 1, R', by omega, by go_num, by rw [HN2.out]; exact HS.out, HG.out.mono (by omega), HP.out, HR.out⟩
          case measure => simp [intOf]; omega
        · have HN2 : Hid (d.drops file ((keysK K).take (k + 1)) = (d.drops file ((keysK K).take k)).drop (keysK K)[k]) := by
            show _ = _
            rw [HN.out, if_neg hE]
          have hne : ((keysK K)[k] != file) = true := by simpa using hE
          clear HN
          generalize (keysK K)[k] = z at *
          go_wp2_with (go_at_call 47; refine kD.mono ?_; rintro e w3 ⟨rfl, R3, s3, g3⟩)
          go_roundw
          case rel =>
            refine ⟨k + 1, R3, by omega, by go_num, by rw [HN2.out]; exact s3, (HG.out.trans g3).mono (by omega), ?_, ?_⟩
            · exact (g3.moves.block p (Array.getElem?_eq_some_iff.1 HP.out).1 (tape_out HS.out.live.mem HP.out odd69)).1.trans HP.out
            · exact row_moves HS.out.live.mem g3.moves odd3 HR.out
          case measure => simp [intOf]; omega
      · obtain rfl : k = K.length := by omega
        have kS := st_sync HS.out
        rw [HG.out.p] at kS
        have HN : Hid (d.drops file ((keysK K).take K.length) = d.drops file (keysK K)) := by
          show _ = _
          rw [← hkl, List.take_length]
        go_wp2_with (go_at_call 51; refine kS.mono ?_; rintro e w3 ⟨rfl, R3, s3, g3⟩)
        go_end0
        refine ⟨rfl, R3, ?_, (HG.out.trans g3).mono (by omega)⟩
        rw [HO.out, ← HN.out]
        exact s3

end Go.Proofs.Ytelkkpomehgcjaa
