/-
  The functions strange and Open of the keep by contracts, where there is room.
-/
import Derived.Test.YtelkkpomehgcjaaGreatKtwin
import Derived.Test.YtelkkpomehgcjaaGreatKweigh
import Derived.Test.YtelkkpomehgcjaaGreatVfull
namespace Go.Proofs.YtelkkpomehgcjaaGreat
open Go.RowKit Go.Maps
attribute [local go_sem] cell?_more frozen?_more setCell_more size_more tape_more drew_more drewN_more more_drew more_drewN more_more one_out plus_out plus_end lt_one le_p2 le_p3 le_p4 le_p5 le_p6 le_p7 le_p8 le_p9 le_p10 le_p11 le_p12 le_p13 le_p14 le_p15 le_p16 le_p17 le_p18 le_p19 le_p20 le_p21 le_p22 le_p23 le_p24 le_q0 le_q1 lt_q1 le_q2 lt_q2 le_q3 lt_q3 le_q4 lt_q4 le_q5 lt_q5 le_q6 lt_q6 le_q7 lt_q7 le_q8 lt_q8 le_q9 lt_q9 le_q10 lt_q10 le_q11 lt_q11 le_q12 lt_q12 le_q13 lt_q13 le_q14 lt_q14 le_q15 lt_q15 le_q16 lt_q16 le_q17 lt_q17 le_q18 lt_q18 le_q19 lt_q19 le_q20 lt_q20 le_q21 lt_q21 le_q22 lt_q22 le_q23 lt_q23 le_q24 lt_q24

theorem recsK_some {K : Kf} : fits (recsK K) ∧ (recsK K).length ≤ sizeK K := by
  unfold recsK
  cases h : newK K with
  | none => exact ⟨fun x hx => (by simp at hx), Nat.zero_le _⟩
  | some s =>
    obtain ⟨a, b, ls, c⟩ := s
    refine ⟨newK_fits h, ?_⟩
    have := (newK_weight h).1
    unfold segLen at this
    show ls.length ≤ _
    have e : (a, b, ls, c).2.2.1 = ls := rfl
    rw [e] at this
    omega

/-- The records of a reel are all known. -/
def sane (K : Kf) : Bool := (recsK K).all knownK

set_option maxRecDepth 20000 in
theorem strange_any {w : World} {B : Nat} {R : Rw} {d : Dk} {K : Kf} (h : St w B R d) (hK : SrtK K) (hf : filesK K = d.now) (hb : R.bulk ≤ 34359738368) (hr : R.room ≤ 1000000) (hsz : sizeK K ≤ R.room) (hroom : roomy R.room K) :
    Calls Tryz.prog 28 #[ptr R.p] w fun e w' => e = .returned (.bool (!sane K)) ∧ Adds w w' := by
  have kT := twin_any h hK hf hb hr hsz
  obtain ⟨hfit, hlen⟩ := recsK_some (K := K)
  have kO : ∀ w1 R1 B1, w.heap.size ≤ B1 → St w1 B1 R1 (twinD K) → R1.room = R.room → R1.bulk ≤ 10000000 → Adds w w1 → Calls Tryz.prog 29 #[ptr R1.p] w1 fun e w' => ∃ T d', e = .returned (.tuple #[ptr T.p, .int .i64 0]) ∧ Tap w' B1 T d' ∧ T.ls = recsK K ∧ Adds w w' := fun w1 R1 B1 hB hs hr1 hb1 ha => by
    have hn : filesK K = (twinD K).now := by
      have := twinD_now hK K.length (Nat.le_refl _)
      rw [List.take_length] at this
      exact this.symm
    refine (open_any hs hK hn (by omega) (by omega) (by omega) (by rw [hr1]; exact hroom)).mono ?_
    rintro e w' ⟨T, rfl, o⟩
    exact ⟨T, _, rfl, o.tap, by rw [o.ls, opened_recs], adds_mv ha o.mv fun i hi => Nat.le_trans hB (hs.live.mem.lt hi).1⟩
  have hL : (recsK K).length ≤ 1000000 := by omega
  unfold sane
  clear h hK hf hb hr hsz hroom hlen
  generalize recsK K = ls at *
  go_enter Tryz.func28, Tryz.ntmps28
  go_wp2_with (first
    | (go_at_call 58; refine kT.mono ?_; rintro e w1 ⟨R1, B1, rfl, x1, x2, x3, x4, x5⟩; have k1 := kO w1 R1 B1 x1 x2 x3 x4 x5; clear x1 x2 x3 x4 x5)
    | (go_at_call 29; refine k1.mono ?_; rintro e w2 ⟨T, d2, rfl, t2, l2, a2⟩; have k2 := len_any t2; rw [l2] at k2; have HL2 : Hid (T.ls = ls) := l2; clear l2)
    | (go_at_call 30; refine k2.mono ?_; rintro e w3 ⟨rfl, hw3⟩; subst hw3))
  clear kT kO k1 k2
  have HT : Hid _ := t2
  have HA2 : Hid (Adds w w3) := a2
  clear t2 a2
  go_loopw [18] (fun i W => ∃ k : Nat, k ≤ ls.length ∧ i = .int .i64 k ∧ Adds w3 W ∧ (ls.take k).all knownK = true) (fun i _ => (ls.length - intOf i).toNat)
  case atStart => exact ⟨0, by omega, rfl, Adds.refl _, rfl⟩
  case round =>
    obtain ⟨k, hk, rfl, hA, hall⟩ := hrel
    by_cases hlt : k < ls.length
    · have kG : Calls Tryz.prog 31 #[ptr T.p, .int .i64 (k : Int)] wr fun e w' => ∃ r, e = .returned (.tuple #[r, .bool true]) ∧ Byt w' r ls[k] ∧ Adds wr w' := by
        have e1 : T.ls = ls := HL2.out
        subst e1
        refine (get_any (HT.out.adds hA) hlt (by have := hfit _ (List.getElem_mem hlt); omega)).mono ?_
        rintro e w' ⟨r, rfl, h1, h2⟩
        exact ⟨r, rfl, row_byt h1, h2⟩
      have kK : ∀ W x, Byt W x ls[k] → Calls Tryz.prog 59 #[x] W fun e w' => e = .returned (.bool (knownK ls[k])) ∧ w' = W := fun W x hx => known_any x _ W hx (by have := hfit _ (List.getElem_mem hlt); omega)
      have HN : Hid ((ls.take (k + 1)).all knownK = knownK ls[k]) := by
        show _ = _
        rw [List.take_succ_eq_append_getElem hlt, List.all_append, hall]
        simp
      have i2 : (k : Int) < (ls.length : Int) := by omega
      by_cases hkn : knownK ls[k] = true
      · rw [hkn] at kK
        have HN2 : Hid ((ls.take (k + 1)).all knownK = true) := by
          show _ = _
          rw [HN.out, hkn]
        clear hkn HN hall
        go_wp2_with (first
          | (go_at_call 31; refine kG.mono ?_; rintro e w4 ⟨r4, rfl, b4, a4⟩)
          | (go_at_call 59; refine (kK _ _ b4).mono ?_; rintro e w5 ⟨rfl, hw5⟩; subst hw5))
        go_roundw
        case rel => exact ⟨k + 1, by omega, by go_num, hA.trans a4, HN2.out⟩
        case measure => simp [intOf]; omega
      · have hkf : knownK ls[k] = false := by simpa using hkn
        rw [hkf] at kK
        have HN2 : Hid (ls.all knownK = false) := by
          show _ = _
          rw [List.all_eq_false]
          exact ⟨ls[k], List.getElem_mem hlt, by simp [hkf]⟩
        clear hkn hkf HN hall
        go_wp2_with (first
          | (go_at_call 31; refine kG.mono ?_; rintro e w4 ⟨r4, rfl, b4, a4⟩)
          | (go_at_call 59; refine (kK _ _ b4).mono ?_; rintro e w5 ⟨rfl, hw5⟩; subst hw5))
        go_ret
        exact ⟨by rw [HN2.out]; rfl, HA2.out.trans (hA.trans a4)⟩
    · obtain rfl : k = ls.length := by omega
      rw [List.take_length] at hall
      have HN2 : Hid (ls.all knownK = true) := hall
      clear hall
      go_wp2
      go_ret
      exact ⟨by rw [HN2.out]; rfl, HA2.out.trans hA⟩

/-- What an Open leaves: the tape as layer 7's Open leaves it, and a keep in new blocks. -/
structure OpenedK (w : World) (B : Nat) (R : Rw) (d : Dk) (L : Kf) (w' : World) (T : Tw) (K : Kw) (s0 : Nat) : Prop where
  tape : ∃ w2, Opened w B R d L w2 T ∧ Adds w2 w' ∧ w2.heap.size = s0
  ke : Ke w' s0 (fun i => i < s0) K
  tp : K.tp = T.p
  st : (K.es, K.nt) = foldT (recsK L)

theorem ke_new {w2 w3 : World} {tp : Nat} (h : w3.heap[w2.heap.size]? = some (.cells #[ptr tp, .slice none 0 0, .slice none 0 0] 78 (0, 0))) :
    Ke w3 w2.heap.size (fun i => i < w2.heap.size) ⟨w2.heap.size, tp, .slice none 0 0, .slice none 0 0, [], []⟩ := by
  refine ⟨h, Nat.le_refl _, ⟨none, 0, rfl, Nat.le_refl _, .inl rfl⟩, ⟨[], World.ownsRow_nil _ _ _ _, eachA_nil _ _⟩, fun hc => Nat.lt_irrefl _ hc, fun i hi => ?_⟩
  cases hi

set_option maxRecDepth 20000 in
theorem openK_any {w : World} {B : Nat} {R : Rw} {d : Dk} {L : Kf} (h : St w B R d) (hK : SrtK L) (hf : filesK L = d.now) (hb : R.bulk ≤ 34359738368) (hr : R.room ≤ 1000000) (hsz : sizeK L ≤ R.room) (hroom : roomy R.room L) (hsane : sane L = true) :
    Calls Tryz.prog 9 #[ptr R.p] w fun e w' => ∃ K T s0, e = .returned (.tuple #[ptr K.p, .int .i64 0]) ∧ OpenedK w B R d L w' T K s0 := by
  have kS := strange_any h hK hf hb hr hsz hroom
  rw [hsane] at kS
  obtain ⟨hfit, hlen⟩ := recsK_some (K := L)
  have kO : ∀ w1, Adds w w1 → Calls Tryz.prog 29 #[ptr R.p] w1 fun e w' => ∃ T, e = .returned (.tuple #[ptr T.p, .int .i64 0]) ∧ Opened w B R d L w' T := fun w1 ha => by
    refine (open_any (h.adds ha) hK hf (by omega) (by omega) (by omega) hroom).mono ?_
    rintro e w' ⟨T, rfl, o⟩
    exact ⟨T, rfl, ⟨o.tap, o.file, o.base, o.ls, o.p, o.room, o.bulk, (Mv.adds _ ha).trans o.mv, Nat.le_trans ha.below.size o.new, o.nil⟩⟩
  have hL : (recsK L).length ≤ 1000000 := by omega
  have hkn : ∀ x ∈ recsK L, knownK x = true := by
    unfold sane at hsane
    exact List.all_eq_true.1 hsane
  have HR : Hid (recsK L = recsK L) := rfl
  clear h hK hf hb hr hsz hroom hlen hsane
  obtain ⟨ls, hls⟩ : ∃ ls, ls = recsK L := ⟨_, rfl⟩
  rw [← hls] at hL hkn hfit
  have HLS : Hid (ls = recsK L) := hls
  clear hls HR
  go_enter Tryz.func9, Tryz.ntmps9
  go_wp2_with (first
    | (go_at_call 28; refine kS.mono ?_; rintro e w1 ⟨rfl, a1⟩)
    | (go_at_call 29; refine (kO _ a1).mono ?_; rintro e w2 ⟨T, rfl, o2⟩; have l2 : T.ls = ls := (by rw [o2.ls, opened_recs, HLS.out]); have k2 : ∀ W, Adds w2 W → Calls Tryz.prog 30 #[ptr T.p] W fun e w' => e = .returned (.int .i64 (ls.length : Int)) ∧ w' = W := (fun W hW => by have k := len_any (o2.tap.adds hW); rw [l2] at k; exact k); have HL2 : Hid (T.ls = ls) := l2; have HO2 : Hid (Opened w B R d L w2 T) := o2; clear l2 o2)
    | (go_at_call 30; refine (k2 _ (by repeat (first | with_reducible exact Adds.refl _ | with_reducible refine Adds.alloc ?_ _ | with_reducible refine Adds.more ?_ _ _ | with_reducible refine Adds.drew ?_ | with_reducible refine Adds.drewN ?_ _))).mono ?_; rintro e w3 ⟨rfl, hw3⟩; subst hw3))
  have HK0 : Hid (Ke (w2.alloc (.cells #[ptr T.p, .slice none 0 0, .slice none 0 0] 78)) w2.heap.size (fun i => i < w2.heap.size) ⟨w2.heap.size, T.p, .slice none 0 0, .slice none 0 0, [], []⟩) := ke_new (new_block w2 _)
  have HA0 : Hid (Adds w2 (w2.alloc (.cells #[ptr T.p, .slice none 0 0, .slice none 0 0] 78))) := (Adds.refl _).alloc _
  clear kS kO k2 a1
  go_loopw [25] (fun i W => ∃ (k : Nat) (K : Kw), k ≤ ls.length ∧ i = .int .i64 k ∧ Adds w2 W ∧ Ke W w2.heap.size (fun i => i < w2.heap.size) K ∧ K.p = w2.heap.size ∧ K.tp = T.p ∧ (K.es, K.nt) = foldT (ls.take k)) (fun i _ => (ls.length - intOf i).toNat)
  case atStart => exact ⟨0, _, by omega, rfl, HA0.out, HK0.out, rfl, rfl, rfl⟩
  case round =>
    obtain ⟨k, K, hk, rfl, hA, hKe, hp, htp, hst⟩ := hrel
    by_cases hlt : k < ls.length
    · have kG : Calls Tryz.prog 31 #[ptr T.p, .int .i64 (k : Int)] wr fun e w' => ∃ r, e = .returned (.tuple #[r, .bool true]) ∧ BytA w' (fun i => i < w2.heap.size) r ls[k] ∧ Adds wr w' := by
        have e1 : T.ls = ls := HL2.out
        subst e1
        refine (get_any ((HO2.out.tap).adds hA) hlt (by have := hfit _ (List.getElem_mem hlt); omega)).mono ?_
        rintro e w' ⟨r, rfl, h1, h2⟩
        refine ⟨r, rfl, (fr_row h1).bytA fun b C hb _ hc => ?_, h2⟩
        have := hA.below.size
        omega
      have hel : K.es.length ≤ 1000000 := by
        have h1 := foldT_length (ls.take k)
        rw [← hst] at h1
        simp at h1
        show K.es.length ≤ _
        omega
      have kT : ∀ W x, Adds wr W → BytA W (fun i => i < w2.heap.size) x ls[k] → Calls Tryz.prog 32 #[ptr w2.heap.size, x] W fun e w' => e = .returned (.tuple #[]) ∧ ∃ K', Adds w2 w' ∧ Ke w' w2.heap.size (fun i => i < w2.heap.size) K' ∧ K'.p = w2.heap.size ∧ K'.tp = T.p ∧ (K'.es, K'.nt) = foldT (ls.take (k + 1)) := fun W x hW hx => by
        have hle : w2.heap.size ≤ W.heap.size := Nat.le_trans hA.below.size hW.below.size
        have kk := turnK_any (hKe.adds hW) (fun i hi => Nat.lt_of_lt_of_le hi hle) x ls[k] hx (hkn _ (List.getElem_mem hlt)) hel
        rw [hp] at kk
        refine kk.mono ?_
        rintro e w' ⟨rfl, K', t⟩
        refine ⟨rfl, K', adds_mv (hA.trans hW) t.mv fun i hi => ((hKe.adds hW).low i hi).1, t.ke, t.p.trans hp, t.tp.trans htp, ?_⟩
        rw [t.st, foldT_take hlt, ← hst]
      have i2 : (k : Int) < (ls.length : Int) := by omega
      clear hKe hp htp hst hel
      go_wp2_with (first
        | (go_at_call 31; refine kG.mono ?_; rintro e w4 ⟨r4, rfl, b4, a4⟩)
        | (go_at_call 32; refine (kT _ _ a4 b4).mono ?_; rintro e w5 ⟨rfl, K5, y1, y2, y3, y4, y5⟩))
      go_roundw
      case rel => exact ⟨k + 1, K5, by omega, by go_num, y1, y2, y3, y4, y5⟩
      case measure => simp [intOf]; omega
    · obtain rfl : k = ls.length := by omega
      rw [List.take_length, HLS.out] at hst
      have HE : Hid (∃ K T s0, (Ending.returned (.tuple #[ptr w2.heap.size, .int .i64 0]) = .returned (.tuple #[ptr K.p, .int .i64 0])) ∧ OpenedK w B R d L wr T K s0) := ⟨K, T, w2.heap.size, by rw [hp], ⟨w2, HO2.out, hA, rfl⟩, hKe, htp, hst⟩
      clear hKe hp htp hst
      go_wp2
      go_ret2
      exact HE.out

end Go.Proofs.YtelkkpomehgcjaaGreat
