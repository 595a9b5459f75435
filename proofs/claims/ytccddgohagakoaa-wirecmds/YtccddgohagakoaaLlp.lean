/-
  The checker of package cell: look of any tree whose numbers may be too great; the functions Check and Encode, by contracts.
-/
import Derived.Test.YtccddgohagakoaaLlo
namespace Go.Proofs.Ytccddgohagakoaa
open Go.RowKit
attribute [local go_sem] cell?_more frozen?_more setCell_more size_more tape_more drew_more drewN_more more_drew more_drewN one_out plus_out plus_end lt_one le_p2 le_p3 le_p4 le_p5 le_p6 le_p7 le_p8 le_p9 le_p10 le_p11 le_p12 le_p13 le_p14 le_p15 le_p16 le_p17 le_p18 le_p19 le_p20 le_p21 le_p22 le_p23 le_p24 le_q0 le_q1 lt_q1 le_q2 lt_q2 le_q3 lt_q3 le_q4 lt_q4 le_q5 lt_q5 le_q6 lt_q6 le_q7 lt_q7 le_q8 lt_q8 le_q9 lt_q9 le_q10 lt_q10 le_q11 lt_q11 le_q12 lt_q12 le_q13 lt_q13 le_q14 lt_q14 le_q15 lt_q15 le_q16 lt_q16 le_q17 lt_q17 le_q18 lt_q18 le_q19 lt_q19 le_q20 lt_q20 le_q21 lt_q21 le_q22 lt_q22 le_q23 lt_q23 le_q24 lt_q24

def oddL (d : Nat) (ts : List T) (i : Nat) : Bool := (ts.take i).any (oddT d)

theorem oddL_next {d : Nat} {ts : List T} {i : Nat} (h : i < ts.length) : oddL d ts (i + 1) = (oddL d ts i || oddT d ts[i]) := by
  unfold oddL
  rw [List.take_succ_eq_append_getElem h, List.any_append]
  simp

theorem oddL_all (d : Nat) (ts : List T) : oddL d ts ts.length = ts.any (oddT d) := by unfold oddL; rw [List.take_length]

/-- What look tells of a cell. -/
def LookPl (P d : Nat) : Prop := ∀ (t : T) (s : Value) (level c : Nat) (od : Bool) (w : World), Chk P w c od false → P < w.heap.size → Tr (fun b => b ≠ P) d w s t.list → plT (d + 1) t → level + d ≤ 12 → c + sizeT (d + 1) t ≤ 4096 →
  Calls Try.prog 51 #[.pointer (some ⟨P, 0, none⟩), .agg #[.int .i64 t.kind, .int .i64 t.num, .string t.text, s], .int .i64 (level : Int)] w fun e w' => e = .returned (.bool true) ∧ Chk P w' (c + sizeT (d + 1) t) (od || oddT (d + 1) t) false ∧ w.grownBy w' (some P)

set_option maxRecDepth 20000 in
set_option maxHeartbeats 2000000 in
theorem lookP_list (P d : Nat) (ts : List T) (s : Value) (level c : Nat) (od : Bool) (w : World) (h : Chk P w c od false) (hP : P < w.heap.size) (ht : Tr (fun b => b ≠ P) d w s ts) (hok : ∀ x ∈ ts, plT d x) (hl : level + d ≤ 12) (hc : c + 1 + (ts.map (sizeT d)).sum ≤ 4096)
    (ih : ∀ d', d = d' + 1 → LookPl P d') :
    Calls Try.prog 51 #[.pointer (some ⟨P, 0, none⟩), .agg #[.int .i64 3, .int .i64 0, .string ⟨#[]⟩, s], .int .i64 (level : Int)] w fun e w' => e = .returned (.bool true) ∧ Chk P w' (c + (1 + (ts.map (sizeT d)).sum)) (od || ts.any (oddT d)) false ∧ w.grownBy w' (some P) := by
  have q0 : w.cell? ⟨P, 0, none⟩ = some (.int .i64 (c : Int)) := by unfold Chk at h; simp [World.cell?, h]
  have q1 : w.cell? ⟨P, 1, none⟩ = some (.bool od) := by unfold Chk at h; simp [World.cell?, h]
  have q2 : w.cell? ⟨P, 2, none⟩ = some (.bool false) := by unfold Chk at h; simp [World.cell?, h]
  have f0 : w.frozen? ⟨P, 0, none⟩ = false := by unfold Chk at h; simp [World.frozen?, h]
  have f1 : w.frozen? ⟨P, 1, none⟩ = false := by unfold Chk at h; simp [World.frozen?, h]
  have f2 : w.frozen? ⟨P, 2, none⟩ = false := by unfold Chk at h; simp [World.frozen?, h]
  have HH : Hid (Chk P w c od false) := h
  have HT : Hid _ := ht
  obtain ⟨ao, cap, rfl⟩ := ht.shape
  have hl12 : ¬ (12 : Int) < (level : Int) := by omega
  have HOK : Hid (∀ x ∈ ts, plT d x) := hok
  have HI : Hid _ := ih
  have hcc : c + 1 ≤ 4096 := by omega
  have hlen : ts.length ≤ 4096 := by have := len_le_sum d ts; omega
  clear ht hok ih
  cases od
  all_goals
    go_enter Try.func51, Try.ntmps51
    go_wp2_with (first
      | (go_at_call 64; refine (fitc_list _ _).mono ?_; rintro e w1 ⟨rfl, os1, n1, rfl⟩)
      | (go_at_call 65; refine (again_few P (c + 1) level _ false _ _ (chk_put h hP (by repeat (first | with_reducible exact Adds.refl _ | with_reducible refine Adds.alloc ?_ _ | with_reducible refine Adds.more ?_ _ _ | with_reducible refine Adds.drew ?_ | with_reducible refine Adds.drewN ?_ _))).1 hcc).mono ?_; rintro e w2 ⟨rfl, rfl⟩))
  · go_loopw [56] (fun iv wr => ∃ i : Nat, i ≤ ts.length ∧ iv = .int .i64 (i : Int) ∧ Hid (Chk P wr (c + 1 + sumT d ts i) (oddL d ts i) false) ∧ Hid (w.grownBy wr (some P))) (fun iv _ => ts.length - (intOf iv).toNat)
    case atStart => exact ⟨0, by omega, rfl, (chk_put (b := false) HH.out hP (by repeat (first | with_reducible exact Adds.refl _ | with_reducible refine Adds.alloc ?_ _ | with_reducible refine Adds.more ?_ _ _ | with_reducible refine Adds.drew ?_ | with_reducible refine Adds.drewN ?_ _))).1, (chk_put (b := false) HH.out hP (by repeat (first | with_reducible exact Adds.refl _ | with_reducible refine Adds.alloc ?_ _ | with_reducible refine Adds.more ?_ _ _ | with_reducible refine Adds.drew ?_ | with_reducible refine Adds.drewN ?_ _))).2⟩
    case round =>
      obtain ⟨i, hi, rfl, hC, hGr⟩ := hrel
      clear h q0 q1 q2 f0 f1 f2
      by_cases hlt : i < ts.length
      · have hT := HT.out.kept hGr.out
        cases d with
        | zero =>
          obtain ⟨rfl, _⟩ := hT
          simp at hlt
        | succ d =>
          obtain ⟨ao', cap', he, _, hx⟩ := hT
          simp only [Value.slice.injEq] at he
          obtain ⟨rfl, _, rfl⟩ := he
          rcases hx with rfl | ⟨b, off, rfl, hb, hbP, hx⟩
          · simp at hlt
          obtain ⟨x, ⟨c0, c1, c2, c3⟩, _, hTx⟩ := hx i hlt
          have hn := sumT_next (d := d + 1) hlt
          have hs := sumT_le (d + 1) ts (i + 1)
          have hkT := HOK.out _ (List.getElem_mem hlt)
          have HN : Hid (c + 1 + sumT (d + 1) ts (i + 1) = c + 1 + sumT (d + 1) ts i + sizeT (d + 1) ts[i]) := by
            show _ = _
            omega
          have HO : Hid (oddL (d + 1) ts (i + 1) = (oddL (d + 1) ts i || oddT (d + 1) ts[i])) := oddL_next hlt
          have HX : Hid (∀ W, Adds wr W → Calls Try.prog 51 #[.pointer (some ⟨P, 0, none⟩), .agg #[.int .i64 ts[i].kind, .int .i64 ts[i].num, .string ts[i].text, x], .int .i64 ((level : Int) + 1)] W fun e w' => e = .returned (.bool true) ∧ Chk P w' (c + 1 + sumT (d + 1) ts i + sizeT (d + 1) ts[i]) (oddL (d + 1) ts i || oddT (d + 1) ts[i]) false ∧ W.grownBy w' (some P)) :=
            fun W hA => HI.out d rfl ts[i] x (level + 1) _ _ W (hC.out.adds hA) (by have := hA.below.size; have := hGr.out.size; omega) (hTx.adds hA) hkT (by omega) (by omega)
          obtain ⟨xo, xc, rfl⟩ := hTx.shape
          clear hn hs hkT hTx hx
          generalize ts[i] = t at *
          go_wp2_with (go_at_call 51; refine (HX.out _ (by repeat (first | with_reducible exact Adds.refl _ | with_reducible refine Adds.alloc ?_ _ | with_reducible refine Adds.more ?_ _ _ | with_reducible refine Adds.drew ?_ | with_reducible refine Adds.drewN ?_ _))).mono ?_; rintro e w3 ⟨rfl, h3, hg3⟩)
          go_roundw
          case rel => exact ⟨i + 1, by omega, by go_num, by rw [HN.out]; rw [HO.out]; exact h3, grownBy_trans (grownBy_adds hGr.out (by repeat (first | with_reducible exact Adds.refl _ | with_reducible refine Adds.alloc ?_ _ | with_reducible refine Adds.more ?_ _ _ | with_reducible refine Adds.drew ?_ | with_reducible refine Adds.drewN ?_ _))) hg3⟩
          case measure => simp [intOf]; omega
      · have : i = ts.length := by omega
        subst this
        have HE : Hid (c + (1 + (ts.map (sizeT d)).sum) = c + 1 + sumT d ts ts.length) := by
          show _ = _
          unfold sumT
          rw [List.take_length]
          omega
        go_wp2
        go_ret
        exact ⟨rfl, by rw [HE.out]; rw [Bool.false_or, ← oddL_all]; exact hC.out, hGr.out⟩
  · go_loopw [56] (fun iv wr => ∃ i : Nat, i ≤ ts.length ∧ iv = .int .i64 (i : Int) ∧ Hid (Chk P wr (c + 1 + sumT d ts i) true false) ∧ Hid (w.grownBy wr (some P))) (fun iv _ => ts.length - (intOf iv).toNat)
    case atStart => exact ⟨0, by omega, rfl, (chk_put (b := true) HH.out hP (by repeat (first | with_reducible exact Adds.refl _ | with_reducible refine Adds.alloc ?_ _ | with_reducible refine Adds.more ?_ _ _ | with_reducible refine Adds.drew ?_ | with_reducible refine Adds.drewN ?_ _))).1, (chk_put (b := true) HH.out hP (by repeat (first | with_reducible exact Adds.refl _ | with_reducible refine Adds.alloc ?_ _ | with_reducible refine Adds.more ?_ _ _ | with_reducible refine Adds.drew ?_ | with_reducible refine Adds.drewN ?_ _))).2⟩
    case round =>
      obtain ⟨i, hi, rfl, hC, hGr⟩ := hrel
      clear h q0 q1 q2 f0 f1 f2
      by_cases hlt : i < ts.length
      · have hT := HT.out.kept hGr.out
        cases d with
        | zero =>
          obtain ⟨rfl, _⟩ := hT
          simp at hlt
        | succ d =>
          obtain ⟨ao', cap', he, _, hx⟩ := hT
          simp only [Value.slice.injEq] at he
          obtain ⟨rfl, _, rfl⟩ := he
          rcases hx with rfl | ⟨b, off, rfl, hb, hbP, hx⟩
          · simp at hlt
          obtain ⟨x, ⟨c0, c1, c2, c3⟩, _, hTx⟩ := hx i hlt
          have hn := sumT_next (d := d + 1) hlt
          have hs := sumT_le (d + 1) ts (i + 1)
          have hkT := HOK.out _ (List.getElem_mem hlt)
          have HN : Hid (c + 1 + sumT (d + 1) ts (i + 1) = c + 1 + sumT (d + 1) ts i + sizeT (d + 1) ts[i]) := by
            show _ = _
            omega
          have HX : Hid (∀ W, Adds wr W → Calls Try.prog 51 #[.pointer (some ⟨P, 0, none⟩), .agg #[.int .i64 ts[i].kind, .int .i64 ts[i].num, .string ts[i].text, x], .int .i64 ((level : Int) + 1)] W fun e w' => e = .returned (.bool true) ∧ Chk P w' (c + 1 + sumT (d + 1) ts i + sizeT (d + 1) ts[i]) (true || oddT (d + 1) ts[i]) false ∧ W.grownBy w' (some P)) :=
            fun W hA => HI.out d rfl ts[i] x (level + 1) _ _ W (hC.out.adds hA) (by have := hA.below.size; have := hGr.out.size; omega) (hTx.adds hA) hkT (by omega) (by omega)
          obtain ⟨xo, xc, rfl⟩ := hTx.shape
          clear hn hs hkT hTx hx
          generalize ts[i] = t at *
          go_wp2_with (go_at_call 51; refine (HX.out _ (by repeat (first | with_reducible exact Adds.refl _ | with_reducible refine Adds.alloc ?_ _ | with_reducible refine Adds.more ?_ _ _ | with_reducible refine Adds.drew ?_ | with_reducible refine Adds.drewN ?_ _))).mono ?_; rintro e w3 ⟨rfl, h3, hg3⟩)
          go_roundw
          case rel => exact ⟨i + 1, by omega, by go_num, by rw [HN.out]; exact h3, grownBy_trans (grownBy_adds hGr.out (by repeat (first | with_reducible exact Adds.refl _ | with_reducible refine Adds.alloc ?_ _ | with_reducible refine Adds.more ?_ _ _ | with_reducible refine Adds.drew ?_ | with_reducible refine Adds.drewN ?_ _))) hg3⟩
          case measure => simp [intOf]; omega
      · have : i = ts.length := by omega
        subst this
        have HE : Hid (c + (1 + (ts.map (sizeT d)).sum) = c + 1 + sumT d ts ts.length) := by
          show _ = _
          unfold sumT
          rw [List.take_length]
          omega
        go_wp2
        go_ret
        exact ⟨rfl, by rw [HE.out]; exact hC.out, hGr.out⟩

theorem lookP_ok (P : Nat) : ∀ d, LookPl P d := by
  intro d
  induction d with
  | zero =>
    intro t s level c od w h hP hT hok hl hc
    obtain ⟨k, n, x, l⟩ := t
    simp only [T.kind, T.num, T.text, T.list] at *
    obtain ⟨rfl, ao, cap, rfl⟩ := hT
    rcases hok with ⟨rfl, rfl, _⟩ | ⟨rfl, rfl, h1, _⟩ | ⟨rfl, rfl, rfl, h1⟩
    · have := look_leaf P c level od 1 n ⟨#[]⟩ ao cap (!bigN n) w h hP (by decide) (fun W => fits_num n ao cap W) (by decide) (by simp [sizeT, T.list] at hc; omega) (by omega)
      simpa [sizeT, oddT, T.list, T.kind, T.num] using this
    · have := look_leaf P c level od 2 0 x ao cap true w h hP (by decide) (fun W => fitc_text x ao cap W) h1 (by simp [sizeT, T.list] at hc; omega) (by omega)
      simpa [sizeT, oddT, T.list, T.kind] using this
    · have := lookP_list P 0 [] (.slice ao 0 cap) level c od w h hP ⟨rfl, ao, cap, rfl⟩ (by simp) hl (by simpa [sizeT, T.list, Nat.add_assoc] using hc) (fun d' e => by omega)
      simpa [sizeT, oddT, T.list, T.kind] using this
  | succ d ih =>
    intro t s level c od w h hP hT hok hl hc
    obtain ⟨k, n, x, l⟩ := t
    simp only [T.kind, T.num, T.text, T.list] at *
    rcases hok with ⟨rfl, rfl, hls⟩ | ⟨rfl, rfl, h1, hls⟩ | ⟨rfl, rfl, rfl, h1⟩
    · simp only [T.list] at hls
      subst hls
      obtain ⟨ao, cap, rfl⟩ := hT.shape
      have := look_leaf P c level od 1 n ⟨#[]⟩ ao cap (!bigN n) w h hP (by decide) (fun W => fits_num n ao cap W) (by decide) (by simp [sizeT, T.list] at hc; omega) (by omega)
      simpa [sizeT, oddT, T.list, T.kind, T.num] using this
    · simp only [T.list] at hls
      subst hls
      obtain ⟨ao, cap, rfl⟩ := hT.shape
      have := look_leaf P c level od 2 0 x ao cap true w h hP (by decide) (fun W => fitc_text x ao cap W) h1 (by simp [sizeT, T.list] at hc; omega) (by omega)
      simpa [sizeT, oddT, T.list, T.kind] using this
    · have := lookP_list P (d + 1) l s level c od w h hP hT h1 hl (by simpa [sizeT, T.list, Nat.add_assoc] using hc) (fun d' e => by
        have e' : d = d' := by omega
        subst e'
        exact ih)
      simpa [sizeT, oddT, T.list, T.kind] using this

end Go.Proofs.Ytccddgohagakoaa
