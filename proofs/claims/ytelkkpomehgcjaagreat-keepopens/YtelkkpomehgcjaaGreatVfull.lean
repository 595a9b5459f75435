/-
  The functions begin and Open of the tape by contract, where there is no room.
-/
import Derived.Test.YtelkkpomehgcjaaGreatTape
namespace Go.Proofs.YtelkkpomehgcjaaGreat
open Go.RowKit Go.Maps
attribute [local go_sem] cell?_more frozen?_more setCell_more size_more tape_more drew_more drewN_more more_drew more_drewN more_more one_out plus_out plus_end lt_one le_p2 le_p3 le_p4 le_p5 le_p6 le_p7 le_p8 le_p9 le_p10 le_p11 le_p12 le_p13 le_p14 le_p15 le_p16 le_p17 le_p18 le_p19 le_p20 le_p21 le_p22 le_p23 le_p24 le_q0 le_q1 lt_q1 le_q2 lt_q2 le_q3 lt_q3 le_q4 lt_q4 le_q5 lt_q5 le_q6 lt_q6 le_q7 lt_q7 le_q8 lt_q8 le_q9 lt_q9 le_q10 lt_q10 le_q11 lt_q11 le_q12 lt_q12 le_q13 lt_q13 le_q14 lt_q14 le_q15 lt_q15 le_q16 lt_q16 le_q17 lt_q17 le_q18 lt_q18 le_q19 lt_q19 le_q20 lt_q20 le_q21 lt_q21 le_q22 lt_q22 le_q23 lt_q23 le_q24 lt_q24

theorem begin_full {w : World} {B : Nat} {R : Rw} {d : Dk} {K : Kf} (h : St w B R d) (hK : SrtK K) (hf : filesK K = d.now) (p : Nat) (f0 b0 : Int) (v0 : Value)
    (hp : w.heap[p]? = some (.cells #[ptr R.p, .int .i64 f0, .int .i64 b0, v0] 112 (0, 0))) (hb : R.bulk ≤ 68719476736)
    (l : Value) (ls : List (List UInt8)) (hl : Rws w l ls) (hlen : segLen ls ≤ 1000000) (hno : ¬ ((segLen ls : Int) ≤ (R.room : Int) - (sizeK K : Int) ∧ nextK K ≤ 1048576)) :
    Calls Tryz.prog 63 #[ptr p, l] w fun e w' => e = .returned (.int .i64 2) ∧ Adds w w' := by
  have c0 : ∀ W, Adds w W → W.cell? ⟨p, 0, none⟩ = some (ptr R.p) := fun W ha => cell_of_row W p 0 _ _ _ (ha.at hp)
  have c00 := c0 w (Adds.refl _)
  have kF := st_files h hK hf
  have hrng := h.range hK hf
  have hlow := next_low hrng
  have hln : ls.length ≤ 1000000 := by unfold segLen at hlen; omega
  have htl : tot ls ≤ 1000000 := by unfold segLen at hlen; omega
  obtain ⟨ao, cap, rfl, hcap⟩ := hl.slice
  have k6 : ∀ W, Adds w W → ∀ q, Calls Tryz.prog 86 #[.slice ao ls.length cap] (addTo W q) fun e w'' => e = .returned (.int .i64 (segLen ls : Nat)) ∧ ∃ p : Plus, w'' = addTo W p := fun W hW q =>
    Calls.adds_of (size_any _ ls _ (hl.adds (hW.trans ⟨q.os, q.draws, rfl⟩)) hln (by omega))
  have k5 : ∀ W, Adds w W → ∀ q, Calls Tryz.prog 52 #[ptr R.p] (addTo W q) fun e w'' => e = .returned (.int .i64 ((R.room : Int) - (sizeK K : Int))) ∧ ∃ p : Plus, w'' = addTo W p := fun W hW q =>
    Calls.adds_of (st_left (h.adds (hW.trans ⟨q.os, q.draws, rfl⟩)) hK hf (by omega))
  go_enter Tryz.func63, Tryz.ntmps63
  go_wp2_with (first
    | (go_at_call 79; refine kF.mono ?_; rintro e w1 ⟨v1, rfl, h1, a1⟩)
    | (go_at_call 85; refine (above_keys _ _ _ h1 hrng).mono ?_; rintro e w2 ⟨rfl, a2⟩; have c02 := c0 w2 (a1.trans a2)))
  have l6 := k6 w2 (a1.trans a2)
  have l5 := k5 w2 (a1.trans a2)
  have HA2 : Hid (Adds w w2) := a1.trans a2
  have hpl : p < w2.heap.size := Nat.lt_of_lt_of_le (Array.getElem?_eq_some_iff.1 hp).1 (a1.trans a2).below.size
  clear k6 k5 c00 kF h1 a1 a2 hrng
  have cA : ∀ q, (addTo w2 q).cell? ⟨p, 0, none⟩ = some (ptr R.p) := fun q => c0 _ (HA2.out.trans ⟨q.os, q.draws, rfl⟩)
  by_cases hnext : nextK K ≤ 1048576
  · have hgt : decide ((1048576 : Int) < nextK K) = false := by simp; omega
    have hfl : (R.room : Int) - (sizeK K : Int) < (segLen ls : Int) := by omega
    clear hno
    refine wp_region_adds (by kernel_rfl) (by kernel_rfl) ?_
    repeat (go_big_quiet_step ((first | (go_at_call 86; exact l6 _) | (go_at_call 52; exact l5 _))))
    refine wpQuiet_nil ?_
    rintro _ ⟨pl, rfl⟩
    obtain ⟨w3, hw3⟩ : ∃ w3, w3 = addTo w2 pl := ⟨_, rfl⟩
    have HA3 : Hid (Adds w w3) := by
      show Adds w w3
      rw [hw3]
      exact HA2.out.trans ⟨pl.os, pl.draws, rfl⟩
    rw [← hw3]
    clear hw3 l6 l5 c02 HA2 hpl cA
    go_wp2
    go_ret
    exact ⟨rfl, HA3.out⟩
  · have hgt : decide ((1048576 : Int) < nextK K) = true := by simp; omega
    clear hno
    refine wp_region_adds (by kernel_rfl) (by kernel_rfl) ?_
    repeat (go_big_quiet_step ((first | (go_at_call 86; exact l6 _) | (go_at_call 52; exact l5 _))))
    refine wpQuiet_nil ?_
    rintro _ ⟨pl, rfl⟩
    obtain ⟨w3, hw3⟩ : ∃ w3, w3 = addTo w2 pl := ⟨_, rfl⟩
    have HA3 : Hid (Adds w w3) := by
      show Adds w w3
      rw [hw3]
      exact HA2.out.trans ⟨pl.os, pl.draws, rfl⟩
    rw [← hw3]
    clear hw3 l6 l5 c02 HA2 hpl cA
    go_wp2
    go_ret
    exact ⟨rfl, HA3.out⟩

theorem open_begin_full {w : World} {B : Nat} {R : Rw} {d : Dk} {K : Kf} (h : St w B R d) (hK : SrtK K) (hf : filesK K = d.now) (hb : R.bulk ≤ 68719476736) {f0 : Int} {b0 : Nat} {ls : List (List UInt8)}
    (hno : ¬ (segLen ls + sizeK K ≤ R.room ∧ nextK K ≤ 1048576)) (hlen : segLen ls ≤ 1000000)
    (kN : ∀ W, Adds w W → Calls Tryz.prog 61 #[ptr R.p] W fun e w' => ∃ v, e = .returned (.tuple #[.agg #[.int .i64 f0, .int .i64 (b0 : Int), v], .bool false]) ∧ RwsF w.heap.size w' v ls ∧ Adds w w') :
    Calls Tryz.prog 29 #[ptr R.p] w fun e w' => e = .returned (.tuple #[.pointer none, .int .i64 2]) ∧ Adds w w' := by
  have kG := given_tape h
  have kB : ∀ W p v, Adds w W → W.heap[p]? = some (.cells #[ptr R.p, .int .i64 f0, .int .i64 (b0 : Int), v] 112 (0, 0)) → RwsF w.heap.size W v ls → Calls Tryz.prog 63 #[ptr p, v] W fun e w' => e = .returned (.int .i64 2) ∧ Adds w w' := fun W p v hW hpw hr => by
    have hR : RwsA W (fun _ => False) v ls := hr.rwsA fun _ _ _ _ _ _ hc => hc
    refine (begin_full (h.adds hW) hK hf p f0 (b0 : Int) v hpw hb v ls hR.rws hlen (fun hh => hno ⟨by omega, hh.2⟩)).mono ?_
    rintro e w' ⟨rfl, h2⟩
    exact ⟨rfl, hW.trans h2⟩
  clear hno
  go_enter Tryz.func29, Tryz.ntmps29
  go_wp2_with (first
    | (go_at_call 60; refine kG.mono ?_; rintro e w1 ⟨rfl, a1⟩)
    | (go_at_call 61; refine (kN _ (a1.trans (by repeat (first | with_reducible exact Adds.refl _ | with_reducible refine Adds.alloc ?_ _ | with_reducible refine Adds.more ?_ _ _ | with_reducible refine Adds.drew ?_ | with_reducible refine Adds.drewN ?_ _)))).mono ?_; rintro e w2 ⟨v2, rfl, h2, a2⟩; obtain ⟨ao2, n2, c2, rfl⟩ := h2.slice)
    | (go_at_call 63; refine (kB _ _ _ (a2.trans (by repeat (first | with_reducible exact Adds.refl _ | with_reducible refine Adds.alloc ?_ _ | with_reducible refine Adds.more ?_ _ _ | with_reducible refine Adds.drew ?_ | with_reducible refine Adds.drewN ?_ _))) tape_new (h2.adds (by repeat (first | with_reducible exact Adds.refl _ | with_reducible refine Adds.alloc ?_ _ | with_reducible refine Adds.more ?_ _ _ | with_reducible refine Adds.drew ?_ | with_reducible refine Adds.drewN ?_ _)))).mono ?_; rintro e w3 ⟨rfl, a3⟩))
  go_ret2
  exact ⟨rfl, a3⟩

theorem open_full {w : World} {B : Nat} {R : Rw} {d : Dk} {K : Kf} (h : St w B R d) (hK : SrtK K) (hf : filesK K = d.now) (hb : R.bulk ≤ 68719476736) (hsz : sizeK K ≤ 1000000) (hsg : ∀ s, newK K = some s → segLen s.2.2.1 ≤ 1000000) (hno : ¬ roomy R.room K) :
    Calls Tryz.prog 29 #[ptr R.p] w fun e w' => e = .returned (.tuple #[.pointer none, .int .i64 2]) ∧ Adds w w' := by
  unfold roomy at hno
  cases hn : newK K with
  | none =>
    rw [hn] at hno
    refine open_begin_full (f0 := 0) (b0 := 0) (ls := []) h hK hf hb (by simpa [segLen, tot] using hno) (by simp [segLen, tot]) ?_
    intro W hW
    refine (newest_any (h.adds hW) hK hf hb hsz).mono ?_
    rintro e w' ⟨h1, h2⟩
    unfold newest at h1
    rw [hn] at h1
    exact ⟨_, h1, rwsF_nil _ _, hW.trans h2⟩
  | some s =>
    obtain ⟨file, base, ls, clean⟩ := s
    cases clean with
    | true => rw [hn] at hno; exact absurd trivial hno
    | false =>
      rw [hn] at hno
      refine open_begin_full (f0 := file) (b0 := base) (ls := ls) h hK hf hb hno (hsg _ hn) ?_
      intro W hW
      refine (newest_any (h.adds hW) hK hf hb hsz).mono ?_
      rintro e w' ⟨h1, h2⟩
      unfold newest at h1
      rw [hn] at h1
      obtain ⟨v, rfl, h3⟩ := h1
      exact ⟨v, rfl, h3.mono hW.below.size, hW.trans h2⟩

end Go.Proofs.YtelkkpomehgcjaaGreat
