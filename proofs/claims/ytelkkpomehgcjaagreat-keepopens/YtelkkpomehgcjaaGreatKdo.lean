/-
  The method do of the keep by contract.
-/
import Derived.Test.YtelkkpomehgcjaaGreatKrenew
namespace Go.Proofs.YtelkkpomehgcjaaGreat
open Go.RowKit Go.Maps
attribute [local go_sem] cell?_more frozen?_more setCell_more size_more tape_more drew_more drewN_more more_drew more_drewN more_more one_out plus_out plus_end lt_one le_p2 le_p3 le_p4 le_p5 le_p6 le_p7 le_p8 le_p9 le_p10 le_p11 le_p12 le_p13 le_p14 le_p15 le_p16 le_p17 le_p18 le_p19 le_p20 le_p21 le_p22 le_p23 le_p24 le_q0 le_q1 lt_q1 le_q2 lt_q2 le_q3 lt_q3 le_q4 lt_q4 le_q5 lt_q5 le_q6 lt_q6 le_q7 lt_q7 le_q8 lt_q8 le_q9 lt_q9 le_q10 lt_q10 le_q11 lt_q11 le_q12 lt_q12 le_q13 lt_q13 le_q14 lt_q14 le_q15 lt_q15 le_q16 lt_q16 le_q17 lt_q17 le_q18 lt_q18 le_q19 lt_q19 le_q20 lt_q20 le_q21 lt_q21 le_q22 lt_q22 le_q23 lt_q23 le_q24 lt_q24

theorem ownV_one (w : World) (c : UInt8) : OwnV w.heap.size 5 (.slice (some ⟨w.heap.size, 0, none⟩) 1 1) (cellsB [c]) w (w.alloc (.cells #[.int .u8 (c.toNat : Int)] 5)) := by
  refine ⟨⟨by simp [cellsB], .inr ⟨w.heap.size, 1, _, ?_, Nat.le_refl _, new_block w _, by simp [cellsB], by decide, by simp, by simp [cellsB]⟩⟩, (Adds.alloc (Adds.refl w) _).below, by simp⟩
  simp [cellsB]

/-- Behind the record's appending and turning. -/
structure Mid (w : World) (B : Nat) (T : Tw) (K : Kw) (d : Dk) (r : List UInt8) (w' : World) (T' : Tw) (K' : Kw) : Prop where
  kp : Kp w' B T' K' ((d.app T.file (record r)).sync)
  p : T'.p = T.p
  file : T'.file = T.file
  base : T'.base = T.base
  ls : T'.ls = T.ls ++ [r]
  rp : T'.R.p = T.R.p
  room : T'.R.room = T.R.room
  bulk : T'.R.bulk ≤ T.R.bulk + 2 * (r.length + 9) + 1
  kpp : K'.p = K.p
  st : (K'.es, K'.nt) = turnK (K.es, K.nt) r
  mv : Mv w (footK T K) w' (footK T' K')

set_option maxRecDepth 20000 in
theorem do_any {w : World} {B : Nat} {T : Tw} {K : Kw} {d : Dk} {L : Kf} (h : Kp w B T K d) (hK : SrtK L) (hf : filesK L = d.now) (hbk : T.R.bulk ≤ 34359738368) (c : UInt8) (x : Value) (b : List UInt8) (hx : Byt w x b) (hb : b.length ≤ 16383) (hkn : knownK (c :: b) = true)
    (hfile : 0 ≤ T.file ∧ T.file ≤ 1048576) (hroom : sizeK L + (b.length + 10) ≤ T.R.room) (hls : T.ls.length ≤ 1000000) (hes : K.es.length ≤ 1000000) {P : World → Prop}
    (kN : ∀ w2 T1 K1, Mid w B T K d (c :: b) w2 T1 K1 → Calls Tryz.prog 78 #[ptr K.p] w2 fun e w' => e = .returned (.tuple #[]) ∧ P w') :
    Calls Tryz.prog 54 #[ptr K.p, .int .u8 (c.toNat : Int), x] w fun e w' => e = .returned (.int .i64 0) ∧ P w' := by
  have kO := openedK_any h.ke.hp
  have hcl : ∀ W, Adds w W → W.cell? ⟨K.p, 0, none⟩ = some (ptr T.p) := fun W hW => by
    obtain ⟨c0, _, _, _, _⟩ := Kr.cells (h.ke.adds hW).hp
    rw [h.tp] at c0
    exact c0
  have kA : ∀ W v, OwnV w.heap.size 5 v (cellsB (c :: b)) w W → Calls Tryz.prog 77 #[ptr T.p, v] W fun e w' => e = .returned (.int .i64 0) ∧ ∃ T1, Added w B T d (c :: b) w' T1 ∧ Kp w' B T1 K ((d.app T.file (record (c :: b))).sync) ∧ Mv w (footK T K) w' (footK T1 K) ∧ BytA w' T1.foot v (c :: b) := fun W v hv => by
    have ha := hv.added
    have hxa : BytA W T.foot v (c :: b) := hv.fr.bytA fun g C hg _ hc => by
      have := h.tap.lt g hc
      omega
    refine (append_tape (h.tap.adds ha) hK hf (by omega) v _ hxa (by simp; omega) hfile (by simp; omega) hls).mono ?_
    rintro e w' ⟨rfl, T1, a⟩
    obtain ⟨k1, k2⟩ := (h.adds ha).taped a.tap a.p a.mv
    exact ⟨rfl, T1, ⟨a.tap, a.p, a.file, a.base, a.ls, a.rp, a.room, a.bulk, (Mv.adds _ ha).trans a.mv⟩, k1, (Mv.adds _ ha).trans k2, hxa.mv a.mv⟩
  have kT : ∀ W T1 v, Added w B T d (c :: b) W T1 → Kp W B T1 K ((d.app T.file (record (c :: b))).sync) → Mv w (footK T K) W (footK T1 K) → BytA W T1.foot v (c :: b) → Calls Tryz.prog 32 #[ptr K.p, v] W fun e w' => e = .returned (.tuple #[]) ∧ ∃ T1 K1, Mid w B T K d (c :: b) w' T1 K1 := fun W T1 v a k m hv => by
    refine (turnK_any k.ke k.tap.lt v _ hv hkn hes).mono ?_
    rintro e w' ⟨rfl, K1, t⟩
    obtain ⟨k1, k2⟩ := k.turned t
    exact ⟨rfl, T1, K1, ⟨k1, a.p, a.file, a.base, a.ls, a.rp, a.room, a.bulk, t.p, t.st, m.trans k2⟩⟩
  have c0 := hcl w (Adds.refl _)
  obtain ⟨ao, cap, rfl, _⟩ := hx.open
  have i1 : ¬ (16383 : Int) < (b.length : Int) := by omega
  have i2 : 1 + b.length ≤ 1000000 := by omega
  have HX : Hid _ := hx
  have HO := ownV_one w c
  clear h hK hf hbk hkn hfile hroom hls hes hb hx
  generalize (c.toNat : Int) = cc at *
  generalize hN : b.length = N at *
  have HN : Hid _ := hN
  clear hN
  go_enter Tryz.func54, Tryz.ntmps54
  go_wp2_with (first
    | (go_at_call 55; refine kO.mono ?_; rintro e w1 ⟨rfl, hw1⟩; subst hw1)
    | (at_builtin; refine byt_app rfl (.tmp 16) (.tmp 17) rfl HO rfl (Byt.adds HX.out ((Adds.refl _).alloc _)) rfl (by rw [HN.out]; exact i2) ?_; intro v2 w2 o2; obtain ⟨ao2, l2, c2, rfl⟩ := row_slice o2.1; have d0 := hcl w2 o2.added; have k2 := kA w2 _ o2)
    | (go_at_call 77; refine k2.mono ?_; rintro e w3 ⟨rfl, T3, x1, x2, x3, x4⟩; have k3 := kT w3 T3 _ x1 x2 x3 x4; clear x1 x2 x3 x4)
    | (go_at_call 32; refine k3.mono ?_; rintro e w4 ⟨rfl, T4, K4, m4⟩)
    | (go_at_call 78; refine (kN w4 T4 K4 m4).mono ?_; rintro e w5 ⟨rfl, p5⟩))
  go_ret
  exact ⟨rfl, p5⟩

end Go.Proofs.YtelkkpomehgcjaaGreat
