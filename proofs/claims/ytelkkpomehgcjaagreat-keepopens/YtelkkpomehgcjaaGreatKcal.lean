/-
  A keep whose power lasts: its methods that turn it, by contracts.
-/
import Derived.Test.YtelkkpomehgcjaaGreatKdo
namespace Go.Proofs.YtelkkpomehgcjaaGreat
open Go.RowKit Go.Maps
attribute [local go_sem] cell?_more frozen?_more setCell_more size_more tape_more drew_more drewN_more more_drew more_drewN more_more one_out plus_out plus_end lt_one le_p2 le_p3 le_p4 le_p5 le_p6 le_p7 le_p8 le_p9 le_p10 le_p11 le_p12 le_p13 le_p14 le_p15 le_p16 le_p17 le_p18 le_p19 le_p20 le_p21 le_p22 le_p23 le_p24 le_q0 le_q1 lt_q1 le_q2 lt_q2 le_q3 lt_q3 le_q4 lt_q4 le_q5 lt_q5 le_q6 lt_q6 le_q7 lt_q7 le_q8 lt_q8 le_q9 lt_q9 le_q10 lt_q10 le_q11 lt_q11 le_q12 lt_q12 le_q13 lt_q13 le_q14 lt_q14 le_q15 lt_q15 le_q16 lt_q16 le_q17 lt_q17 le_q18 lt_q18 le_q19 lt_q19 le_q20 lt_q20 le_q21 lt_q21 le_q22 lt_q22 le_q23 lt_q23 le_q24 lt_q24

section
variable {z x : Value} {w : World} {r : Int} {P : World → Prop}

theorem add_of (h : Calls Tryz.prog 54 #[z, .int .u8 0, x] w fun e w' => e = .returned (.int .i64 r) ∧ P w') : Calls Tryz.prog 24 #[z, x] w fun e w' => e = .returned (.int .i64 r) ∧ P w' := by
  go_enter Tryz.func24, Tryz.ntmps24
  go_wp2_with (go_at_call 54; refine h.mono ?_; rintro e w1 ⟨rfl, h1⟩)
  go_ret
  exact ⟨rfl, h1⟩

theorem note_of (h : Calls Tryz.prog 54 #[z, .int .u8 1, x] w fun e w' => e = .returned (.int .i64 r) ∧ P w') : Calls Tryz.prog 38 #[z, x] w fun e w' => e = .returned (.int .i64 r) ∧ P w' := by
  go_enter Tryz.func38, Tryz.ntmps38
  go_wp2_with (go_at_call 54; refine h.mono ?_; rintro e w1 ⟨rfl, h1⟩)
  go_ret
  exact ⟨rfl, h1⟩

theorem clear_of (h : Calls Tryz.prog 54 #[z, .int .u8 2, .slice none 0 0] w fun e w' => e = .returned (.int .i64 r) ∧ P w') : Calls Tryz.prog 39 #[z] w fun e w' => e = .returned (.int .i64 r) ∧ P w' := by
  go_enter Tryz.func39, Tryz.ntmps39
  go_wp2_with (go_at_call 54; refine h.mono ?_; rintro e w1 ⟨rfl, h1⟩)
  go_ret
  exact ⟨rfl, h1⟩

end

theorem cut_of {w : World} {K : Kw} (hk : Kr w K) (n : Nat) (hn : n < K.es.length) (hl : K.es.length ≤ 1000000) {r : Int} {P : World → Prop}
    (h : ∀ W x, Adds w W → Byt W x (four n) → Calls Tryz.prog 54 #[ptr K.p, .int .u8 3, x] W fun e w' => e = .returned (.int .i64 r) ∧ P w') :
    Calls Tryz.prog 25 #[ptr K.p, .int .i64 (n : Int)] w fun e w' => e = .returned (.int .i64 r) ∧ P w' := by
  have kO := openedK_any hk.hp
  have kN := numberedK_any n w (by omega)
  have c2 : w.cell? ⟨K.p, 2, none⟩ = some K.ev := cell_of_row w K.p 2 _ _ _ hk.hp
  obtain ⟨ao, cap, hv, _⟩ := hk.rows.slice
  rw [hv] at c2
  have i0 : ¬ (n : Int) < 0 := by omega
  have i1 : ¬ (K.es.length : Int) ≤ (n : Int) := by omega
  clear hk hn hl
  generalize K.es.length = m at *
  go_enter Tryz.func25, Tryz.ntmps25
  go_wp2_with (first
    | (go_at_call 55; refine kO.mono ?_; rintro e w1 ⟨rfl, hw1⟩; subst hw1)
    | (go_at_call 56; refine kN.mono ?_; rintro e w2 ⟨v2, rfl, a2, b2⟩; obtain ⟨ao2, c2', rfl, _⟩ := b2.open; have k2 := h w2 _ a2 b2)
    | (go_at_call 54; refine k2.mono ?_; rintro e w3 ⟨rfl, h3⟩))
  go_ret
  exact ⟨rfl, h3⟩

theorem Ke.lower {w : World} {B B' : Nat} {F : Nat → Prop} {K : Kw} (h : Ke w B F K) (hB : B' ≤ B) : Ke w B' F K := by
  obtain ⟨xs, ho, he⟩ := h.row
  exact ⟨h.hp, Nat.le_trans hB h.bp, h.note, ⟨xs, row_mono ho hB, he⟩, h.out, h.apart⟩

/-- The keep K over the tape T at world W, its reel made at world w: nothing is armed, all is kept, one file. -/
structure CalK (w W : World) (T : Tw) (K : Kw) (n : Int) (base : Nat) (ls : List (List UInt8)) (s : List (List UInt8) × List UInt8) (room bulk : Nat) : Prop where
  kp : Kp W w.heap.size T K (calm [(n, seg base ls)] 0)
  file : T.file = n
  base : T.base = base
  ls : T.ls = ls
  rp : T.R.p = w.heap.size + 1
  room : T.R.room = room
  bulk : T.R.bulk ≤ bulk
  adds : Adds w W
  st : (K.es, K.nt) = s

theorem CalK.more {w W W' : World} {T : Tw} {K : Kw} {n : Int} {base : Nat} {ls : List (List UInt8)} {s : List (List UInt8) × List UInt8} {room bulk : Nat} (h : CalK w W T K n base ls s room bulk) (ha : Adds W W') : CalK w W' T K n base ls s room bulk :=
  ⟨h.kp.adds ha, h.file, h.base, h.ls, h.rp, h.room, h.bulk, h.adds.trans ha, h.st⟩

theorem sane_nil : sane [] = true := rfl

theorem calK_open {w W : World} {R : Rw} {room : Nat} (hs : St W w.heap.size R (calm [] 0)) (hp : R.p = w.heap.size + 1) (hr : R.room = room) (hb : R.bulk = 0) (ha : Adds w W) (h1 : 13 ≤ room) (h2 : room ≤ 1000000) :
    Calls Tryz.prog 9 #[ptr (w.heap.size + 1)] W fun e w' => ∃ T K, e = .returned (.tuple #[ptr K.p, .int .i64 0]) ∧ CalK w w' T K 0 0 [] ([], []) room (2 * room + 3) := by
  have k := openK_any hs (L := []) (by simp [SrtK]) rfl (by omega) (by omega) (by simp [sizeK]) (by unfold roomy; rw [show newK [] = none from rfl]; exact ⟨by simp [sizeK]; omega, by decide⟩) sane_nil
  rw [hp] at k
  refine k.mono ?_
  rintro e w' ⟨K, T, s0, rfl, ok⟩
  obtain ⟨w2, o, a2, rfl⟩ := ok.tape
  have t := o.tapW rfl
  have hlt := t.lt
  have e1 := opened_none 0
  rw [e1] at t
  have ef := o.file
  have el := o.ls
  have eb := o.bulk
  have eB := o.base
  rw [e1] at ef el eB
  have hmv := adds_mv ha o.mv fun i hi => (hs.live.mem.lt hi).1
  refine ⟨T, K, rfl, ⟨t.adds a2, (ok.ke.lower hmv.below.size).sub fun i hi => hlt i hi, ok.tp⟩, ef, eB, el, o.p.trans hp, o.room.trans hr, ?_, hmv.trans a2, ok.st⟩
  rw [hb, hr] at eb
  simp at eb
  omega

/-- A record more, where the tape is not begun anew. -/
theorem calK_few {w W : World} {T : Tw} {K : Kw} {n : Int} {base : Nat} {ls : List (List UInt8)} {s : List (List UInt8) × List UInt8} {room bulk : Nat} (h : CalK w W T K n base ls s room bulk) (hn : 0 ≤ n ∧ n ≤ 1048576) (hb : bulk ≤ 17179869184) (hr : room ≤ 1000000) (c : UInt8) (x : Value) (b : List UInt8) (hx : Byt W x b) (hm : b.length ≤ 16383) (hkn : knownK (c :: b) = true)
    (hroom : segLen ls + (b.length + 10) ≤ room) (hs : s.1.length ≤ 1000000) (hbase : base ≤ ls.length) (hfew : ls.length + 1 - base < 64) :
    Calls Tryz.prog 54 #[ptr K.p, .int .u8 (c.toNat : Int), x] W fun e w' => e = .returned (.int .i64 0) ∧ ∃ T' K', K'.p = K.p ∧ CalK w w' T' K' n base (ls ++ [c :: b]) (turnK s (c :: b)) room (bulk + 2 * (b.length + 10) + 1) ∧ Mv W (footK T K) w' (footK T' K') := by
  have hl : ls.length ≤ 900000 := by unfold segLen at hroom; omega
  have hst := h.st
  have hes : K.es.length ≤ 1000000 := by
    have e : K.es = s.1 := by rw [← hst]
    rw [e]
    exact hs
  refine do_any h.kp (L := [(n, seg base ls)]) (srt_one _) rfl (by have := h.bulk; omega) c x b hx hm hkn (by rw [h.file]; exact hn) (by rw [sizeK_one, seg_length, h.room]; exact hroom) (by rw [h.ls]; omega) hes ?_
  intro w2 T1 K1 m
  have hl1 : T1.ls.length = ls.length + 1 := by rw [m.ls, h.ls]; simp
  have k := renew_few m.kp (by omega) (by rw [m.base, h.base]; omega) (by rw [m.base, h.base]; omega)
  rw [m.kpp] at k
  refine k.mono ?_
  rintro e w' ⟨rfl, ha⟩
  have kp := m.kp
  rw [h.file, append_calm, seg_append] at kp
  refine ⟨rfl, T1, K1, m.kpp, ⟨kp.adds ha, m.file.trans h.file, m.base.trans h.base, by rw [m.ls, h.ls], m.rp.trans h.rp, m.room.trans h.room, ?_, ?_, by rw [m.st, hst]⟩, m.mv.trans (Mv.adds _ ha)⟩
  · have h1 := m.bulk
    have h2 := h.bulk
    simp at h1
    omega
  · refine (adds_mv h.adds m.mv fun i hi => ?_).trans ha
    exact hi.elim (h.kp.tap.low i) fun ho => (h.kp.ke.low i ho).1

/-- A record more, and the tape is begun anew. -/
theorem calK_many {w W : World} {T : Tw} {K : Kw} {n : Int} {base : Nat} {ls : List (List UInt8)} {s : List (List UInt8) × List UInt8} {room bulk : Nat} (h : CalK w W T K n base ls s room bulk) (hn : 0 ≤ n ∧ n + 1 ≤ 1048576) (hb : bulk ≤ 17179869184) (hr : room ≤ 1000000) (c : UInt8) (x : Value) (b : List UInt8) (hx : Byt W x b) (hm : b.length ≤ 16383) (hkn : knownK (c :: b) = true)
    (hs : s.1.length ≤ 1000000) (hbase : base ≤ ls.length) (hmany : 64 ≤ ls.length + 1 - base) (hfit : fits (anew (turnK s (c :: b)).1 (turnK s (c :: b)).2)) (hroom : segLen (anew (turnK s (c :: b)).1 (turnK s (c :: b)).2) + (segLen ls + (b.length + 10)) ≤ room) :
    Calls Tryz.prog 54 #[ptr K.p, .int .u8 (c.toNat : Int), x] W fun e w' => e = .returned (.int .i64 0) ∧ ∃ T' K', K'.p = K.p ∧ CalK w w' T' K' (n + 1) (anew (turnK s (c :: b)).1 (turnK s (c :: b)).2).length (anew (turnK s (c :: b)).1 (turnK s (c :: b)).2) (turnK s (c :: b)) room (bulk + 2 * (b.length + 10) + 2 * room + 6) ∧ Mv W (footK T K) w' (footK T' K') := by
  have hl : ls.length ≤ 900000 := by unfold segLen at hroom; omega
  have hst := h.st
  have hes : K.es.length ≤ 1000000 := by
    have e : K.es = s.1 := by rw [← hst]
    rw [e]
    exact hs
  refine do_any h.kp (L := [(n, seg base ls)]) (srt_one _) rfl (by have := h.bulk; omega) c x b hx hm hkn (by rw [h.file]; exact ⟨hn.1, by omega⟩) (by rw [sizeK_one, seg_length, h.room]; omega) (by rw [h.ls]; omega) hes ?_
  intro w2 T1 K1 m
  have hl1 : T1.ls.length = ls.length + 1 := by rw [m.ls, h.ls]; simp
  have kp := m.kp
  rw [h.file, append_calm, seg_append] at kp
  have hs1 := m.st
  rw [hst] at hs1
  have e1 : K1.es = (turnK s (c :: b)).1 := by rw [← hs1]
  have e2 : K1.nt = (turnK s (c :: b)).2 := by rw [← hs1]
  have hsl : segLen (ls ++ [c :: b]) = segLen ls + (b.length + 10) := by
    unfold segLen tot
    simp
    omega
  have k := renew_many kp (L := [(n, seg base (ls ++ [c :: b]))]) (by omega) (by rw [m.base, h.base]; omega) (by rw [m.base, h.base]; omega) (srt_one _) rfl (by have h1 := m.bulk; have h2 := h.bulk; simp at h1; omega) (by rw [e1, e2]; exact hfit) (by rw [m.room, h.room]; exact hr) (by rw [e1, e2, m.room, h.room, sizeK_one, seg_length, hsl]; exact hroom) (by show n + 1 ≤ _; omega)
  rw [m.kpp] at k
  refine k.mono ?_
  rintro e w' ⟨rfl, T2, a⟩
  have kp2 := a.kp
  rw [begun_calm (srt_one _)] at kp2
  rw [e1, e2] at kp2
  have hb2 := a.bulk
  have hba := a.base
  have hla := a.ls
  rw [e1, e2] at hb2 hba hla
  refine ⟨rfl, T2, K1, m.kpp, ⟨kp2, a.file, hba, hla, (a.rp.trans m.rp).trans h.rp, (a.room.trans m.room).trans h.room, ?_, ?_, hs1⟩, m.mv.trans a.mv⟩
  · have h1 := m.bulk
    have h2 := h.bulk
    simp at h1 hb2
    omega
  · refine adds_mv h.adds (m.mv.trans a.mv) fun i hi => ?_
    exact hi.elim (h.kp.tap.low i) fun ho => (h.kp.ke.low i ho).1

end Go.Proofs.YtelkkpomehgcjaaGreat
