/-
  The function awake of layer 9's laws by contract.
-/
import Derived.Test.YtelkkpomehgcjaaGreatKcal
namespace Go.Proofs.YtelkkpomehgcjaaGreat
open Go.RowKit Go.Maps
attribute [local go_sem] cell?_more frozen?_more setCell_more size_more tape_more drew_more drewN_more more_drew more_drewN more_more one_out plus_out plus_end lt_one le_p2 le_p3 le_p4 le_p5 le_p6 le_p7 le_p8 le_p9 le_p10 le_p11 le_p12 le_p13 le_p14 le_p15 le_p16 le_p17 le_p18 le_p19 le_p20 le_p21 le_p22 le_p23 le_p24 le_q0 le_q1 lt_q1 le_q2 lt_q2 le_q3 lt_q3 le_q4 lt_q4 le_q5 lt_q5 le_q6 lt_q6 le_q7 lt_q7 le_q8 lt_q8 le_q9 lt_q9 le_q10 lt_q10 le_q11 lt_q11 le_q12 lt_q12 le_q13 lt_q13 le_q14 lt_q14 le_q15 lt_q15 le_q16 lt_q16 le_q17 lt_q17 le_q18 lt_q18 le_q19 lt_q19 le_q20 lt_q20 le_q21 lt_q21 le_q22 lt_q22 le_q23 lt_q23 le_q24 lt_q24

theorem recsK_seg (n : Int) {base : Nat} {ls : List (List UInt8)} (h : fits ls) (hb : base ≤ ls.length) (hl : ls.length ≤ 1000000) : recsK [(n, seg base ls)] = ls := by
  unfold recsK
  rw [newK_seg n h hb hl]

theorem conv_one (w : World) (c : Int) : (convert 40 40 (.slice (some ⟨w.heap.size, 0, none⟩) 1 1)).run Tryz.prog (w.alloc (.cells #[.int .u8 c] 5)) = .ok (.slice (some ⟨w.heap.size, 0, none⟩) 1 1) (w.alloc (.cells #[.int .u8 c] 5 (1, 2))) := by
  have hc := Lib.run_convert_bytes_const (P := Tryz.prog) w 40 5 #[.int .u8 c] 1 1 Tryz.underlying40 Tryz.underlying5
  simpa using hc

theorem byt_one (w : World) (c : UInt8) : Byt (w.alloc (.cells #[.int .u8 (c.toNat : Int)] 5 (1, 2))) (.slice (some ⟨w.heap.size, 0, none⟩) 1 1) [c] := by
  refine byt_of (l := [c]) (Nat.le_refl _) (.inr ⟨w.heap.size, 0, rfl, by simp, ?_⟩)
  intro j hj
  have : j = 0 := by simpa using hj
  subst this
  have hb := new_block w (.cells #[.int .u8 (c.toNat : Int)] 5 (1, 2))
  exact cell_of_row _ w.heap.size 0 _ _ _ hb

/-- Opened again: what its records make. -/
theorem calK_reopen {w W : World} {R : Rw} {n l : Int} {base : Nat} {ls : List (List UInt8)} {room : Nat} (hs : St W w.heap.size R (calm [(n, seg base ls)] l)) (hp : R.p = w.heap.size + 1) (hr : R.room = room) (hb : R.bulk ≤ 17179869184) (ha : Adds w W) (hf : fits ls) (hbase : base ≤ ls.length) (hlen : segLen ls ≤ room) (h2 : room ≤ 1000000) (hsane : ls.all knownK = true) :
    Calls Tryz.prog 9 #[ptr (w.heap.size + 1)] W fun e w' => ∃ K, e = .returned (.tuple #[ptr K.p, .int .i64 0]) ∧ Kr w' K ∧ (K.es, K.nt) = foldT ls ∧ (∃ F, Mv W R.foot w' F) ∧ Adds w w' := by
  have hll : ls.length ≤ 1000000 := by unfold segLen at hlen; omega
  have hrk := recsK_seg n hf hbase hll
  have hnk := newK_seg n (base := base) hf hbase hll
  have k := openK_any hs (L := [(n, seg base ls)]) (srt_one _) rfl (by omega) (by omega) (by rw [sizeK_one, seg_length, hr]; exact hlen) (by unfold roomy; rw [hnk]; trivial) (by unfold sane; rw [hrk]; exact hsane)
  rw [hp] at k
  refine k.mono ?_
  rintro e w' ⟨K, T, s0, rfl, ok⟩
  obtain ⟨w2, o, a2, rfl⟩ := ok.tape
  have hst := ok.st
  rw [hrk] at hst
  exact ⟨K, rfl, ok.ke.kr, hst, ⟨_, o.mv.trans (Mv.adds _ a2)⟩, (adds_mv ha o.mv fun i hi => (hs.live.mem.lt hi).1).trans a2⟩

def recsA : List (List UInt8) := [[0, 97], [0, 98], [3, 0, 0, 0, 1]]

set_option maxRecDepth 20000 in
set_option maxHeartbeats 1000000 in
theorem awake_any (w : World) : Calls Tryz.prog 8 #[] w fun e w' => e = .returned (.bool true) ∧ Adds w w' := by
  have kN := st_new 1000 (by decide) w
  rw [show ((1000 : Nat) : Int) = 1000 from rfl] at kN
  have k1 : ∀ w1 R1, R1.p = w.heap.size + 1 → St w1 w.heap.size R1 (calm [] 0) → R1.room = 1000 → R1.bulk = 0 → Adds w w1 →
      Calls Tryz.prog 9 #[ptr (w.heap.size + 1)] w1 fun e w' => ∃ T K, e = .returned (.tuple #[ptr K.p, .int .i64 0]) ∧ CalK w w' T K 0 0 [] ([], []) 1000 3000 := by
    intro w1 R1 hp hs hr hb ha
    refine (calK_open hs hp hr hb ha (by decide) (by decide)).mono ?_
    rintro e w' ⟨T, K, rfl, k⟩
    exact ⟨T, K, rfl, k.kp, k.file, k.base, k.ls, k.rp, k.room, by have := k.bulk; omega, k.adds, k.st⟩
  have k2 : ∀ w1 T K, CalK w w1 T K 0 0 [] ([], []) 1000 3000 →
      Calls Tryz.prog 24 #[ptr K.p, .slice (some ⟨w1.heap.size, 0, none⟩) 1 1] (w1.alloc (.cells #[.int .u8 97] 5 (1, 2))) fun e w' => e = .returned (.int .i64 0) ∧ ∃ T' K', K'.p = K.p ∧ CalK w w' T' K' 0 0 [[0, 97]] ([[0, 97]], []) 1000 4000 := by
    intro w1 T K k
    refine (add_of (calK_few (k.more ((Adds.refl _).alloc _)) (by decide) (by decide) (by decide) 0 _ [97] (byt_one w1 97) (by decide) (by decide) (by decide) (by decide) (by decide) (by decide))).mono ?_
    rintro e w' ⟨rfl, T', K', hp, k', _⟩
    exact ⟨rfl, T', K', hp, k'.kp, k'.file, k'.base, k'.ls, k'.rp, k'.room, by have := k'.bulk; simp at this; omega, k'.adds, k'.st⟩
  have k3 : ∀ w1 T K, CalK w w1 T K 0 0 [[0, 97]] ([[0, 97]], []) 1000 4000 →
      Calls Tryz.prog 24 #[ptr K.p, .slice (some ⟨w1.heap.size, 0, none⟩) 1 1] (w1.alloc (.cells #[.int .u8 98] 5 (1, 2))) fun e w' => e = .returned (.int .i64 0) ∧ ∃ T' K', K'.p = K.p ∧ CalK w w' T' K' 0 0 [[0, 97], [0, 98]] ([[0, 97], [0, 98]], []) 1000 5000 := by
    intro w1 T K k
    refine (add_of (calK_few (k.more ((Adds.refl _).alloc _)) (by decide) (by decide) (by decide) 0 _ [98] (byt_one w1 98) (by decide) (by decide) (by decide) (by decide) (by decide) (by decide))).mono ?_
    rintro e w' ⟨rfl, T', K', hp, k', _⟩
    exact ⟨rfl, T', K', hp, k'.kp, k'.file, k'.base, k'.ls, k'.rp, k'.room, by have := k'.bulk; simp at this; omega, k'.adds, k'.st⟩
  have k4 : ∀ w1 T K, CalK w w1 T K 0 0 [[0, 97], [0, 98]] ([[0, 97], [0, 98]], []) 1000 5000 →
      Calls Tryz.prog 25 #[ptr K.p, .int .i64 1] w1 fun e w' => e = .returned (.int .i64 0) ∧ ∃ R, St w' w.heap.size R (calm [(0, seg 0 recsA)] 0) ∧ R.p = w.heap.size + 1 ∧ R.room = 1000 ∧ R.bulk ≤ 6000 ∧ Adds w w' := by
    intro w1 T K k
    have hes : K.es = [[0, 97], [0, 98]] := congrArg Prod.fst k.st
    refine cut_of k.kp.ke.kr 1 (by rw [hes]; decide) (by rw [hes]; decide) ?_
    intro W x hW hx
    refine (calK_few (k.more hW) (by decide) (by decide) (by decide) 3 x (four 1) hx (by decide) (by decide) (by decide) (by decide) (by decide) (by decide)).mono ?_
    rintro e w' ⟨rfl, T', K', hp, k', _⟩
    have h4 : (four 1).length = 4 := rfl
    have st := k'.kp.tap.st
    have er : [[0, 97], [0, 98]] ++ [3 :: four 1] = recsA := by decide
    rw [er] at st
    have hbk := k'.bulk
    rw [h4] at hbk
    exact ⟨rfl, T'.R, st, k'.rp, k'.room, Nat.le_trans hbk (by decide), k'.adds⟩
  have k5 : ∀ w1 R1, St w1 w.heap.size R1 (calm [(0, seg 0 recsA)] 0) → R1.p = w.heap.size + 1 → R1.room = 1000 → R1.bulk ≤ 6000 → Adds w w1 →
      Calls Tryz.prog 14 #[ptr (w.heap.size + 1), .int .i64 0] w1 fun e w' => e = .returned (.tuple #[]) ∧ ∃ R l, St w' w.heap.size R (calm [(0, seg 0 recsA)] l) ∧ R.p = w.heap.size + 1 ∧ R.room = 1000 ∧ R.bulk ≤ 6000 ∧ Adds w w' := by
    intro w1 R1 hs hp hr hb ha
    have k := st_crash hs 0 0 (by decide) (by omega)
    rw [hp] at k
    refine k.mono ?_
    rintro e w' ⟨rfl, R', l, s', g'⟩
    have s2 : St w' w.heap.size R' (calm [(0, seg 0 recsA)] l) := by
      have e : (⟨keepF (calm [(0, seg 0 recsA)] 0).f (calm [(0, seg 0 recsA)] 0).ds 0, [], ⟨0, false, l, false⟩⟩ : Dk) = calm [(0, seg 0 recsA)] l := by
        unfold calm
        simp only
        rw [keep_nil]
      rw [← e]
      exact s'
    have := g'.bulk
    exact ⟨rfl, R', l, s2, g'.p.trans hp, g'.room.trans hr, by omega, adds_mv ha g'.moves.mv fun i hi => (hs.live.mem.lt hi).1⟩
  have k6 : ∀ w1 R1 l, St w1 w.heap.size R1 (calm [(0, seg 0 recsA)] l) → R1.p = w.heap.size + 1 → R1.room = 1000 → R1.bulk ≤ 6000 → Adds w w1 →
      Calls Tryz.prog 9 #[ptr (w.heap.size + 1)] w1 fun e w' => ∃ K, e = .returned (.tuple #[ptr K.p, .int .i64 0]) ∧ Kr w' K ∧ K.es = [[0, 97]] ∧ Adds w w' := by
    intro w1 R1 l hs hp hr hb ha
    have hft : fits recsA := by
      intro x hx
      simp only [recsA, List.mem_cons, List.not_mem_nil, or_false] at hx
      rcases hx with rfl | rfl | rfl <;> decide
    refine (calK_reopen hs hp hr (by omega) ha hft (by decide) (by decide) (by decide) (by decide)).mono ?_
    rintro e w' ⟨K, rfl, kr, st, _, a⟩
    exact ⟨K, rfl, kr, congrArg Prod.fst st, a⟩
  have k7 : ∀ w1 K, Kr w1 K → K.es = [[0, 97]] → Adds w w1 →
      Calls Tryz.prog 26 #[ptr K.p, .int .i64 0] w1 fun e w' => ∃ r, e = .returned (.tuple #[r, .bool true]) ∧ (convert 40 9 r).run Tryz.prog w' = .ok (.string ⟨#[97]⟩) w' ∧ Kr w' K ∧ Adds w w' := by
    intro w1 K kr he ha
    have k := getK_any kr (i := 0) (by rw [he]; simp) (by simp [he])
    refine k.mono ?_
    rintro e w' ⟨r, rfl, h1, h2⟩
    have hb := (row_byt h1).str
    simp only [he, List.getElem_cons_zero] at hb
    exact ⟨r, rfl, hb, kr.adds h2, ha.trans h2⟩
  have k8 : ∀ w1 K, Kr w1 K → K.es = [[0, 97]] → Calls Tryz.prog 27 #[ptr K.p] w1 fun e w' => e = .returned (.int .i64 1) ∧ w' = w1 := by
    intro w1 K kr he
    have k := lenK_any kr
    rw [he] at k
    exact k
  have hca := conv_one
  go_enter Tryz.func8, Tryz.ntmps8
  go_wp2_with (first
    | (go_at_call 6; refine kN.mono ?_; rintro e w1 ⟨rfl, R1, p1, s1, r1, b1, a1⟩; have kA := k1 w1 R1 p1 s1 r1 b1 a1; clear p1 s1 r1 b1 a1)
    | (go_at_call 9; refine kA.mono ?_; clear kA; rintro e w2 ⟨T2, K2, rfl, x2⟩; have kB := k2 w2 T2 K2 x2; clear x2)
    | (go_at_call 24; refine kB.mono ?_; clear kB; rintro e w3 ⟨rfl, T3, K3, hp3, x3⟩; have kC := k3 w3 T3 K3 x3; rw [hp3] at kC; have HP3 : Hid _ := hp3; clear x3 hp3)
    | (go_at_call 24; refine kC.mono ?_; clear kC; rintro e w4 ⟨rfl, T4, K4, hp4, x4⟩; have kD := k4 w4 T4 K4 x4; rw [hp4] at kD; clear x4 hp4)
    | (go_at_call 25; refine kD.mono ?_; clear kD; rintro e w5 ⟨rfl, R5, x1, x2, x3, x4, x5⟩; have kE := k5 w5 R5 x1 x2 x3 x4 x5; clear x1 x2 x3 x4 x5)
    | (go_at_call 14; refine kE.mono ?_; clear kE; rintro e w6 ⟨rfl, R6, l6, x1, x2, x3, x4, x5⟩; have kF := k6 w6 R6 l6 x1 x2 x3 x4 x5; clear x1 x2 x3 x4 x5)
    | (go_at_call 9; refine kF.mono ?_; clear kF; rintro e w7 ⟨K7, rfl, x1, x2, x3⟩; have kG := k7 w7 K7 x1 x2 x3; have HL : Hid (K7.es = [[0, 97]]) := x2; clear x1 x2 x3)
    | (go_at_call 26; refine kG.mono ?_; clear kG; rintro e w8 ⟨r8, rfl, hs8, t8, a8⟩; have kH := k8 w8 K7 t8 HL.out; clear t8)
    | (go_at_call 27; refine kH.mono ?_; rintro e w9 ⟨rfl, rfl⟩))
  go_ret
  exact ⟨by simp, a8⟩

end Go.Proofs.YtelkkpomehgcjaaGreat
