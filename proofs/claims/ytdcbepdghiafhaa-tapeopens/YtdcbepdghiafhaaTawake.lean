/-
  The function awake of layer 7's laws by contract.
-/
import Derived.Test.YtdcbepdghiafhaaTwrite
import Derived.Test.YtdcbepdghiafhaaCalm
namespace Go.Proofs.Ytdcbepdghiafhaa
open Go.RowKit Go.Maps
attribute [local go_sem] cell?_more frozen?_more setCell_more size_more tape_more drew_more drewN_more more_drew more_drewN more_more one_out plus_out plus_end lt_one le_p2 le_p3 le_p4 le_p5 le_p6 le_p7 le_p8 le_p9 le_p10 le_p11 le_p12 le_p13 le_p14 le_p15 le_p16 le_p17 le_p18 le_p19 le_p20 le_p21 le_p22 le_p23 le_p24 le_q0 le_q1 lt_q1 le_q2 lt_q2 le_q3 lt_q3 le_q4 lt_q4 le_q5 lt_q5 le_q6 lt_q6 le_q7 lt_q7 le_q8 lt_q8 le_q9 lt_q9 le_q10 lt_q10 le_q11 lt_q11 le_q12 lt_q12 le_q13 lt_q13 le_q14 lt_q14 le_q15 lt_q15 le_q16 lt_q16 le_q17 lt_q17 le_q18 lt_q18 le_q19 lt_q19 le_q20 lt_q20 le_q21 lt_q21 le_q22 lt_q22 le_q23 lt_q23 le_q24 lt_q24

theorem adds_mv {w W w' : World} {F F' : Nat → Prop} (ha : Adds w W) (m : Mv W F w' F') (hF : ∀ i, F i → w.heap.size ≤ i) : Adds w w' := by
  have hb := ha.below
  exact Adds.of (hb.trans (m.below hF hb.size))

theorem Opened.tapW {w w' : World} {B : Nat} {R : Rw} {d : Dk} {K : Kf} {T : Tw} (h : Opened w B R d K w' T) (hn : newK K = none) : TapW w' B T (d.opened K).d := by
  have hv := h.nil hn
  have hl : T.ls = [] := by
    rw [h.ls]
    unfold Dk.opened
    rw [hn]
  refine ⟨h.tap.st, h.tap.hp, h.tap.bp, [], ?_, ?_⟩
  · rw [hv]
    exact World.ownsRow_nil _ _ _ _
  · rw [hl]
    exact eachA_nil _ _

theorem st_new (room : Nat) (hr : room ≤ 1048576) (w : World) :
    Calls Try.prog 8 #[.int .i64 (room : Int)] w fun e w' => e = .returned (.tuple #[ptr (w.heap.size + 1), .int .i64 0]) ∧ ∃ R, R.p = w.heap.size + 1 ∧ St w' w.heap.size R (calm [] 0) ∧ R.room = room ∧ R.bulk = 0 ∧ Adds w w' := by
  refine (live_new room hr w).mono ?_
  rintro e w1 ⟨rfl, R, hp, L, hd, _, hroom, hpw, hb, ha⟩
  refine ⟨rfl, R, hp, ⟨?_, hd, hpw⟩, hroom, hb, ha⟩
  exact L

theorem conv_a (w : World) : (convert 44 44 (.slice (some ⟨w.heap.size, 0, none⟩) 1 1)).run Try.prog (w.alloc (.cells #[.int .u8 97] 5)) = .ok (.slice (some ⟨w.heap.size, 0, none⟩) 1 1) (w.alloc (.cells #[.int .u8 97] 5 (1, 2))) := by
  have hc := Lib.run_convert_bytes_const (P := Try.prog) w 44 5 #[.int .u8 97] 1 1 Try.underlying44 Try.underlying5
  simpa using hc

theorem bytA_a (w : World) (F : Nat → Prop) (hF : ∀ i, F i → i < w.heap.size) : BytA (w.alloc (.cells #[.int .u8 97] 5 (1, 2))) F (.slice (some ⟨w.heap.size, 0, none⟩) 1 1) [97] := by
  refine ⟨_, 1, rfl, Nat.le_refl _, .inr ⟨w.heap.size, 0, rfl, by simp, fun hf => by have := hF _ hf; omega, ?_⟩⟩
  intro j hj
  have : j = 0 := by simpa using hj
  subst this
  have hb := new_block w (.cells #[.int .u8 97] 5 (1, 2))
  exact cell_of_row _ w.heap.size 0 _ _ _ hb

theorem fits_one (b : List UInt8) (h : b.length ≤ 16384) : fits [b] := by
  intro x hx
  simp only [List.mem_singleton] at hx
  rw [hx]
  exact h

set_option maxRecDepth 20000 in
theorem awake_any (w : World) : Calls Try.prog 10 #[] w fun e w' => e = .returned (.bool true) ∧ Adds w w' := by
  have kN := st_new 1000 (by decide) w
  rw [show ((1000 : Nat) : Int) = 1000 from rfl] at kN
  have k1 : ∀ w1 R1, R1.p = w.heap.size + 1 → St w1 w.heap.size R1 (calm [] 0) → R1.room = 1000 → R1.bulk = 0 → Adds w w1 →
      Calls Try.prog 11 #[ptr (w.heap.size + 1)] w1 fun e w' => ∃ T : Tw, e = .returned (.tuple #[ptr T.p, .int .i64 0]) ∧ TapW w' w.heap.size T (calm [(0, seg 0 [])] 0) ∧ T.file = 0 ∧ T.ls = [] ∧ T.R.p = w.heap.size + 1 ∧ T.R.room = 1000 ∧ T.R.bulk ≤ 3000 ∧ Adds w w' := by
    intro w1 R1 hp hs hr hb ha
    have k := open_any hs (K := []) (by simp [SrtK]) rfl (by omega) (by omega) (by simp [sizeK]) (by unfold roomy; rw [show newK [] = none from rfl]; exact ⟨by simp [sizeK]; omega, by decide⟩)
    rw [hp] at k
    refine k.mono ?_
    rintro e w' ⟨T, rfl, o⟩
    have t := o.tapW rfl
    have e1 := opened_none 0
    rw [e1] at t
    have ef := o.file
    have el := o.ls
    have eb := o.bulk
    rw [e1] at ef el
    refine ⟨T, rfl, t, ef, el, o.p.trans hp, o.room.trans hr, ?_, adds_mv ha o.mv fun i hi => (hs.live.mem.lt hi).1⟩
    rw [hb, hr] at eb
    simp at eb
    omega
  have k2 : ∀ w1 T, TapW w1 w.heap.size T (calm [(0, seg 0 [])] 0) → T.file = 0 → T.ls = [] → T.R.p = w.heap.size + 1 → T.R.room = 1000 → T.R.bulk ≤ 3000 → Adds w w1 →
      Calls Try.prog 15 #[ptr T.p, .slice (some ⟨w1.heap.size, 0, none⟩) 1 1] (w1.alloc (.cells #[.int .u8 97] 5 (1, 2))) fun e w' => e = .returned (.int .i64 0) ∧ ∃ R, St w' w.heap.size R (calm [(0, seg 0 [[97]])] 0) ∧ R.p = w.heap.size + 1 ∧ R.room = 1000 ∧ R.bulk ≤ 4000 ∧ Adds w w' := by
    intro w1 T t hf hl hp hr hb ha
    have t' := t.adds ((Adds.refl w1).alloc (.cells #[.int .u8 97] 5 (1, 2)))
    refine (append_tape t' (K := [(0, seg 0 [])]) (srt_one _) rfl (by omega) _ [97] (bytA_a w1 _ t.lt) (by simp) (by rw [hf]; decide) ?_ (by rw [hl]; simp)).mono ?_
    · rw [sizeK_one, seg_length, hr]
      simp [segLen, tot]
    · rintro e w' ⟨rfl, T', a⟩
      have st := a.tap.st
      rw [hf, append_calm, seg_append] at st
      refine ⟨rfl, T'.R, st, a.rp.trans hp, a.room.trans hr, ?_, adds_mv (ha.alloc _) a.mv t'.low⟩
      have := a.bulk
      simp at this
      omega
  have k3 : ∀ w1 R1, St w1 w.heap.size R1 (calm [(0, seg 0 [[97]])] 0) → R1.p = w.heap.size + 1 → R1.room = 1000 → R1.bulk ≤ 4000 → Adds w w1 →
      Calls Try.prog 21 #[ptr (w.heap.size + 1), .int .i64 0] w1 fun e w' => e = .returned (.tuple #[]) ∧ ∃ R l, St w' w.heap.size R (calm [(0, seg 0 [[97]])] l) ∧ R.p = w.heap.size + 1 ∧ R.room = 1000 ∧ R.bulk ≤ 4000 ∧ Adds w w' := by
    intro w1 R1 hs hp hr hb ha
    have k := st_crash hs 0 0 (by decide) (by omega)
    rw [hp] at k
    refine k.mono ?_
    rintro e w' ⟨rfl, R', l, s', g'⟩
    have s2 : St w' w.heap.size R' (calm [(0, seg 0 [[97]])] l) := by
      have e : (⟨keepF (calm [(0, seg 0 [[97]])] 0).f (calm [(0, seg 0 [[97]])] 0).ds 0, [], ⟨0, false, l, false⟩⟩ : Dk) = calm [(0, seg 0 [[97]])] l := by
        unfold calm
        simp only
        rw [keep_nil]
      rw [← e]
      exact s'
    have := g'.bulk
    exact ⟨rfl, R', l, s2, g'.p.trans hp, g'.room.trans hr, by omega, adds_mv ha g'.moves.mv fun i hi => (hs.live.mem.lt hi).1⟩
  have k4 : ∀ w1 R1 l, St w1 w.heap.size R1 (calm [(0, seg 0 [[97]])] l) → R1.p = w.heap.size + 1 → R1.room = 1000 → R1.bulk ≤ 4000 → Adds w w1 →
      Calls Try.prog 11 #[ptr (w.heap.size + 1)] w1 fun e w' => ∃ T d, e = .returned (.tuple #[ptr T.p, .int .i64 0]) ∧ Tap w' w.heap.size T d ∧ T.ls = [[97]] ∧ Adds w w' := by
    intro w1 R1 l hs hp hr hb ha
    have hft : fits [[97]] := fits_one _ (by simp)
    have hnk := newK_seg 0 (base := 0) hft (by simp) (by simp)
    have k := open_any hs (K := [(0, seg 0 [[97]])]) (srt_one _) rfl (by omega) (by omega) (by rw [sizeK_one, seg_length]; simp [segLen, tot]) (by unfold roomy; rw [hnk]; trivial)
    rw [hp] at k
    refine k.mono ?_
    rintro e w' ⟨T, rfl, o⟩
    have el := o.ls
    rw [opened_calm 0 hft (by simp) (by simp)] at el
    exact ⟨T, _, rfl, o.tap, el, adds_mv ha o.mv fun i hi => (hs.live.mem.lt hi).1⟩
  have k5 : ∀ w1 T d, Tap w1 w.heap.size T d → T.ls = [[97]] → Adds w w1 →
      Calls Try.prog 29 #[ptr T.p, .int .i64 0] w1 fun e w' => ∃ r, e = .returned (.tuple #[r, .bool true]) ∧ (convert 44 9 r).run Try.prog w' = .ok (.string ⟨#[97]⟩) w' ∧ Tap w' w.heap.size T d ∧ Adds w w' := by
    intro w1 T d t hl ha
    have k := get_any t (i := 0) (by rw [hl]; simp) (by simp [hl])
    refine k.mono ?_
    rintro e w' ⟨r, rfl, h1, h2⟩
    have hb := (row_byt h1).str
    simp only [hl, List.getElem_cons_zero] at hb
    exact ⟨r, rfl, hb, t.adds h2, ha.trans h2⟩
  have k6 : ∀ w1 T d, Tap w1 w.heap.size T d → T.ls = [[97]] → Calls Try.prog 30 #[ptr T.p] w1 fun e w' => e = .returned (.int .i64 1) ∧ w' = w1 := by
    intro w1 T d t hl
    have k := len_any t
    rw [hl] at k
    exact k
  have hca := conv_a
  go_enter Try.func10, Try.ntmps10
  go_wp2_with (first
    | (go_at_call 8; refine kN.mono ?_; rintro e w1 ⟨rfl, R1, p1, s1, r1, b1, a1⟩; have kA := k1 w1 R1 p1 s1 r1 b1 a1; clear p1 s1 r1 b1 a1)
    | (go_at_call 11; refine kA.mono ?_; clear kA; rintro e w2 ⟨T2, rfl, x1, x2, x3, x4, x5, x6, x7⟩; have kB := k2 w2 T2 x1 x2 x3 x4 x5 x6 x7; clear x1 x2 x3 x4 x5 x6 x7)
    | (go_at_call 15; refine kB.mono ?_; rintro e w3 ⟨rfl, R3, x1, x2, x3, x4, x5⟩; have kC := k3 w3 R3 x1 x2 x3 x4 x5; clear x1 x2 x3 x4 x5)
    | (go_at_call 21; refine kC.mono ?_; rintro e w4 ⟨rfl, R4, l4, x1, x2, x3, x4, x5⟩; have kD := k4 w4 R4 l4 x1 x2 x3 x4 x5; clear x1 x2 x3 x4 x5)
    | (go_at_call 11; refine kD.mono ?_; rintro e w5 ⟨T5, d5, rfl, x1, x2, x3⟩; have kE := k5 w5 T5 d5 x1 x2 x3; have HL : Hid (T5.ls = [[97]]) := x2; clear x1 x2 x3)
    | (go_at_call 29; refine kE.mono ?_; rintro e w6 ⟨r6, rfl, hs6, t6, a6⟩; have kF := k6 w6 T5 d5 t6 HL.out; clear t6)
    | (go_at_call 30; refine kF.mono ?_; rintro e w7 ⟨rfl, rfl⟩))
  go_ret
  exact ⟨by simp, a6⟩

end Go.Proofs.Ytdcbepdghiafhaa
