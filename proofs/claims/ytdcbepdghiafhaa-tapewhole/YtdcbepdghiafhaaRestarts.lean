/-
  The law TapeRestarts by contract.
-/
import Derived.Test.YtdcbepdghiafhaaCals
namespace Go.Proofs.Ytdcbepdghiafhaa
open Go.RowKit Go.Maps
attribute [local go_sem] cell?_more frozen?_more setCell_more size_more tape_more drew_more drewN_more more_drew more_drewN more_more one_out plus_out plus_end lt_one le_p2 le_p3 le_p4 le_p5 le_p6 le_p7 le_p8 le_p9 le_p10 le_p11 le_p12 le_p13 le_p14 le_p15 le_p16 le_p17 le_p18 le_p19 le_p20 le_p21 le_p22 le_p23 le_p24 le_q0 le_q1 lt_q1 le_q2 lt_q2 le_q3 lt_q3 le_q4 lt_q4 le_q5 lt_q5 le_q6 lt_q6 le_q7 lt_q7 le_q8 lt_q8 le_q9 lt_q9 le_q10 lt_q10 le_q11 lt_q11 le_q12 lt_q12 le_q13 lt_q13 le_q14 lt_q14 le_q15 lt_q15 le_q16 lt_q16 le_q17 lt_q17 le_q18 lt_q18 le_q19 lt_q19 le_q20 lt_q20 le_q21 lt_q21 le_q22 lt_q22 le_q23 lt_q23 le_q24 lt_q24

theorem same_yes {w : World} {v u : Value} {ls : List (List UInt8)} (h : Rws w v ls) (g : Rws w u ls) (hl : ls.length ≤ 1000000) : Calls Try.prog 24 #[v, u] w fun e w' => e = .returned (.bool true) ∧ Adds w w' := by
  have k := same_any v u ls ls w h g hl hl
  rw [decide_eq_true rfl] at k
  exact k

theorem own_rws {B : Nat} {W w' : World} {r : Value} {xs : List Value} {ls : List (List UInt8)} (h : OwnV B 44 r xs W w') (he : EachF B w' xs ls) : Rws w' r ls := ⟨xs, h.lst, he.each⟩

/-- Behind the appendings: begun anew, opened again. -/
theorem rest_steps {w W : World} {T : Tw} {ls : List (List UInt8)} {bulk : Nat} (c : Cal w W T 0 0 ls 20000 bulk) (hb : bulk ≤ 1000000) (hl : ls.length ≤ 30) (ht : tot ls ≤ 3000) :
    Calls Try.prog 23 #[ptr T.p] W fun e w3 => ∃ r3, e = .returned r3 ∧ Adds w w3 ∧
      Calls Try.prog 17 #[ptr T.p, r3] w3 fun e w4 => e = .returned (.int .i64 0) ∧ Adds w w4 ∧
        Calls Try.prog 31 #[ptr T.p] w4 fun e w5 => e = .returned (.int .i64 0) ∧ Adds w w5 ∧
          Calls Try.prog 23 #[ptr T.p] w5 fun e w6 => ∃ r6, e = .returned r6 ∧ Adds w w6 ∧
            Calls Try.prog 24 #[r6, r3] w6 fun e w7 => e = .returned (.bool true) ∧ Adds w w7 ∧
              Calls Try.prog 11 #[ptr (w.heap.size + 1)] w7 fun e w8 => ∃ p, e = .returned (.tuple #[ptr p, .int .i64 0]) ∧ Adds w w8 ∧
                Calls Try.prog 23 #[ptr p] w8 fun e w9 => ∃ r9, e = .returned r9 ∧ Adds w w9 ∧
                  Calls Try.prog 24 #[r9, r3] w9 fun e w10 => e = .returned (.bool true) ∧ Adds w w10 ∧
                    Calls Try.prog 31 #[ptr p] w10 fun e w11 => e = .returned (.int .i64 0) ∧ Adds w w11 := by
  have hf : fits ls := fun b hb => by
    have := le_tot hb
    omega
  have hsl : segLen ls ≤ 4000 := by
    unfold segLen
    omega
  refine (cal_all c (by omega) hf).mono ?_
  rintro e w3 ⟨r3, xs3, rfl, o3, e3⟩
  have c3 := c.more o3.added
  have k3 := rwsA_of (F := T.foot) o3 e3 c.tap.lt
  refine ⟨r3, rfl, c3.adds, ?_⟩
  refine (cal_restart c3 (by decide) (by omega) r3 ls (k3.sub fun b _ hn hc => hn (hc.elim .inl fun e => .inr (.inl e))) hf (by decide) (by omega)).mono ?_
  rintro e w4 ⟨rfl, T4, p4, c4, m4⟩
  have k4 : RwsA w4 T4.foot r3 ls := RwsA.mv (k3.sub fun b _ hn hc => hn (hc.elim .inl fun e => .inr (.inl e))) m4
  refine ⟨rfl, c4.adds, ?_⟩
  rw [← p4]
  have g4 := cal_grown c4 (by omega) (Nat.le_refl _)
  rw [Int.sub_self] at g4
  refine g4.mono ?_
  rintro e w5 ⟨rfl, a5⟩
  have c5 := c4.more a5
  refine ⟨rfl, c5.adds, ?_⟩
  refine (cal_all c5 (by omega) hf).mono ?_
  rintro e w6 ⟨r6, xs6, rfl, o6, e6⟩
  have c6 := c5.more o6.added
  have k6 := k4.mv (Mv.adds _ (a5.trans o6.added))
  refine ⟨r6, rfl, c6.adds, ?_⟩
  refine (same_yes (own_rws o6 e6) k6.rws (by omega)).mono ?_
  rintro e w7 ⟨rfl, a7⟩
  have c7 := c6.more a7
  have k7 : RwsA w7 T4.R.foot r3 ls := RwsA.sub (k6.mv (Mv.adds _ a7)) fun b _ hn hc => hn (.inl hc)
  refine ⟨rfl, c7.adds, ?_⟩
  refine (cal_reopen c7.tap.st c7.rp c7.room (by have := c7.bulk; omega) c7.adds hf (by omega) (Nat.le_refl _) (by omega) (by decide)).mono ?_
  rintro e w8 ⟨T8, rfl, t8, l8, b8, m8, a8⟩
  have k8 : RwsA w8 T8.core r3 ls := k7.mv m8
  refine ⟨T8.p, rfl, a8, ?_⟩
  have q := all_any t8 (by rw [l8]; omega) (by rw [l8]; exact hf)
  rw [l8] at q
  refine q.mono ?_
  rintro e w9 ⟨r9, xs9, rfl, o9, e9⟩
  refine ⟨r9, rfl, a8.trans o9.added, ?_⟩
  refine (same_yes (own_rws o9 e9) (k8.mv (Mv.adds _ o9.added)).rws (by omega)).mono ?_
  rintro e w10 ⟨rfl, a10⟩
  refine ⟨rfl, (a8.trans o9.added).trans a10, ?_⟩
  have g := grown_any (t8.adds (o9.added.trans a10)) (by rw [l8]; omega) (by rw [l8, b8]; exact Nat.le_refl _)
  rw [l8, b8, Int.sub_self] at g
  refine g.mono ?_
  rintro e w11 ⟨rfl, a11⟩
  exact ⟨rfl, ((a8.trans o9.added).trans a10).trans a11⟩

theorem foot_high {w W : World} {T : Tw} {n : Int} {base : Nat} {ls : List (List UInt8)} {room bulk : Nat} (c : Cal w W T n base ls room bulk) {x : Value} {m : List UInt8} (h : BytA w (fun i => w.heap.size ≤ i) x m) : BytA W T.foot x m :=
  (h.mv (Mv.adds _ c.adds)).sub fun b _ hn hf => hn (c.tap.low b hf)

/-- At record k of an argument. -/
theorem RwsA.at {w : World} {F : Nat → Prop} {ao : Option Addr} {n cap : Nat} {ls : List (List UInt8)} (h : RwsA w F (.slice ao n cap) ls) {k : Nat} (hk : k < ls.length) :
    ∃ b off x, ao = some ⟨b, off, none⟩ ∧ b < w.heap.size ∧ w.cell? ⟨b, off + k, none⟩ = some x ∧ BytA w F x ls[k] := by
  obtain ⟨xs, ao', cap', e, hc, h, he⟩ := h
  have hl := he.1
  simp only [Value.slice.injEq] at e
  obtain ⟨rfl, rfl, rfl⟩ := e
  rcases h with rfl | ⟨b, off, rfl, hb, _, hl'⟩
  · simp at hl
    omega
  · exact ⟨b, off, xs[k]'(by omega), rfl, hb, hl' k (by omega), he.2 k (by omega) hk⟩

set_option maxRecDepth 20000 in
theorem tapeRestarts_any (v : Value) (ls : List (List UInt8)) (w : World) (h : Rws w v ls) (hmx : ls.length ≤ 9223372036854775807) : Calls Try.prog 7 #[v] w fun e w' => e = .returned (.bool true) ∧ Adds w w' := by
  obtain ⟨ao, cap, rfl, hcap⟩ := h.slice
  have kN := st_new 20000 (by decide) w
  rw [show ((20000 : Nat) : Int) = 20000 from rfl] at kN
  have hO := h.outer (F := fun i => w.heap.size ≤ i) (fun _ hi => hi)
  go_enter Try.func7, Try.ntmps7
  go_wp2_with (first
    | (go_at_call 8; refine kN.mono ?_; rintro e w1 ⟨rfl, R1, p1, s1, r1, b1, a1⟩; have kA := cal_open s1 p1 r1 b1 a1 (by decide) (by decide); clear p1 s1 r1 b1 a1)
    | (go_at_call 11; refine kA.mono ?_; clear kA; rintro e w2 ⟨T2, rfl, c2⟩))
  clear kN
  go_loopw [7, 8] (fun n i W => ∃ (k : Nat) (T : Tw), k ≤ ls.length ∧ k ≤ 30 ∧ i = .int .i64 k ∧ n = .int .i64 (tot (ls.take k) : Nat) ∧ tot (ls.take k) ≤ 3000 ∧ T.p = T2.p ∧ Cal w W T 0 0 (ls.take k) 20000 (40003 + 2 * tot (ls.take k) + 19 * k)) (fun _ i _ => (30 - intOf i).toNat)
  case atStart => exact ⟨0, T2, by omega, by omega, rfl, rfl, by simp [tot], rfl, by simpa [tot] using c2⟩
  case round =>
    obtain ⟨k, T, hk, hk30, rfl, rfl, htk, hTp, c⟩ := hrel
    have HC : Hid (Cal w wr T 0 0 (ls.take k) 20000 (40003 + 2 * tot (ls.take k) + 19 * k)) := c
    have hTp' : Hid (T.p = T2.p) := hTp
    have htl : (ls.take k).length = k := by simp; omega
    clear c2 c hTp
    by_cases hlt : k < ls.length ∧ k < 30
    · obtain ⟨hlt, h30⟩ := hlt
      obtain ⟨b, off, x, rfl, hb, hc, hx⟩ := hO.at hlt
      obtain ⟨xo, xc, hxv, hxc, _⟩ := hx.byt.open
      subst hxv
      have hxF := foot_high HC.out hx
      have c0 : wr.cell? ⟨b, off + k, none⟩ = some (.slice xo ls[k].length xc) := (World.cell?_of_block (HC.out.adds.below.block b hb)).trans hc
      have htn := tot_next hlt
      have HN : Hid (ls.take (k + 1) = ls.take k ++ [ls[k]]) := List.take_succ_eq_append_getElem hlt
      by_cases hbig : tot (ls.take k) + ls[k].length ≤ 3000
      · have kA := cal_append HC.out (by decide) (by omega) _ ls[k] hxF (by omega) (by unfold segLen; rw [htl]; omega) (by rw [htl]; omega)
        rw [hTp'.out, ← HN.out] at kA
        have kGr : ∀ W (T' : Tw) B', T'.p = T2.p → Cal w W T' 0 0 (ls.take (k + 1)) 20000 B' → Calls Try.prog 31 #[ptr T2.p] W fun e w' => e = .returned (.int .i64 ((k : Int) + 1)) ∧ Adds W w' := fun W T' B' hp' c' => by
          have g := cal_grown c' (by simp; omega) (Nat.zero_le _)
          rw [hp', show (((ls.take (k + 1)).length : Int) - ((0 : Nat) : Int)) = (k : Int) + 1 by simp; omega] at g
          exact g
        have i1 : (k : Int) < (ls.length : Int) := by omega
        have i3 : (ls[k].length : Int) ≤ (3000 : Int) - (tot (ls.take k) : Int) := by omega
        have HT : Hid (tot (ls.take (k + 1)) = tot (ls.take k) + ls[k].length) := htn
        clear htn hc hx hxF hO h hmx hcap
        generalize ls[k].length = L at *
        generalize tot (ls.take k) = S at *
        go_wp2_with (first
          | (go_at_call 15; refine kA.mono ?_; rintro e w3 ⟨rfl, T3, p3, c3, m3⟩; have kG := kGr w3 T3 _ p3 c3; have HC3 : Hid _ := c3; have HP3 : Hid (T3.p = T2.p) := p3; clear c3 m3 p3)
          | (go_at_call 31; refine kG.mono ?_; rintro e w4 ⟨rfl, a4⟩))
        go_roundw
        case rel =>
          refine ⟨k + 1, T3, by omega, by omega, by go_num, by rw [HT.out]; go_num, by rw [HT.out]; omega, HP3.out, ?_⟩
          have c4 := Cal.more HC3.out a4
          rw [HT.out]
          exact ⟨c4.tap, c4.file, c4.base, c4.ls, c4.rp, c4.room, Nat.le_trans c4.bulk (by omega), c4.adds⟩
        case measure => simp [intOf]; omega
      · have i1 : (k : Int) < (ls.length : Int) := by omega
        have i2 : (3000 : Int) - (tot (ls.take k) : Int) < (ls[k].length : Int) := by omega
        clear htn hc hx hxF hO h
        generalize ls[k].length = L at *
        generalize tot (ls.take k) = S at *
        go_wp2_with (go_at_call 10; refine (awake_any _).mono ?_; rintro e w3 ⟨rfl, a3⟩)
        go_ret
        exact ⟨rfl, (Cal.adds HC.out).trans a3⟩
    · have hE : Hid (Calls Try.prog 23 #[ptr T2.p] wr fun e w3 => ∃ r3, e = .returned r3 ∧ Adds w w3 ∧
      Calls Try.prog 17 #[ptr T2.p, r3] w3 fun e w4 => e = .returned (.int .i64 0) ∧ Adds w w4 ∧
        Calls Try.prog 31 #[ptr T2.p] w4 fun e w5 => e = .returned (.int .i64 0) ∧ Adds w w5 ∧
          Calls Try.prog 23 #[ptr T2.p] w5 fun e w6 => ∃ r6, e = .returned r6 ∧ Adds w w6 ∧
            Calls Try.prog 24 #[r6, r3] w6 fun e w7 => e = .returned (.bool true) ∧ Adds w w7 ∧
              Calls Try.prog 11 #[ptr (w.heap.size + 1)] w7 fun e w8 => ∃ p, e = .returned (.tuple #[ptr p, .int .i64 0]) ∧ Adds w w8 ∧
                Calls Try.prog 23 #[ptr p] w8 fun e w9 => ∃ r9, e = .returned r9 ∧ Adds w w9 ∧
                  Calls Try.prog 24 #[r9, r3] w9 fun e w10 => e = .returned (.bool true) ∧ Adds w w10 ∧
                    Calls Try.prog 31 #[ptr p] w10 fun e w11 => e = .returned (.int .i64 0) ∧ Adds w w11) := by
        have k := rest_steps HC.out (by omega) (by rw [htl]; exact hk30) htk
        rw [hTp'.out] at k
        exact k
      have hcase : (k < ls.length ∧ k = 30) ∨ k = ls.length := by omega
      have kE := hE.out
      clear hE HC hO h
      rcases hcase with ⟨hlt2, rfl⟩ | rfl
      · have i1 : ((30 : Nat) : Int) < (ls.length : Int) := by omega
        go_wp2_with (first
          | (go_at_call 23; refine kE.mono ?_; clear kE; rintro e w3 ⟨r3, rfl, a3, k3⟩)
          | (go_at_call 17; refine k3.mono ?_; clear k3; rintro e w4 ⟨rfl, a4, k4⟩)
          | (go_at_call 31; refine k4.mono ?_; clear k4; rintro e w5 ⟨rfl, a5, k5⟩)
          | (go_at_call 23; refine k5.mono ?_; clear k5; rintro e w6 ⟨r6, rfl, a6, k6⟩)
          | (go_at_call 24; refine k6.mono ?_; clear k6; rintro e w7 ⟨rfl, a7, k7⟩)
          | (go_at_call 11; refine k7.mono ?_; clear k7; rintro e w8 ⟨p8, rfl, a8, k8⟩)
          | (go_at_call 23; refine k8.mono ?_; clear k8; rintro e w9 ⟨r9, rfl, a9, k9⟩)
          | (go_at_call 24; refine k9.mono ?_; clear k9; rintro e w10 ⟨rfl, a10, k10⟩)
          | (go_at_call 31; refine k10.mono ?_; clear k10; rintro e w11 ⟨rfl, a11⟩)
          | (go_at_call 10; refine (awake_any _).mono ?_; rintro e w12 ⟨rfl, a12⟩))
        go_ret
        exact ⟨rfl, a11.trans a12⟩
      · have i1 : ¬ ((ls.length : Int) < (ls.length : Int)) := by omega
        go_wp2_with (first
          | (go_at_call 23; refine kE.mono ?_; clear kE; rintro e w3 ⟨r3, rfl, a3, k3⟩)
          | (go_at_call 17; refine k3.mono ?_; clear k3; rintro e w4 ⟨rfl, a4, k4⟩)
          | (go_at_call 31; refine k4.mono ?_; clear k4; rintro e w5 ⟨rfl, a5, k5⟩)
          | (go_at_call 23; refine k5.mono ?_; clear k5; rintro e w6 ⟨r6, rfl, a6, k6⟩)
          | (go_at_call 24; refine k6.mono ?_; clear k6; rintro e w7 ⟨rfl, a7, k7⟩)
          | (go_at_call 11; refine k7.mono ?_; clear k7; rintro e w8 ⟨p8, rfl, a8, k8⟩)
          | (go_at_call 23; refine k8.mono ?_; clear k8; rintro e w9 ⟨r9, rfl, a9, k9⟩)
          | (go_at_call 24; refine k9.mono ?_; clear k9; rintro e w10 ⟨rfl, a10, k10⟩)
          | (go_at_call 31; refine k10.mono ?_; clear k10; rintro e w11 ⟨rfl, a11⟩)
          | (go_at_call 10; refine (awake_any _).mono ?_; rintro e w12 ⟨rfl, a12⟩))
        go_ret
        exact ⟨rfl, a11.trans a12⟩

end Go.Proofs.Ytdcbepdghiafhaa
