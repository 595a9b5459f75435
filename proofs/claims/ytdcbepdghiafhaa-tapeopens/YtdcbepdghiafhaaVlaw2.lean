/-
  The law TapeOpens: the two Opens, and like.
-/
import Derived.Test.YtdcbepdghiafhaaVlaw
namespace Go.Proofs.Ytdcbepdghiafhaa
open Go.RowKit Go.Maps

/-- Opened on both sides. -/
def OpenOk (w W : World) (q : Nat) (kv dv : Value) (r : Rf) : Prop :=
  Calls Try.prog 11 #[ptr (w.heap.size + 1)] W fun e w1 => ∃ p, e = .returned (.tuple #[ptr p, .int .i64 0]) ∧ Adds w w1 ∧ w1.heap[q]? = some (.cells #[.int .i64 r.room, kv, dv, .int .i64 (r.live : Int), .bool r.gone, .int .i64 r.armed] 36 (0, 0)) ∧
    ∀ w2, Adds w1 w2 → Calls Try.prog 12 #[.agg #[.int .i64 r.room, kv, dv, .int .i64 (r.live : Int), .bool r.gone, .int .i64 r.armed]] w2 fun e w3 => ∃ (i0 : Int) (so : Option Addr) (sn sc : Nat) (xo : Option Addr) (tn tc : Nat) (i1 : Int) (bb : Bool) (i2 i3 : Int) (uo : Option Addr) (un uc : Nat) (i4 : Int), e = .returned (.tuple #[.agg #[.int .i64 i0, .slice so sn sc, .slice xo tn tc, .int .i64 i1, .bool bb, .int .i64 i2, .int .i64 i3, .slice uo un uc, .int .i64 i4], .int .i64 0]) ∧ Adds w2 w3 ∧
      ∀ w4, Adds w3 w4 → Calls Try.prog 14 #[ptr p, ptr (w.heap.size + 1), .agg #[.int .i64 i0, .slice so sn sc, .slice xo tn tc, .int .i64 i1, .bool bb, .int .i64 i2, .int .i64 i3, .slice uo un uc, .int .i64 i4]] w4 fun e w5 => e = .returned (.bool true) ∧ Adds w4 w5

/-- No room on both sides. -/
def OpenNo (w W : World) (q : Nat) (kv dv : Value) (r : Rf) : Prop :=
  Calls Try.prog 11 #[ptr (w.heap.size + 1)] W fun e w1 => e = .returned (.tuple #[.pointer none, .int .i64 2]) ∧ Adds w w1 ∧ w1.heap[q]? = some (.cells #[.int .i64 r.room, kv, dv, .int .i64 (r.live : Int), .bool r.gone, .int .i64 r.armed] 36 (0, 0)) ∧
    ∀ w2, Adds w1 w2 → Calls Try.prog 12 #[.agg #[.int .i64 r.room, kv, dv, .int .i64 (r.live : Int), .bool r.gone, .int .i64 r.armed]] w2 fun e w3 => ∃ (i0 : Int) (so : Option Addr) (sn sc : Nat) (xo : Option Addr) (tn tc : Nat) (i1 : Int) (bb : Bool) (i2 i3 : Int) (uo : Option Addr) (un uc : Nat) (i4 : Int), e = .returned (.tuple #[.agg #[.int .i64 i0, .slice so sn sc, .slice xo tn tc, .int .i64 i1, .bool bb, .int .i64 i2, .int .i64 i3, .slice uo un uc, .int .i64 i4], .int .i64 2]) ∧ Adds w2 w3

theorem bx_open {w W : World} {q room M : Nat} {ko dO : Option Addr} {kn kc dn dc : Nat} {r : Rf} (h : Bx w q room M ko dO kn kc dn dc r W) (hM : M ≤ 3000) (hrm : room ≤ 65535) : OpenOk w W q (.slice ko kn kc) (.slice dO dn dc) r ∨ OpenNo w W q (.slice ko kn kc) (.slice dO dn dc) r := by
  obtain ⟨R, d, kept, K, p, b, hK, hf, hKl, hKb⟩ := h.few
  have hbk := p.bulk
  have hsz : sizeK K ≤ 9000 := by
    rw [← p.st.total hK hf]
    exact Nat.le_trans R.total_le (by omega)
  have hrng := p.st.range hK hf
  have hsg : ∀ s, newK K = some s → segLen s.2.2.1 ≤ 30000 := fun s hs => Nat.le_trans (newK_weight hs).1 (by omega)
  by_cases hro : roomy room K
  · left
    unfold OpenOk
    have k := open_any p.st hK hf (by omega) (by rw [p.room]; omega) (by omega) (by rw [p.room]; exact hro)
    rw [p.p] at k
    refine k.mono ?_
    rintro e w1 ⟨T, rfl, o⟩
    have rb1 : RefB w1 T.R r (.slice ko kn kc) (.slice dO dn dc) kept M := p.refb.mv p.st.live.mem o.mv fun i hi => .inl hi
    have hF1 : ∀ i, T.R.foot i → i < w1.heap.size := fun i hi => (o.tap.st.live.mem.lt hi).2
    have hq1 : w1.heap[q]? = some (.cells #[.int .i64 r.room, .slice ko kn kc, .slice dO dn dc, .int .i64 (r.live : Int), .bool r.gone, .int .i64 r.armed] 36 (0, 0)) := (o.mv.block q (Array.getElem?_eq_some_iff.1 b).1 (tape_out p.st.live.mem b ⟨by decide, by decide, by decide⟩)).1.trans b
    refine ⟨T.p, rfl, adds_mv p.adds o.mv fun i hi => (p.st.live.mem.lt hi).1, hq1, fun w2 a2 => ?_⟩
    refine (refOpen_any (rb1.adds a2) (fun i hi => Nat.lt_of_lt_of_le (hF1 i hi) a2.below.size) (by omega) (by omega) p.likes hK hf hrng (by omega) (fun y hy => Nat.le_trans (hKb y hy) (by omega)) hsg).mono ?_
    rintro e w3 (⟨_, r3, ko3, kn3, kc3, dO3, dn3, dc3, kept3, lv, rfl, rb3, lk3, rw3, a3⟩ | ⟨hno, _⟩)
    · obtain ⟨lo, lc, rfl, _⟩ := rw3.slice
      refine ⟨_, _, _, _, _, _, _, _, _, _, _, _, _, _, _, rfl, a3, fun w4 a4 => ?_⟩
      have tap4 : Tap w4 w.heap.size T (d.opened K).d := o.tap.adds ((a2.trans a3).trans a4)
      obtain ⟨hK2, hf2⟩ := likesD_seen lk3
      have hop : fits (d.opened K).ls ∧ (d.opened K).ls.length ≤ 10000 ∧ (d.opened K).base ≤ (d.opened K).ls.length := by
        unfold Dk.opened
        cases hn : newK K with
        | none => exact ⟨(fun x hx => by cases hx), by simp, by simp⟩
        | some s =>
          have h1 := newK_fits hn
          obtain ⟨h2, h3⟩ := newK_weight hn
          have h4 : s.2.2.1.length ≤ 10000 := by unfold segLen at h2; omega
          obtain ⟨file, base, ls, cl⟩ := s
          cases cl
          · exact ⟨h1, h4, Nat.le_refl _⟩
          · exact ⟨h1, h4, h3⟩
      have hlen3 : r3.seen.length ≤ 100000 := by
        have e : r3.seen = r3.done.foldl unitK r3.kept := by
          unfold Rf.seen Rf.files
          rw [List.take_length]
        have h1 := foldl_length r3.done (kf kept3)
        have hm := rb3.many
        rw [e, ← rb3.same]
        rw [kf_length] at h1
        omega
      have hpT : T.R.p = w.heap.size + 1 := o.p.trans p.p
      rw [← hpT]
      have hbT := o.bulk
      have hrT : R.room ≤ 65535 := by rw [p.room]; exact hrm
      exact like_any tap4 (rb3.adds a4) (by omega) lk3 hK2 hf2 hlen3 o.ls o.base _ (rw3.adds a4) hop.1 hop.2.1 hop.2.2 (by omega)
    · exact absurd hro hno
  · right
    unfold OpenNo
    have k := open_full p.st hK hf (by omega) (by omega) (fun s hs => Nat.le_trans (hsg s hs) (by omega)) (by rw [p.room]; exact hro)
    rw [p.p] at k
    refine k.mono ?_
    rintro e w1 ⟨rfl, a1⟩
    refine ⟨rfl, p.adds.trans a1, a1.at b, fun w2 a2 => ?_⟩
    refine (refOpen_any (p.refb.adds (a1.trans a2)) (fun i hi => Nat.lt_of_lt_of_le (p.st.live.mem.lt hi).2 (a1.trans a2).below.size) (by omega) (by omega) p.likes hK hf hrng (by omega) (fun y hy => Nat.le_trans (hKb y hy) (by omega)) hsg).mono ?_
    rintro e w3 (⟨hyes, _⟩ | ⟨_, i0, so, sn, sc, xo, tn, tc, i1, bb, i2, i3, uo, un, uc, i4, rfl, a3⟩)
    · exact absurd hyes hro
    · exact ⟨i0, so, sn, sc, xo, tn, tc, i1, bb, i2, i3, uo, un, uc, i4, rfl, a3⟩

end Go.Proofs.Ytdcbepdghiafhaa
