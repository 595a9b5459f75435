/-
  The function awake by contract.
-/
import Derived.Test.YtinfoblgojnjfaaLive
import Derived.Lib.SlBytesConst
import Derived.Lib.SlBytesRow
import Derived.Laws.BytesString
namespace Go.Proofs.Ytinfoblgojnjfaa
open Go.RowKit Go.Maps

theorem byt_of {w : World} {ao : Option Addr} {cap : Nat} {l : List UInt8} (hc : l.length ≤ cap) (h : l = [] ∨ ∃ b off, ao = some ⟨b, off, none⟩ ∧ b < w.heap.size ∧ LiesB w b off l) : Byt w (.slice ao l.length cap) l := by
  refine ⟨ao, cap, by rw [cellsB_length], by rw [cellsB_length]; exact hc, ?_⟩
  rcases h with rfl | ⟨b, off, rfl, hb, hl⟩
  · exact .inl rfl
  · refine .inr ⟨b, off, rfl, hb, fun j hj => ?_⟩
    rw [cellsB_length] at hj
    rw [hl j hj]
    simp [cellsB]

theorem byt_marked {w : World} {l : List UInt8} {T : TypeId} {fr : Nat × Nat} : Byt (w.alloc (.cells (cellsB l).toArray T fr)) (.slice (some ⟨w.heap.size, 0, none⟩) l.length l.length) l := by
  refine ⟨_, l.length, by rw [cellsB_length], by rw [cellsB_length]; exact Nat.le_refl _, .inr ⟨w.heap.size, 0, rfl, by simp, ?_⟩⟩
  intro j hj
  rw [Nat.zero_add, World.cell?_alloc_mark]
  simp [hj]

theorem Byt.str {w : World} {v : Value} {l : List UInt8} (h : Byt w v l) : (convert 36 9 v).run Try.prog w = .ok (.string ⟨l.toArray⟩) w := by
  obtain ⟨ao, cap, rfl, hcap, ho⟩ := h.open
  rcases ho with rfl | ⟨b, off, rfl, hb, hl⟩
  · rw [run_convert_bytes_string w 36 9 5 _ _ _ Try.underlying36 Try.underlying5 Try.underlying9]
    cases ao <;> simp [Conv.bytesToString, loadCells]
    all_goals rfl
  · have := Lib.run_convert_whole (P := Try.prog) w 36 5 9 Try.underlying36 Try.underlying5 Try.underlying9 b off ⟨l.toArray⟩ (fun i hi => by
      have hi' : i < l.length := hi
      rw [hl i hi']
      rfl) cap
    exact this

def abc : List UInt8 := [97, 98, 99]
def dEf : List UInt8 := [100, 101, 102]

theorem conv_abc (w : World) : (convert 36 36 (.slice (some ⟨w.heap.size, 0, none⟩) 3 3)).run Try.prog (w.alloc (.cells #[.int .u8 97, .int .u8 98, .int .u8 99] 5)) = .ok (.slice (some ⟨w.heap.size, 0, none⟩) 3 3) (w.alloc (.cells #[.int .u8 97, .int .u8 98, .int .u8 99] 5 (3, 4))) := by
  have hc := Lib.run_convert_bytes_const (P := Try.prog) w 36 5 #[.int .u8 97, .int .u8 98, .int .u8 99] 3 3 Try.underlying36 Try.underlying5
  simpa using hc

theorem conv_def (w : World) : (convert 36 36 (.slice (some ⟨w.heap.size, 0, none⟩) 3 3)).run Try.prog (w.alloc (.cells #[.int .u8 100, .int .u8 101, .int .u8 102] 5)) = .ok (.slice (some ⟨w.heap.size, 0, none⟩) 3 3) (w.alloc (.cells #[.int .u8 100, .int .u8 101, .int .u8 102] 5 (3, 4))) := by
  have hc := Lib.run_convert_bytes_const (P := Try.prog) w 36 5 #[.int .u8 100, .int .u8 101, .int .u8 102] 3 3 Try.underlying36 Try.underlying5
  simpa using hc

theorem byt_abc (w : World) : Byt (w.alloc (.cells #[.int .u8 97, .int .u8 98, .int .u8 99] 5 (3, 4))) (.slice (some ⟨w.heap.size, 0, none⟩) 3 3) abc := byt_marked (w := w) (l := abc) (T := 5) (fr := (3, 4))
theorem byt_def (w : World) : Byt (w.alloc (.cells #[.int .u8 100, .int .u8 101, .int .u8 102] 5 (3, 4))) (.slice (some ⟨w.heap.size, 0, none⟩) 3 3) dEf := byt_marked (w := w) (l := dEf) (T := 5) (fr := (3, 4))

theorem adds_low {w w' : World} {R R' : Rw} {B : Nat} (h : Moves w R w' R') (hm : Mem w B R) {w0 : World} (ha : Adds w0 w) (hB : w0.heap.size = B) : Adds w0 w' := by
  subst hB
  have hb := ha.below
  have h2 := h.below hm hb.size
  exact Adds.of (hb.trans h2)

theorem keep_abc {f : Fs} (hf : f 3 = some abc) : keepF f [⟨3, false, false, dEf⟩] 2 3 = some [97, 98, 99, 100, 101] := by
  have hs : scan [⟨3, false, false, dEf⟩] 2 = (0, 2) := by decide
  unfold keepF
  rw [hs]
  simp [part, step, replay, set_at, hf, abc, dEf]

theorem awake_any (w : World) : Calls Try.prog 7 #[] w fun e w' => e = .returned (.bool true) ∧ Adds w w' := by
  have kN := live_new 100 (by decide) w
  rw [show ((100 : Nat) : Int) = 100 from rfl] at kN
  have hc1 := conv_abc
  have hc2 := conv_def
  have h3 : abc.length = 3 := rfl
  have h3' : dEf.length = 3 := rfl
  have k1 : ∀ w1 R1, R1.p = w.heap.size + 1 → Live w1 w.heap.size (fun _ => none) R1 → R1.fs = [] → R1.room = 100 → R1.pw = ⟨0, false, 0, false⟩ → R1.bulk = 0 → Adds w w1 →
      Calls Try.prog 12 #[ptr (w.heap.size + 1), .int .i64 3, .slice (some ⟨w1.heap.size, 0, none⟩) 3 3] (w1.alloc (.cells #[.int .u8 97, .int .u8 98, .int .u8 99] 5 (3, 4))) fun e w' => e = .returned (.int .i64 0) ∧
        ∃ R, R.p = w.heap.size + 1 ∧ Live w' w.heap.size (fun _ => none) R ∧ filesF R.fs 3 = some abc ∧ R.room = 100 ∧ R.gone = false ∧ R.armed = false ∧ R.bulk ≤ 7 ∧ Adds w w' := by
    intro w1 R1 p1 L1 f1 r1 q1 b1 a1
    have k := live_append (L1.adds ((Adds.refl _).alloc _)) 3 (by decide) _ abc (byt_abc w1) (by rw [r1, f1]; decide) (by omega)
    rw [p1] at k
    refine k.mono ?_
    rintro e w2 ⟨rfl, R2, L2, v2, d2, p2, r2, q2, b2⟩
    refine ⟨rfl, R2, p2, L2, ?_, r2.trans r1, ?_, ?_, by omega, adds_low v2 (L1.adds ((Adds.refl _).alloc _)).mem (a1.alloc _) rfl⟩
    · rw [L2.files, d2, replay_append, replay_one, ← L1.files, f1]
      simp [step, set_at, filesF, get]
    · have := congrArg Pw.gone q2
      rw [q1] at this
      exact this
    · have := congrArg Pw.armed q2
      rw [q1] at this
      exact this
  have k2 : ∀ w1 R1, R1.p = w.heap.size + 1 → Live w1 w.heap.size (fun _ => none) R1 → filesF R1.fs 3 = some abc → R1.room = 100 → R1.gone = false → R1.armed = false → R1.bulk ≤ 7 → Adds w w1 →
      Calls Try.prog 14 #[ptr (w.heap.size + 1)] w1 fun e w' => e = .returned (.tuple #[]) ∧
        ∃ R f, R.p = w.heap.size + 1 ∧ Live w' w.heap.size f R ∧ f 3 = some abc ∧ R.deeds = [] ∧ filesF R.fs 3 = some abc ∧ R.room = 100 ∧ R.pw = ⟨0, false, R.left, false⟩ ∧ R.bulk ≤ 7 ∧ Adds w w' := by
    intro w1 R1 p1 L1 f1 r1 g1 am1 b1 a1
    have k := live_sync L1 g1
    rw [p1] at k
    refine k.mono ?_
    rintro e w2 ⟨rfl, R2, L2, v2, d2, f2, p2, r2, q2, b2⟩
    refine ⟨rfl, R2, _, p2, L2, f1, d2, by rw [f2]; exact f1, r2.trans r1, ?_, by omega, adds_low v2 L1.mem a1 rfl⟩
    have e := congrArg Pw.left q2
    rw [q2, am1]
    congr 1
    exact e.symm
  have k3 : ∀ w1 R1 f, R1.p = w.heap.size + 1 → Live w1 w.heap.size f R1 → f 3 = some abc → R1.deeds = [] → filesF R1.fs 3 = some abc → R1.room = 100 → R1.pw = ⟨0, false, R1.left, false⟩ → R1.bulk ≤ 7 → Adds w w1 →
      Calls Try.prog 12 #[ptr (w.heap.size + 1), .int .i64 3, .slice (some ⟨w1.heap.size, 0, none⟩) 3 3] (w1.alloc (.cells #[.int .u8 100, .int .u8 101, .int .u8 102] 5 (3, 4))) fun e w' => e = .returned (.int .i64 0) ∧
        ∃ R f, R.p = w.heap.size + 1 ∧ Live w' w.heap.size f R ∧ f 3 = some abc ∧ R.deeds = [⟨3, false, false, dEf⟩] ∧ R.count = 3 ∧ R.bulk ≤ 14 ∧ Adds w w' := by
    intro w1 R1 f p1 L1 hf d1 f1 r1 q1 b1 a1
    have ht := R1.total_le
    have k := live_append (L1.adds ((Adds.refl _).alloc _)) 3 (by decide) _ dEf (byt_def w1) (by rw [r1]; omega) (by omega)
    rw [p1] at k
    refine k.mono ?_
    rintro e w2 ⟨rfl, R2, L2, v2, d2, p2, r2, q2, b2⟩
    refine ⟨rfl, R2, f, p2, L2, hf, ?_, ?_, by omega, adds_low v2 (L1.adds ((Adds.refl _).alloc _)).mem (a1.alloc _) rfl⟩
    · rw [d2, d1, f1]
      rfl
    · have := congrArg Pw.count q2
      rw [q1] at this
      exact this
  have k4 : ∀ w1 R1 f, R1.p = w.heap.size + 1 → Live w1 w.heap.size f R1 → f 3 = some abc → R1.deeds = [⟨3, false, false, dEf⟩] → R1.count = 3 → R1.bulk ≤ 14 → Adds w w1 →
      Calls Try.prog 18 #[ptr (w.heap.size + 1), .int .i64 2] w1 fun e w' => e = .returned (.tuple #[]) ∧
        ∃ R f, R.p = w.heap.size + 1 ∧ Live w' w.heap.size f R ∧ filesF R.fs 3 = some [97, 98, 99, 100, 101] ∧ R.bulk ≤ 14 ∧ Adds w w' := by
    intro w1 R1 f p1 L1 hf d1 c1 b1 a1
    have k := live_crash L1 2 2 (by rw [c1]; decide) (by omega)
    rw [p1] at k
    refine k.mono ?_
    rintro e w2 ⟨rfl, R2, L2, v2, d2, f2, p2, r2, c2, am2, g2, b2⟩
    refine ⟨rfl, R2, _, p2, L2, ?_, by omega, adds_low v2 L1.mem a1 rfl⟩
    rw [f2, d1]
    exact keep_abc hf
  have k5 : ∀ w1 R1 f, R1.p = w.heap.size + 1 → Live w1 w.heap.size f R1 → filesF R1.fs 3 = some [97, 98, 99, 100, 101] → R1.bulk ≤ 14 → Adds w w1 →
      Calls Try.prog 16 #[ptr (w.heap.size + 1), .int .i64 3] w1 fun e w' => ∃ r, e = .returned (.tuple #[r, .bool true]) ∧ (convert 36 9 r).run Try.prog w' = .ok (.string ⟨#[97, 98, 99, 100, 101]⟩) w' ∧ Adds w w' := by
    intro w1 R1 f p1 L1 hf b1 a1
    have k := live_read L1 3 _ hf (by omega)
    rw [p1] at k
    refine k.mono ?_
    rintro e w2 ⟨r, rfl, h2, a2⟩
    exact ⟨r, rfl, (row_byt h2).str, a1.trans a2⟩
  go_enter Try.func7, Try.ntmps7
  go_wp2_with (first
    | (go_at_call 6; refine kN.mono ?_; rintro e w1 ⟨rfl, R1, p1, L1, d1, f1, r1, q1, b1, a1⟩; have kA := k1 w1 R1 p1 L1 f1 r1 q1 b1 a1; clear p1 L1 d1 f1 r1 q1 b1 a1)
    | (go_at_call 12; with_reducible refine kA.mono ?_; rintro e w2 ⟨rfl, R2, x1, x2, x3, x4, x5, x6, x7, x8⟩; have kB := k2 w2 R2 x1 x2 x3 x4 x5 x6 x7 x8; clear x1 x2 x3 x4 x5 x6 x7 x8)
    | (go_at_call 14; refine kB.mono ?_; rintro e w3 ⟨rfl, R3, f3, x1, x2, x3, x4, x5, x6, x7, x8, x9⟩; have kC := k3 w3 R3 f3 x1 x2 x3 x4 x5 x6 x7 x8 x9; clear x1 x2 x3 x4 x5 x6 x7 x8 x9)
    | (go_at_call 12; with_reducible refine kC.mono ?_; rintro e w4 ⟨rfl, R4, f4, x1, x2, x3, x4, x5, x6, x7⟩; have kD := k4 w4 R4 f4 x1 x2 x3 x4 x5 x6 x7; clear x1 x2 x3 x4 x5 x6 x7)
    | (go_at_call 18; refine kD.mono ?_; rintro e w5 ⟨rfl, R5, f5, x1, x2, x3, x4, x5⟩; have kE := k5 w5 R5 f5 x1 x2 x3 x4 x5; clear x1 x2 x3 x4 x5)
    | (go_at_call 16; refine kE.mono ?_; rintro e w6 ⟨r6, rfl, hs6, a6⟩))
  go_ret
  exact ⟨by simp, a6⟩

end Go.Proofs.Ytinfoblgojnjfaa
