/-
  A crash, and an opening: the records are those from before, or those from behind.
-/
import Derived.Test.YtdcbepdghiafhaaNexts
namespace Go.Proofs.Ytdcbepdghiafhaa
open Go.RowKit Go.Maps

/-- Behind i crashes. -/
def Fin7 (w0 : World) (wv nv : Value) (was next : List (List UInt8)) (i : Nat) (W : World) : Prop := ∃ R d, Run w0 W R d wv nv was next (3100000 + 3000000 * i) ∧ Sure d was next i

def Opens (w0 : World) (wv nv : Value) (was next : List (List UInt8)) (i : Nat) (W : World) : Prop :=
  Calls Try.prog 11 #[ptr (w0.heap.size + 1)] W fun e w1 => ∃ p, e = .returned (.tuple #[ptr p, .int .i64 0]) ∧
    Calls Try.prog 23 #[ptr p] w1 fun e w2 => ∃ r, e = .returned r ∧
      Calls Try.prog 24 #[r, wv] w2 fun e w3 => ∃ t, e = .returned (.bool t) ∧ (t = true → Fin7 w0 wv nv was next (i + 1) w3) ∧
        (t = false → Calls Try.prog 23 #[ptr p] w3 fun e w4 => ∃ r', e = .returned r' ∧
          Calls Try.prog 24 #[r', nv] w4 fun e w5 => e = .returned (.bool true) ∧ Fin7 w0 wv nv was next (i + 1) w5)

structure Pu (was next : List (List UInt8)) : Prop where
  f1 : fits was
  s1 : segLen was ≤ 4000
  f2 : fits next
  s2 : segLen next ≤ 4000

theorem opens_any {w0 W : World} {R : Rw} {K : Kf} {pw : Pw} {wv nv : Value} {was next rs : List (List UInt8)} {i : Nat} (h : Run w0 W R ⟨filesK K, [], pw⟩ wv nv was next (3100000 + 3000000 * i)) (hp : Pu was next) (hok : OkK K rs i) (hi : i ≤ 7) (hrs : rs = was ∨ rs = next) (hg : pw.gone = false) (hc : pw.count = 0) (ha : pw.armed = true → 0 ≤ pw.left) :
    Opens w0 wv nv was next i W := by
  have hf : fits rs := by
    rcases hrs with rfl | rfl
    · exact hp.f1
    · exact hp.f2
  have hs : segLen rs ≤ 4000 := by
    rcases hrs with rfl | rfl
    · exact hp.s1
    · exact hp.s2
  have hlen : ∀ {ls : List (List UInt8)}, segLen ls ≤ 4000 → ls.length ≤ 4000 := fun h => by
    unfold segLen at h
    omega
  have hl := hlen hs
  have hl1 := hlen hp.s1
  have hl2 := hlen hp.s2
  refine (run_open h (by omega) hok (by omega) hrs hf hs hg hc ha).mono ?_
  rintro e w1 ⟨T, d, rfl, run, tap, tl, sure⟩
  refine ⟨T.p, rfl, ?_⟩
  refine (run_all run tap (by rw [tl]; omega) (by rw [tl]; exact hf)).mono ?_
  rintro e w2 ⟨r, rfl, rw2, run2, tap2⟩
  rw [tl] at rw2
  refine ⟨r, rfl, ?_⟩
  refine (same_is rw2 run2.was.rws (by omega) (by omega) _ rfl).mono ?_
  rintro e w3 ⟨rfl, a3⟩
  have run3 := run2.more a3
  have e1 : 3100000 + 3000000 * i + 3000000 = 3100000 + 3000000 * (i + 1) := by omega
  rw [e1] at run3
  refine ⟨_, rfl, fun _ => ⟨T.R, d, run3, sure⟩, fun ht => ?_⟩
  have hne : rs ≠ was := of_decide_eq_false ht
  have hrn : rs = next := hrs.resolve_left hne
  refine (run_all run3 (tap2.adds a3) (by rw [tl]; omega) (by rw [tl]; exact hf)).mono ?_
  rintro e w4 ⟨r', rfl, rw4, run4, tap4⟩
  rw [tl] at rw4
  refine ⟨r', rfl, ?_⟩
  refine (same_is rw4 run4.next.rws (by omega) (by omega) true (by rw [decide_eq_true hrn])).mono ?_
  rintro e w5 ⟨rfl, a5⟩
  exact ⟨rfl, T.R, d, run4.more a5, sure⟩

/-- A crash, nothing armed. -/
theorem round_bare {w0 W : World} {wv nv : Value} {was next : List (List UInt8)} {i : Nat} (h : Fin7 w0 wv nv was next i W) (hp : Pu was next) (hi : i ≤ 7) (keep : Nat) (hk : keep ≤ 255) :
    Calls Try.prog 21 #[ptr (w0.heap.size + 1), .int .i64 (keep : Int)] W fun e w' => e = .returned (.tuple #[]) ∧ Adds w0 w' ∧ Opens w0 wv nv was next i w' := by
  obtain ⟨R, d, run, sure⟩ := h
  refine (run_crash run sure (by omega) keep hk).mono ?_
  rintro e w' ⟨rfl, R', K, rs, l, run', hrs, hok⟩
  exact ⟨rfl, run'.adds, opens_any run' hp hok hi hrs rfl rfl (by simp)⟩

/-- A crash, and so many units that count. -/
theorem round_arm {w0 W : World} {wv nv : Value} {was next : List (List UInt8)} {i : Nat} (h : Fin7 w0 wv nv was next i W) (hp : Pu was next) (hi : i ≤ 7) (keep m : Nat) (hk : keep ≤ 255) (hm : m ≤ 255) :
    Calls Try.prog 21 #[ptr (w0.heap.size + 1), .int .i64 (keep : Int)] W fun e w' => e = .returned (.tuple #[]) ∧ Adds w0 w' ∧
      Calls Try.prog 19 #[ptr (w0.heap.size + 1), .int .i64 (m : Int)] w' fun e w'' => e = .returned (.tuple #[]) ∧ Opens w0 wv nv was next i w'' := by
  obtain ⟨R, d, run, sure⟩ := h
  refine (run_crash run sure (by omega) keep hk).mono ?_
  rintro e w' ⟨rfl, R', K, rs, l, run', hrs, hok⟩
  refine ⟨rfl, run'.adds, ?_⟩
  refine (run_arm run' m hm).mono ?_
  rintro e w'' ⟨rfl, R'', run''⟩
  exact ⟨rfl, opens_any run'' hp hok hi hrs rfl rfl (by simp)⟩

end Go.Proofs.Ytdcbepdghiafhaa
