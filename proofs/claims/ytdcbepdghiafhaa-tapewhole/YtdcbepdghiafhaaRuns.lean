/-
  A reel from which the power may go, beside two lists: crashes, arming and openings by contracts.
-/
import Derived.Test.YtdcbepdghiafhaaActs
import Derived.Test.YtdcbepdghiafhaaSure
namespace Go.Proofs.Ytdcbepdghiafhaa
open Go.RowKit Go.Maps

/-- The reel R at world W, made at world w0, beside the lists was and next. -/
structure Run (w0 W : World) (R : Rw) (d : Dk) (wv nv : Value) (was next : List (List UInt8)) (bulk : Nat) : Prop where
  st : St W w0.heap.size R d
  rp : R.p = w0.heap.size + 1
  room : R.room = 20000
  bulk : R.bulk ≤ bulk
  adds : Adds w0 W
  was : RwsA W R.foot wv was
  next : RwsA W R.foot nv next

theorem Run.more {w0 W W' : World} {R : Rw} {d : Dk} {wv nv : Value} {was next : List (List UInt8)} {bulk : Nat} (h : Run w0 W R d wv nv was next bulk) (ha : Adds W W') : Run w0 W' R d wv nv was next bulk :=
  ⟨h.st.adds ha, h.rp, h.room, h.bulk, h.adds.trans ha, h.was.mv (Mv.adds _ ha), h.next.mv (Mv.adds _ ha)⟩

theorem Run.goes {w0 W W' : World} {R R' : Rw} {d d' : Dk} {wv nv : Value} {was next : List (List UInt8)} {bulk n : Nat} (h : Run w0 W R d wv nv was next bulk) (s : St W' w0.heap.size R' d') (g : Goes W R W' R' n) : Run w0 W' R' d' wv nv was next (bulk + n) :=
  ⟨s, g.p.trans h.rp, g.room.trans h.room, by have := g.bulk; have := h.bulk; omega, adds_mv h.adds g.moves.mv fun i hi => (h.st.live.mem.lt hi).1, h.was.mv g.moves.mv, h.next.mv g.moves.mv⟩

theorem run_crash {w0 W : World} {R : Rw} {d : Dk} {wv nv : Value} {was next : List (List UInt8)} {bulk i : Nat} (h : Run w0 W R d wv nv was next bulk) (hs : Sure d was next i) (hb : bulk ≤ 68719476736) (keep : Nat) (hk : keep ≤ 255) :
    Calls Try.prog 21 #[ptr (w0.heap.size + 1), .int .i64 (keep : Int)] W fun e w' => e = .returned (.tuple #[]) ∧ ∃ R' K rs l, Run w0 w' R' (calm K l) wv nv was next bulk ∧ (rs = was ∨ rs = next) ∧ OkK K rs i := by
  obtain ⟨K, rs, h1, h2, h3⟩ := hs (min keep d.pw.count) (Nat.min_le_right _ _) (by omega)
  have k := st_crash h.st (keep : Int) (min keep d.pw.count) (by omega) (by have := h.bulk; omega)
  rw [h.rp] at k
  refine k.mono ?_
  rintro e w' ⟨rfl, R', l, s', g'⟩
  rw [← h2] at s'
  exact ⟨rfl, R', K, rs, l, h.goes s' g', h1, h3⟩

theorem run_arm {w0 W : World} {R : Rw} {K : Kf} {l : Int} {wv nv : Value} {was next : List (List UInt8)} {bulk : Nat} (h : Run w0 W R (calm K l) wv nv was next bulk) (m : Nat) (hm : m ≤ 255) :
    Calls Try.prog 19 #[ptr (w0.heap.size + 1), .int .i64 (m : Int)] W fun e w' => e = .returned (.tuple #[]) ∧ ∃ R', Run w0 w' R' ⟨filesK K, [], ⟨0, true, (m : Int), false⟩⟩ wv nv was next bulk := by
  have k := st_arm h.st (m : Int) (wf64.2 (by omega))
  rw [h.rp] at k
  refine k.mono ?_
  rintro e w' ⟨rfl, R', s', g'⟩
  have e : (calm K l).arm (m : Int) = ⟨filesK K, [], ⟨0, true, (m : Int), false⟩⟩ := by
    unfold Dk.arm calm
    simp
  rw [e] at s'
  exact ⟨rfl, R', h.goes s' g'⟩

theorem run_open {w0 W : World} {R : Rw} {K : Kf} {pw : Pw} {wv nv : Value} {was next rs : List (List UInt8)} {bulk i : Nat} (h : Run w0 W R ⟨filesK K, [], pw⟩ wv nv was next bulk) (hb : bulk ≤ 6871947673) (hok : OkK K rs i) (hi : i ≤ 8) (hrs : rs = was ∨ rs = next) (hf : fits rs) (hl : segLen rs ≤ 4000) (hg : pw.gone = false) (hc : pw.count = 0) (ha : pw.armed = true → 0 ≤ pw.left) :
    Calls Try.prog 11 #[ptr (w0.heap.size + 1)] W fun e w' => ∃ (T : Tw) (d' : Dk), e = .returned (.tuple #[ptr T.p, .int .i64 0]) ∧ Run w0 w' T.R d' wv nv was next (bulk + 3000000) ∧ Tap w' w0.heap.size T d' ∧ T.ls = rs ∧ Sure d' was next (i + 1) := by
  obtain ⟨s1, s2, s3⟩ := sure_open hok hi hrs hf hl pw hg hc ha
  have hb' := h.bulk
  have hfew := few_keys h.st hok.srt rfl
  have k := open_any h.st (K := K) hok.srt rfl (by omega) (by rw [h.room]; decide) (by have := hok.size; omega) (by rw [h.room]; exact s3)
  rw [h.rp] at k
  refine k.mono ?_
  rintro e w' ⟨T, rfl, o⟩
  have hw : Mv W R.foot w' T.core := o.mv
  refine ⟨T, _, rfl, ⟨o.tap.st, o.p.trans h.rp, o.room.trans h.room, ?_, adds_mv h.adds hw fun i hi => (h.st.live.mem.lt hi).1, RwsA.sub (h.was.mv hw) fun b _ hn hc => hn (.inl hc), RwsA.sub (h.next.mv hw) fun b _ hn hc => hn (.inl hc)⟩, o.tap, by rw [o.ls, s2], s1⟩
  have := o.bulk
  rw [h.room] at this
  omega

theorem same_is {w : World} {v u : Value} {ls ms : List (List UInt8)} (h : Rws w v ls) (g : Rws w u ms) (hl : ls.length ≤ 1000000) (hm : ms.length ≤ 1000000) (t : Bool) (ht : t = decide (ls = ms)) : Calls Try.prog 24 #[v, u] w fun e w' => e = .returned (.bool t) ∧ Adds w w' := by
  rw [ht]
  exact same_any v u ls ms w h g hl hm

/-- All of a tape that was opened, held against the list was. -/
theorem run_all {w0 W : World} {T : Tw} {d : Dk} {wv nv : Value} {was next : List (List UInt8)} {bulk : Nat} (h : Run w0 W T.R d wv nv was next bulk) (t : Tap W w0.heap.size T d) (hl : T.ls.length ≤ 10000) (hf : fits T.ls) :
    Calls Try.prog 23 #[ptr T.p] W fun e w' => ∃ r, e = .returned r ∧ Rws w' r T.ls ∧ Run w0 w' T.R d wv nv was next bulk ∧ Tap w' w0.heap.size T d := by
  refine (all_any t hl hf).mono ?_
  rintro e w' ⟨r, xs, rfl, o, he⟩
  exact ⟨r, rfl, own_rws o he, h.more o.added, t.adds o.added⟩

end Go.Proofs.Ytdcbepdghiafhaa
