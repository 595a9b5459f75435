/-
  A tape whose power lasts, over a reel of its own: its methods by contracts.
-/
import Derived.Test.YtdcbepdghiafhaaTawake
import Derived.Test.YtdcbepdghiafhaaTrest
import Derived.Test.YtdcbepdghiafhaaOpen
namespace Go.Proofs.Ytdcbepdghiafhaa
open Go.RowKit Go.Maps

/-- The tape T at world W, its reel made at world w: nothing is armed, all is kept, one file. -/
structure Cal (w W : World) (T : Tw) (n : Int) (base : Nat) (ls : List (List UInt8)) (room bulk : Nat) : Prop where
  tap : TapW W w.heap.size T (calm [(n, seg base ls)] 0)
  file : T.file = n
  base : T.base = base
  ls : T.ls = ls
  rp : T.R.p = w.heap.size + 1
  room : T.R.room = room
  bulk : T.R.bulk ≤ bulk
  adds : Adds w W

theorem Cal.more {w W W' : World} {T : Tw} {n : Int} {base : Nat} {ls : List (List UInt8)} {room bulk : Nat} (h : Cal w W T n base ls room bulk) (ha : Adds W W') : Cal w W' T n base ls room bulk :=
  ⟨h.tap.adds ha, h.file, h.base, h.ls, h.rp, h.room, h.bulk, h.adds.trans ha⟩

theorem cal_open {w W : World} {R : Rw} {room : Nat} (hs : St W w.heap.size R (calm [] 0)) (hp : R.p = w.heap.size + 1) (hr : R.room = room) (hb : R.bulk = 0) (ha : Adds w W) (h1 : 13 ≤ room) (h2 : room ≤ 1000000) :
    Calls Try.prog 11 #[ptr (w.heap.size + 1)] W fun e w' => ∃ T : Tw, e = .returned (.tuple #[ptr T.p, .int .i64 0]) ∧ Cal w w' T 0 0 [] room (2 * room + 3) := by
  have k := open_any hs (K := []) (by simp [SrtK]) rfl (by omega) (by omega) (by simp [sizeK]) (by unfold roomy; rw [show newK [] = none from rfl]; exact ⟨by simp [sizeK]; omega, by decide⟩)
  rw [hp] at k
  refine k.mono ?_
  rintro e w' ⟨T, rfl, o⟩
  have t := o.tapW rfl
  have e1 := opened_none 0
  rw [e1] at t
  have ef := o.file
  have el := o.ls
  have eb := o.bulk
  have eB := o.base
  rw [e1] at ef el eB
  refine ⟨T, rfl, t, ef, eB, el, o.p.trans hp, o.room.trans hr, ?_, adds_mv ha o.mv fun i hi => (hs.live.mem.lt hi).1⟩
  rw [hb, hr] at eb
  simp at eb
  omega

theorem cal_append {w W : World} {T : Tw} {n : Int} {base : Nat} {ls : List (List UInt8)} {room bulk : Nat} (h : Cal w W T n base ls room bulk) (hn : 0 ≤ n ∧ n ≤ 1048576) (hb : bulk ≤ 68719476736) (x : Value) (m : List UInt8) (hx : BytA W T.foot x m) (hm : m.length ≤ 16384) (hroom : segLen ls + (m.length + 9) ≤ room) (hl : ls.length ≤ 1000000) :
    Calls Try.prog 15 #[ptr T.p, x] W fun e w' => e = .returned (.int .i64 0) ∧ ∃ T' : Tw, T'.p = T.p ∧ Cal w w' T' n base (ls ++ [m]) room (bulk + 2 * (m.length + 9) + 1) ∧ Mv W T.foot w' T'.foot := by
  refine (append_tape h.tap (K := [(n, seg base ls)]) (srt_one _) rfl (by have := h.bulk; omega) x m hx hm (by rw [h.file]; exact hn) (by rw [sizeK_one, seg_length, h.room]; exact hroom) (by rw [h.ls]; exact hl)).mono ?_
  rintro e w' ⟨rfl, T', a⟩
  have st := a.tap
  rw [h.file, append_calm, seg_append] at st
  refine ⟨rfl, T', a.p, ⟨st, a.file.trans h.file, a.base.trans h.base, by rw [a.ls, h.ls], a.rp.trans h.rp, a.room.trans h.room, ?_, adds_mv h.adds a.mv h.tap.low⟩, a.mv⟩
  have := a.bulk
  have := h.bulk
  omega

theorem cal_grown {w W : World} {T : Tw} {n : Int} {base : Nat} {ls : List (List UInt8)} {room bulk : Nat} (h : Cal w W T n base ls room bulk) (hl : ls.length ≤ 1000000) (hb : base ≤ ls.length) :
    Calls Try.prog 31 #[ptr T.p] W fun e w' => e = .returned (.int .i64 ((ls.length : Int) - (base : Int))) ∧ Adds W w' := by
  have k := grown_any h.tap.tap (by rw [h.ls]; exact hl) (by rw [h.ls, h.base]; exact hb)
  rw [h.ls, h.base] at k
  exact k

theorem cal_all {w W : World} {T : Tw} {n : Int} {base : Nat} {ls : List (List UInt8)} {room bulk : Nat} (h : Cal w W T n base ls room bulk) (hl : ls.length ≤ 10000) (hf : fits ls) :
    Calls Try.prog 23 #[ptr T.p] W fun e w' => ∃ r xs, e = .returned r ∧ OwnV W.heap.size 44 r xs W w' ∧ EachF W.heap.size w' xs ls := by
  have k := all_any h.tap.tap (by rw [h.ls]; exact hl) (by rw [h.ls]; exact hf)
  rw [h.ls] at k
  exact k

theorem next_one (n : Int) (b : List UInt8) : nextK [(n, b)] = n + 1 := rfl

theorem cal_restart {w W : World} {T : Tw} {n : Int} {base : Nat} {ls : List (List UInt8)} {room bulk : Nat} (h : Cal w W T n base ls room bulk) (hn : n + 1 ≤ 1048576) (hb : bulk ≤ 68719476736) (l : Value) (ms : List (List UInt8)) (hl : RwsA W T.core l ms) (hfit : fits ms) (hr1 : room ≤ 1000000) (hroom : segLen ms + segLen ls ≤ room) :
    Calls Try.prog 17 #[ptr T.p, l] W fun e w' => e = .returned (.int .i64 0) ∧ ∃ T' : Tw, T'.p = T.p ∧ Cal w w' T' (n + 1) ms.length ms room (bulk + 2 * room + 5) ∧ Mv W T.core w' T'.foot := by
  refine (restart_tape h.tap.tap (K := [(n, seg base ls)]) (srt_one _) rfl (by have := h.bulk; omega) l ms hl hfit (by rw [h.room]; exact hr1) (by rw [sizeK_one, seg_length, h.room]; exact hroom) (by rw [next_one]; exact hn)).mono ?_
  rintro e w' ⟨rfl, T', a⟩
  have st := a.tap
  rw [begun_calm (srt_one _), next_one] at st
  refine ⟨rfl, T', a.p, ⟨st, a.file, a.base, a.ls, a.rp.trans h.rp, a.room.trans h.room, ?_, adds_mv h.adds a.mv fun i hi => h.tap.low i (hi.elim .inl fun e => .inr (.inl e))⟩, a.mv⟩
  have := a.bulk
  have := h.bulk
  simp at *
  omega

theorem cal_reopen {w W : World} {R : Rw} {n l : Int} {base : Nat} {ls : List (List UInt8)} {room : Nat} (hs : St W w.heap.size R (calm [(n, seg base ls)] l)) (hp : R.p = w.heap.size + 1) (hr : R.room = room) (hb : R.bulk ≤ 68719476736) (ha : Adds w W) (hf : fits ls) (hl : ls.length ≤ 1000000) (hbase : base ≤ ls.length) (hlen : segLen ls ≤ 1000000) (h2 : room ≤ 1000000) :
    Calls Try.prog 11 #[ptr (w.heap.size + 1)] W fun e w' => ∃ T : Tw, e = .returned (.tuple #[ptr T.p, .int .i64 0]) ∧ Tap w' w.heap.size T (calm [(n, seg base ls)] l) ∧ T.ls = ls ∧ T.base = base ∧ Mv W R.foot w' T.core ∧ Adds w w' := by
  have hnk := newK_seg n (base := base) hf hbase hl
  have k := open_any hs (K := [(n, seg base ls)]) (srt_one _) rfl hb (by omega) (by rw [sizeK_one, seg_length]; exact hlen) (by unfold roomy; rw [hnk]; trivial)
  rw [hp] at k
  refine k.mono ?_
  rintro e w' ⟨T, rfl, o⟩
  have el := o.ls
  have eb := o.base
  have et := o.tap
  rw [opened_calm n hf hbase hl] at el eb et
  exact ⟨T, rfl, et, el, eb, o.mv, adds_mv ha o.mv fun i hi => (hs.live.mem.lt hi).1⟩

/-- A list that all has made, beside the tape. -/
theorem rwsA_of {W w' : World} {F : Nat → Prop} {r : Value} {xs : List Value} {ls : List (List UInt8)} (h : OwnV W.heap.size 44 r xs W w') (he : EachF W.heap.size w' xs ls) (hF : ∀ i, F i → i < W.heap.size) : RwsA w' F r ls :=
  rwsA_own h.1 (he.eachA fun b C hb _ hf => by have := hF b hf; omega) fun i hi hf => by
    have h1 := (h.1.lt i hi).1
    have h2 := hF i hf
    omega

end Go.Proofs.Ytdcbepdghiafhaa
