/-
  A reel that is in use: its memory, and its deeds since it was synced; the methods over that.
-/
import Derived.Test.YtinfoblgojnjfaaCrash
namespace Go.Proofs.Ytinfoblgojnjfaa
open Go.RowKit Go.Maps

/-- What counts: how many units, whether it is armed, how many are left, whether the power is gone. -/
structure Pw where
  count : Nat
  armed : Bool
  left : Int
  gone : Bool

def Rw.pw (R : Rw) : Pw := ⟨R.count, R.armed, R.left, R.gone⟩

def Pw.note (s : Pw) (u : Nat) : Pw :=
  if s.gone then s
  else if s.armed then ⟨s.count + (min (u : Int) s.left).toNat, s.armed, s.left - min (u : Int) s.left, decide (min (u : Int) s.left < (u : Int))⟩
  else ⟨s.count + u, s.armed, s.left, s.gone⟩

def Rw.deeds (R : Rw) : List Dd := R.ds.map (·.1)

structure Live (w : World) (B : Nat) (f : Fs) (R : Rw) : Prop where
  mem : Mem w B R
  dead : R.dead = []
  ok : okAll f R.deeds
  files : filesF R.fs = replay f R.deeds
  low : B ≤ w.heap.size

theorem Live.adds {w w' : World} {B : Nat} {f : Fs} {R : Rw} (h : Live w B f R) (ha : Adds w w') : Live w' B f R := ⟨h.mem.adds ha, h.dead, h.ok, h.files, Nat.le_trans h.low ha.below.size⟩

theorem Live.keep {w w' : World} {B : Nat} {f : Fs} {R : Rw} (h : Live w B f R) (hs : w.heap.size ≤ w'.heap.size) (hk : ∀ i, R.foot i → w'.heap[i]? = w.heap[i]?) : Live w' B f R := ⟨h.mem.keep hk, h.dead, h.ok, h.files, Nat.le_trans h.low hs⟩

theorem noted_is (R : Rw) (d : Dd) (v dn : Value) : (R.noted d v dn).ds = R.ds ++ [(d, v)] ∧ (R.noted d v dn).fs = R.fs ∧ (R.noted d v dn).dead = R.dead ∧ (R.noted d v dn).p = R.p ∧ (R.noted d v dn).m = R.m ∧ (R.noted d v dn).room = R.room ∧ (R.noted d v dn).pw = R.pw.note d.units := by
  obtain ⟨p, m, room, dn0, fs, ds, dead, count, armed, left, gone⟩ := R
  cases gone
  · cases armed <;> exact ⟨rfl, rfl, rfl, rfl, rfl, rfl, rfl⟩
  · exact ⟨rfl, rfl, rfl, rfl, rfl, rfl, rfl⟩

theorem note_count (s : Pw) (u : Nat) : (s.note u).count ≤ s.count + u := by
  unfold Pw.note
  split
  · omega
  · split
    · simp only
      omega
    · exact Nat.le_refl _

theorem bulk_noted (R : Rw) (d : Dd) (v dn : Value) : (R.noted d v dn).bulk ≤ R.bulk + d.lost.length + 1 + d.units := by
  obtain ⟨h1, h2, h3, _, _, _, h7⟩ := noted_is R d v dn
  have hc : (R.noted d v dn).count ≤ R.count + d.units := by
    have := note_count R.pw d.units
    rw [← h7] at this
    exact this
  unfold Rw.bulk Rw.rows
  rw [h1, h2, h3]
  simp only [List.map_append, List.map_cons, List.map_nil, List.length_append, List.length_cons, List.length_nil, size, List.sum_append, List.sum_cons, List.sum_nil]
  omega

theorem at_files {R : Rw} {k : Int} {v : Value} {b : List UInt8} (h : R.at k v b) : b = (filesF R.fs k).getD [] ∧ (get k R.fs).isNone = (filesF R.fs k).isNone := by
  unfold filesF
  rcases h with hg | ⟨hg, _, rfl⟩ <;> rw [hg] <;> exact ⟨rfl, rfl⟩

theorem live_append {w : World} {B : Nat} {f : Fs} {R : Rw} (h : Live w B f R) (k : Int) (hk : 0 ≤ k ∧ k ≤ 1048576) (x : Value) (m : List UInt8) (hx : Byt w x m) (hroom : (m.length : Int) ≤ (R.room : Int) - (total R.fs : Int)) (hb : R.bulk ≤ 274877906944) :
    Calls Try.prog 12 #[ptr R.p, .int .i64 k, x] w fun e w' => e = .returned (.int .i64 0) ∧ ∃ R', Live w' B f R' ∧ Moves w R w' R' ∧ R'.deeds = R.deeds ++ [⟨k, false, (filesF R.fs k).isNone, m⟩] ∧ R'.p = R.p ∧ R'.room = R.room ∧ R'.pw = R.pw.note m.length ∧ R'.bulk ≤ R.bulk + 2 * m.length + 1 := by
  refine (append_any h.mem h.dead k hk x m hx hroom hb h.low).mono ?_
  rintro e w1 ⟨rfl, v, v1, b, dn, hat, hm, hmv⟩
  obtain ⟨e1, e2⟩ := at_files hat
  obtain ⟨n1, n2, n3, n4, n5, n6, n7⟩ := noted_is ({ R with fs := put k v1 (b ++ m) R.fs } : Rw) ⟨k, false, (get k R.fs).isNone, m⟩ (.slice none 0 0) dn
  have hds : (R.grown k v1 b m dn).deeds = R.deeds ++ [⟨k, false, (filesF R.fs k).isNone, m⟩] := by
    unfold Rw.deeds Rw.grown
    rw [n1, e2]
    simp
  refine ⟨rfl, R.grown k v1 b m dn, ⟨hm, n3.trans h.dead, ?_, ?_, Nat.le_trans h.low hmv.size⟩, hmv, hds, n4, n6, n7, ?_⟩
  · rw [hds, okAll_append]
    refine ⟨h.ok, ?_, trivial⟩
    rw [← h.files]
    simp [okD]
  · rw [hds, replay_append, replay_one, ← h.files]
    have : (R.grown k v1 b m dn).fs = put k v1 (b ++ m) R.fs := n2
    rw [this, filesF_put h.mem.srt]
    simp [step, e1]
  · have h1 := bulk_noted ({ R with fs := put k v1 (b ++ m) R.fs } : Rw) ⟨k, false, (get k R.fs).isNone, m⟩ (.slice none 0 0) dn
    rw [bulk_put h.mem hat] at h1
    simp only [Dd.lost, Dd.units, Bool.false_eq_true, if_false, List.length_nil] at h1
    unfold Rw.grown
    omega

theorem live_drop {w : World} {B : Nat} {f : Fs} {R : Rw} (h : Live w B f R) (k : Int) (b : List UInt8) (hg : filesF R.fs k = some b) (hb : R.bulk ≤ 274877906944) :
    Calls Try.prog 13 #[ptr R.p, .int .i64 k] w fun e w' => e = .returned (.int .i64 0) ∧ ∃ R', Live w' B f R' ∧ Moves w R w' R' ∧ R'.deeds = R.deeds ++ [⟨k, true, false, b⟩] ∧ R'.p = R.p ∧ R'.room = R.room ∧ R'.pw = R.pw.note 1 ∧ R'.bulk ≤ R.bulk + 2 := by
  obtain ⟨v, hg'⟩ : ∃ v, get k R.fs = some (k, v, b) := by
    unfold filesF at hg
    cases hx : get k R.fs with
    | none => rw [hx] at hg; cases hg
    | some p =>
      obtain ⟨j, v, b'⟩ := p
      obtain ⟨_, rfl⟩ := get_some hx
      rw [hx] at hg
      simp only [Option.map_some, Option.some.injEq] at hg
      subst hg
      exact ⟨v, rfl⟩
  refine (drop_any h.mem h.dead k v b hg' hb h.low).mono ?_
  rintro e w1 ⟨rfl, dn, hm, hmv⟩
  obtain ⟨n1, n2, n3, n4, n5, n6, n7⟩ := noted_is ({ R with fs := del k R.fs } : Rw) ⟨k, true, false, b⟩ v dn
  have hds : (R.dropped k v b dn).deeds = R.deeds ++ [⟨k, true, false, b⟩] := by
    unfold Rw.deeds Rw.dropped
    rw [n1]
    simp
  refine ⟨rfl, R.dropped k v b dn, ⟨hm, n3.trans h.dead, ?_, ?_, Nat.le_trans h.low hmv.size⟩, hmv, hds, n4, n6, n7, ?_⟩
  · rw [hds, okAll_append]
    refine ⟨h.ok, ?_, trivial⟩
    rw [← h.files]
    simp [okD, hg]
  · rw [hds, replay_append, replay_one, ← h.files]
    have : (R.dropped k v b dn).fs = del k R.fs := n2
    rw [this, filesF_del h.mem.srt]
    simp [step]
  · have h1 := bulk_noted ({ R with fs := del k R.fs } : Rw) ⟨k, true, false, b⟩ v dn
    obtain ⟨_, _, _, hsz, _⟩ := Rw.at_rest h.mem (.inl hg')
    have h2 : ({ R with fs := del k R.fs } : Rw).bulk + b.length = R.bulk := by
      unfold Rw.bulk
      rw [hsz]
      show size (R.rest k) + R.ds.length + R.dead.length + R.count + b.length = _
      omega
    simp only [Dd.lost, Dd.units, if_true] at h1
    unfold Rw.dropped
    omega

theorem live_sync {w : World} {B : Nat} {f : Fs} {R : Rw} (h : Live w B f R) (hg : R.gone = false) :
    Calls Try.prog 14 #[ptr R.p] w fun e w' => e = .returned (.tuple #[]) ∧ ∃ R', Live w' B (filesF R.fs) R' ∧ Moves w R w' R' ∧ R'.deeds = [] ∧ R'.fs = R.fs ∧ R'.p = R.p ∧ R'.room = R.room ∧ R'.pw = ⟨0, R.armed, R.left, false⟩ ∧ R'.bulk ≤ R.bulk := by
  have key := sync_any h.mem
  rw [hg] at key
  refine key.mono ?_
  rintro e w1 ⟨rfl, hm, hmv⟩
  simp only [Bool.false_eq_true, if_false] at hm hmv
  refine ⟨rfl, R.settled, ⟨hm, rfl, trivial, rfl, Nat.le_trans h.low hmv.size⟩, hmv, rfl, rfl, rfl, rfl, ?_, R.bulk_settled⟩
  show (⟨0, R.armed, R.left, R.gone⟩ : Pw) = _
  rw [hg]

theorem live_sync_gone {w : World} {B : Nat} {f : Fs} {R : Rw} (h : Live w B f R) (hg : R.gone = true) :
    Calls Try.prog 14 #[ptr R.p] w fun e w' => e = .returned (.tuple #[]) ∧ Live w' B f R ∧ Moves w R w' R := by
  have key := sync_any h.mem
  rw [hg] at key
  refine key.mono ?_
  rintro e w1 ⟨rfl, hm, hmv⟩
  simp only [if_true] at hm hmv
  exact ⟨rfl, ⟨hm, h.dead, h.ok, h.files, Nat.le_trans h.low hmv.size⟩, hmv⟩

theorem live_arm {w : World} {B : Nat} {f : Fs} {R : Rw} (h : Live w B f R) (n : Int) (hn : (Lit.int .i64 n).wf = true) :
    Calls Try.prog 17 #[ptr R.p, .int .i64 n] w fun e w' => e = .returned (.tuple #[]) ∧ ∃ R', Live w' B f R' ∧ Moves w R w' R' ∧ R'.deeds = R.deeds ∧ R'.fs = R.fs ∧ R'.p = R.p ∧ R'.room = R.room ∧ R'.pw = (if R.gone then R.pw else ⟨R.count, decide (0 ≤ n), n, false⟩) ∧ R'.bulk = R.bulk := by
  refine (arm_any h.mem n hn).mono ?_
  rintro e w1 ⟨rfl, hm, hmv⟩
  have hds : (R.arming n).ds = R.ds ∧ (R.arming n).dead = R.dead ∧ (R.arming n).fs = R.fs ∧ (R.arming n).p = R.p ∧ (R.arming n).room = R.room ∧ (R.arming n).bulk = R.bulk ∧ (R.arming n).pw = (if R.gone then R.pw else ⟨R.count, decide (0 ≤ n), n, false⟩) := by
    unfold Rw.arming
    cases hg : R.gone
    · simp only [Bool.false_eq_true, if_false]
      exact ⟨trivial, trivial, trivial, trivial, trivial, rfl, rfl⟩
    · simp
  obtain ⟨e1, e2, e3, e4, e5, e6, e7⟩ := hds
  have e8 : (R.arming n).deeds = R.deeds := by unfold Rw.deeds; rw [e1]
  exact ⟨rfl, R.arming n, ⟨hm, e2.trans h.dead, by rw [e8]; exact h.ok, by rw [e8, e3]; exact h.files, Nat.le_trans h.low hmv.size⟩, hmv, e8, e3, e4, e5, e7, e6⟩

theorem live_crash {w : World} {B : Nat} {f : Fs} {R : Rw} (h : Live w B f R) (keep : Int) (n : Nat) (hn : (n : Int) = min (max keep 0) (R.count : Int)) (hb : R.bulk ≤ 1099511627776) :
    Calls Try.prog 18 #[ptr R.p, .int .i64 keep] w fun e w' => e = .returned (.tuple #[]) ∧ ∃ R', Live w' B (keepF f R.deeds n) R' ∧ Moves w R w' R' ∧ R'.deeds = [] ∧ filesF R'.fs = keepF f R.deeds n ∧ R'.p = R.p ∧ R'.room = R.room ∧ R'.count = 0 ∧ R'.armed = false ∧ R'.gone = false ∧ R'.bulk ≤ R.bulk := by
  refine (crash_at h.mem h.dead h.ok h.files keep n hn hb h.low).mono ?_
  rintro e w1 ⟨rfl, R1, hm, hmv, hf, hc, hbk, hp, _, hr⟩
  have hd : R1.deeds = [] := by unfold Rw.deeds; rw [hc.ds]; rfl
  exact ⟨rfl, R1, ⟨hm, hc.dead, by rw [hd]; trivial, by rw [hd, hf]; rfl, Nat.le_trans h.low hmv.size⟩, hmv, hd, hf, hp, hr, hc.count, hc.armed, hc.gone, hbk⟩

theorem live_new (room : Nat) (hr : room ≤ 1048576) (w : World) :
    Calls Try.prog 6 #[.int .i64 (room : Int)] w fun e w' => e = .returned (.tuple #[ptr (w.heap.size + 1), .int .i64 0]) ∧ ∃ R, R.p = w.heap.size + 1 ∧ Live w' w.heap.size (fun _ => none) R ∧ R.deeds = [] ∧ R.fs = [] ∧ R.room = room ∧ R.pw = ⟨0, false, 0, false⟩ ∧ R.bulk = 0 ∧ Adds w w' := by
  refine (new_any room hr w).mono ?_
  rintro e w1 ⟨rfl, hm, ha⟩
  refine ⟨rfl, _, rfl, ⟨hm, rfl, trivial, ?_, ha.below.size⟩, rfl, rfl, rfl, rfl, rfl, ha⟩
  funext k
  rfl

theorem live_read {w : World} {B : Nat} {f : Fs} {R : Rw} (h : Live w B f R) (k : Int) (b : List UInt8) (hg : filesF R.fs k = some b) (hb : R.bulk ≤ 1099511627776) :
    Calls Try.prog 16 #[ptr R.p, .int .i64 k] w fun e w' => ∃ r, e = .returned (.tuple #[r, .bool true]) ∧ w'.ownsRow w.heap.size 5 1 r b.length (cellsB b) ∧ Adds w w' := by
  obtain ⟨v, hg'⟩ : ∃ v, get k R.fs = some (k, v, b) := by
    unfold filesF at hg
    cases hx : get k R.fs with
    | none => rw [hx] at hg; cases hg
    | some p =>
      obtain ⟨j, v, b'⟩ := p
      obtain ⟨_, rfl⟩ := get_some hx
      rw [hx] at hg
      simp only [Option.map_some, Option.some.injEq] at hg
      subst hg
      exact ⟨v, rfl⟩
  exact read_some h.mem k v b hg' hb

theorem live_read_none {w : World} {B : Nat} {f : Fs} {R : Rw} (h : Live w B f R) (k : Int) (hk : (Lit.int .i64 k).wf = true) (hg : filesF R.fs k = none) :
    Calls Try.prog 16 #[ptr R.p, .int .i64 k] w fun e w' => e = .returned (.tuple #[.slice none 0 0, .bool false]) ∧ w' = w :=
  read_none h.mem k hk (by simpa [filesF] using hg)

end Go.Proofs.Ytinfoblgojnjfaa
