/-
  A reel's state in plain data: files that are kept, deeds since, the power; the methods over that.
-/
import Derived.Test.YtelkkpomehgcjaaGreatUnits
namespace Go.Proofs.YtelkkpomehgcjaaGreat
open Go.RowKit Go.Maps

structure Dk where
  f : Fs
  ds : List Dd
  pw : Pw

def Dk.now (d : Dk) : Fs := replay d.f d.ds
def Dk.app (d : Dk) (k : Int) (m : List UInt8) : Dk := ⟨d.f, d.ds ++ [⟨k, false, (d.now k).isNone, m⟩], d.pw.note m.length⟩
def Dk.drop (d : Dk) (k : Int) : Dk := ⟨d.f, d.ds ++ [⟨k, true, false, (d.now k).getD []⟩], d.pw.note 1⟩
def Dk.sync (d : Dk) : Dk := if d.pw.gone then d else ⟨d.now, [], ⟨0, d.pw.armed, d.pw.left, false⟩⟩
def Dk.arm (d : Dk) (n : Int) : Dk := if d.pw.gone then d else ⟨d.f, d.ds, ⟨d.pw.count, decide (0 ≤ n), n, false⟩⟩

structure St (w : World) (B : Nat) (R : Rw) (d : Dk) : Prop where
  live : Live w B d.f R
  ds : R.deeds = d.ds
  pw : R.pw = d.pw

structure Goes (w : World) (R : Rw) (w' : World) (R' : Rw) (n : Nat) : Prop where
  moves : Moves w R w' R'
  p : R'.p = R.p
  room : R'.room = R.room
  bulk : R'.bulk ≤ R.bulk + n

theorem Goes.trans {w w' w'' : World} {R R' R'' : Rw} {n m : Nat} (h : Goes w R w' R' n) (k : Goes w' R' w'' R'' m) : Goes w R w'' R'' (n + m) :=
  ⟨h.moves.trans k.moves, k.p.trans h.p, k.room.trans h.room, by have := h.bulk; have := k.bulk; omega⟩

theorem Goes.adds {w w' : World} (R : Rw) (h : Adds w w') : Goes w R w' R 0 := ⟨Moves.adds R h, rfl, rfl, by omega⟩
theorem Goes.refl (w : World) (R : Rw) : Goes w R w R 0 := ⟨Moves.refl w R, rfl, rfl, by omega⟩
theorem Goes.mono {w w' : World} {R R' : Rw} {n m : Nat} (h : Goes w R w' R' n) (hm : n ≤ m) : Goes w R w' R' m := ⟨h.moves, h.p, h.room, by have := h.bulk; omega⟩

theorem St.adds {w w' : World} {B : Nat} {R : Rw} {d : Dk} (h : St w B R d) (ha : Adds w w') : St w' B R d := ⟨h.live.adds ha, h.ds, h.pw⟩
theorem St.keep {w w' : World} {B : Nat} {R : Rw} {d : Dk} (h : St w B R d) (hs : w.heap.size ≤ w'.heap.size) (hk : ∀ i, R.foot i → w'.heap[i]? = w.heap[i]?) : St w' B R d := ⟨h.live.keep hs hk, h.ds, h.pw⟩

theorem St.now {w : World} {B : Nat} {R : Rw} {d : Dk} (h : St w B R d) : filesF R.fs = d.now := by
  rw [h.live.files, h.ds]
  rfl

theorem st_append {w : World} {B : Nat} {R : Rw} {d : Dk} (h : St w B R d) (k : Int) (hk : 0 ≤ k ∧ k ≤ 1048576) (x : Value) (m : List UInt8) (hx : Byt w x m) (hroom : (m.length : Int) ≤ (R.room : Int) - (total R.fs : Int)) (hb : R.bulk ≤ 274877906944) :
    Calls Tryz.prog 22 #[ptr R.p, .int .i64 k, x] w fun e w' => e = .returned (.int .i64 0) ∧ ∃ R', St w' B R' (d.app k m) ∧ Goes w R w' R' (2 * m.length + 1) := by
  refine (live_append h.live k hk x m hx hroom hb).mono ?_
  rintro e w1 ⟨rfl, R1, L, mv, ds, p, room, pw, bulk⟩
  refine ⟨rfl, R1, ⟨L, ?_, ?_⟩, ⟨mv, p, room, by omega⟩⟩
  · rw [ds, h.ds, h.now]
    rfl
  · rw [pw, h.pw]
    rfl

theorem st_drop {w : World} {B : Nat} {R : Rw} {d : Dk} (h : St w B R d) (k : Int) (b : List UInt8) (hg : d.now k = some b) (hb : R.bulk ≤ 274877906944) :
    Calls Tryz.prog 81 #[ptr R.p, .int .i64 k] w fun e w' => e = .returned (.int .i64 0) ∧ ∃ R', St w' B R' (d.drop k) ∧ Goes w R w' R' 2 := by
  refine (live_drop h.live k b (by rw [h.now]; exact hg) hb).mono ?_
  rintro e w1 ⟨rfl, R1, L, mv, ds, p, room, pw, bulk⟩
  refine ⟨rfl, R1, ⟨L, ?_, ?_⟩, ⟨mv, p, room, by omega⟩⟩
  · rw [ds, h.ds]
    unfold Dk.drop
    rw [hg]
    rfl
  · rw [pw, h.pw]
    rfl

theorem st_sync {w : World} {B : Nat} {R : Rw} {d : Dk} (h : St w B R d) :
    Calls Tryz.prog 23 #[ptr R.p] w fun e w' => e = .returned (.tuple #[]) ∧ ∃ R', St w' B R' d.sync ∧ Goes w R w' R' 0 := by
  have hg : R.gone = d.pw.gone := congrArg Pw.gone h.pw
  by_cases hd : d.pw.gone = true
  · refine (live_sync_gone h.live (hg.trans hd)).mono ?_
    rintro e w1 ⟨rfl, L, mv⟩
    have e1 : d.sync = d := by unfold Dk.sync; rw [if_pos hd]
    rw [e1]
    exact ⟨rfl, R, ⟨L, h.ds, h.pw⟩, ⟨mv, rfl, rfl, by omega⟩⟩
  · have hf : R.gone = false := by rw [hg]; simpa using hd
    refine (live_sync h.live hf).mono ?_
    rintro e w1 ⟨rfl, R1, L, mv, ds, fs, p, room, pw, bulk⟩
    have e1 : d.sync = ⟨d.now, [], ⟨0, d.pw.armed, d.pw.left, false⟩⟩ := by unfold Dk.sync; rw [if_neg hd]
    rw [e1]
    refine ⟨rfl, R1, ⟨?_, ds, ?_⟩, ⟨mv, p, room, by omega⟩⟩
    · rw [← h.now]
      exact L
    · rw [pw, ← h.pw]
      rfl

theorem st_arm {w : World} {B : Nat} {R : Rw} {d : Dk} (h : St w B R d) (n : Int) (hn : (Lit.int .i64 n).wf = true) :
    Calls Tryz.prog 12 #[ptr R.p, .int .i64 n] w fun e w' => e = .returned (.tuple #[]) ∧ ∃ R', St w' B R' (d.arm n) ∧ Goes w R w' R' 0 := by
  refine (live_arm h.live n hn).mono ?_
  rintro e w1 ⟨rfl, R1, L, mv, ds, fs, p, room, pw, bulk⟩
  have hg : R.gone = d.pw.gone := congrArg Pw.gone h.pw
  have hc : R.count = d.pw.count := congrArg Pw.count h.pw
  refine ⟨rfl, R1, ?_, ⟨mv, p, room, by omega⟩⟩
  unfold Dk.arm
  by_cases hd : d.pw.gone = true
  · rw [if_pos hd]
    rw [hg, hd, if_pos rfl] at pw
    exact ⟨L, ds.trans h.ds, pw.trans h.pw⟩
  · rw [if_neg hd]
    have hf : R.gone = false := by rw [hg]; simpa using hd
    rw [hf, hc] at pw
    exact ⟨L, ds.trans h.ds, by simpa using pw⟩

theorem st_crash {w : World} {B : Nat} {R : Rw} {d : Dk} (h : St w B R d) (keep : Int) (n : Nat) (hn : (n : Int) = min (max keep 0) (d.pw.count : Int)) (hb : R.bulk ≤ 1099511627776) :
    Calls Tryz.prog 14 #[ptr R.p, .int .i64 keep] w fun e w' => e = .returned (.tuple #[]) ∧ ∃ R' l, St w' B R' ⟨keepF d.f d.ds n, [], ⟨0, false, l, false⟩⟩ ∧ Goes w R w' R' 0 := by
  have hc : R.count = d.pw.count := congrArg Pw.count h.pw
  refine (live_crash h.live keep n (by rw [hc]; exact hn) hb).mono ?_
  rintro e w1 ⟨rfl, R1, L, mv, ds, fs, p, room, c1, a1, g1, bulk⟩
  rw [h.ds] at L
  refine ⟨rfl, R1, R1.left, ⟨L, ds, ?_⟩, ⟨mv, p, room, by omega⟩⟩
  unfold Rw.pw
  rw [c1, a1, g1]

/-! ### what is seen, as a sorted list -/
def kbs (l : List Fl) : Kf := l.map fun x => (x.1, x.2.2)
def sizeK (l : Kf) : Nat := (l.map fun p => p.2.length).sum
def keysK (l : Kf) : List Int := l.map (·.1)

theorem kbs_files (l : List Fl) : filesK (kbs l) = filesF l := by
  funext k
  unfold filesK getK kbs filesF get
  rw [List.find?_map]
  have : ((fun p : Int × List UInt8 => p.1 == k) ∘ fun x : Fl => (x.1, x.2.2)) = fun p : Fl => p.1 == k := rfl
  rw [this]
  cases List.find? (fun p : Fl => p.1 == k) l <;> rfl

theorem St.kbs {w : World} {B : Nat} {R : Rw} {d : Dk} (h : St w B R d) {K : Kf} (hK : SrtK K) (hf : filesK K = d.now) : kbs R.fs = K := by
  refine ext_srt (List.pairwise_map.2 h.live.mem.srt) hK ?_
  rw [kbs_files, h.now, hf]

theorem St.total {w : World} {B : Nat} {R : Rw} {d : Dk} (h : St w B R d) {K : Kf} (hK : SrtK K) (hf : filesK K = d.now) : total R.fs = sizeK K := by
  rw [← h.kbs hK hf]
  unfold YtelkkpomehgcjaaGreat.total sizeK YtelkkpomehgcjaaGreat.kbs
  rw [List.map_map]
  rfl

theorem St.keys {w : World} {B : Nat} {R : Rw} {d : Dk} (h : St w B R d) {K : Kf} (hK : SrtK K) (hf : filesK K = d.now) : keysF R.fs = keysK K := by
  rw [← h.kbs hK hf]
  unfold keysF keysK YtelkkpomehgcjaaGreat.kbs
  rw [List.map_map]
  rfl

theorem St.range {w : World} {B : Nat} {R : Rw} {d : Dk} (h : St w B R d) {K : Kf} (hK : SrtK K) (hf : filesK K = d.now) : ∀ k ∈ keysK K, 0 ≤ k ∧ k ≤ 1048576 := by
  intro k hk
  rw [← h.keys hK hf] at hk
  obtain ⟨x, hx, rfl⟩ := List.mem_map.1 hk
  exact h.live.mem.keys x hx

theorem st_files {w : World} {B : Nat} {R : Rw} {d : Dk} (h : St w B R d) {K : Kf} (hK : SrtK K) (hf : filesK K = d.now) :
    Calls Tryz.prog 79 #[ptr R.p] w fun e w' => ∃ v, e = .returned v ∧ w'.ownsRow w.heap.size 3 1 v (keysK K).length (cellsZ (keysK K)) ∧ Adds w w' := by
  have := files_any h.live
  rw [h.keys hK hf] at this
  exact this

theorem st_left {w : World} {B : Nat} {R : Rw} {d : Dk} (h : St w B R d) {K : Kf} (hK : SrtK K) (hf : filesK K = d.now) (hb : R.bulk ≤ 1099511627776) :
    Calls Tryz.prog 52 #[ptr R.p] w fun e w' => e = .returned (.int .i64 ((R.room : Int) - (sizeK K : Int))) ∧ Adds w w' := by
  have := left_any h.live.mem hb
  rw [h.total hK hf] at this
  exact this

theorem getK_mem {K : Kf} (hK : SrtK K) {p : Int × List UInt8} (hp : p ∈ K) : filesK K p.1 = some p.2 := by
  induction K with
  | nil => simp at hp
  | cons q r ih =>
    obtain ⟨h1, h2⟩ := List.pairwise_cons.1 hK
    show getK p.1 (q :: r) = _
    rw [getK_cons]
    rcases List.mem_cons.1 hp with rfl | hp
    · rw [if_pos rfl]
    · rw [if_neg (by have := h1 p hp; omega)]
      exact ih h2 hp

theorem st_read {w : World} {B : Nat} {R : Rw} {d : Dk} (h : St w B R d) (k : Int) (b : List UInt8) (hg : d.now k = some b) (hb : R.bulk ≤ 1099511627776) :
    Calls Tryz.prog 80 #[ptr R.p, .int .i64 k] w fun e w' => ∃ r, e = .returned (.tuple #[r, .bool true]) ∧ w'.ownsRow w.heap.size 5 1 r b.length (cellsB b) ∧ Adds w w' :=
  live_read h.live k b (by rw [h.now]; exact hg) hb

end Go.Proofs.YtelkkpomehgcjaaGreat
