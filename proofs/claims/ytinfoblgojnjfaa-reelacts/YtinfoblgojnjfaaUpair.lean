/-
  A reel and the reference's beside it: what must hold of both, and what the pure part gives.
-/
import Derived.Test.YtinfoblgojnjfaaUcrash
namespace Go.Proofs.Ytinfoblgojnjfaa
open Go.RowKit Go.Maps

/-- A block that is none of the reel's stays. -/
theorem Moves.at {w w' : World} {B : Nat} {R R' : Rw} (mv : Moves w R w' R') (m : Mem w B R) {T : TypeId} (hT : Odd T) {i : Nat} {C : Array Value} (h : w.heap[i]? = some (.cells C T (0, 0))) : w'.heap[i]? = some (.cells C T (0, 0)) := by
  rw [(mv.block i (Array.getElem?_eq_some_iff.1 h).1 (fun hf => ?_)).1]
  · exact h
  · rcases foot_tag m hf with ⟨es, clock, hx⟩ | ⟨C', T', hx, hT'⟩
    · rw [h] at hx
      cases hx
    · rw [h] at hx
      simp only [Option.some.injEq, Obj.cells.injEq] at hx
      obtain ⟨_, rfl, _⟩ := hx
      rcases hT' with e1 | e1 | e1
      · exact hT.1 e1
      · exact hT.2.1 e1
      · exact hT.2.2 e1

theorem odd32 : Odd 32 := by unfold Odd; decide
theorem odd38 : Odd 38 := by unfold Odd; decide
theorem odd73 : Odd 73 := by unfold Odd; decide

theorem RefV.moves {w w' : World} {B : Nat} {R R' : Rw} {kv dv : Value} {kept : List Fl} {done : List Un} (h : RefV w R kv dv kept done) (m : Mem w B R) (mv : Moves w R w' R') : RefV w' R' kv dv kept done :=
  ⟨h.kept.moves m mv, h.done.moves m mv odd73⟩

/-- What must hold of both; M bounds what lies in them. -/
structure Both (w : World) (B : Nat) (f : Fs) (R : Rw) (r : Rf) (kv dv : Value) (kept : List Fl) (M : Nat) : Prop where
  live : Live w B f R
  likes : Likes R f r
  ref : RefV w R kv dv kept r.done
  same : kf kept = r.kept
  armed : -1 ≤ r.armed ∧ r.armed ≤ 9223372036854775807
  many : kept.length + r.done.length ≤ M
  bytes : ∃ X, 1 ≤ X ∧ X + r.done.length ≤ M + 1 ∧ ∀ p ∈ kept, p.2.2.length ≤ X
  bulk : R.bulk ≤ 2 * M

section
variable {w w' : World} {B : Nat} {f : Fs} {R : Rw} {r : Rf} {kv dv : Value} {kept : List Fl} {M : Nat}

theorem Both.adds (h : Both w B f R r kv dv kept M) (ha : Adds w w') : Both w' B f R r kv dv kept M :=
  ⟨h.live.adds ha, h.likes, h.ref.adds ha, h.same, h.armed, h.many, h.bytes, h.bulk⟩

theorem Both.foot (h : Both w B f R r kv dv kept M) : ∀ i, R.foot i → i < w.heap.size := fun _ hi => (h.live.mem.lt hi).2

theorem Both.few (h : Both w B f R r kv dv kept M) (hM : M ≤ 90000) : kept.length + r.done.length ≤ 1000000 ∧ (∀ p ∈ kept, p.2.2.length ≤ 100000) ∧ r.done.length ≤ 600000 ∧ R.bulk ≤ 274877906944 := by
  have h1 := h.many
  have h2 := h.bulk
  obtain ⟨X, _, h4, h5⟩ := h.bytes
  exact ⟨by omega, fun p hp => Nat.le_trans (h5 p hp) (by omega), by omega, by omega⟩

theorem Both.room (h : Both w B f R r kv dv kept M) : 0 ≤ r.room ∧ r.room ≤ 1000000000000 := by
  have h1 := h.likes.room
  have h2 := h.live.mem.room
  omega

theorem filesK_kf (l : List Fl) : filesK (kf l) = filesF l := by
  funext k
  unfold filesK filesF getK get kf
  induction l with
  | nil => rfl
  | cons p t ih =>
    simp only [List.map_cons, List.find?_cons]
    cases hp : (p.1 == k)
    · simpa [hp] using ih
    · simp

theorem srtK_kf {l : List Fl} (h : Srt l) : SrtK (kf l) := List.pairwise_map.2 h

/-- The files that are seen are the reel's. -/
theorem Both.seen (h : Both w B f R r kv dv kept M) : r.done.foldl unitK (kf kept) = kf R.fs := by
  obtain ⟨h1, h2⟩ := h.likes.seen
  have e : r.seen = r.done.foldl unitK (kf kept) := by
    unfold Rf.seen Rf.files
    rw [List.take_length, h.same]
  rw [e] at h1 h2
  exact ext_srt h1 (srtK_kf h.live.mem.srt) (by rw [h2, filesK_kf, ← h.live.files])

theorem total_kf (l : List Fl) : sizeKf (kf l) = total l := by simp [sizeKf, kf, total, Function.comp_def]

theorem Both.left (h : Both w B f R r kv dv kept M) : r.room - (sizeKf (r.done.foldl unitK (kf kept)) : Int) = (R.room : Int) - (total R.fs : Int) := by
  rw [h.seen, total_kf, h.likes.room]

theorem Both.turn (h : Both w B f R r kv dv kept M) {p q : Nat} (h1 : ∃ C, w.heap[p]? = some (.cells C 32 (0, 0))) (h2 : ∃ C, w.heap[q]? = some (.cells C 32 (0, 0))) (ht : Turn2 p q w w') : Both w' B f R r kv dv kept M := by
  have hne : ∀ (i : Nat), R.foot i → ∀ x, (∃ C, w.heap[x]? = some (.cells C 32 (0, 0))) → i ≠ x := by
    rintro i hi x ⟨C, hC⟩ rfl
    rcases foot_tag h.live.mem hi with ⟨es, clock, hx⟩ | ⟨C', T', hx, hT'⟩
    · rw [hC] at hx
      cases hx
    · rw [hC] at hx
      simp only [Option.some.injEq, Obj.cells.injEq] at hx
      obtain ⟨_, rfl, _⟩ := hx
      rcases hT' with e1 | e1 | e1 <;> exact absurd e1 (by decide)
  have hnd : ∀ (b : Nat) (C : Array Value), w.heap[b]? = some (Obj.cells C 73 (0, 0)) → ∀ x, (∃ C, w.heap[x]? = some (.cells C 32 (0, 0))) → b ≠ x := by
    rintro b C hb x ⟨C', hC⟩ rfl
    rw [hb] at hC
    simp at hC
  refine ⟨h.live.keep ht.size fun i hi => ht.block i (h.live.mem.lt hi).2 (hne i hi p h1) (hne i hi q h2), h.likes, ⟨h.ref.kept.turn h1 h2 ht, h.ref.done.keep fun b C hb => ht.block b (Array.getElem?_eq_some_iff.1 hb).1 (hnd b C hb p h1) (hnd b C hb q h2)⟩, h.same, h.armed, h.many, h.bytes, h.bulk⟩
end

/-- Bytes are appended. -/
theorem likes_append {R R' : Rw} {f : Fs} {r : Rf} (h : Likes R f r) (k : Int) (q : Bool) (b : List UInt8) (hd : R'.deeds = R.deeds ++ [⟨k, false, q, b⟩]) (hr : R'.room = R.room) (hp : R'.pw = R.pw.note b.length) (hlow : R'.armed = true → 0 ≤ R'.left) : Likes R' f (r.putAll (unitsApp k b)) := by
  have := likes_deed h ⟨k, false, q, b⟩ hd hr (by simpa [Dd.units] using hp) hlow
  have e : unitsOf ⟨k, false, q, b⟩ = unitsApp k b := by simp [unitsOf, unitsApp]
  rwa [e] at this

theorem likes_drop {R R' : Rw} {f : Fs} {r : Rf} (h : Likes R f r) (k : Int) (b : List UInt8) (hd : R'.deeds = R.deeds ++ [⟨k, true, false, b⟩]) (hr : R'.room = R.room) (hp : R'.pw = R.pw.note 1) (hlow : R'.armed = true → 0 ≤ R'.left) : Likes R' f (r.put ⟨k, 0, true, false⟩) := by
  have := likes_deed h ⟨k, true, false, b⟩ hd hr (by simpa [Dd.units] using hp) hlow
  have e : unitsOf ⟨k, true, false, b⟩ = [⟨k, 0, true, false⟩] := by simp [unitsOf]
  rwa [e] at this

theorem likes_arm {R R' : Rw} {f : Fs} {r : Rf} (h : Likes R f r) (n : Int) (hd : R'.deeds = R.deeds) (hr : R'.room = R.room) (hp : R'.pw = (if R.gone then R.pw else ⟨R.count, decide (0 ≤ n), n, false⟩)) (hlow : R'.armed = true → 0 ≤ R'.left) :
    Likes R' f { r with armed := if r.gone then r.armed else if n < 0 then -1 else n } := by
  have hc := congrArg Pw.count hp
  have ha := congrArg Pw.armed hp
  have hl := congrArg Pw.left hp
  have hg := congrArg Pw.gone hp
  unfold Rw.pw at hc ha hl hg
  simp only at hc ha hl hg
  cases hgn : R.gone
  · rw [hgn] at hc ha hl hg
    simp only [Bool.false_eq_true, if_false] at hc ha hl hg
    have hrg : r.gone = false := h.gone.trans hgn
    refine ⟨h.room.trans (by rw [hr]), h.srt, h.kept, h.done.trans (by rw [hd]), by rw [hg]; exact hrg, fun _ => ?_, hlow, h.live, fun _ => h.all hgn, fun e => (by rw [hg] at e; cases e), by rw [hc]; exact h.count⟩
    simp only [hrg, Bool.false_eq_true, if_false]
    rw [ha, hl]
    by_cases hn : n < 0
    · have : ¬ 0 ≤ n := by omega
      simp [hn, this]
    · have : 0 ≤ n := by omega
      simp [hn, this]
  · rw [hgn] at hc ha hl hg
    simp only [if_true] at hc ha hl hg
    have hrg : r.gone = true := h.gone.trans hgn
    exact ⟨h.room.trans (by rw [hr]), h.srt, h.kept, h.done.trans (by rw [hd]), by rw [hg]; exact hrg, fun e => (by rw [hg] at e; cases e), hlow, h.live, fun e => (by rw [hg] at e; cases e), fun _ => h.stop hgn, by rw [hc]; exact h.count⟩

/-- All is kept. -/
theorem likes_fresh {R' : Rw} {g : Fs} {room : Nat} {k : Kf} {a : Int} (hr : R'.room = room) (hd : R'.deeds = []) (hk : SrtK k) (hg : filesK k = g) (hc : R'.count = 0) (hgn : R'.gone = false) (ha : a = if R'.armed then R'.left else -1) (hlow : R'.armed = true → 0 ≤ R'.left) :
    Likes R' g ⟨(room : Int), k, [], 0, false, a⟩ :=
  ⟨by rw [hr], hk, hg, by rw [hd]; rfl, hgn.symm, fun _ => ha, hlow, Nat.le_refl _, fun _ => rfl, fun e => (by rw [hgn] at e; cases e), by rw [hc]; rfl⟩

end Go.Proofs.Ytinfoblgojnjfaa
