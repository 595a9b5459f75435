/-
  The reference's reel beside a disk in plain data: the pure part, and what its memory must be.
-/
import Derived.Test.YtelkkpomehgcjaaGreatUapp2
import Derived.Test.YtelkkpomehgcjaaGreatVrow
namespace Go.Proofs.YtelkkpomehgcjaaGreat
open Go.RowKit Go.Maps

/-- A reel that has a disk's deeds and power, and nothing else. -/
def rwOf (room : Nat) (d : Dk) : Rw := ⟨0, 0, room, .slice none 0 0, [], d.ds.map fun x => (x, .slice none 0 0), [], d.pw.count, d.pw.armed, d.pw.left, d.pw.gone⟩

theorem rwOf_deeds (room : Nat) (d : Dk) : (rwOf room d).deeds = d.ds := by simp [rwOf, Rw.deeds, Function.comp_def]
theorem rwOf_pw (room : Nat) (d : Dk) : (rwOf room d).pw = d.pw := rfl

def LikesD (room : Nat) (d : Dk) (r : Rf) : Prop := Likes (rwOf room d) d.f r

theorem note_low (s : Pw) (u : Nat) (h : s.armed = true → 0 ≤ s.left) : (s.note u).armed = true → 0 ≤ (s.note u).left := by
  unfold Pw.note
  split
  · exact h
  · split
    · rename_i ha
      intro _
      have := h ha
      simp only
      omega
    · intro hx
      simp_all

theorem likesD_app {room : Nat} {d : Dk} {r : Rf} (h : LikesD room d r) (k : Int) (m : List UInt8) : LikesD room (d.app k m) (r.putAll (unitsApp k m)) := by
  have := likes_deed (R' := rwOf room (d.app k m)) h ⟨k, false, (d.now k).isNone, m⟩ (by rw [rwOf_deeds, rwOf_deeds]; rfl) rfl (by rw [rwOf_pw, rwOf_pw]; simp [Dk.app, Dd.units]) (note_low d.pw m.length h.low)
  have e : unitsOf ⟨k, false, (d.now k).isNone, m⟩ = unitsApp k m := by simp [unitsOf, unitsApp]
  rwa [e] at this

theorem likesD_drop {room : Nat} {d : Dk} {r : Rf} (h : LikesD room d r) (k : Int) : LikesD room (d.drop k) (r.put ⟨k, 0, true, false⟩) := by
  have := likes_deed (R' := rwOf room (d.drop k)) h ⟨k, true, false, (d.now k).getD []⟩ (by rw [rwOf_deeds, rwOf_deeds]; rfl) rfl (by rw [rwOf_pw, rwOf_pw]; simp [Dk.drop, Dd.units]) (note_low d.pw 1 h.low)
  have e : unitsOf ⟨k, true, false, (d.now k).getD []⟩ = [⟨k, 0, true, false⟩] := by simp [unitsOf]
  rwa [e] at this

theorem likesD_seen {room : Nat} {d : Dk} {r : Rf} (h : LikesD room d r) : SrtK r.seen ∧ filesK r.seen = d.now := by
  have := Likes.seen h
  rw [rwOf_deeds] at this
  exact this

theorem likesD_K {room : Nat} {d : Dk} {r : Rf} (h : LikesD room d r) {K : Kf} (hK : SrtK K) (hf : filesK K = d.now) : r.done.foldl unitK r.kept = K := by
  obtain ⟨h1, h2⟩ := likesD_seen h
  have e : r.seen = r.done.foldl unitK r.kept := by
    unfold Rf.seen Rf.files
    rw [List.take_length]
  rw [← e]
  exact ext_srt h1 hK (h2.trans hf.symm)

/-- The reference's Sync. -/
def Rf.sync (r : Rf) : Rf := if r.gone then r else ⟨r.room, r.done.foldl unitK r.kept, [], 0, false, r.armed⟩

theorem likesD_gone {room : Nat} {d : Dk} {r : Rf} (h : LikesD room d r) : r.gone = d.pw.gone := h.gone

theorem likesD_sync {room : Nat} {d : Dk} {r : Rf} (h : LikesD room d r) : LikesD room d.sync r.sync := by
  unfold Rf.sync Dk.sync
  have hg := likesD_gone h
  cases hgn : d.pw.gone
  · rw [hgn] at hg
    simp only [hg, Bool.false_eq_true, if_false]
    obtain ⟨h1, h2⟩ := likesD_seen h
    have e : r.seen = r.done.foldl unitK r.kept := by
      unfold Rf.seen Rf.files
      rw [List.take_length]
    rw [e] at h1 h2
    exact ⟨h.room, h1, h2, rfl, rfl, fun _ => h.armed hgn, h.low, Nat.le_refl _, fun _ => rfl, fun e => (by cases e), rfl⟩
  · rw [hgn] at hg
    simp only [hg, if_true]
    exact h

/-- The reference's reel in memory; M bounds what lies there. -/
structure RefB (w : World) (R : Rw) (r : Rf) (kv dv : Value) (kept : List Fl) (M : Nat) : Prop where
  ref : RefV w R kv dv kept r.done
  same : kf kept = r.kept
  armed : -1 ≤ r.armed ∧ r.armed ≤ 9223372036854775807
  many : kept.length + r.done.length ≤ M
  bytes : ∃ X, 1 ≤ X ∧ X + r.done.length ≤ M + 1 ∧ ∀ p ∈ kept, p.2.2.length ≤ X

section
variable {w w' : World} {R : Rw} {r : Rf} {kv dv : Value} {kept : List Fl} {M M' : Nat}

theorem RefB.adds (h : RefB w R r kv dv kept M) (ha : Adds w w') : RefB w' R r kv dv kept M := ⟨h.ref.adds ha, h.same, h.armed, h.many, h.bytes⟩

theorem RefB.mono (h : RefB w R r kv dv kept M) (hM : M ≤ M') : RefB w R r kv dv kept M' := by
  obtain ⟨X, h1, h2, h3⟩ := h.bytes
  exact ⟨h.ref, h.same, h.armed, Nat.le_trans h.many hM, X, h1, by omega, h3⟩

theorem RefB.few (h : RefB w R r kv dv kept M) (hM : M ≤ 90000) : kept.length + r.done.length ≤ 1000000 ∧ (∀ p ∈ kept, p.2.2.length ≤ 100000) ∧ r.done.length ≤ 600000 := by
  have h1 := h.many
  obtain ⟨X, _, h4, h5⟩ := h.bytes
  exact ⟨by omega, fun p hp => Nat.le_trans (h5 p hp) (by omega), by omega⟩

theorem RefB.slices (h : RefB w R r kv dv kept M) : ∃ ko kn kc dO dn dc, kv = .slice ko kn kc ∧ dv = .slice dO dn dc := by
  obtain ⟨ko, kc, rfl, _⟩ := h.ref.kept.slice
  obtain ⟨dO, dc, rfl, _, _, _⟩ := h.ref.done
  exact ⟨ko, _, kc, dO, _, dc, rfl, rfl⟩

/-- Blocks of the reference's own structs may turn. -/
theorem RefB.keep (h : RefB w R r kv dv kept M) (hk : ∀ (b : Nat) (C : Array Value) (T : TypeId), (T = 62 ∨ T = 83 ∨ T = 5) → w.heap[b]? = some (Obj.cells C T (0, 0)) → w'.heap[b]? = w.heap[b]?) : RefB w' R r kv dv kept M :=
  ⟨⟨⟨h.ref.kept.row.keep fun b C hb => hk b C 62 (.inl rfl) hb, fun p hp => (h.ref.kept.bytes p hp).keep fun b C hb hf => ⟨hk b C 5 (.inr (.inr rfl)) hb, hf⟩⟩, h.ref.done.keep fun b C hb => hk b C 83 (.inr (.inl rfl)) hb⟩, h.same, h.armed, h.many, h.bytes⟩

/-- One block of another type has turned. -/
theorem RefB.turn (h : RefB w R r kv dv kept M) {p : Nat} {T : TypeId} (hT : T = 36 ∨ T = 39) (hp : ∃ C, w.heap[p]? = some (Obj.cells C T (0, 0))) (ht : Turn2 p p w w') : RefB w' R r kv dv kept M := by
  obtain ⟨C', hp⟩ := hp
  refine h.keep fun b C T' hT' hb => ht.block b (Array.getElem?_eq_some_iff.1 hb).1 ?_ ?_ <;>
  · rintro rfl
    rw [hp] at hb
    simp only [Option.some.injEq, Obj.cells.injEq] at hb
    obtain ⟨_, rfl, _⟩ := hb
    rcases hT with rfl | rfl <;> rcases hT' with e | e | e <;> cases e
end

theorem FilesV.turn1 {w w' : World} {R : Rw} {v : Value} {l : List Fl} (h : FilesV w R v l) {p : Nat} {T : TypeId} (hT : T = 36 ∨ T = 39) (hp : ∃ C, w.heap[p]? = some (Obj.cells C T (0, 0))) (ht : Turn2 p p w w') : FilesV w' R v l := by
  obtain ⟨C', hp⟩ := hp
  have key : ∀ (b : Nat) (C : Array Value) (T' : TypeId), (T' = 62 ∨ T' = 5) → w.heap[b]? = some (Obj.cells C T' (0, 0)) → w'.heap[b]? = w.heap[b]? := by
    intro b C T' hT' hb
    refine ht.block b (Array.getElem?_eq_some_iff.1 hb).1 ?_ ?_ <;>
    · rintro rfl
      rw [hp] at hb
      simp only [Option.some.injEq, Obj.cells.injEq] at hb
      obtain ⟨_, rfl, _⟩ := hb
      rcases hT with rfl | rfl <;> rcases hT' with e | e <;> cases e
  exact ⟨h.row.keep fun b C hb => key b C 62 (.inl rfl) hb, fun p hp => (h.bytes p hp).keep fun b C hb hf => ⟨key b C 5 (.inr rfl) hb, hf⟩⟩

/-- Nine cells, the first six of them set. -/
theorem box_set9 {w : World} {P : Nat} {c0 c1 c2 c3 c4 c5 c6 c7 c8 : Value} (h : w.heap[P]? = some (.cells #[c0, c1, c2, c3, c4, c5, c6, c7, c8] 39 (0, 0))) (a0 a1 a2 a3 a4 a5 : Value) :
    ((((((w.setCell ⟨P, 0, none⟩ a0).setCell ⟨P, 1, none⟩ a1).setCell ⟨P, 2, none⟩ a2).setCell ⟨P, 3, none⟩ a3).setCell ⟨P, 4, none⟩ a4).setCell ⟨P, 5, none⟩ a5).heap[P]? = some (.cells #[a0, a1, a2, a3, a4, a5, c6, c7, c8] 39 (0, 0)) := by
  have e1 := heap_setCell_at a0 h (i := 0) (by simp)
  have e2 := heap_setCell_at a1 e1 (i := 1) (by simp)
  have e3 := heap_setCell_at a2 e2 (i := 2) (by simp)
  have e4 := heap_setCell_at a3 e3 (i := 3) (by simp)
  have e5 := heap_setCell_at a4 e4 (i := 4) (by simp)
  have e6 := heap_setCell_at a5 e5 (i := 5) (by simp)
  rw [e6]
  rfl

theorem put_kept (r : Rf) (u : Un) : (r.put u).kept = r.kept := by
  unfold Rf.put
  split
  · rfl
  · split
    · rfl
    · split <;> rfl

theorem putAll_kept : ∀ (us : List Un) (r : Rf), (r.putAll us).kept = r.kept
  | [], _ => rfl
  | u :: t, r => (putAll_kept t (r.put u)).trans (put_kept r u)

/-- Two blocks of other types have turned. -/
theorem RefB.turn2 {w w' : World} {R : Rw} {r : Rf} {kv dv : Value} {kept : List Fl} {M : Nat} (h : RefB w R r kv dv kept M) {p q : Nat} (hp : ∃ C, w.heap[p]? = some (Obj.cells C 39 (0, 0))) (hq : ∃ C, w.heap[q]? = some (Obj.cells C 39 (0, 0))) (ht : Turn2 p q w w') : RefB w' R r kv dv kept M := by
  have key : ∀ x, (∃ C, w.heap[x]? = some (Obj.cells C 39 (0, 0))) → ∀ (b : Nat) (C : Array Value) (T' : TypeId), (T' = 62 ∨ T' = 83 ∨ T' = 5) → w.heap[b]? = some (Obj.cells C T' (0, 0)) → b ≠ x := by
    rintro x ⟨C', hx⟩ b C T' hT' hb rfl
    rw [hx] at hb
    simp only [Option.some.injEq, Obj.cells.injEq] at hb
    obtain ⟨_, rfl, _⟩ := hb
    rcases hT' with e | e | e <;> cases e
  exact h.keep fun b C T' hT' hb => ht.block b (Array.getElem?_eq_some_iff.1 hb).1 (key p hp b C T' hT' hb) (key q hq b C T' hT' hb)

theorem turn2_adds {w0 w7 w' : World} {p q : Nat} (ha : Adds w0 w7) (hp : w0.heap.size ≤ p) (hq : w0.heap.size ≤ q) (ht : Turn2 p q w7 w') : Adds w0 w' :=
  Adds.of ⟨ht.os.trans ha.below.os, ht.tape.trans ha.below.tape, ht.output.trans ha.below.output, Nat.le_trans ha.below.size ht.size, fun i hi => (ht.block i (Nat.lt_of_lt_of_le hi ha.below.size) (by omega) (by omega)).trans (ha.below.block i hi)⟩

end Go.Proofs.YtelkkpomehgcjaaGreat
