/-
  A tape in memory, over its reel; what is read beside it; what a call may turn.
-/
import Derived.Test.YtelkkpomehgcjaaTseg
namespace Go.Proofs.Ytelkkpomehgcjaa
open Go.RowKit Go.Maps

/-- A call: of what was there it has turned the blocks of F alone. -/
structure Mv (w : World) (F : Nat → Prop) (w' : World) (F' : Nat → Prop) : Prop where
  os : w'.os = w.os
  tape : w'.tape = w.tape
  output : w'.output = w.output
  size : w.heap.size ≤ w'.heap.size
  block : ∀ i, i < w.heap.size → ¬ F i → w'.heap[i]? = w.heap[i]? ∧ ¬ F' i

theorem Moves.mv {w w' : World} {R R' : Rw} (h : Moves w R w' R') : Mv w R.foot w' R'.foot := ⟨h.os, h.tape, h.output, h.size, h.block⟩
theorem Mv.refl (w : World) (F : Nat → Prop) : Mv w F w F := ⟨rfl, rfl, rfl, Nat.le_refl _, fun _ _ h => ⟨rfl, h⟩⟩
theorem Mv.trans {w w' w'' : World} {F F' F'' : Nat → Prop} (h : Mv w F w' F') (k : Mv w' F' w'' F'') : Mv w F w'' F'' := by
  refine ⟨k.os.trans h.os, k.tape.trans h.tape, k.output.trans h.output, Nat.le_trans h.size k.size, fun i hi hn => ?_⟩
  obtain ⟨h1, h2⟩ := h.block i hi hn
  obtain ⟨k1, k2⟩ := k.block i (Nat.lt_of_lt_of_le hi h.size) h2
  exact ⟨k1.trans h1, k2⟩
theorem Mv.adds {w w' : World} (F : Nat → Prop) (h : Adds w w') : Mv w F w' F := by
  have hb := h.below
  exact ⟨hb.os, hb.tape, hb.output, hb.size, fun i hi hn => ⟨hb.block i hi, hn⟩⟩
theorem Mv.below {w w' : World} {F F' : Nat → Prop} (h : Mv w F w' F') {B : Nat} (hF : ∀ i, F i → B ≤ i) (hB : B ≤ w.heap.size) : Below B w w' :=
  ⟨h.os, h.tape, h.output, h.size, fun i hi => (h.block i (Nat.lt_of_lt_of_le hi hB) (fun hf => by have := hF i hf; omega)).1⟩

/-- Bytes outside F, in a block of bytes. -/
def BytA (w : World) (F : Nat → Prop) (x : Value) (l : List UInt8) : Prop :=
  ∃ ao cap, x = .slice ao l.length cap ∧ l.length ≤ cap ∧ (l = [] ∨ ∃ b off C z, ao = some ⟨b, off, none⟩ ∧ w.heap[b]? = some (.cells C 5 z) ∧ ¬ F b ∧ LiesB w b off l)

theorem BytA.byt {w : World} {F : Nat → Prop} {v : Value} {l : List UInt8} (h : BytA w F v l) : Byt w v l := by
  obtain ⟨ao, cap, rfl, hc, h⟩ := h
  refine byt_of hc (h.imp id ?_)
  rintro ⟨b, off, C, z, rfl, hb, _, hl⟩
  exact ⟨b, off, rfl, (Array.getElem?_eq_some_iff.1 hb).1, hl⟩

theorem BytA.keep {w w' : World} {F F' : Nat → Prop} {v : Value} {l : List UInt8} (h : BytA w F v l) (hk : ∀ b C z, w.heap[b]? = some (.cells C 5 z) → ¬ F b → w'.heap[b]? = w.heap[b]? ∧ ¬ F' b) : BytA w' F' v l := by
  obtain ⟨ao, cap, rfl, hc, h⟩ := h
  refine ⟨ao, cap, rfl, hc, h.imp id ?_⟩
  rintro ⟨b, off, C, z, rfl, hb, hf, hl⟩
  obtain ⟨e, hf'⟩ := hk b C z hb hf
  refine ⟨b, off, C, z, rfl, e.trans hb, hf', fun j hj => ?_⟩
  rw [World.cell?_of_block e]
  exact hl j hj

theorem BytA.mv {w w' : World} {F F' : Nat → Prop} {v : Value} {l : List UInt8} (h : BytA w F v l) (m : Mv w F w' F') : BytA w' F' v l :=
  h.keep fun b _ _ hb hf => m.block b (Array.getElem?_eq_some_iff.1 hb).1 hf

theorem BytA.sub {w : World} {F F' : Nat → Prop} {v : Value} {l : List UInt8} (h : BytA w F v l) (hF : ∀ b, b < w.heap.size → ¬ F b → ¬ F' b) : BytA w F' v l :=
  h.keep fun b _ _ hb hf => ⟨rfl, hF b (Array.getElem?_eq_some_iff.1 hb).1 hf⟩

/-- Blocks that are none of bytes are of no matter. -/
theorem BytA.or {w : World} {F G : Nat → Prop} {v : Value} {l : List UInt8} (h : BytA w F v l) (hG : ∀ i, G i → ∃ C e z, w.heap[i]? = some (.cells C e z) ∧ e ≠ 5) : BytA w (fun i => F i ∨ G i) v l :=
  h.keep fun b C z hb hf => ⟨rfl, fun hc => hc.elim hf fun hg => by
    obtain ⟨C', e, z', h1, h2⟩ := hG b hg
    rw [hb] at h1
    simp only [Option.some.injEq, Obj.cells.injEq] at h1
    exact h2 h1.2.1.symm⟩

theorem Fr.bytA {B : Nat} {w : World} {F : Nat → Prop} {v : Value} {l : List UInt8} (h : Fr B w v l) (hF : ∀ b C, B ≤ b → w.heap[b]? = some (.cells C 5 (0, 0)) → ¬ F b) : BytA w F v l := by
  obtain ⟨ao, cap, rfl, hc, h⟩ := h
  refine ⟨ao, cap, rfl, hc, h.imp id ?_⟩
  rintro ⟨b, off, C, rfl, hb, hg, hl⟩
  exact ⟨b, off, C, _, rfl, hg, hF b C hb hg, hl⟩

def EachA (w : World) (F : Nat → Prop) (xs : List Value) (ls : List (List UInt8)) : Prop := xs.length = ls.length ∧ ∀ i (h : i < xs.length) (h' : i < ls.length), BytA w F xs[i] ls[i]

theorem EachA.imp {w w' : World} {F F' : Nat → Prop} {xs : List Value} {ls : List (List UInt8)} (h : EachA w F xs ls) (f : ∀ v l, BytA w F v l → BytA w' F' v l) : EachA w' F' xs ls := ⟨h.1, fun i h1 h2 => f _ _ (h.2 i h1 h2)⟩

theorem eachA_nil (w : World) (F : Nat → Prop) : EachA w F [] [] := ⟨rfl, fun i h => by simp at h⟩

theorem EachA.snoc {w : World} {F : Nat → Prop} {xs : List Value} {ls : List (List UInt8)} {v : Value} {l : List UInt8} (h : EachA w F xs ls) (hv : BytA w F v l) : EachA w F (xs ++ [v]) (ls ++ [l]) := by
  refine ⟨by simp [h.1], fun i h1 h2 => ?_⟩
  by_cases hi : i < xs.length
  · rw [List.getElem_append_left hi, List.getElem_append_left (by rw [← h.1]; exact hi)]
    exact h.2 i hi (by rw [← h.1]; exact hi)
  · have e : i = xs.length := by
      simp at h1
      omega
    have e1 : (xs ++ [v])[i] = v := by
      subst e
      simp
    have e2 : (ls ++ [l])[i] = l := by
      have : i = ls.length := by rw [← h.1]; exact e
      subst this
      simp
    rw [e1, e2]
    exact hv

theorem EachF.eachA {B : Nat} {w : World} {F : Nat → Prop} {xs : List Value} {ls : List (List UInt8)} (h : EachF B w xs ls) (hF : ∀ b C, B ≤ b → w.heap[b]? = some (.cells C 5 (0, 0)) → ¬ F b) : EachA w F xs ls :=
  ⟨h.length, fun i h1 h2 => (h.get i h1 h2).bytA hF⟩

theorem each_of : ∀ {w : World} {F : Nat → Prop} {xs : List Value} {ls : List (List UInt8)}, EachA w F xs ls → Each w.heap.size w xs ls
  | _, _, [], [], _ => trivial
  | _, _, x :: xs, l :: ls, h => ⟨(h.2 0 (by simp) (by simp)).byt.old, each_of (F := ‹Nat → Prop›) ⟨by have := h.1; simpa using this, fun i h1 h2 => h.2 (i + 1) (by simpa using h1) (by simpa using h2)⟩⟩
  | _, _, [], _ :: _, h => by have := h.1; simp at this
  | _, _, _ :: _, [], h => by have := h.1; simp at this

/-- A list of records outside F. -/
def RwsA (w : World) (F : Nat → Prop) (v : Value) (ls : List (List UInt8)) : Prop :=
  ∃ xs ao cap, v = .slice ao xs.length cap ∧ xs.length ≤ cap ∧ (xs = [] ∨ ∃ b off, ao = some ⟨b, off, none⟩ ∧ b < w.heap.size ∧ ¬ F b ∧ LiesV w b off xs) ∧ EachA w F xs ls

theorem RwsA.rws {w : World} {F : Nat → Prop} {v : Value} {ls : List (List UInt8)} (h : RwsA w F v ls) : Rws w v ls := by
  obtain ⟨xs, ao, cap, rfl, hc, h, he⟩ := h
  refine ⟨xs, ⟨ao, cap, rfl, hc, h.imp id ?_⟩, each_of he⟩
  rintro ⟨b, off, rfl, hb, _, hl⟩
  exact ⟨b, off, rfl, hb, hl⟩

theorem RwsA.mv {w w' : World} {F F' : Nat → Prop} {v : Value} {ls : List (List UInt8)} (h : RwsA w F v ls) (m : Mv w F w' F') : RwsA w' F' v ls := by
  obtain ⟨xs, ao, cap, rfl, hc, h, he⟩ := h
  refine ⟨xs, ao, cap, rfl, hc, h.imp id ?_, he.imp fun _ _ hx => hx.mv m⟩
  rintro ⟨b, off, rfl, hb, hf, hl⟩
  obtain ⟨e, hf'⟩ := m.block b hb hf
  refine ⟨b, off, rfl, Nat.lt_of_lt_of_le hb m.size, hf', fun j hj => ?_⟩
  rw [World.cell?_of_block e]
  exact hl j hj

theorem RwsA.sub {w : World} {F F' : Nat → Prop} {v : Value} {ls : List (List UInt8)} (h : RwsA w F v ls) (hF : ∀ b, b < w.heap.size → ¬ F b → ¬ F' b) : RwsA w F' v ls := by
  obtain ⟨xs, ao, cap, rfl, hc, h, he⟩ := h
  refine ⟨xs, ao, cap, rfl, hc, h.imp id ?_, he.imp fun _ _ hx => hx.sub hF⟩
  rintro ⟨b, off, rfl, hb, hf, hl⟩
  exact ⟨b, off, rfl, hb, hF b hb hf, hl⟩

theorem rwsA_nil (w : World) (F : Nat → Prop) : RwsA w F (.slice none 0 0) [] := ⟨[], none, 0, rfl, Nat.le_refl _, .inl rfl, eachA_nil w F⟩

/-- A row of slices that is owned. -/
theorem rwsA_own {w : World} {B : Nat} {F : Nat → Prop} {v : Value} {xs : List Value} {ls : List (List UInt8)} (h : w.ownsRow B 22 1 v xs.length xs) (he : EachA w F xs ls) (hF : ∀ i, v.ownBlock = some i → ¬ F i) : RwsA w F v ls := by
  have hc := fun g => h.cells (g := g)
  have hlt := h.lt
  rcases h.2 with ⟨rfl, hn⟩ | ⟨g, cap, cur, rfl, hb, hg, hnc, _⟩
  · have : xs = [] := List.length_eq_zero_iff.1 hn
    subst this
    exact ⟨[], none, 0, rfl, Nat.le_refl _, .inl rfl, he⟩
  · refine ⟨xs, _, cap, rfl, hnc, .inr ⟨g, 0, rfl, (hlt g rfl).2, hF g rfl, fun j hj => ?_⟩, he⟩
    have := hc g rfl j xs[j] (by simp [hj])
    rw [add_at] at this
    exact this

/-- A tape as it lies. -/
structure Tw where
  R : Rw
  p : Nat
  file : Int
  base : Nat
  v : Value
  ls : List (List UInt8)

/-- The blocks that a tape turns, but for the row of its records. -/
def Tw.core (T : Tw) (i : Nat) : Prop := T.R.foot i ∨ i = T.p
def Tw.foot (T : Tw) (i : Nat) : Prop := T.R.foot i ∨ i = T.p ∨ T.v.ownBlock = some i

structure Tap (w : World) (B : Nat) (T : Tw) (d : Dk) : Prop where
  st : St w B T.R d
  hp : w.heap[T.p]? = some (.cells #[ptr T.R.p, .int .i64 T.file, .int .i64 (T.base : Int), T.v] 69 (0, 0))
  bp : B ≤ T.p
  recs : RwsA w T.core T.v T.ls

/-- A tape whose row of records is its own. -/
structure TapW (w : World) (B : Nat) (T : Tw) (d : Dk) : Prop where
  st : St w B T.R d
  hp : w.heap[T.p]? = some (.cells #[ptr T.R.p, .int .i64 T.file, .int .i64 (T.base : Int), T.v] 69 (0, 0))
  bp : B ≤ T.p
  row : ∃ xs, w.ownsRow B 22 1 T.v xs.length xs ∧ EachA w T.foot xs T.ls

theorem tape_out {w : World} {B : Nat} {R : Rw} (h : Mem w B R) {p : Nat} {C : Array Value} {e : TypeId} (hp : w.heap[p]? = some (.cells C e (0, 0))) (he : Odd e) : ¬ R.foot p := by
  intro hf
  rcases foot_tag h hf with ⟨es, clock, hb⟩ | ⟨C', T, hb, hT⟩
  · rw [hp] at hb
    cases hb
  · rw [hp] at hb
    simp only [Option.some.injEq, Obj.cells.injEq] at hb
    obtain ⟨_, rfl, _⟩ := hb
    rcases hT with e1 | e1 | e1
    · exact he.1 e1
    · exact he.2.1 e1
    · exact he.2.2 e1

theorem odd69 : Odd 69 := by unfold Odd; decide
theorem odd22 : Odd 22 := by unfold Odd; decide
theorem odd3 : Odd 3 := by unfold Odd; decide

theorem TapW.own_core {w : World} {B : Nat} {T : Tw} {d : Dk} (h : TapW w B T d) : ∀ i, T.v.ownBlock = some i → ¬ T.core i := by
  obtain ⟨xs, ho, _⟩ := h.row
  intro i hi hc
  obtain ⟨C, hC⟩ := row_block ho hi
  rcases hc with hc | rfl
  · exact tape_out h.st.live.mem hC odd22 hc
  · rw [h.hp] at hC
    simp at hC

theorem TapW.tap {w : World} {B : Nat} {T : Tw} {d : Dk} (h : TapW w B T d) : Tap w B T d := by
  obtain ⟨xs, ho, he⟩ := h.row
  refine ⟨h.st, h.hp, h.bp, rwsA_own ho (he.imp fun _ _ hx => hx.sub fun b _ hf hc => hf ?_) h.own_core⟩
  rcases hc with hc | hc
  · exact .inl hc
  · exact .inr (.inl hc)

theorem TapW.low {w : World} {B : Nat} {T : Tw} {d : Dk} (h : TapW w B T d) : ∀ i, T.foot i → B ≤ i := by
  obtain ⟨xs, ho, he⟩ := h.row
  rintro i (hf | rfl | hf)
  · exact (h.st.live.mem.lt hf).1
  · exact h.bp
  · exact (ho.lt i hf).1

/-- Files are dropped, one behind the other, but one. -/
def Dk.drops (d : Dk) (file : Int) (ks : List Int) : Dk := (ks.filter fun k => k != file).foldl Dk.drop d
def Dk.others (d : Dk) (file : Int) (ks : List Int) : Dk := if ks.length < 2 then d else (d.drops file ks).sync

theorem drops_next (d : Dk) (file : Int) {ks : List Int} {k : Nat} (hk : k < ks.length) : d.drops file (ks.take (k + 1)) = if ks[k] = file then d.drops file (ks.take k) else (d.drops file (ks.take k)).drop ks[k] := by
  unfold Dk.drops
  rw [List.take_succ_eq_append_getElem hk, List.filter_append, List.foldl_append]
  by_cases e : ks[k] = file
  · simp [e]
  · simp [e]

theorem drop_now (d : Dk) (k : Int) : (d.drop k).now = d.now.set k none := by
  unfold Dk.now Dk.drop
  simp only [replay_append, replay_one]
  simp [step]

theorem drops_now (d : Dk) (file : Int) (ks : List Int) (j : Int) : (d.drops file ks).now j = if j ∈ ks ∧ j ≠ file then none else d.now j := by
  unfold Dk.drops
  induction ks generalizing d with
  | nil => simp
  | cons k r ih =>
    by_cases e : k = file
    · subst e
      simp only [List.filter_cons, bne_self_eq_false, Bool.false_eq_true, if_false]
      rw [ih]
      by_cases h : j = k
      · simp [h]
      · simp [h]
    · have : (k != file) = true := by simpa using e
      simp only [List.filter_cons, this, if_true, List.foldl_cons]
      rw [ih, drop_now]
      by_cases h : j = k
      · subst h
        simp [e, Fs.set]
      · simp [h, Fs.set]

end Go.Proofs.Ytelkkpomehgcjaa
