/-
  Acts in memory; the function Light by contract; Append and Drop whatever they are asked; what a crash leaves of a file that was not dropped.
-/
import Derived.Test.YtinfoblgojnjfaaFiles
namespace Go.Proofs.Ytinfoblgojnjfaa
open Go.RowKit Go.Maps

/-- Something that is done with a reel. -/
structure A where
  act : Int
  file : Int
  val : Value
  b : List UInt8
  n : Int

/-- A row of acts from off on. -/
def LiesA (w : World) (b off : Nat) (l : List A) : Prop := ∀ j (h : j < l.length), w.cell? ⟨b, off + j * 4, none⟩ = some (.int .i64 l[j].act) ∧ w.cell? ⟨b, off + j * 4 + 1, none⟩ = some (.int .i64 l[j].file) ∧ w.cell? ⟨b, off + j * 4 + 2, none⟩ = some l[j].val ∧ w.cell? ⟨b, off + j * 4 + 3, none⟩ = some (.int .i64 l[j].n)

def LstA (w : World) (v : Value) (l : List A) : Prop :=
  (∃ ao cap, v = .slice ao l.length cap ∧ l.length ≤ cap ∧ l.length ≤ 9223372036854775807 ∧ (l = [] ∨ ∃ b off, ao = some ⟨b, off, none⟩ ∧ b < w.heap.size ∧ LiesA w b off l)) ∧
  ∀ a ∈ l, Byt w a.val a.b ∧ (Lit.int .i64 a.file).wf = true ∧ (Lit.int .i64 a.n).wf = true

theorem LstA.adds {w w' : World} {v : Value} {l : List A} (h : LstA w v l) (ha : Adds w w') : LstA w' v l := by
  obtain ⟨⟨ao, cap, rfl, hc, hm, h⟩, h2⟩ := h
  refine ⟨⟨ao, cap, rfl, hc, hm, ?_⟩, fun a hm => ⟨(h2 a hm).1.adds ha, (h2 a hm).2⟩⟩
  rcases h with h | ⟨b, off, rfl, hb, hl⟩
  · exact .inl h
  · refine .inr ⟨b, off, rfl, Nat.lt_of_lt_of_le hb ha.below.size, fun j hj => ?_⟩
    have e : ∀ i, w'.cell? ⟨b, i, none⟩ = w.cell? ⟨b, i, none⟩ := fun i => World.cell?_of_block (ha.below.block b hb)
    rw [e, e, e, e]
    exact hl j hj

/-- At act j. -/
theorem LstA.at {w : World} {v : Value} {l : List A} (h : LstA w v l) {j : Nat} (hj : j < l.length) :
    ∃ b off cap, v = .slice (some ⟨b, off, none⟩) l.length cap ∧ l.length ≤ cap ∧ b < w.heap.size ∧ w.cell? ⟨b, off + j * 4, none⟩ = some (.int .i64 l[j].act) ∧ w.cell? ⟨b, off + j * 4 + 1, none⟩ = some (.int .i64 l[j].file) ∧ w.cell? ⟨b, off + j * 4 + 2, none⟩ = some l[j].val ∧ w.cell? ⟨b, off + j * 4 + 3, none⟩ = some (.int .i64 l[j].n) ∧
      Byt w l[j].val l[j].b ∧ (Lit.int .i64 l[j].file).wf = true ∧ (Lit.int .i64 l[j].n).wf = true := by
  obtain ⟨⟨ao, cap, rfl, hc, _, h⟩, h2⟩ := h
  rcases h with rfl | ⟨b, off, rfl, hb, hl⟩
  · simp at hj
  · obtain ⟨e0, e1, e2, e3⟩ := hl j hj
    exact ⟨b, off, cap, rfl, hc, hb, e0, e1, e2, e3, h2 _ (List.getElem_mem hj)⟩

theorem light_any (v : Value) (l : List A) (w : World) (h : LstA w v l) :
    Calls Try.prog 8 #[v] w fun e w' => ∃ t, e = .returned (.bool t) ∧ w' = w ∧ (t = true → ∀ j (h : j < l.length), j < 60 → l[j].b.length ≤ 600) := by
  have h' := h
  obtain ⟨⟨ao, cap, rfl, hcap, hmx, _⟩, _⟩ := h
  go_enter Try.func8, Try.ntmps8
  go_wp2
  go_loopw [3, 4] (fun n i W => ∃ (nn j : Nat), n = .int .i64 (nn : Int) ∧ i = .int .i64 (j : Int) ∧ nn ≤ 600 ∧ j ≤ l.length ∧ j ≤ 60 ∧ W = w ∧ ∀ i (h : i < l.length), i < j → l[i].b.length ≤ 600) (fun _ i _ => (60 - intOf i).toNat)
  case atStart => exact ⟨0, 0, rfl, rfl, by omega, by omega, by omega, rfl, fun i _ hi => by omega⟩
  case round =>
    obtain ⟨nn, j, rfl, rfl, hn, hj, hj6, rfl, hall⟩ := hrel
    have HA : Hid _ := hall
    clear hall
    by_cases hlt : j < l.length ∧ j < 60
    · obtain ⟨hlt, h60⟩ := hlt
      obtain ⟨b, off, cap', hv, _, hb, e0, e1, e2, e3, hbyt, _, _⟩ := h'.at hlt
      simp only [Value.slice.injEq, true_and] at hv
      obtain ⟨rfl, rfl⟩ := hv
      obtain ⟨bo, bc, hbv, hbc, _⟩ := hbyt.open
      rw [hbv] at e2
      have HN : Hid (∀ i (h : i < l.length), i < j + 1 → l[j].b.length ≤ 600 → l[i].b.length ≤ 600) := by
        intro i hi hij hle
        by_cases e : i = j
        · subst e; exact hle
        · exact HA.out i hi (by omega)
      by_cases hbig : l[j].b.length + nn ≤ 600
      · have hle : l[j].b.length ≤ 600 := by omega
        generalize l[j].b.length = L at *
        go_wp2
        go_roundw
        case rel => exact ⟨nn + L, j + 1, by go_num, by go_num, by omega, by omega, by omega, trivial, fun i hi hij => HN.out i hi hij hle⟩
        case measure => simp [intOf]; omega
      · have hbig' : (600 : Int) - (nn : Int) < (l[j].b.length : Int) := by omega
        generalize l[j].b.length = L at *
        go_wp2
        go_ret
        exact ⟨false, rfl, rfl, by simp⟩
    · by_cases hend : j = l.length
      · subst hend
        go_wp2
        go_ret
        exact ⟨true, rfl, rfl, fun _ i hi _ => HA.out i hi hi⟩
      · have : j = 60 := by omega
        subst this
        have hl60 : 60 < l.length := by omega
        go_wp2
        go_ret
        exact ⟨true, rfl, rfl, fun _ i hi h6 => HA.out i hi h6⟩

/-- A turned reel: the same deeds, or one more. -/
def Grew (R R' : Rw) (k : Int) (drop : Bool) : Prop := R'.deeds = R.deeds ∨ ∃ d, d.file = k ∧ d.drop = drop ∧ R'.deeds = R.deeds ++ [d]

theorem append_all {w : World} {B : Nat} {f : Fs} {R : Rw} (h : Live w B f R) (k : Int) (x : Value) (m : List UInt8) (hx : Byt w x m) (hb : R.bulk ≤ 274877906944) :
    Calls Try.prog 12 #[ptr R.p, .int .i64 k, x] w fun e w' => ∃ n, e = .returned (.int .i64 n) ∧ ∃ R', Live w' B f R' ∧ Moves w R w' R' ∧ Grew R R' k false ∧ R'.p = R.p ∧ R'.bulk ≤ R.bulk + 2 * m.length + 1 ∧ (R.gone = false → R.armed = false → R'.gone = false ∧ R'.armed = false) := by
  by_cases hk : 0 ≤ k ∧ k ≤ 1048576
  · by_cases hroom : (m.length : Int) ≤ (R.room : Int) - (total R.fs : Int)
    · refine (live_append h k hk x m hx hroom hb).mono ?_
      rintro e w1 ⟨rfl, R1, L1, v1, d1, p1, r1, q1, b1⟩
      refine ⟨0, rfl, R1, L1, v1, .inr ⟨_, rfl, rfl, d1⟩, p1, b1, fun hg ha => ?_⟩
      have e1 := congrArg Pw.gone q1
      have e2 := congrArg Pw.armed q1
      unfold Pw.note Rw.pw at e1 e2
      simp only [hg, ha, Bool.false_eq_true, if_false] at e1 e2
      exact ⟨e1, e2⟩
    · refine (append_full h.mem k hk x m hx (by omega) hb).mono ?_
      rintro e w1 ⟨rfl, a1⟩
      exact ⟨2, rfl, R, h.adds a1, Moves.adds R a1, .inl rfl, rfl, by omega, fun h1 h2 => ⟨h1, h2⟩⟩
  · refine (append_arg h.mem k hk x).mono ?_
    rintro e w1 ⟨rfl, rfl⟩
    exact ⟨1, rfl, R, h, Moves.refl _ _, .inl rfl, rfl, by omega, fun h1 h2 => ⟨h1, h2⟩⟩

theorem drop_all {w : World} {B : Nat} {f : Fs} {R : Rw} (h : Live w B f R) (k : Int) (hk : (Lit.int .i64 k).wf = true) (hb : R.bulk ≤ 274877906944) :
    Calls Try.prog 13 #[ptr R.p, .int .i64 k] w fun e w' => ∃ n, e = .returned (.int .i64 n) ∧ ∃ R', Live w' B f R' ∧ Moves w R w' R' ∧ Grew R R' k true ∧ R'.p = R.p ∧ R'.bulk ≤ R.bulk + 2 ∧ (R.gone = false → R.armed = false → R'.gone = false ∧ R'.armed = false) := by
  cases hg : filesF R.fs k with
  | some b =>
    refine (live_drop h k b hg hb).mono ?_
    rintro e w1 ⟨rfl, R1, L1, v1, d1, p1, r1, q1, b1⟩
    refine ⟨0, rfl, R1, L1, v1, .inr ⟨_, rfl, rfl, d1⟩, p1, b1, fun hg ha => ?_⟩
    have e1 := congrArg Pw.gone q1
    have e2 := congrArg Pw.armed q1
    unfold Pw.note Rw.pw at e1 e2
    simp only [hg, ha, Bool.false_eq_true, if_false] at e1 e2
    exact ⟨e1, e2⟩
  | none =>
    refine (drop_none h.mem k hk (by simpa [filesF] using hg)).mono ?_
    rintro e w1 ⟨rfl, rfl⟩
    exact ⟨4, rfl, R, h, Moves.refl _ _, .inl rfl, rfl, by omega, fun h1 h2 => ⟨h1, h2⟩⟩

/-! ### a file that is not dropped -/

/-- No deed of l drops file k. -/
def noDrop (l : List Dd) (k : Int) : Prop := ∀ d ∈ l, d.file = k → d.drop = false

/-- What is appended to file k. -/
def app (l : List Dd) (k : Int) : List UInt8 := l.flatMap fun d => if d.file = k then d.data else []

theorem step_at {f : Fs} {d : Dd} {k : Int} {b : List UInt8} (hf : f k = some b) (hd : d.file = k → d.drop = false) : step f d k = some (b ++ app [d] k) := by
  unfold step app
  by_cases e : d.file = k
  · have := hd e
    simp [this, e, Fs.set, hf]
  · have e' : ¬ k = d.file := fun h => e h.symm
    cases d.drop <;> simp [e, Fs.set, e', hf]

theorem replay_at : ∀ (l : List Dd) {f : Fs} {k : Int} {b : List UInt8}, f k = some b → noDrop l k → replay f l k = some (b ++ app l k)
  | [], f, k, b, hf, _ => by simp [replay, app, hf]
  | d :: r, f, k, b, hf, hn => by
    have h1 := step_at hf (hn d (by simp))
    have := replay_at r h1 (fun x hx => hn x (by simp [hx]))
    show replay (step f d) r k = _
    rw [this]
    simp [app]

theorem app_append (a b : List Dd) (k : Int) : app (a ++ b) k = app a k ++ app b k := by simp [app]

theorem keep_at {f : Fs} {D : List Dd} {k : Int} {b : List UInt8} (hf : f k = some b) (hn : noDrop D k) (n : Nat) : ∃ c e, keepF f D n k = some (b ++ c) ∧ replay f D k = some (b ++ c ++ e) := by
  have hall := replay_at D hf hn
  unfold keepF
  obtain ⟨w0, hw⟩ : ∃ w0, (scan D n).1 = w0 := ⟨_, rfl⟩
  rw [hw]
  have hsplit : D.take w0 ++ D.drop w0 = D := List.take_append_drop _ _
  have hnt : noDrop (D.take w0) k := fun d hd => hn d (List.mem_of_mem_take hd)
  have htk := replay_at (D.take w0) hf hnt
  cases hdr : D.drop w0 with
  | nil =>
    simp only
    rw [hdr, List.append_nil] at hsplit
    refine ⟨app (D.take w0) k, [], htk, ?_⟩
    rw [hall, hsplit]
    simp
  | cons d r =>
    simp only
    have hd : d.file = k → d.drop = false := hn d (by rw [← hsplit, hdr]; simp)
    rw [hdr] at hsplit
    have happ : app D k = app (D.take w0) k ++ app [d] k ++ app r k := by
      conv => lhs; rw [← hsplit]
      rw [app_append]
      simp [app]
    unfold part
    by_cases h0 : (scan D n).2 = 0
    · rw [if_pos h0]
      refine ⟨app (D.take w0) k, app [d] k ++ app r k, htk, ?_⟩
      rw [hall, happ]
      simp
    · rw [if_neg h0]
      have hs := step_at (d := { d with data := d.data.take (scan D n).2 }) htk hd
      refine ⟨app (D.take w0) k ++ app [{ d with data := d.data.take (scan D n).2 }] k, (if d.file = k then d.data.drop (scan D n).2 else []) ++ app r k, ?_, ?_⟩
      · rw [hs]
        simp
      · rw [hall, happ]
        congr 1
        simp only [app, List.flatMap_cons, List.flatMap_nil, List.append_nil, List.append_assoc]
        by_cases e : d.file = k
        · simp only [e, if_true]
          rw [← List.append_assoc (List.take _ _), List.take_append_drop]
        · simp [e]

end Go.Proofs.Ytinfoblgojnjfaa
