/-
  The statements' own function Do by a contract: a reel and the reference's go together over any act.
-/
import Derived.Test.YtinfoblgojnjfaaUdo2
namespace Go.Proofs.Ytinfoblgojnjfaa
open Go.RowKit Go.Maps

theorem put_kept (r : Rf) (u : Un) : (r.put u).kept = r.kept := by
  unfold Rf.put
  split
  · rfl
  · split
    · rfl
    · split <;> rfl

theorem putAll_kept : ∀ (us : List Un) (r : Rf), (r.putAll us).kept = r.kept
  | [], _ => rfl
  | u :: t, r => (putAll_kept t (r.put u)).trans (put_kept r u)

theorem unitsApp_length (k : Int) (b : List UInt8) : (unitsApp k b).length ≤ b.length + 1 := by
  unfold unitsApp
  split
  · simp
  · simp

/-- What comes of an act. -/
def Goes (w0 : World) (B p M : Nat) (r : Rf) (w : World) (kv dv : Value) : Prop := ∃ f R kept, Both w B f R r kv dv kept M ∧ R.p = p ∧ Adds w0 w

theorem Both.mono {w : World} {B : Nat} {f : Fs} {R : Rw} {r : Rf} {kv dv : Value} {kept : List Fl} {M M' : Nat} (h : Both w B f R r kv dv kept M) (hM : M ≤ M') : Both w B f R r kv dv kept M' := by
  obtain ⟨X, h1, h2, h3⟩ := h.bytes
  exact ⟨h.live, h.likes, h.ref, h.same, h.armed, Nat.le_trans h.many hM, ⟨X, h1, by omega, h3⟩, Nat.le_trans h.bulk (by omega)⟩

theorem turn2_adds {w0 w7 w' : World} {p q : Nat} (ha : Adds w0 w7) (hp : w0.heap.size ≤ p) (hq : w0.heap.size ≤ q) (ht : Turn2 p q w7 w') : Adds w0 w' :=
  Adds.of ⟨ht.os.trans ha.below.os, ht.tape.trans ha.below.tape, ht.output.trans ha.below.output, Nat.le_trans ha.below.size ht.size, fun i hi => (ht.block i (Nat.lt_of_lt_of_le hi ha.below.size) (by omega) (by omega)).trans (ha.below.block i hi)⟩

theorem ends_goes {w0 w w' : World} {B p M : Nat} {r : Rf} {kv dv : Value} (ha : Adds w0 w) (h : Ends w (fun w7 kv dv => Goes w0 B p M r w7 kv dv) kv dv w') : Goes w0 B p M r w' kv dv ∧ Stays w w' := by
  obtain ⟨w7, ⟨f, R, kept, hb, hp, h0⟩, h1, h2, hs, ht⟩ := h
  have := ha.below.size
  refine ⟨⟨f, R, kept, hb.turn h1 h2 ht, hp, turn2_adds h0 this (by omega) ht⟩, fun i C T hT hi => ?_⟩
  have h7 := hs i C T hT hi
  have hlt := (Array.getElem?_eq_some_iff.1 hi).1
  rw [ht.block i (Array.getElem?_eq_some_iff.1 h7).1 (by omega) (by omega)]
  exact h7

theorem Both.slices {w : World} {B : Nat} {f : Fs} {R : Rw} {r : Rf} {kv dv : Value} {kept : List Fl} {M : Nat} (h : Both w B f R r kv dv kept M) : ∃ ko kn kc dO dn dc, kv = .slice ko kn kc ∧ dv = .slice dO dn dc := by
  obtain ⟨ko, kc, rfl, _⟩ := h.ref.kept.slice
  obtain ⟨dO, dc, rfl, _, _, _⟩ := h.ref.done
  exact ⟨ko, _, kc, dO, _, dc, rfl, rfl⟩

section
variable {w0 w : World} {B : Nat} {f : Fs} {R : Rw} {r : Rf} {kv dv : Value} {kept : List Fl} {M : Nat}

/-- What Do must tell. -/
def Told (w0 w : World) (B p M : Nat) (e : Ending) (w' : World) : Prop := ∃ r' kv' dv', e = .returned (.tuple #[.agg #[.int .i64 r'.room, kv', dv', .int .i64 (r'.live : Int), .bool r'.gone, .int .i64 r'.armed], .bool true]) ∧ Goes w0 B p M r' w' kv' dv' ∧ Stays w w'

theorem act_append (hb : Both w B f R r kv dv kept M) (hM : M ≤ 80000) (ha : Adds w0 w) (hB : w0.heap.size = B) (file n : Int) (val : Value) (b : List UInt8) (hv : Byt w0 val b) (hl : b.length ≤ 600) :
    Calls Try.prog 10 #[ptr R.p, .agg #[.int .i64 r.room, kv, dv, .int .i64 (r.live : Int), .bool r.gone, .int .i64 r.armed], .agg #[.int .i64 0, .int .i64 file, val, .int .i64 n]] w (Told w0 w B R.p (M + b.length + 1)) := by
  obtain ⟨ko, kn, kc, dO, dn, dc, rfl, rfl⟩ := hb.slices
  have hv' := hv
  obtain ⟨vo, vc, rfl, _⟩ := hv'
  obtain ⟨g1, g2, g3, g4⟩ := hb.few (by omega)
  have hroom := hb.room
  have hleft := hb.left
  by_cases hk : 0 ≤ file ∧ file ≤ 1048576
  · by_cases hfull : (b.length : Int) ≤ (R.room : Int) - (total R.fs : Int)
    · refine (do_append (HALF := fun W => (∃ R', Live W B f R' ∧ Likes R' f (r.putAll (unitsApp file b)) ∧ RefV W R' (.slice ko kn kc) (.slice dO dn dc) kept r.done ∧ R'.p = R.p ∧ R'.bulk ≤ 2 * (M + b.length + 1)) ∧ Adds w0 W) (POST := fun w7 kv dv => Goes w0 B R.p (M + b.length + 1) (r.putAll (unitsApp file b)) w7 kv dv) (c := 0) (room' := (r.putAll (unitsApp file b)).room) (live' := ((r.putAll (unitsApp file b)).live : Int)) (gone' := (r.putAll (unitsApp file b)).gone) (armed' := (r.putAll (unitsApp file b)).armed) (fun W hW => hv.adds (ha.trans hW)) (by omega) ?_ ?_).mono fun e w' ⟨kv', dv', he, h⟩ => ⟨_, kv', dv', he, ends_goes ha h⟩
      · intro W x hW hx
        have hbW := hb.adds hW
        refine (live_append hbW.live file hk x b hx hfull g4).mono ?_
        rintro e w5 ⟨rfl, R', L', mv, hd, hp, hr, hpw, hbk⟩
        refine ⟨rfl, mv.stays hbW.live.mem, ⟨R', L', likes_append hb.likes file _ b hd hr hpw (fun h => L'.mem.arm h), hbW.ref.moves hbW.live.mem mv, hp, ?_⟩, adds_low mv hbW.live.mem (ha.trans hW) hB⟩
        have := hb.bulk
        omega
      · rintro W ⟨⟨R', L', lk, rv, hp, hbk⟩, h0⟩
        have key := refAppend_any rv (fun i hi => (L'.mem.lt hi).2) g1 g2 (by omega) hroom hb.armed.1 hb.armed.2 file hk (hv.adds h0) (by rw [hleft]; exact hfull)
        refine key.mono ?_
        rintro e w7 ⟨dv', rfl, rv', h7⟩
        obtain ⟨ko', kc', e1, _⟩ := rv'.kept.slice
        obtain ⟨dO', dc', rfl, _, _, _⟩ := rv'.done
        refine ⟨ko, kn, kc, dO', _, dc', by rw [putAll_room], ⟨f, R', kept, ?_, hp, h0.trans h7⟩, h7.stays⟩
        have hul := unitsApp_length file b
        have hdn := putAll_done (unitsApp file b) r
        obtain ⟨X, x1, x2, x3⟩ := hb.bytes
        have hmany := hb.many
        refine ⟨L'.adds h7, lk, rv', by rw [putAll_kept]; exact hb.same, putAll_bounds _ r hb.armed.1 hb.armed.2, ?_, ⟨X, x1, ?_, x3⟩, hbk⟩
        · rw [hdn, List.length_append]; omega
        · rw [hdn, List.length_append]; omega
    · have hfull' : (R.room : Int) - (total R.fs : Int) < (b.length : Int) := by omega
      refine (do_append (HALF := fun W => Both W B f R r (.slice ko kn kc) (.slice dO dn dc) kept M ∧ Adds w0 W) (POST := fun w7 kv dv => Goes w0 B R.p (M + b.length + 1) r w7 kv dv) (c := 2) (room' := r.room) (live' := (r.live : Int)) (gone' := r.gone) (armed' := r.armed) (fun W hW => hv.adds (ha.trans hW)) (by omega) ?_ ?_).mono fun e w' ⟨kv', dv', he, h⟩ => ⟨_, kv', dv', he, ends_goes ha h⟩
      · intro W x hW hx
        have hbW := hb.adds hW
        refine (append_full hbW.live.mem file hk x b hx hfull' g4).mono ?_
        rintro e w5 ⟨rfl, h5⟩
        exact ⟨rfl, h5.stays, hbW.adds h5, ha.trans (hW.trans h5)⟩
      · rintro W ⟨hbW, h0⟩
        have key := refAppend_full hbW.ref hbW.foot g1 g2 (by omega) hroom file hk vo (cellsB b).length vc (by rw [hleft, cellsB_length]; exact hfull')
        refine key.mono ?_
        rintro e w7 ⟨rfl, h7⟩
        exact ⟨ko, kn, kc, dO, dn, dc, rfl, ⟨f, R, kept, (hbW.adds h7).mono (by omega), rfl, h0.trans h7⟩, h7.stays⟩
  · refine (do_append (HALF := fun W => Both W B f R r (.slice ko kn kc) (.slice dO dn dc) kept M ∧ Adds w0 W) (POST := fun w7 kv dv => Goes w0 B R.p (M + b.length + 1) r w7 kv dv) (c := 1) (room' := r.room) (live' := (r.live : Int)) (gone' := r.gone) (armed' := r.armed) (fun W hW => hv.adds (ha.trans hW)) (by omega) ?_ ?_).mono fun e w' ⟨kv', dv', he, h⟩ => ⟨_, kv', dv', he, ends_goes ha h⟩
    · intro W x hW hx
      have hbW := hb.adds hW
      refine (append_arg hbW.live.mem file hk x).mono ?_
      rintro e w5 ⟨rfl, h5⟩
      subst h5
      exact ⟨rfl, fun _ _ _ _ h => h, hbW, ha.trans hW⟩
    · rintro W ⟨hbW, h0⟩
      have key := refAppend_arg W r.room (r.live : Int) r.armed r.gone ko dO vo kn kc dn dc (cellsB b).length vc file (by omega)
      refine key.mono ?_
      rintro e w7 ⟨rfl, h7⟩
      exact ⟨ko, kn, kc, dO, dn, dc, rfl, ⟨f, R, kept, (hbW.adds h7).mono (by omega), rfl, h0.trans h7⟩, h7.stays⟩

theorem mem_get {l : List Fl} {k : Int} (h : ∃ p ∈ kf l, p.1 = k) : get k l ≠ none := by
  obtain ⟨p, hp, rfl⟩ := h
  obtain ⟨q, hq, rfl⟩ := List.mem_map.1 hp
  intro e
  unfold get at e
  have := List.find?_eq_none.1 e q hq
  simp at this

theorem get_mem {l : List Fl} {k : Int} (h : get k l ≠ none) : ∃ p ∈ kf l, p.1 = k := by
  cases hg : get k l with
  | none => exact absurd hg h
  | some q =>
    have h1 := List.mem_of_find?_eq_some hg
    have h2 := List.find?_some hg
    exact ⟨(q.1, q.2.2), List.mem_map.2 ⟨q, h1, rfl⟩, by simpa using h2⟩

theorem act_drop (hb : Both w B f R r kv dv kept M) (hM : M ≤ 80000) (ha : Adds w0 w) (hB : w0.heap.size = B) (file n : Int) (hwf : (Lit.int .i64 file).wf = true) (vo : Option Addr) (vn vc : Nat) :
    Calls Try.prog 10 #[ptr R.p, .agg #[.int .i64 r.room, kv, dv, .int .i64 (r.live : Int), .bool r.gone, .int .i64 r.armed], .agg #[.int .i64 1, .int .i64 file, .slice vo vn vc, .int .i64 n]] w (Told w0 w B R.p (M + 1)) := by
  obtain ⟨ko, kn, kc, dO, dn, dc, rfl, rfl⟩ := hb.slices
  obtain ⟨g1, g2, g3, g4⟩ := hb.few (by omega)
  have hseen := hb.seen
  cases hg : get file R.fs with
  | none =>
    refine (do_drop (HALF := fun W => Both W B f R r (.slice ko kn kc) (.slice dO dn dc) kept M ∧ Adds w0 W) (POST := fun w7 kv dv => Goes w0 B R.p (M + 1) r w7 kv dv) (c := 4) (room' := r.room) (live' := (r.live : Int)) (gone' := r.gone) (armed' := r.armed) ?_ ?_).mono fun e w' ⟨kv', dv', he, h⟩ => ⟨_, kv', dv', he, ends_goes ha h⟩
    · intro W hW
      have hbW := hb.adds hW
      refine (drop_none hbW.live.mem file hwf hg).mono ?_
      rintro e w5 ⟨rfl, h5⟩
      subst h5
      exact ⟨rfl, fun _ _ _ _ h => h, hbW, ha.trans hW⟩
    · rintro W ⟨hbW, h0⟩
      refine (refDrop_any hbW.ref hbW.foot g1 g2 (by omega) hb.armed.1 hb.armed.2 file).mono ?_
      rintro e w7 (⟨_, rfl, h7⟩ | ⟨hex, _⟩)
      · exact ⟨ko, kn, kc, dO, dn, dc, rfl, ⟨f, R, kept, (hbW.adds h7).mono (by omega), rfl, h0.trans h7⟩, h7.stays⟩
      · rw [hseen] at hex
        exact absurd hg (mem_get hex)
  | some q =>
    have hq : filesF R.fs file = some q.2.2 := by simp [filesF, hg]
    refine (do_drop (HALF := fun W => (∃ R', Live W B f R' ∧ Likes R' f (r.put ⟨file, 0, true, false⟩) ∧ RefV W R' (.slice ko kn kc) (.slice dO dn dc) kept r.done ∧ R'.p = R.p ∧ R'.bulk ≤ 2 * (M + 1)) ∧ Adds w0 W) (POST := fun w7 kv dv => Goes w0 B R.p (M + 1) (r.put ⟨file, 0, true, false⟩) w7 kv dv) (c := 0) (room' := (r.put ⟨file, 0, true, false⟩).room) (live' := ((r.put ⟨file, 0, true, false⟩).live : Int)) (gone' := (r.put ⟨file, 0, true, false⟩).gone) (armed' := (r.put ⟨file, 0, true, false⟩).armed) ?_ ?_).mono fun e w' ⟨kv', dv', he, h⟩ => ⟨_, kv', dv', he, ends_goes ha h⟩
    · intro W hW
      have hbW := hb.adds hW
      refine (live_drop hbW.live file q.2.2 hq g4).mono ?_
      rintro e w5 ⟨rfl, R', L', mv, hd, hp, hr, hpw, hbk⟩
      refine ⟨rfl, mv.stays hbW.live.mem, ⟨R', L', likes_drop hb.likes file _ hd hr hpw (fun h => L'.mem.arm h), hbW.ref.moves hbW.live.mem mv, hp, ?_⟩, adds_low mv hbW.live.mem (ha.trans hW) hB⟩
      have := hb.bulk
      omega
    · rintro W ⟨⟨R', L', lk, rv, hp, hbk⟩, h0⟩
      refine (refDrop_any rv (fun i hi => (L'.mem.lt hi).2) g1 g2 (by omega) hb.armed.1 hb.armed.2 file).mono ?_
      rintro e w7 (⟨hno, _, _⟩ | ⟨_, dv', rfl, rv', h7⟩)
      · rw [hseen] at hno
        obtain ⟨p, hp1, hp2⟩ := get_mem (l := R.fs) (k := file) (by rw [hg]; simp)
        exact absurd hp2 (hno p hp1)
      · obtain ⟨dO', dc', rfl, _, _, _⟩ := rv'.done
        have hdn := put_done r ⟨file, 0, true, false⟩
        obtain ⟨X, x1, x2, x3⟩ := hb.bytes
        have hmany := hb.many
        refine ⟨ko, kn, kc, dO', _, dc', by rw [put_room], ⟨f, R', kept, ⟨L'.adds h7, lk, rv', by rw [put_kept]; exact hb.same, put_armed r _ hb.armed.1 hb.armed.2, ?_, ⟨X, x1, ?_, x3⟩, hbk⟩, hp, h0.trans h7⟩, h7.stays⟩
        · rw [hdn, List.length_append, List.length_singleton]; omega
        · rw [hdn, List.length_append, List.length_singleton]; omega

/-- The files that are kept anew. -/
theorem kept_anew {kept l' : List Fl} {us : List Un} {k : Kf} {M X n : Nat} (hk : kf l' = (us.take n).foldl unitK (kf kept)) (hm : kept.length + us.length ≤ M) (x1 : 1 ≤ X) (x2 : X + us.length ≤ M + 1) (x3 : ∀ p ∈ kept, p.2.2.length ≤ X) (_ : k = kf l') : l'.length ≤ M ∧ ∃ Y, 1 ≤ Y ∧ Y + 0 ≤ M + 1 ∧ ∀ p ∈ l', p.2.2.length ≤ Y := by
  have htl : (us.take n).length ≤ us.length := by rw [List.length_take]; omega
  constructor
  · have h1 := foldl_length (us.take n) (kf kept)
    rw [← hk, kf_length, kf_length] at h1
    omega
  · refine ⟨X + us.length, by omega, by omega, fun p hp => ?_⟩
    have h1 := foldl_bytes (us.take n) (kf kept) X x1 (fun q hq => by
      obtain ⟨x, hx, rfl⟩ := List.mem_map.1 hq
      exact x3 x hx) (p.1, p.2.2) (by rw [← hk]; exact List.mem_map.2 ⟨p, hp, rfl⟩)
    simp only at h1
    omega

theorem lie_nil (w : World) : Lie w 73 4 (.slice none 0 0) ([] : List Un).length (cellsU []) := ⟨none, 0, rfl, Nat.le_refl _, rfl, .inl rfl⟩

theorem act_sync (hb : Both w B f R r kv dv kept M) (hM : M ≤ 80000) (ha : Adds w0 w) (hB : w0.heap.size = B) (file n : Int) (vo : Option Addr) (vn vc : Nat) :
    Calls Try.prog 10 #[ptr R.p, .agg #[.int .i64 r.room, kv, dv, .int .i64 (r.live : Int), .bool r.gone, .int .i64 r.armed], .agg #[.int .i64 2, .int .i64 file, .slice vo vn vc, .int .i64 n]] w (Told w0 w B R.p M) := by
  obtain ⟨ko, kn, kc, dO, dn, dc, rfl, rfl⟩ := hb.slices
  obtain ⟨g1, g2, g3, g4⟩ := hb.few (by omega)
  have hseen := hb.seen
  have hgr := hb.likes.gone
  cases hg : R.gone
  · rw [hgr, hg]
    obtain ⟨X, x1, x2, x3⟩ := hb.bytes
    refine (do_sync (HALF := fun W => (∃ R', Live W B (filesF R.fs) R' ∧ R'.deeds = [] ∧ R'.room = R.room ∧ R'.pw = ⟨0, R.armed, R.left, false⟩ ∧ RefV W R' (.slice ko kn kc) (.slice dO dn dc) kept r.done ∧ R'.p = R.p ∧ R'.bulk ≤ 2 * M) ∧ Adds w0 W) (POST := fun w7 kv dv => Goes w0 B R.p M ⟨(R.room : Int), kf R.fs, [], 0, false, r.armed⟩ w7 kv dv) (room' := (R.room : Int)) (live' := ((0 : Nat) : Int)) (gone' := false) (armed' := r.armed) ?_ ?_).mono fun e w' ⟨kv', dv', he, h⟩ => ⟨_, kv', dv', he, ends_goes ha h⟩
    · intro W hW
      have hbW := hb.adds hW
      refine (live_sync hbW.live hg).mono ?_
      rintro e w5 ⟨rfl, R', L', mv, hd, _, hp, hr, hpw, hbk⟩
      exact ⟨rfl, mv.stays hbW.live.mem, ⟨R', L', hd, hr, hpw, hbW.ref.moves hbW.live.mem mv, hp, Nat.le_trans hbk hb.bulk⟩, adds_low mv hbW.live.mem (ha.trans hW) hB⟩
    · rintro W ⟨⟨R', L', hd, hr, hpw, rv, hp, hbk⟩, h0⟩
      refine (refSync_any rv (fun i hi => (L'.mem.lt hi).2) g1 g2 (by omega) r.room (r.live : Int) r.armed).mono ?_
      rintro e w7 ⟨v7, l7, rfl, fv, k7, h7⟩
      obtain ⟨ko', kc', rfl, _⟩ := fv.slice
      have hk7 : kf l7 = kf R.fs := k7.trans hseen
      obtain ⟨m1, m2⟩ := kept_anew (n := r.done.length) (k := kf l7) (by rw [k7, List.take_length]) hb.many x1 x2 x3 rfl
      have hc := congrArg Pw.count hpw
      have hA := congrArg Pw.armed hpw
      have hL := congrArg Pw.left hpw
      have hG := congrArg Pw.gone hpw
      unfold Rw.pw at hc hA hL hG
      simp only at hc hA hL hG
      refine ⟨ko', _, kc', none, 0, 0, by rw [hb.likes.room]; rfl, ⟨filesF R.fs, R', l7, ⟨L'.adds h7, ?_, ⟨fv, lie_nil _⟩, hk7, hb.armed, by simpa using m1, m2, hbk⟩, hp, h0.trans h7⟩, h7.stays⟩
      exact likes_fresh hr hd (srtK_kf hb.live.mem.srt) (filesK_kf _) hc hG (by rw [hA, hL]; exact hb.likes.armed hg) (fun h => L'.mem.arm h)
  · refine (do_sync (HALF := fun W => Both W B f R r (.slice ko kn kc) (.slice dO dn dc) kept M ∧ Adds w0 W) (POST := fun w7 kv dv => Goes w0 B R.p M r w7 kv dv) (room' := r.room) (live' := (r.live : Int)) (gone' := r.gone) (armed' := r.armed) ?_ ?_).mono fun e w' ⟨kv', dv', he, h⟩ => ⟨_, kv', dv', he, ends_goes ha h⟩
    · intro W hW
      have hbW := hb.adds hW
      refine (live_sync_gone hbW.live hg).mono ?_
      rintro e w5 ⟨rfl, L', mv⟩
      exact ⟨rfl, mv.stays hbW.live.mem, ⟨L', hb.likes, hbW.ref.moves hbW.live.mem mv, hb.same, hb.armed, hb.many, hb.bytes, hb.bulk⟩, adds_low mv hbW.live.mem (ha.trans hW) hB⟩
    · rintro W ⟨hbW, h0⟩
      rw [hgr, hg]
      refine (refSync_gone W r.room (r.live : Int) r.armed ko dO kn kc dn dc).mono ?_
      rintro e w7 ⟨rfl, h7⟩
      exact ⟨ko, kn, kc, dO, dn, dc, rfl, ⟨f, R, kept, hbW.adds h7, rfl, h0.trans h7⟩, h7.stays⟩

theorem wf_bounds {n : Int} (h : (Lit.int .i64 n).wf = true) : -9223372036854775808 ≤ n ∧ n ≤ 9223372036854775807 := by
  simp [Lit.wf, IntKind.min, IntKind.max, IntKind.signed, IntKind.bits] at h
  exact h

theorem act_arm (hb : Both w B f R r kv dv kept M) (_hM : M ≤ 80000) (ha : Adds w0 w) (hB : w0.heap.size = B) (file n : Int) (hwf : (Lit.int .i64 n).wf = true) (vo : Option Addr) (vn vc : Nat) :
    Calls Try.prog 10 #[ptr R.p, .agg #[.int .i64 r.room, kv, dv, .int .i64 (r.live : Int), .bool r.gone, .int .i64 r.armed], .agg #[.int .i64 3, .int .i64 file, .slice vo vn vc, .int .i64 n]] w (Told w0 w B R.p M) := by
  obtain ⟨ko, kn, kc, dO, dn, dc, rfl, rfl⟩ := hb.slices
  have hnb := wf_bounds hwf
  have hab := hb.armed
  refine (do_arm (HALF := fun W => (∃ R', Live W B f R' ∧ Likes R' f { r with armed := if r.gone then r.armed else if n < 0 then -1 else n } ∧ RefV W R' (.slice ko kn kc) (.slice dO dn dc) kept r.done ∧ R'.p = R.p ∧ R'.bulk ≤ 2 * M) ∧ Adds w0 W) (POST := fun w7 kv dv => Goes w0 B R.p M { r with armed := if r.gone then r.armed else if n < 0 then -1 else n } w7 kv dv) (room' := r.room) (live' := (r.live : Int)) (gone' := r.gone) (armed' := if r.gone then r.armed else if n < 0 then -1 else n) ?_ ?_).mono fun e w' ⟨kv', dv', he, h⟩ => ⟨_, kv', dv', he, ends_goes ha h⟩
  · intro W hW
    have hbW := hb.adds hW
    refine (live_arm hbW.live n hwf).mono ?_
    rintro e w5 ⟨rfl, R', L', mv, hd, _, hp, hr, hpw, hbk⟩
    exact ⟨rfl, mv.stays hbW.live.mem, ⟨R', L', likes_arm hb.likes n hd hr hpw (fun h => L'.mem.arm h), hbW.ref.moves hbW.live.mem mv, hp, by rw [hbk]; exact hb.bulk⟩, adds_low mv hbW.live.mem (ha.trans hW) hB⟩
  · rintro W ⟨⟨R', L', lk, rv, hp, hbk⟩, h0⟩
    refine (refArm_any W r.room (r.live : Int) r.armed r.gone ko dO kn kc dn dc n).mono ?_
    rintro e w7 ⟨rfl, h7⟩
    refine ⟨ko, kn, kc, dO, dn, dc, rfl, ⟨f, R', kept, ⟨L'.adds h7, lk, rv.adds h7, hb.same, ?_, hb.many, hb.bytes, hbk⟩, hp, h0.trans h7⟩, h7.stays⟩
    show -1 ≤ (if r.gone then r.armed else if n < 0 then -1 else n) ∧ (if r.gone then r.armed else if n < 0 then -1 else n) ≤ 9223372036854775807
    split
    · exact hab
    · split <;> omega

theorem act_crash (hb : Both w B f R r kv dv kept M) (hM : M ≤ 80000) (ha : Adds w0 w) (hB : w0.heap.size = B) (act file n : Int) (q0 : act ≠ 0) (q1 : act ≠ 1) (q2 : act ≠ 2) (q3 : act ≠ 3) (hwf : (Lit.int .i64 n).wf = true) (vo : Option Addr) (vn vc : Nat) :
    Calls Try.prog 10 #[ptr R.p, .agg #[.int .i64 r.room, kv, dv, .int .i64 (r.live : Int), .bool r.gone, .int .i64 r.armed], .agg #[.int .i64 act, .int .i64 file, .slice vo vn vc, .int .i64 n]] w (Told w0 w B R.p M) := by
  obtain ⟨ko, kn, kc, dO, dn, dc, rfl, rfl⟩ := hb.slices
  obtain ⟨g1, g2, g3, g4⟩ := hb.few (by omega)
  obtain ⟨X, x1, x2, x3⟩ := hb.bytes
  obtain ⟨N, hN⟩ : ∃ N : Nat, (N : Int) = min (max n 0) (R.count : Int) := ⟨(min (max n 0) (R.count : Int)).toNat, by omega⟩
  obtain ⟨s1, s2⟩ := likes_crash hb.likes n N hN
  unfold Rf.files at s1 s2
  rw [← hb.same] at s1 s2
  refine (do_crash q0 q1 q2 q3 (HALF := fun W => (∃ R', Live W B (keepF f R.deeds N) R' ∧ R'.deeds = [] ∧ R'.room = R.room ∧ R'.count = 0 ∧ R'.armed = false ∧ R'.gone = false ∧ RefV W R' (.slice ko kn kc) (.slice dO dn dc) kept r.done ∧ R'.p = R.p ∧ R'.bulk ≤ 2 * M) ∧ Adds w0 W) (POST := fun w7 kv dv => Goes w0 B R.p M ⟨(R.room : Int), (r.done.take (takeU (r.done.take r.live) n.toNat).length).foldl unitK (kf kept), [], 0, false, -1⟩ w7 kv dv) (room' := (R.room : Int)) (live' := ((0 : Nat) : Int)) (gone' := false) (armed' := -1) ?_ ?_).mono fun e w' ⟨kv', dv', he, h⟩ => ⟨_, kv', dv', he, ends_goes ha h⟩
  · intro W hW
    have hbW := hb.adds hW
    refine (live_crash hbW.live n N hN (by omega)).mono ?_
    rintro e w5 ⟨rfl, R', L', mv, hd, _, hp, hr, hc, hA, hG, hbk⟩
    exact ⟨rfl, mv.stays hbW.live.mem, ⟨R', L', hd, hr, hc, hA, hG, hbW.ref.moves hbW.live.mem mv, hp, Nat.le_trans hbk hb.bulk⟩, adds_low mv hbW.live.mem (ha.trans hW) hB⟩
  · rintro W ⟨⟨R', L', hd, hr, hc, hA, hG, rv, hp, hbk⟩, h0⟩
    refine (refCrash_any rv (fun i hi => (L'.mem.lt hi).2) g1 g2 (by omega) r.room r.armed r.live hb.likes.live r.gone n hwf).mono ?_
    rintro e w7 ⟨v7, l7, rfl, fv, k7, h7⟩
    obtain ⟨ko', kc', rfl, _⟩ := fv.slice
    obtain ⟨m1, m2⟩ := kept_anew (k := kf l7) k7 hb.many x1 x2 x3 rfl
    refine ⟨ko', _, kc', none, 0, 0, by rw [hb.likes.room]; rfl, ⟨keepF f R.deeds N, R', l7, ⟨L'.adds h7, ?_, ⟨fv, lie_nil _⟩, k7, ⟨by show (-1 : Int) ≤ -1; omega, by show (-1 : Int) ≤ _; omega⟩, by simpa using m1, m2, hbk⟩, hp, h0.trans h7⟩, h7.stays⟩
    exact likes_fresh hr hd s1 s2 hc hG (by rw [hA]; rfl) (fun h => L'.mem.arm h)

end

end Go.Proofs.Ytinfoblgojnjfaa
