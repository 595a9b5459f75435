/-
  The function Open by contract, where there is room.
-/
import Derived.Test.YtelkkpomehgcjaaTnew
namespace Go.Proofs.Ytelkkpomehgcjaa
open Go.RowKit Go.Maps
attribute [local go_sem] cell?_more frozen?_more setCell_more size_more tape_more drew_more drewN_more more_drew more_drewN more_more one_out plus_out plus_end lt_one le_p2 le_p3 le_p4 le_p5 le_p6 le_p7 le_p8 le_p9 le_p10 le_p11 le_p12 le_p13 le_p14 le_p15 le_p16 le_p17 le_p18 le_p19 le_p20 le_p21 le_p22 le_p23 le_p24 le_q0 le_q1 lt_q1 le_q2 lt_q2 le_q3 lt_q3 le_q4 lt_q4 le_q5 lt_q5 le_q6 lt_q6 le_q7 lt_q7 le_q8 lt_q8 le_q9 lt_q9 le_q10 lt_q10 le_q11 lt_q11 le_q12 lt_q12 le_q13 lt_q13 le_q14 lt_q14 le_q15 lt_q15 le_q16 lt_q16 le_q17 lt_q17 le_q18 lt_q18 le_q19 lt_q19 le_q20 lt_q20 le_q21 lt_q21 le_q22 lt_q22 le_q23 lt_q23 le_q24 lt_q24

theorem given_tape {w : World} {B : Nat} {R : Rw} {d : Dk} (h : St w B R d) : Calls Try.prog 31 #[ptr R.p] w fun e w' => e = .returned (.bool true) ∧ Adds w w' := by
  have hg : get (-1) R.fs = none := by
    cases hx : get (-1) R.fs with
    | none => rfl
    | some p =>
      obtain ⟨h1, h2⟩ := get_some hx
      have := h.live.mem.keys p h1
      omega
  have kD := drop_none h.live.mem (-1) (by decide) hg
  go_enter Try.func31, Try.ntmps31
  go_wp2_with (go_at_call 47; refine kD.mono ?_; rintro e w1 ⟨rfl, rfl⟩)
  go_ret
  exact ⟨rfl, Adds.refl _⟩

theorem RwsF.slice {B : Nat} {w : World} {v : Value} {ls : List (List UInt8)} (h : RwsF B w v ls) : ∃ ao n cap, v = .slice ao n cap := by
  obtain ⟨xs, ao, cap, rfl, _⟩ := h
  exact ⟨_, _, _, rfl⟩

theorem tape_new {w : World} {A : Obj} {C : Array Value} : ((w.alloc A).alloc (.cells C 69)).heap[w.heap.size + 1]? = some (.cells C 69 (0, 0)) := by
  have := new_block (w.alloc A) (.cells C 69)
  simpa using this

/-- What an Open leaves: the segment's number, its base, its records, the reel. -/
structure Op where
  file : Int
  base : Nat
  ls : List (List UInt8)
  d : Dk

def Dk.opened (d : Dk) (K : Kf) : Op :=
  match newK K with
  | some (file, base, ls, true) => ⟨file, base, ls, d.others file (keysK K)⟩
  | some (_, _, ls, false) => ⟨nextK K, ls.length, ls, d.begun K ls⟩
  | none => ⟨nextK K, 0, [], d.begun K []⟩

/-- A segment need not be begun, or there is room. -/
def roomy (room : Nat) (K : Kf) : Prop :=
  match newK K with
  | some (_, _, _, true) => True
  | some (_, _, ls, false) => segLen ls + sizeK K ≤ room ∧ nextK K ≤ 1048576
  | none => 13 + sizeK K ≤ room ∧ nextK K ≤ 1048576

structure Opened (w : World) (B : Nat) (R : Rw) (d : Dk) (K : Kf) (w' : World) (T : Tw) : Prop where
  tap : Tap w' B T (d.opened K).d
  file : T.file = (d.opened K).file
  base : T.base = (d.opened K).base
  ls : T.ls = (d.opened K).ls
  p : T.R.p = R.p
  room : T.R.room = R.room
  bulk : T.R.bulk ≤ R.bulk + 2 * R.room + 1 + 2 * (K.length + 1)
  mv : Mv w R.foot w' T.core
  new : w.heap.size ≤ T.p
  nil : newK K = none → T.v = .slice none 0 0

theorem mv_open {w W w' : World} {R R' : Rw} {p : Nat} (ha : Adds w W) (hp : w.heap.size ≤ p) (m : Mv W (with1 R p) w' (with1 R' p)) : Mv w R.foot w' (with1 R' p) := by
  have hb := ha.below
  refine ⟨m.os.trans hb.os, m.tape.trans hb.tape, m.output.trans hb.output, Nat.le_trans hb.size m.size, fun i hi hn => ?_⟩
  obtain ⟨h1, h2⟩ := m.block i (Nat.lt_of_lt_of_le hi hb.size) (fun hc => hc.elim hn fun e => by omega)
  exact ⟨h1.trans (hb.block i hi), h2⟩

theorem recs_open {w W w' : World} {B : Nat} {R R' : Rw} {d : Dk} {p : Nat} {C : Array Value} {v : Value} {ls : List (List UInt8)} (h : St w B R d) (hr : RwsF w.heap.size W v ls) (hp : W.heap[p]? = some (.cells C 69 (0, 0))) (m : Mv W (with1 R p) w' (with1 R' p)) : RwsA w' (with1 R' p) v ls := by
  refine RwsA.mv (hr.rwsA (F := with1 R p) fun b C' T hb hg hT hc => ?_) m
  rcases hc with hc | rfl
  · have := (h.live.mem.lt hc).2
    omega
  · rw [hp] at hg
    simp only [Option.some.injEq, Obj.cells.injEq] at hg
    obtain ⟨_, rfl, _⟩ := hg
    rcases hT with e | e <;> cases e

theorem keep_others {w w' : World} {B : Nat} {R R' : Rw} {d : Dk} {n : Nat} {p : Nat} {C : Array Value} (h : St w B R d) (hp : w.heap[p]? = some (.cells C 69 (0, 0))) (g : Goes w R w' R' n) : w'.heap[p]? = some (.cells C 69 (0, 0)) :=
  (g.moves.block p (Array.getElem?_eq_some_iff.1 hp).1 (tape_out h.live.mem hp odd69)).1.trans hp

theorem open_clean {w : World} {B : Nat} {R : Rw} {d : Dk} {K : Kf} (h : St w B R d) (hK : SrtK K) (hf : filesK K = d.now) (hb : R.bulk ≤ 68719476736) (hsz : sizeK K ≤ 1000000) {file : Int} {base : Nat} {ls : List (List UInt8)} (hn : newK K = some (file, base, ls, true)) :
    Calls Try.prog 21 #[ptr R.p] w fun e w' => ∃ T : Tw, e = .returned (.tuple #[ptr T.p, .int .i64 0]) ∧ Opened w B R d K w' T := by
  have hlow := h.live.low
  have kG := given_tape h
  have kN : ∀ W, Adds w W → Calls Try.prog 32 #[ptr R.p] W fun e w' => ∃ v, e = .returned (.tuple #[.agg #[.int .i64 file, .int .i64 (base : Int), v], .bool true]) ∧ RwsF w.heap.size w' v ls ∧ Adds w w' := fun W hW => by
    refine (newest_any (h.adds hW) hK hf hb hsz).mono ?_
    rintro e w' ⟨h1, h2⟩
    unfold newest at h1
    rw [hn] at h1
    obtain ⟨v, rfl, h3⟩ := h1
    exact ⟨v, rfl, h3.mono hW.below.size, hW.trans h2⟩
  have kO : ∀ W p v, Adds w W → w.heap.size ≤ p → W.heap[p]? = some (.cells #[ptr R.p, .int .i64 file, .int .i64 (base : Int), v] 69 (0, 0)) → RwsF w.heap.size W v ls → Calls Try.prog 33 #[ptr p] W fun e w' => e = .returned (.tuple #[]) ∧ ∃ R', Opened w B R d K w' ⟨R', p, file, base, v, ls⟩ := fun W p v hW hp hpw hr => by
    refine (others_any (h.adds hW) hK hf p file base v hpw (by omega)).mono ?_
    rintro e w' ⟨rfl, R', s', g'⟩
    have e0 : d.opened K = ⟨file, base, ls, d.others file (keysK K)⟩ := by unfold Dk.opened; rw [hn]
    have hp' := keep_others (h.adds hW) hpw g'
    rw [← g'.p] at hp'
    refine ⟨rfl, R', ⟨⟨by rw [e0]; exact s', hp', Nat.le_trans hlow hp, recs_open h hr hpw (g'.moves.with1 p)⟩, by rw [e0], by rw [e0], by rw [e0], g'.p, g'.room, ?_, mv_open hW hp (g'.moves.with1 p), hp, fun e => by rw [hn] at e; cases e⟩⟩
    have := g'.bulk
    show R'.bulk ≤ _
    omega
  go_enter Try.func21, Try.ntmps21
  go_wp2_with (first
    | (go_at_call 31; refine kG.mono ?_; rintro e w1 ⟨rfl, a1⟩)
    | (go_at_call 32; refine (kN _ (a1.trans (by repeat (first | with_reducible exact Adds.refl _ | with_reducible refine Adds.alloc ?_ _ | with_reducible refine Adds.more ?_ _ _ | with_reducible refine Adds.drew ?_ | with_reducible refine Adds.drewN ?_ _)))).mono ?_; rintro e w2 ⟨v2, rfl, h2, a2⟩; obtain ⟨ao2, n2, c2, rfl⟩ := h2.slice)
    | (go_at_call 33; refine (kO _ _ _ (a2.trans (by repeat (first | with_reducible exact Adds.refl _ | with_reducible refine Adds.alloc ?_ _ | with_reducible refine Adds.more ?_ _ _ | with_reducible refine Adds.drew ?_ | with_reducible refine Adds.drewN ?_ _))) (by have := a2.below.size; omega) tape_new (h2.adds (by repeat (first | with_reducible exact Adds.refl _ | with_reducible refine Adds.alloc ?_ _ | with_reducible refine Adds.more ?_ _ _ | with_reducible refine Adds.drew ?_ | with_reducible refine Adds.drewN ?_ _)))).mono ?_; rintro e w3 ⟨rfl, R3, o3⟩))
  go_ret2
  exact ⟨_, rfl, o3⟩

theorem open_begin {w : World} {B : Nat} {R : Rw} {d : Dk} {K : Kf} (h : St w B R d) (hK : SrtK K) (hf : filesK K = d.now) (hb : R.bulk ≤ 68719476736) (hsz : sizeK K ≤ 1000000) {f0 : Int} {b0 : Nat} {ls : List (List UInt8)}
    (hroom : segLen ls + sizeK K ≤ R.room) (hnext : nextK K ≤ 1048576) (hr1 : R.room ≤ 1000000) (hfit : fits ls) (e0 : d.opened K = ⟨nextK K, ls.length, ls, d.begun K ls⟩)
    (kN : ∀ W, Adds w W → Calls Try.prog 32 #[ptr R.p] W fun e w' => ∃ v, e = .returned (.tuple #[.agg #[.int .i64 f0, .int .i64 (b0 : Int), v], .bool false]) ∧ RwsF w.heap.size w' v ls ∧ (newK K = none → v = .slice none 0 0) ∧ Adds w w') :
    Calls Try.prog 21 #[ptr R.p] w fun e w' => ∃ T : Tw, e = .returned (.tuple #[ptr T.p, .int .i64 0]) ∧ Opened w B R d K w' T := by
  have hlow := h.live.low
  have kG := given_tape h
  have kB : ∀ W p v, Adds w W → w.heap.size ≤ p → W.heap[p]? = some (.cells #[ptr R.p, .int .i64 f0, .int .i64 (b0 : Int), v] 69 (0, 0)) → RwsF w.heap.size W v ls → (newK K = none → v = .slice none 0 0) → Calls Try.prog 34 #[ptr p, v] W fun e w' => e = .returned (.int .i64 0) ∧ ∃ R', Opened w B R d K w' ⟨R', p, nextK K, ls.length, v, ls⟩ := fun W p v hW hp hpw hr hv => by
    have hR : RwsA W (fun _ => False) v ls := hr.rwsA fun _ _ _ _ _ _ hc => hc
    refine (begin_any (h.adds hW) hK hf p f0 (b0 : Int) v hpw hb v ls hR.rws hfit (by omega) (by omega) hnext).mono ?_
    rintro e w' ⟨rfl, R', s', p', r', b', hp', m'⟩
    rw [← p'] at hp'
    refine ⟨rfl, R', ⟨⟨by rw [e0]; exact s', hp', Nat.le_trans hlow hp, recs_open h hr hpw m'⟩, by rw [e0], by rw [e0], by rw [e0], p', r', ?_, mv_open hW hp m', hp, hv⟩⟩
    show R'.bulk ≤ _
    omega
  clear e0 hfit
  go_enter Try.func21, Try.ntmps21
  go_wp2_with (first
    | (go_at_call 31; refine kG.mono ?_; rintro e w1 ⟨rfl, a1⟩)
    | (go_at_call 32; refine (kN _ (a1.trans (by repeat (first | with_reducible exact Adds.refl _ | with_reducible refine Adds.alloc ?_ _ | with_reducible refine Adds.more ?_ _ _ | with_reducible refine Adds.drew ?_ | with_reducible refine Adds.drewN ?_ _)))).mono ?_; rintro e w2 ⟨v2, rfl, h2, hv2, a2⟩; obtain ⟨ao2, n2, c2, rfl⟩ := h2.slice; have HV2 : Hid _ := hv2; clear hv2)
    | (go_at_call 34; refine (kB _ _ _ (a2.trans (by repeat (first | with_reducible exact Adds.refl _ | with_reducible refine Adds.alloc ?_ _ | with_reducible refine Adds.more ?_ _ _ | with_reducible refine Adds.drew ?_ | with_reducible refine Adds.drewN ?_ _))) (by have := a2.below.size; omega) tape_new (h2.adds (by repeat (first | with_reducible exact Adds.refl _ | with_reducible refine Adds.alloc ?_ _ | with_reducible refine Adds.more ?_ _ _ | with_reducible refine Adds.drew ?_ | with_reducible refine Adds.drewN ?_ _))) HV2.out).mono ?_; rintro e w3 ⟨rfl, R3, o3⟩))
  go_ret2
  exact ⟨_, rfl, o3⟩

theorem seg_fits {b : List UInt8} {s : Nat × List (List UInt8) × Bool} (h : segOf b = some s) : fits s.2.1 := by
  unfold segOf at h
  split at h
  · simp only [Option.some.injEq] at h
    subst h
    intro x hx
    exact (rows_few b).2.1 x (List.mem_of_mem_drop hx)
  · cases h

theorem newK_fits : ∀ {K : Kf} {s : Int × Nat × List (List UInt8) × Bool}, newK K = some s → fits s.2.2.1
  | p :: r, s, h => by
    have e : newK (p :: r) = match newK r with | some s => some s | none => (segOf p.2).map fun s => (p.1, s) := rfl
    rw [e] at h
    cases hr : newK r with
    | some s' =>
      rw [hr] at h
      simp only [Option.some.injEq] at h
      subst h
      exact newK_fits hr
    | none =>
      rw [hr] at h
      simp only at h
      cases hs : segOf p.2 with
      | none => rw [hs] at h; cases h
      | some q =>
        rw [hs] at h
        simp only [Option.map_some, Option.some.injEq] at h
        subst h
        exact seg_fits hs

theorem rwsF_nil (B : Nat) (w : World) : RwsF B w (.slice none 0 0) [] := ⟨[], none, 0, rfl, Nat.le_refl _, .inl rfl, trivial⟩

theorem open_any {w : World} {B : Nat} {R : Rw} {d : Dk} {K : Kf} (h : St w B R d) (hK : SrtK K) (hf : filesK K = d.now) (hb : R.bulk ≤ 68719476736) (hr1 : R.room ≤ 1000000) (hsz : sizeK K ≤ 1000000) (hroom : roomy R.room K) :
    Calls Try.prog 21 #[ptr R.p] w fun e w' => ∃ T : Tw, e = .returned (.tuple #[ptr T.p, .int .i64 0]) ∧ Opened w B R d K w' T := by
  unfold roomy at hroom
  cases hn : newK K with
  | none =>
    rw [hn] at hroom
    refine open_begin (f0 := 0) (b0 := 0) (ls := []) h hK hf hb hsz (by simpa [segLen, tot] using hroom.1) hroom.2 hr1 (by simp [fits]) (by unfold Dk.opened; rw [hn]; rfl) ?_
    intro W hW
    refine (newest_any (h.adds hW) hK hf hb hsz).mono ?_
    rintro e w' ⟨h1, h2⟩
    unfold newest at h1
    rw [hn] at h1
    exact ⟨_, h1, rwsF_nil _ _, fun _ => rfl, hW.trans h2⟩
  | some s =>
    obtain ⟨file, base, ls, clean⟩ := s
    cases clean with
    | true => exact open_clean h hK hf hb hsz hn
    | false =>
      rw [hn] at hroom
      refine open_begin (f0 := file) (b0 := base) (ls := ls) h hK hf hb hsz hroom.1 hroom.2 hr1 (newK_fits hn) (by unfold Dk.opened; rw [hn]) ?_
      intro W hW
      refine (newest_any (h.adds hW) hK hf hb hsz).mono ?_
      rintro e w' ⟨h1, h2⟩
      unfold newest at h1
      rw [hn] at h1
      obtain ⟨v, rfl, h3⟩ := h1
      exact ⟨v, rfl, h3.mono hW.below.size, (fun e => nomatch hn.symm.trans e), hW.trans h2⟩

end Go.Proofs.Ytelkkpomehgcjaa
