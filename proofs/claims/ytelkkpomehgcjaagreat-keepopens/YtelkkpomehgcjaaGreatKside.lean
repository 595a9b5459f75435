/-
  The two sides of the law KeepOpens: the reel with its keep, and the reference's.
-/
import Derived.Test.YtelkkpomehgcjaaGreatVopn2
import Derived.Test.YtelkkpomehgcjaaGreatRopen
import Derived.Test.YtelkkpomehgcjaaGreatKlike
import Derived.Test.YtelkkpomehgcjaaGreatKawake
namespace Go.Proofs.YtelkkpomehgcjaaGreat
open Go.RowKit Go.Maps
attribute [local go_sem] cell?_more frozen?_more setCell_more size_more tape_more drew_more drewN_more more_drew more_drewN more_more one_out plus_out plus_end lt_one le_p2 le_p3 le_p4 le_p5 le_p6 le_p7 le_p8 le_p9 le_p10 le_p11 le_p12 le_p13 le_p14 le_p15 le_p16 le_p17 le_p18 le_p19 le_p20 le_p21 le_p22 le_p23 le_p24 le_q0 le_q1 lt_q1 le_q2 lt_q2 le_q3 lt_q3 le_q4 lt_q4 le_q5 lt_q5 le_q6 lt_q6 le_q7 lt_q7 le_q8 lt_q8 le_q9 lt_q9 le_q10 lt_q10 le_q11 lt_q11 le_q12 lt_q12 le_q13 lt_q13 le_q14 lt_q14 le_q15 lt_q15 le_q16 lt_q16 le_q17 lt_q17 le_q18 lt_q18 le_q19 lt_q19 le_q20 lt_q20 le_q21 lt_q21 le_q22 lt_q22 le_q23 lt_q23 le_q24 lt_q24

section
variable {w w' : World} {B : Nat} {R R' : Rw} {r : Rf} {kv dv : Value} {kept : List Fl} {M : Nat}

/-- Of what was there only F's blocks have turned; the reference's lie outside. -/
theorem RefB.mv (h : RefB w R r kv dv kept M) (m : Mem w B R) {F' : Nat → Prop} (mv : Mv w R.foot w' F') (hF : ∀ i, R'.foot i → F' i) : RefB w' R' r kv dv kept M := by
  have hodd : ∀ (T : TypeId) (_ : Odd T) (b : Nat) (C : Array Value), w.heap[b]? = some (Obj.cells C T (0, 0)) → w'.heap[b]? = w.heap[b]? := fun T hT b C hb =>
    (mv.block b (Array.getElem?_eq_some_iff.1 hb).1 (tape_out m hb hT)).1
  refine ⟨⟨⟨h.ref.kept.row.keep fun b C hb => hodd 62 ⟨by decide, by decide, by decide⟩ b C hb, fun p hp => (h.ref.kept.bytes p hp).keep fun b C hb hf => ?_⟩, h.ref.done.keep fun b C hb => hodd 83 ⟨by decide, by decide, by decide⟩ b C hb⟩, h.same, h.armed, h.many, h.bytes⟩
  obtain ⟨h1, h2⟩ := mv.block b (Array.getElem?_eq_some_iff.1 hb).1 hf
  exact ⟨h1, fun hx => h2 (hF b hx)⟩

theorem RefB.moves (h : RefB w R r kv dv kept M) (m : Mem w B R) (mv : Moves w R w' R') : RefB w' R' r kv dv kept M := h.mv m mv.mv fun _ hi => hi

/-- The bound that what is kept gives. -/
theorem RefB.tight (h : RefB w R r kv dv kept M) {room : Nat} {K : Kf} {l : Int} (hl : LikesD room (calm K l) r) (hK : SrtK K) : RefB w R r kv dv kept (K.length + sizeK K + 1) ∧ r.kept = K ∧ r.done = [] := by
  have hd : r.done = [] := by
    have := hl.done
    rw [rwOf_deeds] at this
    exact this
  have hk : r.kept = K := ext_srt hl.srt hK hl.kept
  have hkl : kept.length = K.length := by
    have := congrArg List.length h.same
    rw [hk] at this
    simpa [kf] using this
  refine ⟨⟨h.ref, h.same, h.armed, by rw [hd, hkl]; simp; omega, sizeK K + 1, by omega, by rw [hd]; simp; omega, fun p hp => ?_⟩, hk, hd⟩
  have hm : (p.1, p.2.2) ∈ K := by
    rw [← hk, ← h.same]
    exact List.mem_map.2 ⟨p, hp, rfl⟩
  have := size_mem hm
  simp only at this
  omega
end

def rf0 (room : Nat) : Rf := ⟨(room : Int), [], [], 0, false, -1⟩

theorem likes0 (room : Nat) : LikesD room (calm [] 0) (rf0 room) :=
  ⟨rfl, List.Pairwise.nil, rfl, rfl, rfl, fun _ => rfl, (fun e => by cases e), Nat.le_refl _, fun _ => rfl, (fun e => by cases e), rfl⟩

theorem filesV_nil (w : World) (R : Rw) : FilesV w R (.slice none 0 0) [] := ⟨⟨none, 0, rfl, Nat.le_refl _, rfl, .inl rfl⟩, fun p hp => by cases hp⟩

theorem refb0 (W : World) (R : Rw) (room : Nat) : RefB W R (rf0 room) (.slice none 0 0) (.slice none 0 0) [] 1 :=
  ⟨⟨filesV_nil _ _, lie_nil _⟩, rfl, ⟨by simp [rf0], by simp [rf0]⟩, by simp [rf0], 1, by decide, by simp [rf0], fun p hp => by cases hp⟩

/-- The reel, and the reference's. -/
structure Kd (w W : World) (R : Rw) (d dr : Dk) (r : Rf) (kv dv : Value) (kept : List Fl) (M : Nat) : Prop where
  st : St W w.heap.size R d
  rp : R.p = w.heap.size + 1
  room : R.room = 20000
  bulk : R.bulk ≤ 100000
  refb : RefB W R r kv dv kept M
  likes : LikesD 20000 dr r
  adds : Adds w W

theorem Kd.more {w W W' : World} {R : Rw} {d dr : Dk} {r : Rf} {kv dv : Value} {kept : List Fl} {M : Nat} (h : Kd w W R d dr r kv dv kept M) (ha : Adds W W') : Kd w W' R d dr r kv dv kept M :=
  ⟨h.st.adds ha, h.rp, h.room, h.bulk, h.refb.adds ha, h.likes, h.adds.trans ha⟩

theorem Kd.foot {w W : World} {R : Rw} {d dr : Dk} {r : Rf} {kv dv : Value} {kept : List Fl} {M : Nat} (h : Kd w W R d dr r kv dv kept M) : ∀ i, R.foot i → i < W.heap.size := fun _ hi => (h.st.live.mem.lt hi).2

theorem odd39 : Odd 39 := ⟨by decide, by decide, by decide⟩

/-- The reference's Open of nothing. -/
theorem kd_open {w W : World} {R : Rw} {d : Dk} (h : Kd w W R d (calm [] 0) (rf0 20000) (.slice none 0 0) (.slice none 0 0) [] 1) :
    Calls Tryz.prog 19 #[.agg #[.int .i64 20000, .slice none 0 0, .slice none 0 0, .int .i64 0, .bool false, .int .i64 (-1)]] W fun e w' => ∃ (r : Rf) (ko : Option Addr) (kn kc : Nat) (dO : Option Addr) (dn dc : Nat) (kept : List Fl) (lo : Option Addr) (lc : Nat), e = .returned (.tuple #[.agg #[.int .i64 r.room, .slice ko kn kc, .slice dO dn dc, .int .i64 (r.live : Int), .bool r.gone, .int .i64 r.armed, .int .i64 0, .slice lo 0 lc, .int .i64 0], .int .i64 0]) ∧ Kd w w' R d (calm [(0, seg 0 [])] 0) r (.slice ko kn kc) (.slice dO dn dc) kept 15 ∧ Adds W w' := by
  have k := refOpen_any h.refb h.foot (by decide) (room := 20000) (by decide) h.likes (K := []) (by simp [SrtK]) rfl (by simp [keysK]) (by simp) (by simp) (fun s hs => by cases hs)
  refine Calls.mono k ?_
  rintro e w' (⟨_, r, ko, kn, kc, dO, dn, dc, kept, lv, rfl, hb, hl, hr, ha⟩ | ⟨hn, _⟩)
  · rw [opened_none] at hl hr ⊢
    obtain ⟨lo, lc, rfl, _⟩ := hr.slice
    obtain ⟨hb', _, _⟩ := hb.tight hl (srt_one _)
    have hs : ([(0, seg 0 [])] : Kf).length + sizeK [((0 : Int), seg 0 [])] + 1 = 15 := by
      rw [sizeK_one, seg_length]
      rfl
    rw [hs] at hb'
    exact ⟨r, ko, kn, kc, dO, dn, dc, kept, lo, lc, rfl, ⟨h.st.adds ha, h.rp, h.room, h.bulk, hb', hl, h.adds.trans ha⟩, ha⟩
  · exact absurd (by unfold roomy; rw [show newK [] = none from rfl]; exact ⟨by simp [sizeK], by decide⟩) hn

/-- The reference begins a segment with all records. -/
theorem kd_begin {w W : World} {R : Rw} {d : Dk} {r : Rf} {ko dO : Option Addr} {kn kc dn dc : Nat} {kept : List Fl} {lo so : Option Addr} {lc sc : Nat} {ls : List (List UInt8)} (h : Kd w W R d (calm [(0, seg 0 [])] 0) r (.slice ko kn kc) (.slice dO dn dc) kept 15) (hL : Rws W (.slice so ls.length sc) ls) (hfit : fits ls) (hseg : segLen ls ≤ 3000) :
    Calls Tryz.prog 20 #[.agg #[.int .i64 r.room, .slice ko kn kc, .slice dO dn dc, .int .i64 (r.live : Int), .bool r.gone, .int .i64 r.armed, .int .i64 0, .slice lo 0 lc, .int .i64 0], .slice so ls.length sc] W fun e w' => ∃ (r : Rf) (ko : Option Addr) (kn kc : Nat) (dO : Option Addr) (dn dc : Nat) (kept : List Fl), e = .returned (.tuple #[.agg #[.int .i64 r.room, .slice ko kn kc, .slice dO dn dc, .int .i64 (r.live : Int), .bool r.gone, .int .i64 r.armed, .int .i64 1, .slice so ls.length sc, .int .i64 (ls.length : Int)], .int .i64 0]) ∧ Kd w w' R d (calm [(1, seg ls.length ls)] 0) r (.slice ko kn kc) (.slice dO dn dc) kept 5000 ∧ kf kept = [(1, seg ls.length ls)] ∧ r.done = [] ∧ Adds W w' := by
  have hsz : sizeK [((0 : Int), seg 0 [])] = 13 := by
    rw [sizeK_one, seg_length]
    rfl
  have k := refBegin_any h.refb h.foot (by decide) (room := 20000) (by decide) h.likes (K := [(0, seg 0 [])]) (srt_one _) rfl (by simp [keysK]) (by simp) 0 0 lo so 0 lc sc ls hL hfit (by omega)
  refine Calls.mono k ?_
  rintro e w' (⟨_, r2, ko2, kn2, kc2, dO2, dn2, dc2, kept2, rfl, hb, hl, ha⟩ | ⟨hn, _⟩)
  · rw [begun_calm (srt_one _)] at hl
    have hnx : nextK [((0 : Int), seg 0 [])] = 1 := rfl
    rw [hnx] at hl ⊢
    obtain ⟨hb', hk, hd⟩ := hb.tight hl (srt_one _)
    have hs : ([(1, seg ls.length ls)] : Kf).length + sizeK [((1 : Int), seg ls.length ls)] + 1 ≤ 5000 := by
      rw [sizeK_one, seg_length]
      show 1 + segLen ls + 1 ≤ 5000
      omega
    exact ⟨r2, ko2, kn2, kc2, dO2, dn2, dc2, kept2, rfl, ⟨h.st.adds ha, h.rp, h.room, h.bulk, hb'.mono hs, hl, h.adds.trans ha⟩, by rw [hb.same, hk], hd, ha⟩
  · exact absurd ⟨by rw [hsz]; omega, by show (1 : Int) ≤ _; decide⟩ hn

/-- The reference's files. -/
theorem kd_seen {w W : World} {R : Rw} {d dr : Dk} {r : Rf} {ko dO : Option Addr} {kn kc dn dc : Nat} {kept : List Fl} {m : List UInt8} (h : Kd w W R d dr r (.slice ko kn kc) (.slice dO dn dc) kept 5000) (hk : kf kept = [(1, m)]) (hd : r.done = []) :
    Calls Tryz.prog 21 #[.agg #[.int .i64 r.room, .slice ko kn kc, .slice dO dn dc, .int .i64 (r.live : Int), .bool r.gone, .int .i64 r.armed]] W fun e w' => ∃ (so : Option Addr) (sc : Nat) (x : Value), e = .returned (.slice so 1 sc) ∧ FilesV w' R (.slice so 1 sc) [(1, x, m)] ∧ Kd w w' R d dr r (.slice ko kn kc) (.slice dO dn dc) kept 5000 ∧ Adds W w' := by
  obtain ⟨g1, g2, g3⟩ := h.refb.few (by decide)
  refine (refSeen_any h.refb.ref h.foot g1 g2 (by omega) r.room (r.live : Int) r.armed r.gone).mono ?_
  rintro e w' ⟨v, l', rfl, hf, hl, ha⟩
  rw [hd, hk] at hl
  have hl2 : kf l' = [(1, m)] := hl
  match l', hl2 with
  | [p], e1 =>
    have e2 : (p.1, p.2.2) = (1, m) := by simpa [kf] using e1
    obtain ⟨so, sc, rfl, _⟩ := hf.slice
    obtain ⟨p1, p2, p3⟩ := p
    simp only [Prod.mk.injEq] at e2
    obtain ⟨rfl, rfl⟩ := e2
    exact ⟨so, sc, p2, rfl, hf, h.more ha, ha⟩
  | [], e1 => simp [kf] at e1
  | _ :: _ :: _, e1 => simp [kf] at e1

/-- The reel takes the file. -/
theorem kd_append {w W : World} {R : Rw} {dr : Dk} {r : Rf} {kv dv : Value} {kept : List Fl} {M : Nat} {m : List UInt8} {x : Value} {q : Nat} {C : Array Value} (h : Kd w W R (calm [] 0) dr r kv dv kept M) (hb : R.bulk = 0) (hx : Byt W x m) (hm : m.length ≤ 3000) (hq : W.heap[q]? = some (.cells C 39 (0, 0))) :
    Calls Tryz.prog 22 #[ptr (w.heap.size + 1), .int .i64 1, x] W fun e w' => e = .returned (.int .i64 0) ∧ ∃ R', Kd w w' R' ((calm [] 0).app 1 m) dr r kv dv kept M ∧ w'.heap[q]? = some (.cells C 39 (0, 0)) := by
  have k := st_append h.st 1 (by decide) x m hx (by rw [h.st.total (K := []) (by simp [SrtK]) rfl, h.room]; simp [sizeK]; omega) (by omega)
  rw [h.rp] at k
  refine k.mono ?_
  rintro e w' ⟨rfl, R', s', g⟩
  have := g.bulk
  exact ⟨rfl, R', ⟨s', g.p.trans h.rp, g.room.trans h.room, by omega, h.refb.moves h.st.live.mem g.moves, h.likes, adds_mv h.adds g.moves.mv fun i hi => (h.st.live.mem.lt hi).1⟩, (g.moves.block q (Array.getElem?_eq_some_iff.1 hq).1 (tape_out h.st.live.mem hq odd39)).1.trans hq⟩

theorem app_calm1 (m : List UInt8) : ((calm [] 0).app 1 m).sync = calm [(1, m)] 0 := by
  refine ((free_calm [] 0).app 1 m).sync ?_
  rw [app_now, calm_now]
  funext j
  rw [filesK_one]
  unfold Fs.set
  by_cases e : j = 1
  · rw [if_pos e, if_pos e]
    rfl
  · rw [if_neg e, if_neg e]
    rfl

theorem kd_sync {w W : World} {R : Rw} {dr : Dk} {r : Rf} {kv dv : Value} {kept : List Fl} {M : Nat} {m : List UInt8} {q : Nat} {C : Array Value} (h : Kd w W R ((calm [] 0).app 1 m) dr r kv dv kept M) (hq : W.heap[q]? = some (.cells C 39 (0, 0))) :
    Calls Tryz.prog 23 #[ptr (w.heap.size + 1)] W fun e w' => e = .returned (.tuple #[]) ∧ ∃ R', Kd w w' R' (calm [(1, m)] 0) dr r kv dv kept M ∧ w'.heap[q]? = some (.cells C 39 (0, 0)) := by
  have k := st_sync h.st
  rw [h.rp] at k
  refine k.mono ?_
  rintro e w' ⟨rfl, R', s', g⟩
  rw [app_calm1] at s'
  have h1 := g.bulk
  have h2 := h.bulk
  exact ⟨rfl, R', ⟨s', g.p.trans h.rp, g.room.trans h.room, by omega, h.refb.moves h.st.live.mem g.moves, h.likes, adds_mv h.adds g.moves.mv fun i hi => (h.st.live.mem.lt hi).1⟩, (g.moves.block q (Array.getElem?_eq_some_iff.1 hq).1 (tape_out h.st.live.mem hq odd39)).1.trans hq⟩

/-- A keep that strange records bar. -/
theorem openK_strange {w : World} {B : Nat} {R : Rw} {d : Dk} {L : Kf} (h : St w B R d) (hK : SrtK L) (hf : filesK L = d.now) (hb : R.bulk ≤ 34359738368) (hr : R.room ≤ 1000000) (hsz : sizeK L ≤ R.room) (hroom : roomy R.room L) (hsane : sane L = false) :
    Calls Tryz.prog 9 #[ptr R.p] w fun e w' => e = .returned (.tuple #[.pointer none, .int .i64 5]) ∧ Adds w w' := by
  have kS := strange_any h hK hf hb hr hsz hroom
  rw [hsane] at kS
  clear h hK hf hb hr hsz hroom hsane
  go_enter Tryz.func9, Tryz.ntmps9
  go_wp2_with (go_at_call 28; refine kS.mono ?_; rintro e w1 ⟨rfl, a1⟩)
  go_ret2
  exact ⟨rfl, a1⟩

section
variable {w W : World} {R : Rw} {r : Rf} {kv dv : Value} {kept : List Fl} {M : Nat} {ls : List (List UInt8)} {q : Nat} {C : Array Value}

theorem kd_keep (h : Kd w W R (calm [(1, seg ls.length ls)] 0) (calm [(1, seg ls.length ls)] 0) r kv dv kept M) (hq : W.heap[q]? = some (.cells C 39 (0, 0))) (hfit : fits ls) (hseg : segLen ls ≤ 3000) (hs : ls.all knownK = true) :
    Calls Tryz.prog 9 #[ptr (w.heap.size + 1)] W fun e w' => ∃ K R', e = .returned (.tuple #[ptr K.p, .int .i64 0]) ∧ Kr w' K ∧ (K.es, K.nt) = foldT ls ∧ (∃ d, St w' w.heap.size R' d) ∧ RefB w' R' r kv dv kept M ∧ w'.heap[q]? = some (.cells C 39 (0, 0)) ∧ Adds w w' := by
  have hll : ls.length ≤ 1000000 := by unfold segLen at hseg; omega
  have hrk := recsK_seg 1 hfit (Nat.le_refl ls.length) hll
  have hnk := newK_seg 1 (base := ls.length) hfit (Nat.le_refl _) hll
  have k := openK_any h.st (L := [(1, seg ls.length ls)]) (srt_one _) rfl (by have := h.bulk; omega) (by rw [h.room]; decide) (by rw [sizeK_one, seg_length, h.room]; omega) (by unfold roomy; rw [hnk]; trivial) (by unfold sane; rw [hrk]; exact hs)
  rw [h.rp] at k
  refine k.mono ?_
  rintro e w' ⟨K, T, s0, rfl, ok⟩
  obtain ⟨w2, o, a2, rfl⟩ := ok.tape
  have hst := ok.st
  rw [hrk] at hst
  have hb2 : RefB w2 T.R r kv dv kept M := h.refb.mv h.st.live.mem o.mv fun i hi => .inl hi
  have hq2 := (o.mv.block q (Array.getElem?_eq_some_iff.1 hq).1 (tape_out h.st.live.mem hq odd39)).1.trans hq
  exact ⟨K, T.R, rfl, ok.ke.kr, hst, ⟨_, o.tap.st.adds a2⟩, hb2.adds a2, a2.at hq2, (adds_mv h.adds o.mv fun i hi => (h.st.live.mem.lt hi).1).trans a2⟩

theorem kd_strange (h : Kd w W R (calm [(1, seg ls.length ls)] 0) (calm [(1, seg ls.length ls)] 0) r kv dv kept M) (hq : W.heap[q]? = some (.cells C 39 (0, 0))) (hfit : fits ls) (hseg : segLen ls ≤ 3000) (hs : ls.all knownK = false) :
    Calls Tryz.prog 9 #[ptr (w.heap.size + 1)] W fun e w' => ∃ R', e = .returned (.tuple #[.pointer none, .int .i64 5]) ∧ (∃ d, St w' w.heap.size R' d) ∧ RefB w' R' r kv dv kept M ∧ w'.heap[q]? = some (.cells C 39 (0, 0)) ∧ Adds w w' := by
  have hll : ls.length ≤ 1000000 := by unfold segLen at hseg; omega
  have hrk := recsK_seg 1 hfit (Nat.le_refl ls.length) hll
  have hnk := newK_seg 1 (base := ls.length) hfit (Nat.le_refl _) hll
  have k := openK_strange h.st (L := [(1, seg ls.length ls)]) (srt_one _) rfl (by have := h.bulk; omega) (by rw [h.room]; decide) (by rw [sizeK_one, seg_length, h.room]; omega) (by unfold roomy; rw [hnk]; trivial) (by unfold sane; rw [hrk]; exact hs)
  rw [h.rp] at k
  refine k.mono ?_
  rintro e w' ⟨rfl, a⟩
  exact ⟨R, rfl, ⟨_, h.st.adds a⟩, h.refb.adds a, a.at hq, h.adds.trans a⟩
end

/-- The reference's keep of the reference's reel. -/
theorem kd_refopen {W : World} {B : Nat} {R : Rw} {d : Dk} {r : Rf} {ko dO : Option Addr} {kn kc dn dc : Nat} {kept : List Fl} {ls : List (List UInt8)} (hst : St W B R d) (hb : RefB W R r (.slice ko kn kc) (.slice dO dn dc) kept 5000) (hl : LikesD 20000 (calm [(1, seg ls.length ls)] 0) r) (hfit : fits ls) (hseg : segLen ls ≤ 3000) :
    Calls Tryz.prog 10 #[.agg #[.int .i64 r.room, .slice ko kn kc, .slice dO dn dc, .int .i64 (r.live : Int), .bool r.gone, .int .i64 r.armed]] W (OpkTold W ls) := by
  have hll : ls.length ≤ 3000 := by unfold segLen at hseg; omega
  have hnk := newK_seg 1 (base := ls.length) hfit (Nat.le_refl _) (by omega)
  refine refOpenK_any (by omega) fun W' hW => ?_
  have k := refOpen_any (hb.adds hW) (fun i hi => Nat.lt_of_lt_of_le (hst.live.mem.lt hi).2 hW.below.size) (by decide) (room := 20000) (by decide) hl (K := [(1, seg ls.length ls)]) (srt_one _) rfl (by simp [keysK]) (by simp) (by intro p hp; simp at hp; subst hp; show (seg ls.length ls).length ≤ _; rw [seg_length]; omega) (fun s hs => by rw [hnk] at hs; cases hs; show segLen ls ≤ _; omega)
  refine Calls.mono k ?_
  rintro e w' (⟨_, r2, ko2, kn2, kc2, dO2, dn2, dc2, kept2, lv, rfl, _, _, hr, ha⟩ | ⟨hn, _⟩)
  · rw [opened_calm 1 hfit (Nat.le_refl _) (by omega)] at hr ⊢
    obtain ⟨lo, lc, rfl, _⟩ := hr.slice
    exact ⟨_, _, _, _, _, _, _, _, _, _, _, _, _, _, rfl, hr, ha⟩
  · exact absurd (by unfold roomy; rw [hnk]; trivial) hn

end Go.Proofs.YtelkkpomehgcjaaGreat
