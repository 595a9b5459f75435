/-
  The law TapeOpens: its loop.
-/
import Derived.Test.YtdcbepdghiafhaaVsup
import Derived.Deep.RegionWith
namespace Go.Proofs.Ytdcbepdghiafhaa
open Go.RowKit Go.Maps
attribute [local go_sem] cell?_more frozen?_more setCell_more size_more tape_more drew_more drewN_more more_drew more_drewN more_more one_out plus_out plus_end lt_one le_p2 le_p3 le_p4 le_p5 le_p6 le_p7 le_p8 le_p9 le_p10 le_p11 le_p12 le_p13 le_p14 le_p15 le_p16 le_p17 le_p18 le_p19 le_p20 le_p21 le_p22 le_p23 le_p24 le_q0 le_q1 lt_q1 le_q2 lt_q2 le_q3 lt_q3 le_q4 lt_q4 le_q5 lt_q5 le_q6 lt_q6 le_q7 lt_q7 le_q8 lt_q8 le_q9 lt_q9 le_q10 lt_q10 le_q11 lt_q11 le_q12 lt_q12 le_q13 lt_q13 le_q14 lt_q14 le_q15 lt_q15 le_q16 lt_q16 le_q17 lt_q17 le_q18 lt_q18 le_q19 lt_q19 le_q20 lt_q20 le_q21 lt_q21 le_q22 lt_q22 le_q23 lt_q23 le_q24 lt_q24

theorem box_goes {w W' : World} {B : Nat} {R R' : Rw} {C : Array Value} {q : Nat} (m : Mem w B R) (hq : w.heap[q]? = some (.cells C 36 (0, 0))) (mv : Moves w R W' R') : W'.heap[q]? = some (.cells C 36 (0, 0)) :=
  (mv.block q (Array.getElem?_eq_some_iff.1 hq).1 (tape_out m hq ⟨by decide, by decide, by decide⟩)).1.trans hq

theorem filesV_nil (w : World) (R : Rw) : FilesV w R (.slice none 0 0) [] := ⟨⟨none, 0, rfl, Nat.le_refl _, rfl, .inl rfl⟩, fun p hp => by cases hp⟩

def rf0 (room : Nat) : Rf := ⟨(room : Int), [], [], 0, false, -1⟩

theorem likes0 (room : Nat) : LikesD room (calm [] 0) (rf0 room) :=
  ⟨rfl, List.Pairwise.nil, rfl, rfl, rfl, fun _ => rfl, (fun e => by cases e), Nat.le_refl _, fun _ => rfl, (fun e => by cases e), rfl⟩

theorem pr0 {w W : World} {R : Rw} {room : Nat} (s : St W w.heap.size R (calm [] 0)) (hr : R.room = room) (hp : R.p = w.heap.size + 1) (hb : R.bulk = 0) (ha : Adds w W) : Pr w W R (calm [] 0) room (rf0 room) (.slice none 0 0) (.slice none 0 0) [] 1 :=
  ⟨s, ⟨⟨filesV_nil _ _, lie_nil _⟩, rfl, ⟨by simp [rf0], by simp [rf0]⟩, by simp [rf0], 1, by decide, by simp [rf0], fun p hp => by cases hp⟩, likes0 room, hr, hp, by omega, ha⟩

/-- Both sides, and the law's box. -/
def Bx (w : World) (q : Nat) (room M : Nat) (ko dO : Option Addr) (kn kc dn dc : Nat) (r : Rf) (W : World) : Prop :=
  ∃ R d kept, Pr w W R d room r (.slice ko kn kc) (.slice dO dn dc) kept M ∧ W.heap[q]? = some (.cells #[.int .i64 r.room, .slice ko kn kc, .slice dO dn dc, .int .i64 (r.live : Int), .bool r.gone, .int .i64 r.armed] 36 (0, 0))

/-- The box, the reel's append done. -/
def Hx (w : World) (q : Nat) (room M : Nat) (ko dO : Option Addr) (kn kc dn dc : Nat) (r : Rf) (k : Int) (m : List UInt8) (W : World) : Prop :=
  ∃ d kept, Half w d room r (.slice ko kn kc) (.slice dO dn dc) kept M k m W ∧ W.heap[q]? = some (.cells #[.int .i64 r.room, .slice ko kn kc, .slice dO dn dc, .int .i64 (r.live : Int), .bool r.gone, .int .i64 r.armed] 36 (0, 0))

section
variable {w W : World} {q room M : Nat} {ko dO : Option Addr} {kn kc dn dc : Nat} {r : Rf}

theorem Bx.more {W' : World} (h : Bx w q room M ko dO kn kc dn dc r W) (ha : Adds W W') : Bx w q room M ko dO kn kc dn dc r W' := by
  obtain ⟨R, d, kept, p, b⟩ := h
  exact ⟨R, d, kept, p.more ha, ha.at b⟩

theorem Bx.adds (h : Bx w q room M ko dO kn kc dn dc r W) : Adds w W := by
  obtain ⟨_, _, _, p, _⟩ := h
  exact p.adds
theorem Bx.box (h : Bx w q room M ko dO kn kc dn dc r W) : W.heap[q]? = some (.cells #[.int .i64 r.room, .slice ko kn kc, .slice dO dn dc, .int .i64 (r.live : Int), .bool r.gone, .int .i64 r.armed] 36 (0, 0)) := by
  obtain ⟨_, _, _, _, b⟩ := h
  exact b
theorem Hx.box {k : Int} {m : List UInt8} (h : Hx w q room M ko dO kn kc dn dc r k m W) : W.heap[q]? = some (.cells #[.int .i64 r.room, .slice ko kn kc, .slice dO dn dc, .int .i64 (r.live : Int), .bool r.gone, .int .i64 r.armed] 36 (0, 0)) := by
  obtain ⟨_, _, _, b⟩ := h
  exact b
theorem Hx.more {W' : World} {k : Int} {m : List UInt8} (h : Hx w q room M ko dO kn kc dn dc r k m W) (ha : Adds W W') : Hx w q room M ko dO kn kc dn dc r k m W' := by
  obtain ⟨d, kept, p, b⟩ := h
  exact ⟨d, kept, p.more ha, ha.at b⟩
theorem Hx.adds {k : Int} {m : List UInt8} (h : Hx w q room M ko dO kn kc dn dc r k m W) : Adds w W := by
  obtain ⟨_, _, ⟨_, _, _, _, _, _, _, a, _⟩, _⟩ := h
  exact a

theorem bx_append (h : Bx w q room M ko dO kn kc dn dc r W) (hM : M ≤ 100000) (k : Int) (hk : 0 ≤ k ∧ k ≤ 1048576) (x : Value) (m : List UInt8) (hx : Byt W x m) :
    Calls Try.prog 25 #[ptr (w.heap.size + 1), .int .i64 k, x] W fun e w' => ∃ n, e = .returned (.int .i64 n) ∧ Hx w q room M ko dO kn kc dn dc r k m w' := by
  obtain ⟨R, d, kept, p, b⟩ := h
  obtain ⟨K, hK, hf, hs, ht⟩ := p.seen
  have hb := p.bulk
  rw [← p.p]
  by_cases hr : m.length + sizeK K ≤ room
  · refine (st_append p.st k hk x m hx (by rw [p.room, ht]; omega) (by omega)).mono ?_
    rintro e w' ⟨rfl, R', s', g⟩
    have := g.bulk
    exact ⟨0, rfl, d, kept, ⟨R', K, hs, p.refb.moves p.st.live.mem g.moves, g.room.trans p.room, g.p.trans p.p, by omega, adds_goes p.adds p.st g, p.likes, .inl ⟨hr, s'⟩⟩, box_goes p.st.live.mem b g.moves⟩
  · refine (append_full p.st.live.mem k hk x m hx (by rw [p.room, ht]; omega) (by omega)).mono ?_
    rintro e w' ⟨rfl, a⟩
    exact ⟨2, rfl, d, kept, ⟨R, K, hs, p.refb.adds a, p.room, p.p, by omega, p.adds.trans a, p.likes, .inr ⟨hr, p.st.adds a⟩⟩, a.at b⟩

/-- The reference has followed; the box still has what was. -/
def Px (w : World) (q : Nat) (room M : Nat) (ko dO : Option Addr) (kn kc dn dc : Nat) (r : Rf) (ko' dO' : Option Addr) (kn' kc' dn' dc' : Nat) (r' : Rf) (W : World) : Prop :=
  ∃ R d kept, Pr w W R d room r' (.slice ko' kn' kc') (.slice dO' dn' dc') kept M ∧ W.heap[q]? = some (.cells #[.int .i64 r.room, .slice ko kn kc, .slice dO dn dc, .int .i64 (r.live : Int), .bool r.gone, .int .i64 r.armed] 36 (0, 0))

theorem hx_append {k : Int} {m : List UInt8} (h : Hx w q room M ko dO kn kc dn dc r k m W) (hM : M ≤ 30000) (hm : m.length ≤ 30000) (hrm : room ≤ 1000000) (hk : 0 ≤ k ∧ k ≤ 1048576) (x : Value) (hx : Byt W x m) :
    Calls Try.prog 26 #[.agg #[.int .i64 r.room, .slice ko kn kc, .slice dO dn dc, .int .i64 (r.live : Int), .bool r.gone, .int .i64 r.armed], .int .i64 k, x] W fun e w' => ∃ (r' : Rf) (ko' dO' : Option Addr) (kn' kc' dn' dc' : Nat) (n : Int), e = .returned (.tuple #[.agg #[.int .i64 r'.room, .slice ko' kn' kc', .slice dO' dn' dc', .int .i64 (r'.live : Int), .bool r'.gone, .int .i64 r'.armed], .int .i64 n]) ∧ Adds W w' ∧ Px w q room (M + m.length + 1) ko dO kn kc dn dc r ko' dO' kn' kc' dn' dc' r' w' := by
  obtain ⟨d, kept, hh, b⟩ := h
  refine (half_append hh hM hm hrm hk x hx).mono ?_
  rintro e w' ⟨r', ko', dO', kn', kc', dn', dc', n, rfl, a, R', d', p⟩
  exact ⟨r', ko', dO', kn', kc', dn', dc', n, rfl, a, R', d', kept, p, a.at b⟩

/-- The box is set anew. -/
theorem Px.set {ko' dO' : Option Addr} {kn' kc' dn' dc' : Nat} {r' : Rf} (h : Px w q room M ko dO kn kc dn dc r ko' dO' kn' kc' dn' dc' r' W) (hq : w.heap.size ≤ q) : Bx w q room M ko' dO' kn' kc' dn' dc' r' ((((((W.setCell ⟨q, 0, none⟩ (.int .i64 r'.room)).setCell ⟨q, 1, none⟩ (.slice ko' kn' kc')).setCell ⟨q, 2, none⟩ (.slice dO' dn' dc')).setCell ⟨q, 3, none⟩ (.int .i64 (r'.live : Int))).setCell ⟨q, 4, none⟩ (.bool r'.gone)).setCell ⟨q, 5, none⟩ (.int .i64 r'.armed)) := by
  obtain ⟨R, d, kept, p, b⟩ := h
  have ht : Turn2 q q W ((((((W.setCell ⟨q, 0, none⟩ (.int .i64 r'.room)).setCell ⟨q, 1, none⟩ (.slice ko' kn' kc')).setCell ⟨q, 2, none⟩ (.slice dO' dn' dc')).setCell ⟨q, 3, none⟩ (.int .i64 (r'.live : Int))).setCell ⟨q, 4, none⟩ (.bool r'.gone)).setCell ⟨q, 5, none⟩ (.int .i64 r'.armed)) := (((((((Turn2.refl _ _ _).set1 _ _).set1 _ _).set1 _ _).set1 _ _).set1 _ _).set1 _ _)
  have hout : ¬ R.foot q := tape_out p.st.live.mem b ⟨by decide, by decide, by decide⟩
  refine ⟨R, d, kept, ⟨p.st.keep ht.size fun i hi => ht.block i (p.st.live.mem.lt hi).2 (fun e => hout (e ▸ hi)) (fun e => hout (e ▸ hi)), p.refb.turn (.inl rfl) ⟨_, b⟩ ht, p.likes, p.room, p.p, p.bulk, turn2_adds p.adds hq hq ht⟩, ?_⟩
  have e1 := heap_setCell_at (.int .i64 r'.room) b (i := 0) (by simp)
  have e2 := heap_setCell_at (.slice ko' kn' kc') e1 (i := 1) (by simp)
  have e3 := heap_setCell_at (.slice dO' dn' dc') e2 (i := 2) (by simp)
  have e4 := heap_setCell_at (.int .i64 (r'.live : Int)) e3 (i := 3) (by simp)
  have e5 := heap_setCell_at (.bool r'.gone) e4 (i := 4) (by simp)
  have e6 := heap_setCell_at (.int .i64 r'.armed) e5 (i := 5) (by simp)
  rw [e6]
  rfl

/-- The reel is synced, the reference not yet. -/
def Sx (w : World) (q : Nat) (room M : Nat) (ko dO : Option Addr) (kn kc dn dc : Nat) (r : Rf) (W : World) : Prop :=
  ∃ R d kept, St W w.heap.size R d.sync ∧ RefB W R r (.slice ko kn kc) (.slice dO dn dc) kept M ∧ LikesD room d r ∧ R.room = room ∧ R.p = w.heap.size + 1 ∧ R.bulk ≤ 3 * M ∧ Adds w W ∧ W.heap[q]? = some (.cells #[.int .i64 r.room, .slice ko kn kc, .slice dO dn dc, .int .i64 (r.live : Int), .bool r.gone, .int .i64 r.armed] 36 (0, 0))

theorem bx_sync (h : Bx w q room M ko dO kn kc dn dc r W) :
    Calls Try.prog 27 #[ptr (w.heap.size + 1)] W fun e w' => e = .returned (.tuple #[]) ∧ Sx w q room M ko dO kn kc dn dc r w' := by
  obtain ⟨R, d, kept, p, b⟩ := h
  rw [← p.p]
  refine (st_sync p.st).mono ?_
  rintro e w' ⟨rfl, R', s', g⟩
  have := g.bulk
  have := p.bulk
  exact ⟨rfl, R', d, kept, s', p.refb.moves p.st.live.mem g.moves, p.likes, g.room.trans p.room, g.p.trans p.p, by omega, adds_goes p.adds p.st g, box_goes p.st.live.mem b g.moves⟩

theorem sx_sync (h : Sx w q room M ko dO kn kc dn dc r W) (hM : M ≤ 80000) :
    Calls Try.prog 28 #[.agg #[.int .i64 r.room, .slice ko kn kc, .slice dO dn dc, .int .i64 (r.live : Int), .bool r.gone, .int .i64 r.armed]] W fun e w' => ∃ (ko' dO' : Option Addr) (kn' kc' dn' dc' : Nat), e = .returned (.agg #[.int .i64 r.sync.room, .slice ko' kn' kc', .slice dO' dn' dc', .int .i64 (r.sync.live : Int), .bool r.sync.gone, .int .i64 r.sync.armed]) ∧ Adds W w' ∧ Px w q room M ko dO kn kc dn dc r ko' dO' kn' kc' dn' dc' r.sync w' := by
  obtain ⟨R, d, kept, s, rb, lk, hr, hp, hb, ha, b⟩ := h
  refine (refSync_B rb (fun i hi => (s.live.mem.lt hi).2) hM).mono ?_
  rintro e w' ⟨ko', kn', kc', dO', dn', dc', kept', rfl, rb', a⟩
  exact ⟨ko', dO', kn', kc', dn', dc', rfl, a, R, d.sync, kept', ⟨s.adds a, rb', likesD_sync lk, hr, hp, hb, ha.trans a⟩, a.at b⟩

theorem Sx.box (h : Sx w q room M ko dO kn kc dn dc r W) : W.heap[q]? = some (.cells #[.int .i64 r.room, .slice ko kn kc, .slice dO dn dc, .int .i64 (r.live : Int), .bool r.gone, .int .i64 r.armed] 36 (0, 0)) := by
  obtain ⟨_, _, _, _, _, _, _, _, _, _, b⟩ := h
  exact b
theorem Sx.adds (h : Sx w q room M ko dO kn kc dn dc r W) : Adds w W := by
  obtain ⟨_, _, _, _, _, _, _, _, _, a, _⟩ := h
  exact a
theorem Px.box {ko' dO' : Option Addr} {kn' kc' dn' dc' : Nat} {r' : Rf} (h : Px w q room M ko dO kn kc dn dc r ko' dO' kn' kc' dn' dc' r' W) : W.heap[q]? = some (.cells #[.int .i64 r.room, .slice ko kn kc, .slice dO dn dc, .int .i64 (r.live : Int), .bool r.gone, .int .i64 r.armed] 36 (0, 0)) := by
  obtain ⟨_, _, _, _, b⟩ := h
  exact b

/-- What is seen is not much. -/
theorem Bx.few (h : Bx w q room M ko dO kn kc dn dc r W) : ∃ R d kept K, Pr w W R d room r (.slice ko kn kc) (.slice dO dn dc) kept M ∧ W.heap[q]? = some (.cells #[.int .i64 r.room, .slice ko kn kc, .slice dO dn dc, .int .i64 (r.live : Int), .bool r.gone, .int .i64 r.armed] 36 (0, 0)) ∧ SrtK K ∧ filesK K = d.now ∧ K.length ≤ M ∧ (∀ p ∈ K, p.2.length ≤ M + 1) := by
  obtain ⟨R, d, kept, p, b⟩ := h
  obtain ⟨K, hK, hf, hs, ht⟩ := p.seen
  obtain ⟨X, x1, x2, x3⟩ := p.refb.bytes
  have hm := p.refb.many
  refine ⟨R, d, kept, K, p, b, hK, hf, ?_, ?_⟩
  · have h1 := foldl_length r.done (kf kept)
    rw [hs, kf_length] at h1
    omega
  · intro y hy
    have h1 := foldl_bytes r.done (kf kept) X x1 (fun z hz => by
      obtain ⟨u, hu, rfl⟩ := List.mem_map.1 hz
      exact x3 u hu) y (by rw [hs]; exact hy)
    omega
end

end Go.Proofs.Ytdcbepdghiafhaa
