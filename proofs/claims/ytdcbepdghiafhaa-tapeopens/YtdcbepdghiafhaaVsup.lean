/-
  What the law TapeOpens wants besides: how long a segment's records are; the reference's memory while the reel and the tape turn their own blocks; an append on both sides.
-/
import Derived.Test.YtdcbepdghiafhaaVlike
import Derived.Test.YtdcbepdghiafhaaVfull
import Derived.Test.YtdcbepdghiafhaaTawake
namespace Go.Proofs.Ytdcbepdghiafhaa
open Go.RowKit Go.Maps

theorem first_len {b : List UInt8} (h : (first b).2.2 = 0) : (first b).2.1 = (first b).1.length + 9 := by
  unfold first at h ⊢
  by_cases h1 : (lengthOf b).2 ≠ 0
  · rw [if_pos h1] at h
    exact absurd h h1
  · rw [if_neg h1] at h ⊢
    by_cases h2 : b.length < (lengthOf b).1 + 9
    · rw [if_pos h2] at h
      cases h
    · rw [if_neg h2] at h ⊢
      by_cases h3 : sum ((b.drop 6).take (lengthOf b).1) ≠ num3 (b.drop (6 + (lengthOf b).1))
      · rw [if_pos h3] at h
        cases h
      · rw [if_neg h3]
        simp
        omega

theorem rows_weight (b : List UInt8) : tot (rows b).1 + 9 * (rows b).1.length ≤ b.length := by
  induction hn : b.length using Nat.strongRecOn generalizing b with
  | ind n ih =>
    subst hn
    by_cases h : (first b).2.2 = 0
    · have h9 := first_ok h
      have hl := first_len h
      rw [rows_some h]
      have i1 := ih (b.drop (first b).2.1).length (by simp; omega) (b.drop (first b).2.1) rfl
      have hd : (b.drop (first b).2.1).length = b.length - (first b).2.1 := by simp
      have ht : tot ((first b).1 :: (rows (b.drop (first b).2.1)).1) = (first b).1.length + tot (rows (b.drop (first b).2.1)).1 := rfl
      show tot ((first b).1 :: (rows (b.drop (first b).2.1)).1) + 9 * ((rows (b.drop (first b).2.1)).1.length + 1) ≤ b.length
      rw [ht]
      omega
    · rw [rows_stop h]
      simp [tot]

theorem segOf_weight {b : List UInt8} {s : Nat × List (List UInt8) × Bool} (h : segOf b = some s) : segLen s.2.1 ≤ b.length ∧ s.1 ≤ s.2.1.length := by
  have hw := rows_weight b
  unfold segOf at h
  split at h
  · rename_i hwb
    simp only [Option.some.injEq] at h
    subst h
    generalize (rows b).1 = L at *
    cases L with
    | nil => cases hwb
    | cons x t =>
      rw [wholeB_cons] at hwb
      simp only [Bool.and_eq_true, decide_eq_true_eq] at hwb
      have ht : tot (x :: t) = x.length + tot t := rfl
      rw [ht, List.length_cons] at hw
      constructor
      · show segLen t ≤ b.length
        unfold segLen
        omega
      · show num4 x ≤ t.length
        omega
  · cases h

theorem newK_file : ∀ {K : Kf} {s : Int × Nat × List (List UInt8) × Bool}, newK K = some s → ∃ p ∈ K, segOf p.2 = some s.2
  | p :: r, s, h => by
    have e : newK (p :: r) = match newK r with | some s => some s | none => (segOf p.2).map fun s => (p.1, s) := rfl
    rw [e] at h
    cases hr : newK r with
    | some s' =>
      rw [hr] at h
      simp only [Option.some.injEq] at h
      subst h
      obtain ⟨q, hq, hs⟩ := newK_file hr
      exact ⟨q, List.mem_cons_of_mem _ hq, hs⟩
    | none =>
      rw [hr] at h
      simp only at h
      cases hs : segOf p.2 with
      | none => rw [hs] at h; cases h
      | some q =>
        rw [hs] at h
        simp only [Option.map_some, Option.some.injEq] at h
        subst h
        exact ⟨p, List.mem_cons_self, hs⟩

theorem size_mem {K : Kf} {p : Int × List UInt8} (h : p ∈ K) : p.2.length ≤ sizeK K := le_sum_mem (List.mem_map.2 ⟨p, h, rfl⟩)

theorem newK_weight {K : Kf} {s : Int × Nat × List (List UInt8) × Bool} (h : newK K = some s) : segLen s.2.2.1 ≤ sizeK K ∧ s.2.1 ≤ s.2.2.1.length := by
  obtain ⟨p, hp, hs⟩ := newK_file h
  obtain ⟨h1, h2⟩ := segOf_weight hs
  exact ⟨Nat.le_trans h1 (size_mem hp), h2⟩

section
variable {w w' : World} {B : Nat} {R R' : Rw} {r : Rf} {kv dv : Value} {kept : List Fl} {M : Nat}

/-- Of what was there only F's blocks have turned; the reference's lie outside. -/
theorem RefB.mv (h : RefB w R r kv dv kept M) (m : Mem w B R) {F' : Nat → Prop} (mv : Mv w R.foot w' F') (hF : ∀ i, R'.foot i → F' i) : RefB w' R' r kv dv kept M := by
  have hodd : ∀ (T : TypeId) (_ : Odd T) (b : Nat) (C : Array Value), w.heap[b]? = some (Obj.cells C T (0, 0)) → w'.heap[b]? = w.heap[b]? := fun T hT b C hb =>
    (mv.block b (Array.getElem?_eq_some_iff.1 hb).1 (tape_out m hb hT)).1
  refine ⟨⟨⟨h.ref.kept.row.keep fun b C hb => hodd 84 ⟨by decide, by decide, by decide⟩ b C hb, fun p hp => (h.ref.kept.bytes p hp).keep fun b C hb hf => ?_⟩, h.ref.done.keep fun b C hb => hodd 93 ⟨by decide, by decide, by decide⟩ b C hb⟩, h.same, h.armed, h.many, h.bytes⟩
  obtain ⟨h1, h2⟩ := mv.block b (Array.getElem?_eq_some_iff.1 hb).1 hf
  exact ⟨h1, fun hx => h2 (hF b hx)⟩

theorem RefB.moves (h : RefB w R r kv dv kept M) (m : Mem w B R) (mv : Moves w R w' R') : RefB w' R' r kv dv kept M := h.mv m mv.mv fun _ hi => hi
end

/-- What holds of both sides in the law's loop. -/
structure Pr (w W : World) (R : Rw) (d : Dk) (room : Nat) (r : Rf) (kv dv : Value) (kept : List Fl) (M : Nat) : Prop where
  st : St W w.heap.size R d
  refb : RefB W R r kv dv kept M
  likes : LikesD room d r
  room : R.room = room
  p : R.p = w.heap.size + 1
  bulk : R.bulk ≤ 3 * M
  adds : Adds w W

section
variable {w W W' : World} {R : Rw} {d : Dk} {room : Nat} {r : Rf} {kv dv : Value} {kept : List Fl} {M : Nat}

theorem Pr.more (h : Pr w W R d room r kv dv kept M) (ha : Adds W W') : Pr w W' R d room r kv dv kept M :=
  ⟨h.st.adds ha, h.refb.adds ha, h.likes, h.room, h.p, h.bulk, h.adds.trans ha⟩

theorem Pr.seen (h : Pr w W R d room r kv dv kept M) : ∃ K, SrtK K ∧ filesK K = d.now ∧ r.done.foldl unitK (kf kept) = K ∧ total R.fs = sizeK K := by
  obtain ⟨h1, h2⟩ := likesD_seen h.likes
  refine ⟨r.seen, h1, h2, ?_, h.st.total h1 h2⟩
  rw [h.refb.same]
  exact likesD_K h.likes h1 h2

theorem adds_goes {R' : Rw} {n : Nat} (ha : Adds w W) (s : St W w.heap.size R d) (g : Goes W R W' R' n) : Adds w W' :=
  adds_mv ha g.moves.mv fun _ hi => (s.live.mem.lt hi).1

/-- An append on the reel: what it leaves, the reference still to follow. -/
def Half (w : World) (d : Dk) (room : Nat) (r : Rf) (kv dv : Value) (kept : List Fl) (M : Nat) (k : Int) (m : List UInt8) (w' : World) : Prop :=
  ∃ R' K, r.done.foldl unitK (kf kept) = K ∧ RefB w' R' r kv dv kept M ∧ R'.room = room ∧ R'.p = w.heap.size + 1 ∧ R'.bulk ≤ 3 * M + 2 * m.length + 1 ∧ Adds w w' ∧ LikesD room d r ∧
    ((m.length + sizeK K ≤ room ∧ St w' w.heap.size R' (d.app k m)) ∨ (¬ m.length + sizeK K ≤ room ∧ St w' w.heap.size R' d))

theorem pr_append (h : Pr w W R d room r kv dv kept M) (hM : M ≤ 100000) (k : Int) (hk : 0 ≤ k ∧ k ≤ 1048576) (x : Value) (m : List UInt8) (hx : Byt W x m) :
    Calls Try.prog 25 #[ptr (w.heap.size + 1), .int .i64 k, x] W fun e w' => ∃ n, e = .returned (.int .i64 n) ∧ Half w d room r kv dv kept M k m w' := by
  obtain ⟨K, hK, hf, hs, ht⟩ := h.seen
  have hb := h.bulk
  rw [← h.p]
  by_cases hr : m.length + sizeK K ≤ room
  · refine (st_append h.st k hk x m hx (by rw [h.room, ht]; omega) (by omega)).mono ?_
    rintro e w' ⟨rfl, R', s', g⟩
    have := g.bulk
    exact ⟨0, rfl, R', K, hs, h.refb.moves h.st.live.mem g.moves, g.room.trans h.room, g.p.trans h.p, by omega, adds_goes h.adds h.st g, h.likes, .inl ⟨hr, s'⟩⟩
  · refine (append_full h.st.live.mem k hk x m hx (by rw [h.room, ht]; omega) (by omega)).mono ?_
    rintro e w' ⟨rfl, a⟩
    exact ⟨2, rfl, R, K, hs, h.refb.adds a, h.room, h.p, by omega, h.adds.trans a, h.likes, .inr ⟨hr, h.st.adds a⟩⟩
end

theorem Half.more {w w' w'' : World} {d : Dk} {room : Nat} {r : Rf} {kv dv : Value} {kept : List Fl} {M : Nat} {k : Int} {m : List UInt8} (h : Half w d room r kv dv kept M k m w') (ha : Adds w' w'') : Half w d room r kv dv kept M k m w'' := by
  obtain ⟨R', K, h1, h2, h3, h4, h5, h6, h7, h8⟩ := h
  exact ⟨R', K, h1, h2.adds ha, h3, h4, h5, h6.trans ha, h7, h8.imp (fun x => ⟨x.1, x.2.adds ha⟩) (fun x => ⟨x.1, x.2.adds ha⟩)⟩

/-- The reference follows. -/
theorem half_append {w W : World} {d : Dk} {room : Nat} {r : Rf} {ko dO : Option Addr} {kn kc dn dc : Nat} {kept : List Fl} {M : Nat} {k : Int} {m : List UInt8} (h : Half w d room r (.slice ko kn kc) (.slice dO dn dc) kept M k m W) (hM : M ≤ 30000) (hm : m.length ≤ 30000) (hrm : room ≤ 1000000) (hk : 0 ≤ k ∧ k ≤ 1048576) (x : Value) (hx : Byt W x m) :
    Calls Try.prog 26 #[.agg #[.int .i64 r.room, .slice ko kn kc, .slice dO dn dc, .int .i64 (r.live : Int), .bool r.gone, .int .i64 r.armed], .int .i64 k, x] W fun e w' => ∃ (r' : Rf) (ko' dO' : Option Addr) (kn' kc' dn' dc' : Nat) (n : Int), e = .returned (.tuple #[.agg #[.int .i64 r'.room, .slice ko' kn' kc', .slice dO' dn' dc', .int .i64 (r'.live : Int), .bool r'.gone, .int .i64 r'.armed], .int .i64 n]) ∧ Adds W w' ∧ ∃ R' d', Pr w w' R' d' room r' (.slice ko' kn' kc') (.slice dO' dn' dc') kept (M + m.length + 1) := by
  obtain ⟨R', K, h1, h2, h3, h4, h5, h6, h7, h8⟩ := h
  have hroom : r.room = (room : Int) := h7.room
  have hFt : ∀ i, R'.foot i → i < W.heap.size := by
    rcases h8 with ⟨_, s⟩ | ⟨_, s⟩ <;> exact fun i hi => (s.live.mem.lt hi).2
  obtain ⟨g1, g2, g3⟩ := h2.few (by omega)
  rcases h8 with ⟨hr, s⟩ | ⟨hr, s⟩
  · refine (refAppend_B h2 hFt (by omega) hx (by omega) (by rw [hroom]; omega) k hk (by rw [h1, hroom]; show (m.length : Int) ≤ (room : Int) - ((sizeK K : Nat) : Int); omega)).mono ?_
    rintro e w' ⟨dO', dn', dc', rfl, rb, a⟩
    exact ⟨r.putAll (unitsApp k m), ko, dO', kn, kc, dn', dc', 0, rfl, a, R', d.app k m, ⟨s.adds a, rb, likesD_app h7 k m, h3, h4, by omega, h6.trans a⟩⟩
  · obtain ⟨xo, xc, rfl, _, _⟩ := hx.open
    refine (refAppend_full h2.ref hFt g1 g2 (by omega) (by rw [hroom]; omega) k hk xo m.length xc (by rw [h1, hroom]; show (m.length : Int) > (room : Int) - ((sizeK K : Nat) : Int); omega)).mono ?_
    rintro e w' ⟨rfl, a⟩
    exact ⟨r, ko, dO, kn, kc, dn, dc, 2, rfl, a, R', d, ⟨s.adds a, (h2.adds a).mono (by omega), h7, h3, h4, by omega, h6.trans a⟩⟩

end Go.Proofs.Ytdcbepdghiafhaa
