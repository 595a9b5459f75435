/-
  The reference's function Open: its loop in plain words.
-/
import Derived.Test.YtelkkpomehgcjaaGreatVbeg2
namespace Go.Proofs.YtelkkpomehgcjaaGreat
open Go.RowKit Go.Maps

theorem newK_snoc (p : Int × List UInt8) : ∀ l : Kf, newK (l ++ [p]) = match segOf p.2 with | some s => some (p.1, s) | none => newK l
  | [] => by
    show (match newK [] with | some s => some s | none => (segOf p.2).map fun s => (p.1, s)) = _
    cases segOf p.2 <;> rfl
  | q :: r => by
    show (match newK (r ++ [p]) with | some s => some s | none => (segOf q.2).map fun s => (q.1, s)) = _
    rw [newK_snoc p r]
    cases segOf p.2 <;> rfl

theorem newK_key : ∀ {K : Kf} {s : Int × Nat × List (List UInt8) × Bool}, newK K = some s → s.1 ∈ keysK K
  | p :: r, s, h => by
    have e : newK (p :: r) = match newK r with | some s => some s | none => (segOf p.2).map fun s => (p.1, s) := rfl
    rw [e] at h
    cases hr : newK r with
    | some s' =>
      rw [hr] at h
      simp only [Option.some.injEq] at h
      subst h
      exact List.mem_cons_of_mem _ (newK_key hr)
    | none =>
      rw [hr] at h
      simp only at h
      cases hs : segOf p.2 with
      | none => rw [hs] at h; cases h
      | some q =>
        rw [hs] at h
        simp only [Option.map_some, Option.some.injEq] at h
        subst h
        exact List.mem_cons_self

/-- What the loop has found. -/
def NewAt (W : World) (o : Option (Int × Nat × List (List UInt8) × Bool)) (fi : Int) (lv : Value) (bs : Int) (td : Bool) : Prop :=
  match o with
  | none => fi = -1 ∧ lv = .slice none 0 0 ∧ bs = 0 ∧ td = false
  | some s => fi = s.1 ∧ RwsO 0 W lv s.2.2.1 ∧ bs = (s.2.1 : Int) ∧ td = s.2.2.2

theorem NewAt.adds {W W' : World} {o : Option (Int × Nat × List (List UInt8) × Bool)} {fi : Int} {lv : Value} {bs : Int} {td : Bool} (h : NewAt W o fi lv bs td) (ha : Adds W W') : NewAt W' o fi lv bs td := by
  cases o with
  | none => exact h
  | some s => exact ⟨h.1, h.2.1.adds ha, h.2.2⟩

theorem NewAt.slice {W : World} {o : Option (Int × Nat × List (List UInt8) × Bool)} {fi : Int} {lv : Value} {bs : Int} {td : Bool} (h : NewAt W o fi lv bs td) : ∃ lo ln lc, lv = .slice lo ln lc := by
  cases o with
  | none => exact ⟨_, _, _, h.2.1⟩
  | some s =>
    obtain ⟨lo, lc, e, _⟩ := h.2.1.slice
    exact ⟨_, _, _, e⟩

/-- Where the loop of Open stands. -/
structure OpnM (w : World) (R : Rw) (r : Rf) (kv dv : Value) (kept : List Fl) (M : Nat) (K : Kf) (fv : Value) (l : List Fl) (j : Nat) (W : World) (fi : Int) (lv : Value) (bs : Int) (td : Bool) : Prop where
  one : W.heap[w.heap.size]? = some (.cells #[.int .i64 r.room, kv, dv, .int .i64 (r.live : Int), .bool r.gone, .int .i64 r.armed] 36 (0, 0))
  two : W.heap[w.heap.size + 1]? = some (.cells #[.int .i64 0, .slice none 0 0, .slice none 0 0, .int .i64 0, .bool false, .int .i64 0, .int .i64 0, .slice none 0 0, .int .i64 0] 39 (0, 0))
  box : W.heap[w.heap.size + 2]? = some (.cells #[.int .i64 r.room, kv, dv, .int .i64 (r.live : Int), .bool r.gone, .int .i64 r.armed, .int .i64 fi, lv, .int .i64 bs] 39 (0, 0))
  refb : RefB W R r kv dv kept M
  files : FilesV W R fv l
  new : NewAt W (newK (K.take j)) fi lv bs td
  adds : Adds w W

/-- Nine cells, all set. -/
theorem box_all9 {w : World} {P : Nat} {c0 c1 c2 c3 c4 c5 c6 c7 c8 : Value} (h : w.heap[P]? = some (.cells #[c0, c1, c2, c3, c4, c5, c6, c7, c8] 39 (0, 0))) (a0 a1 a2 a3 a4 a5 a6 a7 a8 : Value) :
    (((((((((w.setCell ⟨P, 0, none⟩ a0).setCell ⟨P, 1, none⟩ a1).setCell ⟨P, 2, none⟩ a2).setCell ⟨P, 3, none⟩ a3).setCell ⟨P, 4, none⟩ a4).setCell ⟨P, 5, none⟩ a5).setCell ⟨P, 6, none⟩ a6).setCell ⟨P, 7, none⟩ a7).setCell ⟨P, 8, none⟩ a8).heap[P]? = some (.cells #[a0, a1, a2, a3, a4, a5, a6, a7, a8] 39 (0, 0)) := by
  have e1 := box_set9 h a0 a1 a2 a3 a4 a5
  have e2 := heap_setCell_at a6 e1 (i := 6) (by simp)
  have e3 := heap_setCell_at a7 e2 (i := 7) (by simp)
  have e4 := heap_setCell_at a8 e3 (i := 8) (by simp)
  rw [e4]
  rfl

theorem RwsO.turn {w w' : World} {v : Value} {ls : List (List UInt8)} (h : RwsO 0 w v ls) {p : Nat} (hp : ∃ C, w.heap[p]? = some (Obj.cells C 39 (0, 0))) (ht : Turn2 p p w w') : RwsO 0 w' v ls := by
  obtain ⟨C', hp⟩ := hp
  refine h.keep ht.size fun b hb hc => ht.block b hb ?_ ?_ <;>
  · rintro rfl
    rcases hc with hc | ⟨C, hc⟩ | ⟨C, fr, hc⟩
    · omega
    · rw [hp] at hc
      simp only [Option.some.injEq, Obj.cells.injEq] at hc
      obtain ⟨_, e, _⟩ := hc
      cases e
    · rw [hp] at hc
      simp only [Option.some.injEq, Obj.cells.injEq] at hc
      obtain ⟨_, e, _⟩ := hc
      cases e

section
variable {w : World} {R : Rw} {r : Rf} {kv dv : Value} {kept : List Fl} {M : Nat} {K : Kf} {fv : Value} {l : List Fl} {j : Nat} {W W' : World} {fi : Int} {lv : Value} {bs : Int} {td : Bool}

theorem OpnM.more (h : OpnM w R r kv dv kept M K fv l j W fi lv bs td) (ha : Adds W W') : OpnM w R r kv dv kept M K fv l j W' fi lv bs td :=
  ⟨ha.at h.one, ha.at h.two, ha.at h.box, h.refb.adds ha, h.files.adds ha, h.new.adds ha, h.adds.trans ha⟩

theorem OpnM.skip (h : OpnM w R r kv dv kept M K fv l j W fi lv bs td) (hj : j < K.length) (hs : segOf K[j].2 = none) : OpnM w R r kv dv kept M K fv l (j + 1) W fi lv bs td := by
  refine ⟨h.one, h.two, h.box, h.refb, h.files, ?_, h.adds⟩
  rw [List.take_succ_eq_append_getElem hj, newK_snoc, hs]
  exact h.new

theorem OpnM.next (h : OpnM w R r kv dv kept M K fv l j W fi lv bs td) (hj : j < K.length) {s : Nat × List (List UInt8) × Bool} (hs : segOf K[j].2 = some s) {lv' : Value} (hl : RwsO 0 W lv' s.2.1) :
    OpnM w R r kv dv kept M K fv l (j + 1) (((((((((W.setCell ⟨w.heap.size + 2, 0, none⟩ (.int .i64 r.room)).setCell ⟨w.heap.size + 2, 1, none⟩ kv).setCell ⟨w.heap.size + 2, 2, none⟩ dv).setCell ⟨w.heap.size + 2, 3, none⟩ (.int .i64 (r.live : Int))).setCell ⟨w.heap.size + 2, 4, none⟩ (.bool r.gone)).setCell ⟨w.heap.size + 2, 5, none⟩ (.int .i64 r.armed)).setCell ⟨w.heap.size + 2, 6, none⟩ (.int .i64 K[j].1)).setCell ⟨w.heap.size + 2, 7, none⟩ lv').setCell ⟨w.heap.size + 2, 8, none⟩ (.int .i64 (s.1 : Int))) K[j].1 lv' (s.1 : Int) s.2.2 := by
  have ht : Turn2 (w.heap.size + 2) (w.heap.size + 2) W (((((((((W.setCell ⟨w.heap.size + 2, 0, none⟩ (.int .i64 r.room)).setCell ⟨w.heap.size + 2, 1, none⟩ kv).setCell ⟨w.heap.size + 2, 2, none⟩ dv).setCell ⟨w.heap.size + 2, 3, none⟩ (.int .i64 (r.live : Int))).setCell ⟨w.heap.size + 2, 4, none⟩ (.bool r.gone)).setCell ⟨w.heap.size + 2, 5, none⟩ (.int .i64 r.armed)).setCell ⟨w.heap.size + 2, 6, none⟩ (.int .i64 K[j].1)).setCell ⟨w.heap.size + 2, 7, none⟩ lv').setCell ⟨w.heap.size + 2, 8, none⟩ (.int .i64 (s.1 : Int))) := ((((((((((Turn2.refl _ _ _).set1 _ _).set1 _ _).set1 _ _).set1 _ _).set1 _ _).set1 _ _).set1 _ _).set1 _ _).set1 _ _)
  refine ⟨?_, ?_, box_all9 h.box _ _ _ _ _ _ _ _ _, h.refb.turn (.inr rfl) ⟨_, h.box⟩ ht, h.files.turn1 (.inr rfl) ⟨_, h.box⟩ ht, ?_, turn2_adds h.adds (by omega) (by omega) ht⟩
  · rw [ht.block _ (Array.getElem?_eq_some_iff.1 h.one).1 (by omega) (by omega)]
    exact h.one
  · rw [ht.block _ (Array.getElem?_eq_some_iff.1 h.two).1 (by omega) (by omega)]
    exact h.two
  · rw [List.take_succ_eq_append_getElem hj, newK_snoc, hs]
    exact ⟨rfl, hl.turn ⟨_, h.box⟩ ht, rfl, rfl⟩
end

/-- The file at j. -/
theorem file_key {l : List Fl} {K : Kf} (h : kf l = K) {j : Nat} (hj : j < l.length) : ∃ hk : j < K.length, K[j].1 = l[j].1 ∧ K[j].2 = l[j].2.2 := by
  subst h
  exact ⟨by simpa [kf] using hj, by simp [kf], by simp [kf]⟩

theorem Safe.bytO {w : World} {R : Rw} {v : Value} {l : List UInt8} (h : Safe w R v l) : BytO 0 w v l := by
  obtain ⟨ao, cap, rfl, hc, h⟩ := h
  refine ⟨ao, cap, rfl, hc, h.imp id ?_⟩
  rintro ⟨b, off, C, rfl, hb, _, hl⟩
  exact ⟨b, off, rfl, (Array.getElem?_eq_some_iff.1 hb).1, .inr ⟨C, _, hb⟩, hl⟩

/-- What Open tells. -/
def OpnTold (w : World) (R : Rw) (room : Nat) (d : Dk) (K : Kf) (M : Nat) (e : Ending) (w' : World) : Prop :=
  (roomy room K ∧ ∃ r ko kn kc dO dn dc kept lv, e = .returned (.tuple #[.agg #[.int .i64 r.room, .slice ko kn kc, .slice dO dn dc, .int .i64 (r.live : Int), .bool r.gone, .int .i64 r.armed, .int .i64 (d.opened K).file, lv, .int .i64 ((d.opened K).base : Int)], .int .i64 0]) ∧ RefB w' R r (.slice ko kn kc) (.slice dO dn dc) kept M ∧ LikesD room (d.opened K).d r ∧ RwsO 0 w' lv (d.opened K).ls ∧ Adds w w')
  ∨ (¬ roomy room K ∧ ∃ (i0 : Int) (so : Option Addr) (sn sc : Nat) (xo : Option Addr) (tn tc : Nat) (i1 : Int) (bb : Bool) (i2 i3 : Int) (uo : Option Addr) (un uc : Nat) (i4 : Int), e = .returned (.tuple #[.agg #[.int .i64 i0, .slice so sn sc, .slice xo tn tc, .int .i64 i1, .bool bb, .int .i64 i2, .int .i64 i3, .slice uo un uc, .int .i64 i4], .int .i64 2]) ∧ Adds w w')

theorem blk3_one {w : World} {A B C : Obj} : (((w.alloc A).alloc B).alloc C).heap[w.heap.size]? = ((w.alloc A).alloc B).heap[w.heap.size]? := by
  have h := ((Adds.refl ((w.alloc A).alloc B)).alloc C).below.block w.heap.size (by simp; omega)
  exact h
theorem blk3_two {w : World} {A B C : Obj} : (((w.alloc A).alloc B).alloc C).heap[w.heap.size + 1]? = ((w.alloc A).alloc B).heap[w.heap.size + 1]? := by
  have h := ((Adds.refl ((w.alloc A).alloc B)).alloc C).below.block (w.heap.size + 1) (by simp)
  exact h
theorem blk3_new {w : World} {A B : Obj} {C : Array Value} {T : TypeId} : (((w.alloc A).alloc B).alloc (.cells C T)).heap[w.heap.size + 2]? = some (.cells C T (0, 0)) := by
  have := new_block ((w.alloc A).alloc B) (.cells C T)
  simpa using this

end Go.Proofs.YtelkkpomehgcjaaGreat
