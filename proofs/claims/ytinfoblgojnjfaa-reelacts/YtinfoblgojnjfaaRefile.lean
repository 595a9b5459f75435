/-
  A reel whose files have turned: what it takes to be one still.
-/
import Derived.Test.YtinfoblgojnjfaaNote2
namespace Go.Proofs.Ytinfoblgojnjfaa
open Go.RowKit Go.Maps

theorem Mem.refile {w w' : World} {B : Nat} {R R' : Rw} (h : Mem w B R) (t : Option Nat) (ht : ∀ i, t = some i → i ∈ blocks R.rows)
    (hg : w'.os = w.os ∧ w'.tape = w.tape ∧ w'.output = w.output ∧ w.heap.size ≤ w'.heap.size)
    (hk : ∀ i, i < w.heap.size → i ≠ R.p → i ≠ R.m → t ≠ some i → w'.heap[i]? = w.heap[i]?)
    (ep : R'.p = R.p) (em : R'.m = R.m) (ed : R'.dn = R.dn) (eds : R'.ds ++ R'.dead = R.ds ++ R.dead)
    (hp' : w'.heap[R'.p]? = some (.cells R'.cells 55 (0, 0))) (hm' : w'.ownsMap Try.prog 3 raw R'.m R'.fs.length (dOf R'.fs))
    (srt : Srt R'.fs) (keys : ∀ x ∈ R'.fs, 0 ≤ x.1 ∧ x.1 ≤ 1048576) (files : ∀ d ∈ R'.ds, 0 ≤ d.1.file ∧ d.1.file ≤ 1048576) (room : R'.room ≤ 1048576) (arm : R'.armed = true → 0 ≤ R'.left) (wfl : (Lit.int .i64 R'.left).wf = true)
    (hrows : ∀ x ∈ R'.rows, (x ∈ R.rows ∧ ∀ i, x.1.ownBlock = some i → t ≠ some i) ∨ w'.ownsRow B 5 1 x.1 x.2.length (cellsB x.2))
    (nd : (blocks R'.rows).Nodup) (hnew : ∀ i ∈ blocks R'.rows, i ∈ blocks R.rows ∨ w.heap.size ≤ i) : Mem w' B R' ∧ Moves w R w' R' := by
  have hne : ∀ i, (∃ C, w.heap[i]? = some (.cells C 68 (0, 0))) → i ≠ R.p ∧ i ≠ R.m ∧ t ≠ some i := by
    rintro i ⟨C, hC⟩
    refine ⟨fun e => ?_, fun e => ?_, fun e => ?_⟩
    · rw [e, h.hp] at hC
      simp at hC
    · obtain ⟨es, clock, hb, _⟩ := h.hm
      rw [e, hb] at hC
      cases hC
    · obtain ⟨x, hx, he⟩ := mem_blocks.1 (ht i e)
      obtain ⟨C', hC'⟩ := row_block (h.hr x hx) he
      rw [hC] at hC'
      simp at hC'
  have hnb : ∀ i, (∃ C, w.heap[i]? = some (.cells C 5 (0, 0))) → i ≠ R.p ∧ i ≠ R.m := by
    rintro i ⟨C, hC⟩
    refine ⟨fun e => ?_, fun e => ?_⟩
    · rw [e, h.hp] at hC
      simp at hC
    · obtain ⟨es, clock, hb, _⟩ := h.hm
      rw [e, hb] at hC
      cases hC
  refine ⟨⟨hp', hm', ?_, ?_, nd, ep ▸ h.bp, em ▸ h.bm, srt, keys, files, room, arm, wfl⟩, ⟨hg.1, hg.2.1, hg.2.2.1, hg.2.2.2, ?_⟩⟩
  · rw [eds, ed]
    refine row_keep h.hd (fun i hi => ?_)
    obtain ⟨h1, h2, h3⟩ := hne i (row_block h.hd hi)
    exact hk i (h.hd.lt i hi).2 h1 h2 h3
  · intro x hx
    rcases hrows x hx with ⟨hx', hxt⟩ | hx'
    · refine row_keep (h.hr x hx') (fun i hi => ?_)
      obtain ⟨h1, h2⟩ := hnb i (row_block (h.hr x hx') hi)
      exact hk i ((h.hr x hx').lt i hi).2 h1 h2 (hxt i hi)
    · exact hx'
  · intro i hi hn
    refine ⟨hk i hi (fun e => hn (.inl e)) (fun e => hn (.inr (.inl e))) (fun e => hn (.inr (.inr (.inr (ht i e))))), ?_⟩
    rintro (e | e | e | e)
    · exact hn (.inl (e.trans ep))
    · exact hn (.inr (.inl (e.trans em)))
    · exact hn (.inr (.inr (.inl (ed ▸ e))))
    · rcases hnew i e with h1 | h1
      · exact hn (.inr (.inr (.inr h1)))
      · omega

/-- All slices but that of file k. -/
def Rw.rest (R : Rw) (k : Int) : List (Value × List UInt8) := (del k R.fs).map (·.2) ++ R.ds.map fun d => (d.2, d.1.lost)

theorem rows_found {R : Rw} (h : Srt R.fs) {k : Int} {p : Fl} (hg : get k R.fs = some p) : R.rows.Perm (p.2 :: R.rest k) := by
  unfold Rw.rows Rw.rest
  have := ((perm_get h hg).map (·.2)).append_right (R.ds.map fun d => (d.2, d.1.lost))
  simpa using this

theorem rows_none {R : Rw} {k : Int} (hg : get k R.fs = none) : R.rows = R.rest k := by
  unfold Rw.rows Rw.rest
  rw [del_none (get_none hg)]

theorem rows_put (R : Rw) (k : Int) (v : Value) (b : List UInt8) : ({ R with fs := put k v b R.fs } : Rw).rows.Perm ((v, b) :: R.rest k) := by
  unfold Rw.rows Rw.rest put
  have := ((perm_ins (k, v, b) (del k R.fs)).map (·.2)).append_right (R.ds.map fun d => (d.2, d.1.lost))
  simpa using this

theorem blocks_perm {l l' : List (Value × List UInt8)} (h : l.Perm l') : (blocks l).Perm (blocks l') := h.filterMap _

theorem blocks_cons (x : Value × List UInt8) (l : List (Value × List UInt8)) : blocks (x :: l) = x.1.ownBlock.toList ++ blocks l := by
  unfold blocks
  rw [List.filterMap_cons]
  cases x.1.ownBlock <;> rfl

theorem size_perm {l l' : List (Value × List UInt8)} (h : l.Perm l') : size l = size l' := (h.map _).sum_nat
theorem size_cons (x : Value × List UInt8) (l : List (Value × List UInt8)) : size (x :: l) = x.2.length + size l := by simp [size]

/-- A file of R, or none: its slice and its bytes. -/
def Rw.at (R : Rw) (k : Int) (v : Value) (b : List UInt8) : Prop := get k R.fs = some (k, v, b) ∨ (get k R.fs = none ∧ v = .slice none 0 0 ∧ b = [])

theorem Rw.at_any (R : Rw) (k : Int) : ∃ v b, R.at k v b ∧ (dOf R.fs).atKey (.int .i64 k) (.held (.slice none 0 0)) = .held v := by
  cases hg : get k R.fs with
  | none => exact ⟨.slice none 0 0, [], .inr ⟨hg, rfl, rfl⟩, by rw [dOf_at, hg]⟩
  | some p =>
    obtain ⟨j, v, b⟩ := p
    obtain ⟨_, rfl⟩ := get_some hg
    exact ⟨v, b, .inl hg, by rw [dOf_at, hg]⟩

theorem Rw.at_row {w : World} {B : Nat} {R : Rw} (h : Mem w B R) {k : Int} {v : Value} {b : List UInt8} (ha : R.at k v b) : w.ownsRow B 5 1 v b.length (cellsB b) := by
  rcases ha with hg | ⟨_, rfl, rfl⟩
  · exact h.hr (v, b) (List.mem_append.2 (.inl (List.mem_map.2 ⟨_, (get_some hg).1, rfl⟩)))
  · exact World.ownsRow_nil _ _ _ _

theorem Rw.at_rest {w : World} {B : Nat} {R : Rw} (h : Mem w B R) {k : Int} {v : Value} {b : List UInt8} (ha : R.at k v b) :
    (∀ i, v.ownBlock = some i → i ∈ blocks R.rows ∧ i ∉ blocks (R.rest k)) ∧ (blocks (R.rest k)).Nodup ∧ (∀ x ∈ R.rest k, x ∈ R.rows) ∧ size R.rows = b.length + size (R.rest k) ∧ total R.fs = b.length + total (del k R.fs) := by
  rcases ha with hg | ⟨hg, rfl, rfl⟩
  · have hp := rows_found h.srt hg
    have hb := blocks_perm hp
    have hn := hb.nodup_iff.1 h.nd
    rw [blocks_cons] at hb hn
    obtain ⟨_, h2, h3⟩ := List.nodup_append.1 hn
    refine ⟨fun i hi => ⟨hb.mem_iff.2 (by simp [hi]), fun hc => h3 i (by simp [hi]) i hc rfl⟩, h2, fun x hx => hp.mem_iff.2 (List.mem_cons_of_mem _ hx), ?_, total_get h.srt hg⟩
    rw [size_perm hp, size_cons]
  · have he := rows_none hg
    have hnd := h.nd
    rw [← he]
    refine ⟨fun i hi => (by cases hi), hnd, fun x hx => hx, by simp, ?_⟩
    rw [total_none hg]
    simp

end Go.Proofs.Ytinfoblgojnjfaa
