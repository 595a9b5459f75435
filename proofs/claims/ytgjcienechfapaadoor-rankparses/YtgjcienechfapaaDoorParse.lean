/-
  The function Parse of package rank, by a contract: the list of a key, or that it is none.
-/
import Derived.Test.YtgjcienechfapaaDoorValue
namespace Go.Proofs.YtgjcienechfapaaDoor
open Go.RowKit

theorem Tryd.info31 : (Tryd.prog.info? 31).map (fun i => (i.zero, i.size, i.bytes)) = some (some (.agg #[.int .i64 0, .int .i64 0, .string ⟨#[]⟩, .int .i64 0, .int .i64 0]), 5, 48) := by kernel_rfl

def V.cellList (v : V) : List Value := [.int .i64 v.kind, .int .i64 v.num, .string v.text, .int .i64 v.re, .int .i64 v.im]
def rowOf (l : List V) : List Value := l.flatMap V.cellList
theorem rowOf_length (l : List V) : (rowOf l).length = l.length * 5 := by
  induction l with
  | nil => rfl
  | cons v l ih => simp only [rowOf, List.flatMap_cons, List.length_append, List.length_cons] at *; rw [ih]; simp [V.cellList]; omega

theorem decT_shorter {acc s t rest : List UInt8} (h : decT acc s = some (t, rest)) : rest.length ≤ s.length := by
  induction hn : s.length using Nat.strongRecOn generalizing acc s with
  | _ n ih =>
    rw [decT] at h
    split at h
    · cases h
    · split at h
      · cases h
      · split at h
        · have := ih (s.drop 8).length (by simp; omega) h rfl
          simp at this
          omega
        · split at h
          · cases h
          · split at h
            · simp at h
              rw [← h.2]
              simp
              omega
            · cases h

theorem decV_shorter {s : List UInt8} {v : V} {rest : List UInt8} (h : decV s = some (v, rest)) : rest.length < s.length := by
  cases s with
  | nil => cases h
  | cons c r =>
    simp only [decV] at h
    cases hr : raw c r with
    | none => rw [hr] at h; cases h
    | some p =>
      obtain ⟨v', rest'⟩ := p
      rw [hr] at h
      simp only at h
      split at h
      · simp at h
        obtain ⟨rfl, rfl⟩ := h
        have : rest'.length ≤ r.length := by
          unfold raw at hr
          split at hr
          · split at hr
            · simp at hr; rw [← hr.2]; simp
            · cases hr
          · split at hr
            · cases hd : decT [] r with
              | none => rw [hd] at hr; cases hr
              | some p =>
                obtain ⟨t, rest2⟩ := p
                rw [hd] at hr
                simp at hr
                rw [← hr.2]
                exact decT_shorter hd
            · split at hr
              · split at hr
                · simp at hr; rw [← hr.2]; simp
                · cases hr
              · cases hr
        simp
        omega
      · cases h

/-- The list of a key, behind the values that have been read. -/
def decAll (acc : List V) (s : List UInt8) : Option (List V) :=
  if s = [] then some acc
  else match _h : decV s with
    | none => none
    | some (v, rest) => if acc.length = 16 then none else decAll (acc ++ [v]) rest
termination_by s.length
decreasing_by exact decV_shorter (by assumption)

theorem decAll_nil (acc : List V) : decAll acc [] = some acc := by rw [decAll]; simp
theorem decAll_none {acc : List V} {s : List UInt8} (hs : s ≠ []) (h : decV s = none) : decAll acc s = none := by
  rw [decAll, if_neg hs]
  split
  · rfl
  · rename_i h'; rw [h] at h'; cases h'
theorem decAll_full {acc : List V} {s : List UInt8} (hs : s ≠ []) (h : acc.length = 16) : decAll acc s = none := by
  rw [decAll, if_neg hs]
  split
  · rfl
  · simp [h]
theorem decAll_some {acc : List V} {s rest : List UInt8} {v : V} (hs : s ≠ []) (h : decV s = some (v, rest)) (hl : acc.length ≠ 16) : decAll acc s = decAll (acc ++ [v]) rest := by
  rw [decAll, if_neg hs]
  split
  · rename_i h'; rw [h] at h'; cases h'
  · rename_i h'
    rw [h] at h'
    simp at h'
    rw [← h'.1, ← h'.2, if_neg hl]

/-- What Parse tells of a key. -/
def ParseSays (o : Option (List V)) (B : Nat) (e : Ending) (w' : World) : Prop :=
  match o with
  | some l => ∃ v, e = .returned (.tuple #[v, .int .i64 0]) ∧ w'.ownsRow B 31 5 v l.length (rowOf l)
  | none => e = .returned (.tuple #[.slice none 0 0, .int .i64 5])

structure PS (w : World) (key : ByteArray) (wr : World) (v : Value) (acc : List V) (s' : ByteArray) : Prop where
  rd : Rd wr w.heap.size s'
  own : wr.ownsRow w.heap.size 31 5 v acc.length (rowOf acc)
  bel : Below w.heap.size w wr
  len : acc.length ≤ 16
  dec : decAll acc s'.toList = decAll [] key.toList

theorem owns_len {w : World} {base : Nat} {e : TypeId} {size : Nat} {v : Value} {n : Nat} {xs : List Value} (h : w.ownsRow base e size v n xs) : ∃ ao c, v = .slice ao n c := by
  rcases h.2 with ⟨rfl, rfl⟩ | ⟨g, cap, cur, rfl, _⟩
  · exact ⟨_, _, rfl⟩
  · exact ⟨_, _, rfl⟩

theorem owns_ne {w : World} {B : Nat} {e T : TypeId} {size : Nat} {v : Value} {n : Nat} {xs : List Value} {b : Nat} {cs : Array Value} {fr : Nat × Nat} (hown : w.ownsRow B e size v n xs) (hb : w.heap[b]? = some (.cells cs T fr)) (hTe : T ≠ e) : v.ownBlock ≠ some b := by
  rcases hown.2 with ⟨rfl, _⟩ | ⟨g, cap, cur, rfl, _, hg, _⟩
  · simp [Value.ownBlock]
  · intro h
    simp only [Value.ownBlock, Option.some.injEq] at h
    subst h
    rw [hg] at hb
    simp only [Option.some.injEq, Obj.cells.injEq] at hb
    exact hTe hb.2.1.symm

theorem news_at (w1 : World) (o : Obj) (v : V) : ∀ j u, v.cellList[j]? = some u → ((w1.alloc o).alloc (.cells #[.int .i64 v.kind, .int .i64 v.num, .string v.text, .int .i64 v.re, .int .i64 v.im] 31)).cell? ((⟨w1.heap.size + 1, 0, none⟩ : Addr).add j) = some u := by
  intro j u hj
  match j, hj with
  | 0, hj => simp [V.cellList] at hj; subst hj; simp [Addr.add]
  | 1, hj => simp [V.cellList] at hj; subst hj; simp [Addr.add]
  | 2, hj => simp [V.cellList] at hj; subst hj; simp [Addr.add]
  | 3, hj => simp [V.cellList] at hj; subst hj; simp [Addr.add]
  | 4, hj => simp [V.cellList] at hj; subst hj; simp [Addr.add]
  | (j + 5), hj => simp [V.cellList] at hj

theorem cellList_one (v : V) : ∀ u ∈ v.cellList, u.oneCell' = true := by
  intro u hu
  simp only [V.cellList, List.mem_cons, List.mem_nil_iff, or_false] at hu
  rcases hu with rfl | rfl | rfl | rfl | rfl <;> rfl

theorem Rd.mv {w w' : World} {rb : Nat} {s : ByteArray} {row : Option Nat} (h : Rd w rb s) (hm : w.grownBy w' row) (hr : some rb ≠ row) : Rd w' rb s := by
  unfold Rd
  rw [hm.block rb h.lt hr]
  exact h

theorem rowOf_snoc (l : List V) (v : V) : rowOf (l ++ [v]) = rowOf l ++ v.cellList := by simp [rowOf]

set_option maxHeartbeats 1000000 in
theorem parse_any (key : ByteArray) (w : World) :
    Calls Tryd.prog 10 #[.string key] w fun e w' => ParseSays (decAll [] key.toList) w.heap.size e w' ∧ Below w.heap.size w w' := by
  obtain ⟨i0, hi, hz0, hz1, hz2⟩ := info_parts Tryd.info31
  obtain ⟨D, hD⟩ : ∃ D, decAll [] key.toList = D := ⟨_, rfl⟩
  have hrd0 : Rd (w.alloc (.cells #[.string key] 47)) w.heap.size key := block_at w _
  go_enter Tryd.func10, Tryd.ntmps10
  go_wp2
  go_loopw [4] (fun v wr => ∃ (acc : List V) (s' : ByteArray), PS w key wr v acc s') (fun _ wr => restSize wr w.heap.size)
  case atStart => exact ⟨[], key, hrd0, World.ownsRow_nil _ _ _ _, since_new _ _, by simp, rfl⟩
  case round =>
    obtain ⟨acc, s', T⟩ := hrel
    have hdec := T.dec
    rw [hD] at hdec
    have HD : Hid (decAll acc s'.toList = D) := hdec
    clear hdec
    have hcell := T.rd.cell
    have hsize := T.bel.size
    have hrblt := T.rd.lt
    by_cases hs0 : s'.toList = []
    · have hse : s'.toList.isEmpty = true := by simpa using hs0
      clear hs0
      go_wp2
      go_ret2
      refine ⟨?_, T.bel⟩
      rw [hD, ← HD.out, show s'.toList = [] from by simpa using hse, decAll_nil]
      exact ⟨_, rfl, T.own⟩
    · have hse : s'.toList.isEmpty = false := by simpa using hs0
      have hsz : 0 < s'.size := by
        rw [← toList_length]
        cases hq : s'.toList with
        | nil => exact absurd hq hs0
        | cons c r => simp
      have hv := rvalue_any _ s' _ T.rd hsz
      have HS0 : Hid (s'.toList ≠ []) := hs0
      clear hs0
      cases hdv : decV s'.toList with
      | none =>
        rw [hdv] at hv
        simp only [Says] at hv
        go_wp2_with (go_at_call 19; refine hv.mono ?_; rintro e w1 ⟨⟨⟨vk, vn, vt, vr, vi⟩, rfl⟩, hm1⟩; simp only [V.val])
        have hb1 := T.bel.grown hm1 hsize (fun k hk => by simp at hk; omega)
        go_ret2
        refine ⟨?_, since_on hb1 (since_new _ _)⟩
        rw [hD, ← HD.out, decAll_none HS0.out hdv]
        rfl
      | some p =>
        obtain ⟨⟨vk, vn, vt, vr, vi⟩, rest⟩ := p
        rw [hdv] at hv
        simp only [Says, V.val] at hv
        have HDV : Hid (decV s'.toList = some (⟨vk, vn, vt, vr, vi⟩, rest)) := hdv
        clear hdv
        have hne := owns_ne T.own T.rd (by decide)
        have hown := T.own
        obtain ⟨ao, c2, hu4⟩ := owns_len T.own
        rw [hu4] at hown hne
        subst hu4
        by_cases h16 : acc.length = 16
        · have hi16 : (acc.length : Int) = 16 := by omega
          go_wp2_with (go_at_call 19; refine hv.mono ?_; rintro e w1 ⟨⟨rfl, q2, hrd2, hq2⟩, hm1⟩)
          have hb1 := T.bel.grown hm1 hsize (fun k hk => by simp at hk; omega)
          go_ret2
          refine ⟨?_, since_on hb1 (since_new _ _)⟩
          rw [hD, ← HD.out, decAll_full HS0.out h16]
          rfl
        · have hi16 : (acc.length : Int) ≠ 16 := by omega
          have hlen := T.len
          go_wp2_with (first
            | (go_at_call 19; refine hv.mono ?_; rintro e w1 ⟨⟨rfl, q2, hrd2, hq2⟩, hm1⟩; have hown1 := hown.kept hm1 (.inr hne); have hb1 := T.bel.grown hm1 hsize (fun k hk => by simp at hk; omega))
            | (at_builtin; refine wpList_append_own _ rfl (.tmp 24) (.tmp 26) 22 rfl w.heap.size 31 i0 _ 5 48 Tryd.underlying22 hi hz0 hz1 hz2 rfl (by decide) _ _ _ rfl ((hown1.alloc _).alloc _) ⟨w1.heap.size + 1, 0, none⟩ 1 1 (V.cellList ⟨vk, vn, vt, vr, vi⟩) rfl rfl (news_at w1 _ ⟨vk, vn, vt, vr, vi⟩) (cellList_one _) (by unfold maxLen; omega) (by omega) (by have := hb1.size; simp; omega) ?_; intro v3 w3 hown3 hgrow3 _))
          have hnext : PS w key w3 v3 (acc ++ [⟨vk, vn, vt, vr, vi⟩]) q2 := by
            have hlt1 : w.heap.size < w1.heap.size := hrd2.lt
            refine ⟨((hrd2.alloc _).alloc _).mv hgrow3 (fun e => hne e.symm), ?_, ?_, by simp; omega, ?_⟩
            · rw [rowOf_snoc]
              simpa using hown3
            · refine Below.grown (since_on (since_on hb1 (since_new _ _)) (since_new _ _)) hgrow3 (by simp; omega) ?_
              intro k hk
              exact (hown1.lt k hk).1
            · rw [hq2, ← decAll_some HS0.out HDV.out h16]
              exact T.dec
          go_roundw
          case rel => exact ⟨_, _, hnext⟩
          case measure =>
            rw [hnext.rd.size, T.rd.size, ← toList_length, ← toList_length, hq2]
            exact decV_shorter HDV.out

end Go.Proofs.YtgjcienechfapaaDoor
