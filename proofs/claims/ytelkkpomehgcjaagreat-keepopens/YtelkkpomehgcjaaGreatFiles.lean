/-
  The method Files by contract: the numbers of the files, rising.
-/
import Derived.Test.YtelkkpomehgcjaaGreatLow
import Derived.Test.YtelkkpomehgcjaaGreatShelf
import Derived.Sort.OwnSortedInts
import Derived.Laws.MakeOwn
namespace Go.Proofs.YtelkkpomehgcjaaGreat
open Go.RowKit Go.Maps

def cellsZ (l : List Int) : List Value := l.map (Value.int .i64)
def keysF (l : List Fl) : List Int := l.map (·.1)

/-- Keys that have come so far. -/
def Coll (D : DataW Value) (left : Lit → Bool) (ks : List Int) : Prop := ks.Nodup ∧ ∀ x : Int, x ∈ ks ↔ (Maps.has D (.int .i64 x) = true ∧ left (.int .i64 x) = false)

theorem coll_start (D : DataW Value) : Coll D (Maps.has D) [] := ⟨List.nodup_nil, fun x => by cases Maps.has D (.int .i64 x) <;> simp⟩

theorem coll_step {D : DataW Value} {left : Lit → Bool} {ks : List Int} (h : Coll D left ks) {x : Int} (hl : left (.int .i64 x) = true) (hh : Maps.has D (.int .i64 x) = true) : Coll D (fun z => left z && !z.sameKey (.int .i64 x)) (ks ++ [x]) := by
  have hx : x ∉ ks := fun hm => by
    have := ((h.2 x).1 hm).2
    rw [hl] at this
    cases this
  refine ⟨List.nodup_append.2 ⟨h.1, by simp, fun a ha b hb e => ?_⟩, fun y => ?_⟩
  · simp only [List.mem_singleton] at hb
    subst hb
    subst e
    exact hx ha
  · rw [List.mem_append, List.mem_singleton, h.2 y]
    show _ ↔ _ ∧ (left (.int .i64 y) && !(Lit.int .i64 y).sameKey (.int .i64 x)) = false
    rw [same_int]
    by_cases e : y = x
    · subst e
      simp [hh]
    · simp [e]

theorem sorted_keys {l : List Fl} (h : Srt l) : (keysF l).Pairwise (fun a b => a < b) := List.pairwise_map.2 h

theorem coll_end {l : List Fl} (h : Srt l) {left : Lit → Bool} {ks : List Int} (hc : Coll (dOf l) left ks) (hl : ∀ kl, left kl = false) : ks.mergeSort (fun x y => decide (x ≤ y)) = keysF l := by
  have hs := sorted_keys h
  have hp : ks.Perm (keysF l) := by
    refine (List.perm_ext_iff_of_nodup hc.1 (hs.imp fun {a b} hab e => by omega)).2 fun x => ?_
    rw [hc.2 x, dOf_has]
    simp only [hl, and_true]
    constructor
    · intro hx
      obtain ⟨p, hp⟩ := Option.isSome_iff_exists.1 hx
      obtain ⟨h1, h2⟩ := get_some hp
      exact List.mem_map.2 ⟨p, h1, h2⟩
    · intro hx
      obtain ⟨p, h1, h2⟩ := List.mem_map.1 hx
      rw [← h2, h.get_eq h1]
      rfl
  have tr : ∀ a b c : Int, decide (a ≤ b) = true → decide (b ≤ c) = true → decide (a ≤ c) = true := fun a b c h1 h2 => by simp only [decide_eq_true_eq] at *; omega
  have tot : ∀ a b : Int, (decide (a ≤ b) || decide (b ≤ a)) = true := fun a b => by simp only [Bool.or_eq_true, decide_eq_true_eq]; omega
  refine List.Perm.eq_of_pairwise (le := fun a b => decide (a ≤ b) = true) (fun a b _ _ h1 h2 => ?_) (List.pairwise_mergeSort tr tot ks) (hs.imp fun {a b} hab => ?_) ((List.mergeSort_perm ks _).trans hp)
  · simp only [decide_eq_true_eq] at h1 h2
    omega
  · simp only [decide_eq_true_eq]
    omega

theorem int_append (w : World) (B : Nat) (ty : TypeId) (v : Value) (l : List Int) (h : w.ownsRow B 3 1 v l.length (cellsZ l)) (hB : B ≤ w.heap.size) (x : Int) (g c : Nat) (hg : w.cell? ⟨g, 0, none⟩ = some (.int .i64 x)) (hlen : l.length ≤ 1099511627776) :
    ∃ v' w', (Builtin.append_ #[126, 126] ty #[v, .slice (some ⟨g, 0, none⟩) 1 c]).run Tryz.prog w = .ok v' w' ∧ w'.ownsRow B 3 1 v' (l ++ [x]).length (cellsZ (l ++ [x])) ∧ w.grownBy w' v.ownBlock ∧ (v'.ownBlock = v.ownBlock ∨ v'.ownBlock = some w.heap.size) ∧ v' ≠ .slice none 0 0 := by
  obtain ⟨i0, hi, hz0, hz1, hz2⟩ := info_parts Tryz.info3
  obtain ⟨v', w', h1, h2, h3, h4, h5⟩ := run_append_own_at (P := Tryz.prog) w B 126 ty 3 i0 _ 1 8 Tryz.underlying126 hi hz0 hz1 hz2 rfl (by decide) v l.length (cellsZ l) h ⟨g, 0, none⟩ 1 c [.int .i64 x] (by simp)
    (fun j u hu => by
      have : j = 0 := by
        have := (List.getElem?_eq_some_iff.1 hu).1
        simpa using this
      subst this
      simp at hu
      subst hu
      simpa [Addr.add] using hg) (by intro u hu; simp at hu; subst hu; rfl) (by unfold maxLen; omega) (by omega) hB
  refine ⟨v', w', h1, ?_, h3, h5, fun e => by have := (h4.1 e).2; omega⟩
  simpa [cellsZ] using h2

theorem int_app {ops : Array Oper} {rest : List Oper} {o : Oper} {a : Act} {w : World} {Q : Exit → Act → World → Prop} (hgd : o.guard = none) (s x : Operand) (ho : o.op = .call { callee := .builtin .append, args := #[s, x], argTypes := #[126, 126] })
    {B : Nat} {v : Value} {l : List Int} (h : w.ownsRow B 3 1 v l.length (cellsZ l)) (hB : B ≤ w.heap.size) (hs : a.eval s = v) (y : Int) (g c : Nat) (hx : a.eval x = .slice (some ⟨g, 0, none⟩) 1 c) (hg : w.cell? ⟨g, 0, none⟩ = some (.int .i64 y)) (hlen : l.length ≤ 1099511627776)
    (hk : ∀ v' w', w'.ownsRow B 3 1 v' (l ++ [y]).length (cellsZ (l ++ [y])) → w.grownBy w' v.ownBlock → v' ≠ .slice none 0 0 → wpList Tryz.prog ops Q rest (a.put o.dst v') w') : wpList Tryz.prog ops Q (o :: rest) a w := by
  obtain ⟨v', w', hr, h2, h3, _, h5⟩ := int_append w B o.type v l h hB y g c hg hlen
  exact Lib.wpList_append_run w hgd s x 126 126 ho v _ hs hx v' w' hr (hk v' w' h2 h3 h5)

theorem files_any {w : World} {B : Nat} {f : Fs} {R : Rw} (h : Live w B f R) :
    Calls Tryz.prog 79 #[ptr R.p] w fun e w' => ∃ v, e = .returned v ∧ w'.ownsRow w.heap.size 3 1 v (keysF R.fs).length (cellsZ (keysF R.fs)) ∧ Adds w w' := by
  have hfew := h.mem.few
  have hm := h.mem.hm
  have c2 : w.cell? ⟨R.p, 2, none⟩ = some (.map (some R.m)) := h.mem.cell 2
  have hsrt := h.mem.srt
  have H : Hid (Mem w B R) := h.mem
  obtain ⟨i0, hi, hz0, hzs, hzb⟩ := info_parts Tryz.info3
  obtain ⟨w0, hr, ho0, hg0⟩ := run_make_own (P := Tryz.prog) w w.heap.size 126 3 i0 (.int .i64 0) 1 Tryz.underlying126 hi hz0 hzs .i64 .i64 R.fs.length (by rw [hzb]; omega) (by unfold maxLen; omega) (Nat.le_refl _)
  have ha0 : Adds w w0 := adds_of_grown (Adds.refl _) hg0 (fun i hi => by cases hi)
  have k2 : w0.cell? ⟨R.p, 2, none⟩ = some (.map (some R.m)) := (h.mem.adds ha0).cell 2
  have hm0 := (h.mem.adds ha0).hm
  have hml := hm.lt
  have hsz := dOf_size R.fs
  clear hg0 hi hz0 hzs hzb
  have HA0 : Hid (Adds w w0) := ha0
  have hW0 : w.heap.size ≤ w0.heap.size := ha0.below.size
  clear ha0
  go_enter Tryz.func79, Tryz.ntmps79
  go_wp2_with (first
    | (go_at_call 34; refine (given_any H.out).mono ?_; rintro e w1 ⟨rfl, rfl⟩)
    | (at_len; refine wpList_len_own _ rfl _ 64 rfl 3 40 Tryz.underlying64 raw R.m _ (dOf R.fs) rfl hm ?_)
    | (at_range; refine wpList_range_own _ rfl _ 64 rfl 3 40 law3 Tryz.underlying64 raw R.m _ (dOf R.fs) rfl hm0 ?_; intro w2 hrg2 hg2 hs2))
  go_frame
  clear hr hm c2
  rename World => wx
  go_loopw [3] (fun v W => ∃ (ks : List Int) (left : Lit → Bool) (cnt : Nat), W.ranges Tryz.prog 3 raw R.m w0.heap.size R.fs.length (dOf R.fs) left cnt ∧ Coll (dOf R.fs) left ks ∧ W.ownsRow w1.heap.size 3 1 v ks.length (cellsZ ks) ∧ v ≠ .slice none 0 0 ∧ ks.length + cnt ≤ R.fs.length ∧ Adds w1 W) (fun _ W => W.rangeLeft R.m w0.heap.size)
  case atStart =>
    refine ⟨[], _, _, hrg2, coll_start _, ?_, by simp, by simp [hsz], HA0.out.trans (adds_of_grown (Adds.refl _) hg2 (fun i hi => by cases hi))⟩
    exact ho0.kept hg2 (.inr (by simp [Value.ownBlock]))
  case round =>
    obtain ⟨ks, left, cnt, hrg, hcl, hown, hnn, hcn, hA⟩ := hrel
    have HA : Hid (Adds w1 wr) := hA
    have HC : Hid (Coll (dOf R.fs) left ks) := hcl
    clear hA hcl hrg2 hg2 hs2 hm0 k2 ho0 HA0
    have hw0 : w1.heap.size ≤ w0.heap.size := hW0
    go_wp2_with (at_next; refine wpList_next_ranges _ rfl _ rfl 3 law3 raw (Value.int .i64) (id : Value → Value) (fun key kl hk => by obtain ⟨x, hx, _⟩ := Maps.keyOf_int_inv Tryz.underlying3 hk; exact ⟨x, hx⟩) (fun v y _ => ⟨v, rfl⟩) R.m w0.heap.size _ _ _ _ rfl hrg ?_ ?_)
    · intro hc0 hl0
      rcases hown.2 with ⟨hnil, _⟩ | ⟨g, cap, cur, rfl, hbase, hb, h1, h2, h3, h4⟩
      · exact absurd hnil hnn
      have hH := holds_of_blockI (ss := ks) hb (by simpa [cellsZ] using h4)
      have hc := Tryz.slices_Sort_int g 0 cap ks wr hH (Array.getElem?_eq_some_iff.1 hb).1 (by omega)
      have hrw := fun (n : Nat) (os : Array Obj) => ownsRow_sortedI (n := n) (os := os) (ts := ks.mergeSort fun x y => decide (x ≤ y)) (ss := ks) (by simp) hbase hb h1 h2 h3
      have hke := coll_end hsrt HC.out hl0
      have hkl : (keysF R.fs).length = ks.length := by rw [← hke]; simp
      have HR : Hid _ := hrw
      have HE : Hid _ := And.intro hke hkl
      clear hrw hke hkl hH h4
      go_wp2_with (go_at_call 96; refine hc.mono ?_; rintro e w3 ⟨rfl, nn, os, hw3⟩)
      go_ret
      refine ⟨_, rfl, ?_, ?_⟩
      · obtain ⟨hke, hkl⟩ := HE.out
        rw [hkl, ← hke]
        exact HR.out nn os
      · exact adds_of_grown HA.out (grownBy_sortedI _) (fun i hi => by cases hi; exact hbase)
    · intro x c kl yd yp w2 cnt2 hkey hlk hv hat hrg2 hlt hg2 hs2 hen
      obtain ⟨x', ex, rfl, _⟩ := Maps.keyOf_int_inv Tryz.underlying3 hkey
      cases ex
      have hx0 : Maps.has (dOf R.fs) (.int .i64 x) = true := Maps.has_true_of_atKey hat
      have hne : u3.ownBlock = none ∨ u3.ownBlock ≠ some w0.heap.size := by
        refine .inr fun e => ?_
        obtain ⟨C, hC⟩ := row_block hown e
        obtain ⟨es, clock, since, seen, c0, _, _, _, _, hr, _⟩ := hrg
        rw [hC] at hr
        cases hr
      have hown2 := hown.kept hg2 hne
      have hB2 : w1.heap.size ≤ w2.heap.size := Nat.le_trans HA.out.below.size hg2.size
      have HA2 : Hid (Adds w1 w2) := adds_of_grown HA.out hg2 (fun i hi => by cases hi; exact hw0)
      have HC2 := coll_step HC.out hlk hx0
      have HC3 : Hid _ := HC2
      have hksl : ks.length ≤ 1048577 := by omega
      clear hs2 HC2 hat hv hkey hg2
      go_wp2_with (at_builtin; refine int_app rfl (.tmp 23) (.tmp 25) rfl (hown2.alloc _) (by simp; omega) rfl x _ _ rfl (by simp) (by omega) ?_; intro v4 w4 h4 g4 n4)
      go_roundw
      case rel =>
        have hga := World.grownBy_alloc w2 (.cells #[.int .i64 x] 3) u3.ownBlock
        have hg24 := hga.trans g4
        refine ⟨ks ++ [x], _, cnt2, hrg2.kept hg24 (fun e => ?_) (fun e => ?_), HC3.out, h4, n4, by simp; omega, ?_⟩
        · have := (hown2.lt R.m e.symm).1
          omega
        · obtain ⟨C, hC⟩ := row_block hown2 e.symm
          obtain ⟨es, clock, since, seen, c0, _, _, _, _, hr, _⟩ := hrg2
          rw [hC] at hr
          cases hr
        · exact adds_of_grown HA2.out hg24 (fun i hi => (hown2.lt i hi).1)
      case measure =>
        have hga := World.grownBy_alloc w2 (.cells #[.int .i64 x] 3) u3.ownBlock
        have hg24 := hga.trans g4
        have hrg4 := hrg2.kept hg24 (fun e => by have := (hown2.lt R.m e.symm).1; omega) (fun e => by
          obtain ⟨C, hC⟩ := row_block hown2 e.symm
          obtain ⟨es, clock, since, seen, c0, _, _, _, _, hr, _⟩ := hrg2
          rw [hC] at hr
          cases hr)
        rw [hrg4.left_eq, hrg.left_eq]
        exact hlt

end Go.Proofs.YtelkkpomehgcjaaGreat
