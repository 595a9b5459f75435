/-
  A keep in memory: numbers, cuts, what records do, the methods that read it.
-/
import Derived.Test.YtelkkpomehgcjaaGreatTape
import Derived.Test.YtelkkpomehgcjaaGreatReel
import Derived.Test.YtelkkpomehgcjaaGreatSeal
import Derived.Lib.SliceRun
import Derived.Deep.RegionLaw
import Derived.Test.YtelkkpomehgcjaaGreatTwrite
namespace Go.Proofs.YtelkkpomehgcjaaGreat
open Go.RowKit Go.Maps
attribute [local go_sem] cell?_more frozen?_more setCell_more size_more tape_more drew_more drewN_more more_drew more_drewN more_more one_out plus_out plus_end lt_one le_p2 le_p3 le_p4 le_p5 le_p6 le_p7 le_p8 le_p9 le_p10 le_p11 le_p12 le_p13 le_p14 le_p15 le_p16 le_p17 le_p18 le_p19 le_p20 le_p21 le_p22 le_p23 le_p24 le_q0 le_q1 lt_q1 le_q2 lt_q2 le_q3 lt_q3 le_q4 lt_q4 le_q5 lt_q5 le_q6 lt_q6 le_q7 lt_q7 le_q8 lt_q8 le_q9 lt_q9 le_q10 lt_q10 le_q11 lt_q11 le_q12 lt_q12 le_q13 lt_q13 le_q14 lt_q14 le_q15 lt_q15 le_q16 lt_q16 le_q17 lt_q17 le_q18 lt_q18 le_q19 lt_q19 le_q20 lt_q20 le_q21 lt_q21 le_q22 lt_q22 le_q23 lt_q23 le_q24 lt_q24

theorem number4K_any (v : Value) (l : List UInt8) (w : World) (h : Byt w v l) (h4 : 4 ≤ l.length) :
    Calls Tryz.prog 67 #[v] w fun e w' => e = .returned (.int .u32 (num4 l : Nat)) ∧ Adds w w' := by
  obtain ⟨ao, cap, rfl, hcap, h⟩ := h.open
  rcases h with rfl | ⟨b, off, rfl, hb, hl⟩
  · simp at h4
  rw [num4_of h4]
  have c0 := hl 0 (by omega)
  have c1 := hl 1 (by omega)
  have c2 := hl 2 (by omega)
  have c3 := hl 3 (by omega)
  rw [Nat.add_zero] at c0
  have a0 := l[0].toNat_lt
  have a1 := l[1].toNat_lt
  have a2 := l[2].toNat_lt
  have a3 := l[3].toNat_lt
  generalize l[0].toNat = x at *
  generalize l[1].toNat = y at *
  generalize l[2].toNat = z at *
  generalize l[3].toNat = t at *
  have h1 : bits .or .u32 ((x : Int) * 16777216) ((y : Int) * 65536) = (x : Int) * 16777216 + (y : Int) * 65536 :=
    bits_join .u32 32 (by decide) wraps32 24 _ _ (by omega) (by omega) (by omega) (by omega) (by omega) (by omega)
  have h2 : bits .or .u32 ((x : Int) * 16777216 + (y : Int) * 65536) ((z : Int) * 256) = (x : Int) * 16777216 + (y : Int) * 65536 + (z : Int) * 256 :=
    bits_join .u32 32 (by decide) wraps32 16 _ _ (by omega) (by omega) (by omega) (by omega) (by omega) (by omega)
  have h3 : bits .or .u32 ((x : Int) * 16777216 + (y : Int) * 65536 + (z : Int) * 256) (t : Int) = (x : Int) * 16777216 + (y : Int) * 65536 + (z : Int) * 256 + (t : Int) :=
    bits_join .u32 32 (by decide) wraps32 8 _ _ (by omega) (by omega) (by omega) (by omega) (by omega) (by omega)
  go_enter Tryz.func67, Tryz.ntmps67
  go_wp2
  go_quiet (fail)
  go_wp2
  go_ret
  refine ⟨?_, ?_⟩
  · rfl
  exact (by repeat (first | with_reducible exact Adds.refl _ | with_reducible refine Adds.alloc ?_ _ | with_reducible refine Adds.more ?_ _ _ | with_reducible refine Adds.drew ?_ | with_reducible refine Adds.drewN ?_ _))

theorem numberedK_any (n : Nat) (w : World) (hn : n < 4294967296) :
    Calls Tryz.prog 56 #[.int .i64 (n : Int)] w fun e w' => ∃ v, e = .returned v ∧ Adds w w' ∧ Byt w' v (four n) := by
  go_enter Tryz.func56, Tryz.ntmps56
  go_wp2
  go_ret
  refine ⟨_, rfl, ?_, ?_⟩
  · exact (by repeat (first | with_reducible exact Adds.refl _ | with_reducible refine Adds.alloc ?_ _ | with_reducible refine Adds.more ?_ _ _ | with_reducible refine Adds.drew ?_ | with_reducible refine Adds.drewN ?_ _))
  · refine byt_new rfl ?_ rfl
    simp [four, cellsB]
    omega

end Go.Proofs.YtelkkpomehgcjaaGreat

namespace Go.Proofs.YtelkkpomehgcjaaGreat
open Go.RowKit Go.Maps
attribute [local go_sem] cell?_more frozen?_more setCell_more size_more tape_more drew_more drewN_more more_drew more_drewN more_more one_out plus_out plus_end lt_one le_p2 le_p3 le_p4 le_p5 le_p6 le_p7 le_p8 le_p9 le_p10 le_p11 le_p12 le_p13 le_p14 le_p15 le_p16 le_p17 le_p18 le_p19 le_p20 le_p21 le_p22 le_p23 le_p24 le_q0 le_q1 lt_q1 le_q2 lt_q2 le_q3 lt_q3 le_q4 lt_q4 le_q5 lt_q5 le_q6 lt_q6 le_q7 lt_q7 le_q8 lt_q8 le_q9 lt_q9 le_q10 lt_q10 le_q11 lt_q11 le_q12 lt_q12 le_q13 lt_q13 le_q14 lt_q14 le_q15 lt_q15 le_q16 lt_q16 le_q17 lt_q17 le_q18 lt_q18 le_q19 lt_q19 le_q20 lt_q20 le_q21 lt_q21 le_q22 lt_q22 le_q23 lt_q23 le_q24 lt_q24

theorem setCells_at {g : Nat} {T : TypeId} {fr : Nat × Nat} : ∀ (vs : List Value) (o : Nat) (w : World) (C : Array Value), w.heap[g]? = some (.cells C T fr) → o + vs.length ≤ C.size →
    ∃ C', (w.setCells g o vs).heap[g]? = some (.cells C' T fr) ∧ C'.size = C.size ∧ ∀ j, j < o → C'[j]? = C[j]?
  | [], _, _, C, h, _ => ⟨C, h, rfl, fun _ _ => rfl⟩
  | v :: r, o, w, C, h, hl => by
    simp only [List.length_cons] at hl
    have h1 := heap_setCell_at v h (show o < C.size by omega)
    obtain ⟨C', h2, h3, h4⟩ := setCells_at r (o + 1) _ _ h1 (by simp; omega)
    refine ⟨C', h2, by rw [h3]; simp, fun j hj => ?_⟩
    rw [h4 j (by omega)]
    rw [Array.getElem?_set, if_neg (by omega)]

theorem grown_cells (w : World) (g : Nat) : ∀ (vs : List Value) (o : Nat) (w1 : World), w.grownBy w1 (some g) → w.grownBy (w1.setCells g o vs) (some g)
  | [], _, _, h => h
  | v :: r, o, w1, h => by
    refine grown_cells w g r (o + 1) _ ?_
    have k := grown_set w1 g o v
    exact ⟨k.os.trans h.os, k.tape.trans h.tape, k.output.trans h.output, Nat.le_trans h.size k.size, fun i hi hn => (k.block i (Nat.lt_of_lt_of_le hi h.size) hn).trans (h.block i hi hn)⟩

set_option maxRecDepth 20000 in
theorem delete_any {w : World} {B : Nat} {v : Value} {xs : List Value} (h : w.ownsRow B 40 1 v xs.length xs) {n : Nat} (hn : n < xs.length) :
    Calls Tryz.prog 88 #[v, .int .i64 (n : Int), .int .i64 (xs.length : Int)] w fun e w' => ∃ v', e = .returned v' ∧ w'.ownsRow B 40 1 v' (xs.take n).length (xs.take n) ∧ v'.ownBlock = v.ownBlock ∧ w.grownBy w' v.ownBlock := by
  rcases h.2 with ⟨_, h0⟩ | ⟨g, cap, cur, rfl, hb, hg, hnc, hcm, hcs, htk⟩
  · omega
  obtain ⟨i0, hi, hz0, hzs, hzb⟩ := info_parts Tryz.info40
  have hc : ∀ j, j < cap → (w.drew.cell? ⟨g, j, none⟩).isSome = true := fun j hj => by
    have : w.cell? ⟨g, j, none⟩ = cur[j]? := cell_of_row w g j _ _ _ hg
    show (w.cell? ⟨g, j, none⟩).isSome = true
    rw [this, Array.getElem?_eq_getElem (by omega)]
    rfl
  have hf : ∀ j, w.drew.frozen? ⟨g, j, none⟩ = false := fun j => frozen_of (w := w.drew) hg
  have hm : cap ≤ 9223372036854775807 := by unfold maxLen at hcm; omega
  have hcl : ∀ ty, (Builtin.clear_ #[37] ty #[.slice (some ⟨g, n, none⟩) (xs.length - n) (cap - n)]).run Tryz.prog w.drew = .ok (.tuple #[]) (w.drew.setCells g (n) (List.replicate (xs.length - n) (.slice none 0 0))) :=
    fun ty => Lib.run_clear_slice w.drew _ _ ty _ Tryz.underlying37 Tryz.zeroValue40 rfl rfl g (n) _ _ (by omega) (fun t ht => hc _ (by omega)) (fun t ht => hf _)
  have hpost : ∃ v', Value.slice (some ⟨g, 0, none⟩) n cap = v' ∧ (w.drew.setCells g (n) (List.replicate (xs.length - n) (.slice none 0 0))).ownsRow B 40 1 v' (xs.take n).length (xs.take n) ∧ v'.ownBlock = some g ∧ w.grownBy (w.drew.setCells g (n) (List.replicate (xs.length - n) (.slice none 0 0))) (some g) := by
    obtain ⟨C', h1, h2, h3⟩ := setCells_at (List.replicate (xs.length - n) (.slice none 0 0)) (n) w.drew cur hg (by simp; omega)
    refine ⟨_, rfl, ⟨by simp, .inr ⟨g, cap, C', ?_, hb, h1, by simp; omega, hcm, by rw [h2, hcs], ?_⟩⟩, rfl, ?_⟩
    · rw [List.length_take, Nat.min_eq_left (by omega)]
    · rw [← htk]
      apply List.ext_getElem?
      intro j
      simp only [List.getElem?_take, Array.getElem?_toList, List.length_take, Nat.mul_one]
      by_cases hj : j < n
      · rw [if_pos (by simp; omega), if_pos hj, if_pos (by omega), h3 j (by omega)]
      · rw [if_neg (by simp; omega), if_neg hj]
    · exact grown_cells w g _ _ _ ⟨rfl, rfl, rfl, Nat.le_refl _, fun _ _ _ => rfl⟩
  obtain ⟨v', hv', h1, h2, h3⟩ := hpost
  subst hv'
  obtain ⟨A, hA⟩ : ∃ A : Addr, (if cap = xs.length then some (⟨g, 0, none⟩ : Addr) else some ⟨g, xs.length, none⟩) = some A := by
    by_cases e : cap = xs.length
    · exact ⟨_, by rw [if_pos e]⟩
    · exact ⟨_, by rw [if_neg e]⟩
  have HP1 : Hid _ := h1
  have HP3 : Hid _ := h3
  have hic : n ≤ cap := by omega
  clear h1 h2 h3 hg htk hcs h
  generalize xs.length = m at *
  go_enter Tryz.func88, Tryz.ntmps88
  go_wp2_with fail
  go_region_law (refine step_append_room rfl (.tmp 22) (.tmp 25) 37 rfl 40 i0 1 Tryz.underlying37 hi hzs g 0 n cap (by simp [Act.eval, Act.put]) A 0 (cap - m) [] (by simp [Act.eval, Act.put]) rfl (by simp) (by simp) (by omega) (by simp) ?_; rw [show ∀ o, w.drew.setCells g o [] = w.drew from fun _ => rfl])
  go_wp2
  go_ret
  exact ⟨_, rfl, HP1.out, rfl, HP3.out⟩

end Go.Proofs.YtelkkpomehgcjaaGreat

namespace Go.Proofs.YtelkkpomehgcjaaGreat
open Go.RowKit Go.Maps

/-- Entries' records and the note's, behind a record. -/
def turnK (s : List (List UInt8) × List UInt8) : List UInt8 → List (List UInt8) × List UInt8
  | [] => s
  | c :: b => if c = 0 then (s.1 ++ [c :: b], s.2) else if c = 1 then (s.1, c :: b) else if c = 2 then ([], s.2) else if c = 3 then (s.1.take (num4 b), s.2) else s

/-- Is a record one of a keep's? -/
def knownK : List UInt8 → Bool
  | [] => false
  | c :: b => if c = 0 then true else if c = 1 then true else if c = 2 then decide (b.length = 0) else if c = 3 then decide (b.length = 4) else false

def foldT (l : List (List UInt8)) : List (List UInt8) × List UInt8 := l.foldl turnK ([], [])

theorem foldT_snoc (l : List (List UInt8)) (r : List UInt8) : foldT (l ++ [r]) = turnK (foldT l) r := by simp [foldT]

theorem foldT_take {l : List (List UInt8)} {k : Nat} (hk : k < l.length) : foldT (l.take (k + 1)) = turnK (foldT (l.take k)) l[k] := by
  rw [List.take_succ_eq_append_getElem hk, foldT_snoc]

theorem turnK_cons (s : List (List UInt8) × List UInt8) (c : UInt8) (b : List UInt8) : turnK s (c :: b) = if c = 0 then (s.1 ++ [c :: b], s.2) else if c = 1 then (s.1, c :: b) else if c = 2 then ([], s.2) else if c = 3 then (s.1.take (num4 b), s.2) else s := rfl

theorem turnK_length (s : List (List UInt8) × List UInt8) (r : List UInt8) : (turnK s r).1.length ≤ s.1.length + 1 := by
  cases r with
  | nil => simp [turnK]
  | cons c b =>
    rw [turnK_cons]
    split
    · simp
    · split
      · simp
      · split
        · simp
        · split
          · simp; omega
          · simp

theorem foldK_length (l : List (List UInt8)) (s : List (List UInt8) × List UInt8) : (l.foldl turnK s).1.length ≤ s.1.length + l.length := by
  induction l generalizing s with
  | nil => simp
  | cons r l ih =>
    have h1 := ih (turnK s r)
    have h2 := turnK_length s r
    simp only [List.foldl_cons, List.length_cons]
    omega

theorem foldT_length (l : List (List UInt8)) : (foldT l).1.length ≤ l.length := by
  have := foldK_length l ([], [])
  simpa [foldT] using this

/-- All that a keep holds is of the records. -/
theorem turnK_mem {s : List (List UInt8) × List UInt8} {r : List UInt8} {P : List UInt8 → Prop} (h1 : ∀ x ∈ s.1, P x) (h2 : P s.2) (h3 : P r) : (∀ x ∈ (turnK s r).1, P x) ∧ P (turnK s r).2 := by
  cases r with
  | nil => exact ⟨h1, h2⟩
  | cons c b =>
    rw [turnK_cons]
    split
    · refine ⟨fun x hx => ?_, h2⟩
      simp only [List.mem_append, List.mem_singleton] at hx
      rcases hx with hx | rfl
      · exact h1 x hx
      · exact h3
    · split
      · exact ⟨h1, h3⟩
      · split
        · exact ⟨fun x hx => by simp at hx, h2⟩
        · split
          · exact ⟨fun x hx => h1 x (List.mem_of_mem_take hx), h2⟩
          · exact ⟨h1, h2⟩

theorem foldK_mem {l : List (List UInt8)} {P : List UInt8 → Prop} (h : ∀ x ∈ l, P x) (s : List (List UInt8) × List UInt8) (h1 : ∀ x ∈ s.1, P x) (h2 : P s.2) : (∀ x ∈ (l.foldl turnK s).1, P x) ∧ P (l.foldl turnK s).2 := by
  induction l generalizing s with
  | nil => exact ⟨h1, h2⟩
  | cons r l ih =>
    obtain ⟨i1, i2⟩ := turnK_mem h1 h2 (h r (by simp))
    exact ih (fun x hx => h x (by simp [hx])) _ i1 i2

theorem foldT_mem {l : List (List UInt8)} {P : List UInt8 → Prop} (h : ∀ x ∈ l, P x) (h0 : P []) : (∀ x ∈ (foldT l).1, P x) ∧ P (foldT l).2 :=
  foldK_mem h ([], []) (fun x hx => by simp at hx) h0

/-- The records of what is seen. -/
def recsK (K : Kf) : List (List UInt8) :=
  match newK K with
  | some (_, _, ls, _) => ls
  | none => []

theorem opened_recs (d : Dk) (K : Kf) : (d.opened K).ls = recsK K := by
  unfold Dk.opened recsK
  split <;> rename_i h <;> simp [h]

end Go.Proofs.YtelkkpomehgcjaaGreat

namespace Go.Proofs.YtelkkpomehgcjaaGreat
open Go.RowKit Go.Maps
attribute [local go_sem] cell?_more frozen?_more setCell_more size_more tape_more drew_more drewN_more more_drew more_drewN more_more one_out plus_out plus_end lt_one le_p2 le_p3 le_p4 le_p5 le_p6 le_p7 le_p8 le_p9 le_p10 le_p11 le_p12 le_p13 le_p14 le_p15 le_p16 le_p17 le_p18 le_p19 le_p20 le_p21 le_p22 le_p23 le_p24 le_q0 le_q1 lt_q1 le_q2 lt_q2 le_q3 lt_q3 le_q4 lt_q4 le_q5 lt_q5 le_q6 lt_q6 le_q7 lt_q7 le_q8 lt_q8 le_q9 lt_q9 le_q10 lt_q10 le_q11 lt_q11 le_q12 lt_q12 le_q13 lt_q13 le_q14 lt_q14 le_q15 lt_q15 le_q16 lt_q16 le_q17 lt_q17 le_q18 lt_q18 le_q19 lt_q19 le_q20 lt_q20 le_q21 lt_q21 le_q22 lt_q22 le_q23 lt_q23 le_q24 lt_q24

/-- A keep as it lies: its block, its tape's, its note's record and its entries' records with what they read as. -/
structure Kw where
  p : Nat
  tp : Nat
  nv : Value
  ev : Value
  nt : List UInt8
  es : List (List UInt8)

structure Kr (w : World) (K : Kw) : Prop where
  hp : w.heap[K.p]? = some (.cells #[ptr K.tp, K.nv, K.ev] 78 (0, 0))
  note : Byt w K.nv K.nt
  rows : Rws w K.ev K.es

theorem Kr.adds {w w' : World} {K : Kw} (h : Kr w K) (ha : Adds w w') : Kr w' K := ⟨ha.at h.hp, h.note.adds ha, h.rows.adds ha⟩

theorem openedK_any {w : World} {p tp : Nat} {a b : Value} (hp : w.heap[p]? = some (.cells #[ptr tp, a, b] 78 (0, 0))) : Calls Tryz.prog 55 #[ptr p] w fun e w' => e = .returned (.bool true) ∧ w' = w := by
  have c0 : w.cell? ⟨p, 0, none⟩ = some (ptr tp) := cell_of_row w p 0 _ _ _ hp
  go_enter Tryz.func55, Tryz.ntmps55
  go_wp2
  go_ret
  exact ⟨rfl, rfl⟩

theorem lenK_any {w : World} {K : Kw} (h : Kr w K) : Calls Tryz.prog 27 #[ptr K.p] w fun e w' => e = .returned (.int .i64 (K.es.length : Int)) ∧ w' = w := by
  have c2 : w.cell? ⟨K.p, 2, none⟩ = some K.ev := cell_of_row w K.p 2 _ _ _ h.hp
  obtain ⟨ao, cap, hv, _⟩ := h.rows.slice
  rw [hv] at c2
  have kO := openedK_any h.hp
  go_enter Tryz.func27, Tryz.ntmps27
  go_wp2_with (go_at_call 55; refine kO.mono ?_; rintro e w1 ⟨rfl, rfl⟩)
  go_ret
  exact ⟨rfl, rfl⟩

set_option maxRecDepth 20000 in
theorem behind_any (x : Value) (l : List UInt8) (w : World) (h : Byt w x l) (hlen : l.length ≤ 1000000) :
    Calls Tryz.prog 57 #[x] w fun e w' => ∃ r, e = .returned r ∧ w'.ownsRow w.heap.size 5 1 r (l.drop 1).length (cellsB (l.drop 1)) ∧ Adds w w' := by
  obtain ⟨ao, cap, rfl, hcap, ho⟩ := h.open
  cases l with
  | nil =>
    go_enter Tryz.func57, Tryz.ntmps57
    go_wp2
    go_ret
    exact ⟨_, rfl, World.ownsRow_nil _ _ _ _, Adds.refl _⟩
  | cons c t =>
    rcases ho with ho | ⟨b, off, rfl, hb, hl⟩
    · cases ho
    have hr := h.rest (k := 1) (by simp)
    simp only [List.drop_succ_cons, List.drop_zero, Option.map_some, add_at] at hr ⊢
    have kC := clone_any _ _ w hr (by simp at hlen; omega)
    have hcap' : t.length + 1 ≤ cap := by simpa using hcap
    by_cases hc1 : cap = 1
    · subst hc1
      have ht : t = [] := List.eq_nil_of_length_eq_zero (by omega)
      subst ht
      rw [if_pos rfl] at kC
      simp only [List.length_cons, List.length_nil, Nat.zero_add, Nat.sub_self] at kC ⊢
      clear h hr hl hcap hlen hcap'
      go_enter Tryz.func57, Tryz.ntmps57
      go_wp2_with (go_at_call 65; refine kC.mono ?_; rintro e w2 ⟨r2, rfl, h2, a2⟩)
      go_ret
      exact ⟨r2, rfl, h2, a2⟩
    · rw [if_neg hc1] at kC
      have hN1 : 1 ≤ (c :: t).length := by simp
      clear h hr hl hlen hcap'
      generalize (c :: t).length = N at *
      have hN0 : ¬ ((N : Int) = 0) := by omega
      go_enter Tryz.func57, Tryz.ntmps57
      go_wp2_with (go_at_call 65; refine kC.mono ?_; rintro e w2 ⟨r2, rfl, h2, a2⟩)
      go_ret
      exact ⟨r2, rfl, h2, a2⟩

theorem notedK_any {w : World} {K : Kw} (h : Kr w K) (hlen : K.nt.length ≤ 1000000) :
    Calls Tryz.prog 44 #[ptr K.p] w fun e w' => ∃ r, e = .returned r ∧ w'.ownsRow w.heap.size 5 1 r (K.nt.drop 1).length (cellsB (K.nt.drop 1)) ∧ Adds w w' := by
  have c1 : w.cell? ⟨K.p, 1, none⟩ = some K.nv := cell_of_row w K.p 1 _ _ _ h.hp
  have kO := openedK_any h.hp
  have kB := behind_any _ _ w h.note hlen
  obtain ⟨ao, cap, hv, _⟩ := h.note.open
  rw [hv] at c1 kB
  go_enter Tryz.func44, Tryz.ntmps44
  go_wp2_with (first
    | (go_at_call 55; refine kO.mono ?_; rintro e w1 ⟨rfl, rfl⟩)
    | (go_at_call 57; refine kB.mono ?_; rintro e w2 ⟨r2, rfl, h2, a2⟩))
  go_ret
  exact ⟨r2, rfl, h2, a2⟩

theorem getK_any {w : World} {K : Kw} (h : Kr w K) {i : Nat} (hi : i < K.es.length) (hfit : K.es[i].length ≤ 1000000) :
    Calls Tryz.prog 26 #[ptr K.p, .int .i64 (i : Int)] w fun e w' => ∃ r, e = .returned (.tuple #[r, .bool true]) ∧ w'.ownsRow w.heap.size 5 1 r (K.es[i].drop 1).length (cellsB (K.es[i].drop 1)) ∧ Adds w w' := by
  have c2 : w.cell? ⟨K.p, 2, none⟩ = some K.ev := cell_of_row w K.p 2 _ _ _ h.hp
  have kL := lenK_any h
  obtain ⟨ao, cap, hv, hcap⟩ := h.rows.slice
  have hr := h.rows
  rw [hv] at c2 hr
  obtain ⟨b, off, x, rfl, hb, hc, hx⟩ := hr.at hi
  have kC := behind_any _ _ w hx hfit
  clear hr hv hx
  generalize K.es[i] = l at *
  generalize K.es.length = n at *
  have i0 : ¬ ((i : Int) < 0) := by omega
  go_enter Tryz.func26, Tryz.ntmps26
  go_wp2_with (first
    | (go_at_call 27; refine kL.mono ?_; rintro e w1 ⟨rfl, rfl⟩)
    | (go_at_call 57; refine kC.mono ?_; rintro e w2 ⟨r2, rfl, h2, a2⟩))
  go_ret2
  exact ⟨r2, rfl, h2, a2⟩

end Go.Proofs.YtelkkpomehgcjaaGreat

namespace Go.Proofs.YtelkkpomehgcjaaGreat
open Go.RowKit Go.Maps
attribute [local go_sem] cell?_more frozen?_more setCell_more size_more tape_more drew_more drewN_more more_drew more_drewN more_more one_out plus_out plus_end lt_one le_p2 le_p3 le_p4 le_p5 le_p6 le_p7 le_p8 le_p9 le_p10 le_p11 le_p12 le_p13 le_p14 le_p15 le_p16 le_p17 le_p18 le_p19 le_p20 le_p21 le_p22 le_p23 le_p24 le_q0 le_q1 lt_q1 le_q2 lt_q2 le_q3 lt_q3 le_q4 lt_q4 le_q5 lt_q5 le_q6 lt_q6 le_q7 lt_q7 le_q8 lt_q8 le_q9 lt_q9 le_q10 lt_q10 le_q11 lt_q11 le_q12 lt_q12 le_q13 lt_q13 le_q14 lt_q14 le_q15 lt_q15 le_q16 lt_q16 le_q17 lt_q17 le_q18 lt_q18 le_q19 lt_q19 le_q20 lt_q20 le_q21 lt_q21 le_q22 lt_q22 le_q23 lt_q23 le_q24 lt_q24

set_option maxRecDepth 20000 in
theorem allK_any {w : World} {K : Kw} (h : Kr w K) (hf : fits K.es) (hn : K.es.length ≤ 1000000) :
    Calls Tryz.prog 46 #[ptr K.p] w fun e w' => ∃ r xs, e = .returned r ∧ OwnV w.heap.size 40 r xs w w' ∧ EachF w.heap.size w' xs (K.es.map (List.drop 1)) := by
  have kL := lenK_any h
  obtain ⟨w0, hr, ho⟩ := make_rows w K.es.length hn
  go_enter Tryz.func46, Tryz.ntmps46
  go_wp2_with (go_at_call 27; refine kL.mono ?_; rintro e w1 ⟨rfl, hw1⟩; subst hw1)
  clear hr kL
  generalize hsz : w1.heap.size = s0 at *
  have HSZ : Hid (w1.heap.size = s0) := hsz
  have ho' : w0.ownsRow s0 40 1 (.slice (some ⟨s0, 0, none⟩) K.es.length K.es.length) (List.replicate K.es.length (Value.slice none 0 0)).length (List.replicate K.es.length (Value.slice none 0 0)) := ho.1
  have hA0 : Adds w1 w0 := (show OwnV w1.heap.size 40 _ _ w1 w0 by rw [HSZ.out]; exact ho).added
  clear hsz ho
  go_loopw [10] (fun i W => ∃ (k : Nat) (xs : List Value), k ≤ K.es.length ∧ i = .int .i64 k ∧ xs.length = K.es.length ∧ W.ownsRow s0 40 1 (.slice (some ⟨s0, 0, none⟩) K.es.length K.es.length) xs.length xs ∧ EachF s0 W (xs.take k) ((K.es.map (List.drop 1)).take k) ∧ Adds w1 W) (fun i _ => (K.es.length - intOf i).toNat)
  case atStart => exact ⟨0, _, by omega, rfl, by simp, ho', by simp [EachF], hA0⟩
  case round =>
    obtain ⟨k, xs, hk, rfl, hxl, hown, heach, ha⟩ := hrel
    have HA : Hid (Adds w1 wr) := ha
    have hml : (K.es.map (List.drop 1)).length = K.es.length := by simp
    by_cases hlt : k < K.es.length
    · have kr := h.adds ha
      have c2 : wr.cell? ⟨K.p, 2, none⟩ = some K.ev := cell_of_row wr K.p 2 _ _ _ kr.hp
      obtain ⟨ae, ce, hv, hce⟩ := kr.rows.slice
      have hr := kr.rows
      rw [hv] at c2 hr
      obtain ⟨b, off, x, rfl, hb, hc, hx⟩ := hr.at hlt
      have kC := behind_any _ _ wr hx (by have := hf _ (List.getElem_mem hlt); omega)
      have HE : Hid ((K.es.map (List.drop 1))[k]'(by omega) = K.es[k].drop 1) := by
        show _ = _
        simp
      clear ha kr hr hx hv
      generalize K.es[k].drop 1 = m at *
      go_wp2_with (go_at_call 57; refine kC.mono ?_; rintro e w4 ⟨v4, rfl, h4, a4⟩; obtain ⟨ao4, l4, c4, rfl⟩ := row_slice h4; have hown4 := row_adds hown a4; obtain ⟨g4, cap4, e4, _, hB4, hg4, hc4, hz4⟩ := row_at hown4 (j := k) (by omega); (have e5 : g4 = s0 := by simp at e4; exact e4.1.symm); subst e5; clear e4)
      go_roundw
      case rel =>
        have hrow := row_set (B := g4) (e := 40) (g := g4) (cap := K.es.length) (xs := xs) (w := w4) (by rw [hxl] at hown4 ⊢; exact hown4) k (by omega) (.slice ao4 l4 c4)
        have hgr := grown_set w4 g4 k (.slice ao4 l4 c4)
        have hsz := HSZ.out
        have hle := HA.out.below.size
        refine ⟨k + 1, xs.set k (.slice ao4 l4 c4), by omega, by go_num, by simpa using hxl, by simpa [hxl] using hrow, ?_, ?_⟩
        · rw [take_set_next (by omega), List.take_succ_eq_append_getElem (by omega)]
          refine EachF.append ?_ ⟨?_, trivial⟩
          · exact (heach.imp fun _ _ hx => hx.adds a4).imp fun _ _ hx => hx.grown hown4 (by decide) hgr
          · rw [HE.out]
            exact ((fr_row h4).mono (by omega)).grown hown4 (by decide) hgr
        · exact adds_of_grown (HA.out.trans a4) hgr (fun i hi => by cases hi; omega)
      case measure => simp [intOf]; omega
    · obtain rfl : k = K.es.length := by omega
      rw [List.take_of_length_le (by omega), List.take_of_length_le (by omega)] at heach
      go_wp2
      go_ret
      refine ⟨_, xs, rfl, ⟨?_, ?_, ?_⟩, ?_⟩
      · rw [HSZ.out]
        exact hown
      · exact HA.out.below
      · exact HA.out.below.size
      · rw [HSZ.out]
        exact heach

end Go.Proofs.YtelkkpomehgcjaaGreat

namespace Go.Proofs.YtelkkpomehgcjaaGreat
open Go.RowKit Go.Maps

def Kw.own (K : Kw) (i : Nat) : Prop := i = K.p ∨ K.ev.ownBlock = some i

/-- A keep whose entries' row is its own; F: blocks of others. -/
structure Ke (w : World) (B : Nat) (F : Nat → Prop) (K : Kw) : Prop where
  hp : w.heap[K.p]? = some (.cells #[ptr K.tp, K.nv, K.ev] 78 (0, 0))
  bp : B ≤ K.p
  note : BytA w F K.nv K.nt
  row : ∃ xs, w.ownsRow B 40 1 K.ev xs.length xs ∧ EachA w F xs K.es
  out : ¬ F K.p
  apart : ∀ i, K.ev.ownBlock = some i → ¬ F i

theorem Ke.low {w : World} {B : Nat} {F : Nat → Prop} {K : Kw} (h : Ke w B F K) : ∀ i, K.own i → B ≤ i ∧ i < w.heap.size := by
  obtain ⟨xs, ho, _⟩ := h.row
  rintro i (rfl | hi)
  · exact ⟨h.bp, (Array.getElem?_eq_some_iff.1 h.hp).1⟩
  · exact ho.lt i hi

theorem Ke.size {w : World} {B : Nat} {F : Nat → Prop} {K : Kw} (h : Ke w B F K) : B ≤ w.heap.size := by
  have := h.low K.p (.inl rfl)
  omega

/-- No block of a keep's own is one of bytes. -/
theorem Ke.tags {w : World} {B : Nat} {F : Nat → Prop} {K : Kw} (h : Ke w B F K) : ∀ i, K.own i → ∃ C e z, w.heap[i]? = some (.cells C e z) ∧ e ≠ 5 := by
  obtain ⟨xs, ho, _⟩ := h.row
  rintro i (rfl | hi)
  · exact ⟨_, _, _, h.hp, by decide⟩
  · obtain ⟨C, hC⟩ := row_block ho hi
    exact ⟨_, _, _, hC, by decide⟩

theorem Ke.rows {w : World} {B : Nat} {F : Nat → Prop} {K : Kw} (h : Ke w B F K) : RwsA w F K.ev K.es := by
  obtain ⟨xs, ho, he⟩ := h.row
  exact rwsA_own ho he h.apart

theorem Ke.kr {w : World} {B : Nat} {F : Nat → Prop} {K : Kw} (h : Ke w B F K) : Kr w K := ⟨h.hp, h.note.byt, h.rows.rws⟩

/-- Others turn their blocks. -/
theorem Ke.mv {w w' : World} {B : Nat} {F F' : Nat → Prop} {K : Kw} (h : Ke w B F K) (m : Mv w F w' F') : Ke w' B F' K := by
  obtain ⟨xs, ho, he⟩ := h.row
  have h1 := m.block K.p (Array.getElem?_eq_some_iff.1 h.hp).1 h.out
  refine ⟨h1.1.trans h.hp, h.bp, h.note.mv m, ⟨xs, row_keep ho fun i hi => (m.block i (ho.lt i hi).2 (h.apart i hi)).1, he.imp fun _ _ hx => hx.mv m⟩, h1.2, fun i hi => (m.block i (ho.lt i hi).2 (h.apart i hi)).2⟩

theorem Ke.adds {w w' : World} {B : Nat} {F : Nat → Prop} {K : Kw} (h : Ke w B F K) (ha : Adds w w') : Ke w' B F K := h.mv (Mv.adds F ha)

theorem Ke.sub {w : World} {B : Nat} {F F' : Nat → Prop} {K : Kw} (h : Ke w B F K) (hF : ∀ i, F' i → F i) : Ke w B F' K := by
  obtain ⟨xs, ho, he⟩ := h.row
  have hn : ∀ b, b < w.heap.size → ¬ F b → ¬ F' b := fun b _ hf hc => hf (hF b hc)
  exact ⟨h.hp, h.bp, h.note.sub hn, ⟨xs, ho, he.imp fun _ _ hx => hx.sub hn⟩, fun hc => h.out (hF _ hc), fun i hi hc => h.apart i hi (hF i hc)⟩

theorem set_cell29 {w : World} {p : Nat} {a b c : Value} (x : Value) (h : w.heap[p]? = some (.cells #[a, b, c] 78 (0, 0))) :
    (w.setCell ⟨p, 2, none⟩ x).heap[p]? = some (.cells #[a, b, x] 78 (0, 0)) ∧ (w.setCell ⟨p, 1, none⟩ x).heap[p]? = some (.cells #[a, x, c] 78 (0, 0)) := by
  constructor
  · rw [heap_setCell_at x h (by simp)]
    rfl
  · rw [heap_setCell_at x h (by simp)]
    rfl

/-- The entries' row has turned to another. -/
theorem Ke.turned {W w7 : World} {B : Nat} {F : Nat → Prop} {K : Kw} (h : Ke W B F K) (hF : ∀ i, F i → i < W.heap.size) {ys : List Value} {v' : Value} {es' : List (List UInt8)} (hy : EachA W F ys es')
    (h7 : w7.ownsRow B 40 1 v' ys.length ys) (hg : W.grownBy w7 K.ev.ownBlock) (hv : v'.ownBlock = K.ev.ownBlock ∨ v'.ownBlock = some W.heap.size ∨ v'.ownBlock = none) :
    Ke (w7.setCell ⟨K.p, 2, none⟩ v') B F { K with ev := v', es := es' } ∧ Mv W K.own (w7.setCell ⟨K.p, 2, none⟩ v') ({ K with ev := v', es := es' } : Kw).own := by
  obtain ⟨xs, ho, _⟩ := h.row
  have hvp : K.ev.ownBlock ≠ some K.p := fun e => by
    obtain ⟨C, hC⟩ := row_block ho e
    rw [h.hp] at hC
    simp at hC
  have hpl := (Array.getElem?_eq_some_iff.1 h.hp).1
  have hp7 : w7.heap[K.p]? = some (.cells #[ptr K.tp, K.nv, K.ev] 78 (0, 0)) := (hg.block K.p hpl (fun e => hvp e.symm)).trans h.hp
  have hs := grown_set w7 K.p 2 v'
  have hblk : ∀ i, i < W.heap.size → ¬ K.own i → (w7.setCell ⟨K.p, 2, none⟩ v').heap[i]? = W.heap[i]? := fun i hi hn =>
    (hs.block i (Nat.lt_of_lt_of_le hi hg.size) fun e => hn (.inl (by simpa using e))).trans (hg.block i hi fun e => hn (.inr e.symm))
  have hown : ∀ i, i < W.heap.size → ¬ K.own i → ¬ ({ K with ev := v', es := es' } : Kw).own i := by
    rintro i hi hn (hc | hc)
    · exact hn (.inl hc)
    · have hc' : v'.ownBlock = some i := hc
      rcases hv with e | e | e
      · exact hn (.inr (e.symm.trans hc'))
      · rw [e] at hc'
        simp at hc'
        omega
      · rw [e] at hc'
        cases hc'
  have htag := h.tags
  have hb5 : ∀ b C z, W.heap[b]? = some (.cells C 5 z) → ¬ F b → (w7.setCell ⟨K.p, 2, none⟩ v').heap[b]? = W.heap[b]? ∧ ¬ F b := fun b C z hb hf => by
    refine ⟨hblk b (Array.getElem?_eq_some_iff.1 hb).1 fun hc => ?_, hf⟩
    obtain ⟨C', e, z', h1, h2⟩ := htag b hc
    rw [hb] at h1
    simp only [Option.some.injEq, Obj.cells.injEq] at h1
    exact h2 h1.2.1.symm
  refine ⟨⟨(set_cell29 v' hp7).1, h.bp, h.note.keep hb5, ⟨ys, ?_, hy.imp fun _ _ hx => hx.keep hb5⟩, h.out, ?_⟩, ⟨hs.os.trans hg.os, hs.tape.trans hg.tape, hs.output.trans hg.output, Nat.le_trans hg.size hs.size, fun i hi hn => ⟨hblk i hi hn, hown i hi hn⟩⟩⟩
  · refine row_keep h7 fun i hi => hs.block i (h7.lt i hi).2 fun e => ?_
    have e' : i = K.p := by simpa using e
    subst e'
    rcases hv with e1 | e1 | e1
    · exact hvp (e1.symm.trans hi)
    · rw [e1] at hi
      simp at hi
      omega
    · rw [e1] at hi
      cases hi
  · intro i hi hf
    have hi' : v'.ownBlock = some i := hi
    rcases hv with e1 | e1 | e1
    · exact h.apart i (e1.symm.trans hi') hf
    · rw [e1] at hi'
      simp at hi'
      have := hF i hf
      omega
    · rw [e1] at hi'
      cases hi'

/-- The note has turned to another. -/
theorem Ke.noted {W : World} {B : Nat} {F : Nat → Prop} {K : Kw} (h : Ke W B F K) {x : Value} {r : List UInt8} (hx : BytA W F x r) :
    Ke (W.setCell ⟨K.p, 1, none⟩ x) B F { K with nv := x, nt := r } ∧ Mv W K.own (W.setCell ⟨K.p, 1, none⟩ x) ({ K with nv := x, nt := r } : Kw).own := by
  obtain ⟨xs, ho, he⟩ := h.row
  have hvp : K.ev.ownBlock ≠ some K.p := fun e => by
    obtain ⟨C, hC⟩ := row_block ho e
    rw [h.hp] at hC
    simp at hC
  have hs := grown_set W K.p 1 x
  have hblk : ∀ i, i < W.heap.size → i ≠ K.p → (W.setCell ⟨K.p, 1, none⟩ x).heap[i]? = W.heap[i]? := fun i hi hn => hs.block i hi fun e => hn (by simpa using e)
  have hb5 : ∀ b C z, W.heap[b]? = some (.cells C 5 z) → ¬ F b → (W.setCell ⟨K.p, 1, none⟩ x).heap[b]? = W.heap[b]? ∧ ¬ F b := fun b C z hb hf => by
    refine ⟨hblk b (Array.getElem?_eq_some_iff.1 hb).1 fun hc => ?_, hf⟩
    subst hc
    rw [h.hp] at hb
    simp at hb
  refine ⟨⟨(set_cell29 x h.hp).2, h.bp, hx.keep hb5, ⟨xs, row_keep ho fun i hi => hblk i (ho.lt i hi).2 fun e => hvp (e ▸ hi), he.imp fun _ _ hx => hx.keep hb5⟩, h.out, h.apart⟩, ⟨hs.os, hs.tape, hs.output, hs.size, fun i hi hn => ⟨hblk i hi fun e => hn (.inl e), hn⟩⟩⟩

theorem Kr.cells {w : World} {K : Kw} (h : w.heap[K.p]? = some (.cells #[ptr K.tp, K.nv, K.ev] 78 (0, 0))) : w.cell? ⟨K.p, 0, none⟩ = some (ptr K.tp) ∧ w.cell? ⟨K.p, 1, none⟩ = some K.nv ∧ w.cell? ⟨K.p, 2, none⟩ = some K.ev ∧ w.frozen? ⟨K.p, 1, none⟩ = false ∧ w.frozen? ⟨K.p, 2, none⟩ = false :=
  ⟨cell_of_row w K.p 0 _ _ _ h, cell_of_row w K.p 1 _ _ _ h, cell_of_row w K.p 2 _ _ _ h, frozen_of h, frozen_of h⟩

end Go.Proofs.YtelkkpomehgcjaaGreat
