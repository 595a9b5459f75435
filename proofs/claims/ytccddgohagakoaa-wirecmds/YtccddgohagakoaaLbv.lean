/-
  Rows of bytes that the call owns, and that are read.
-/
import Derived.Test.YtccddgohagakoaaSums
import Derived.ArgAppend
import Derived.Laws.AppendOwn
import Derived.Lib.AppendZerosOnto
import Derived.Lib.BufSteps
import Derived.Lib.BufferRead
import Derived.Lib.SlBytesConst
import Derived.Lib.SlBytesRow
import Derived.Laws.BytesString
namespace Go.Proofs.Ytccddgohagakoaa
open Go.RowKit
attribute [local go_sem] cell?_more frozen?_more setCell_more size_more tape_more drew_more drewN_more more_drew more_drewN one_out plus_out plus_end lt_one le_p2 le_p3 le_p4 le_p5 le_p6 le_p7 le_p8 le_p9 le_p10 le_p11 le_p12 le_p13 le_p14 le_p15 le_p16 le_p17 le_p18 le_p19 le_p20 le_p21 le_p22 le_p23 le_p24 le_q0 le_q1 lt_q1 le_q2 lt_q2 le_q3 lt_q3 le_q4 lt_q4 le_q5 lt_q5 le_q6 lt_q6 le_q7 lt_q7 le_q8 lt_q8 le_q9 lt_q9 le_q10 lt_q10 le_q11 lt_q11 le_q12 lt_q12 le_q13 lt_q13 le_q14 lt_q14 le_q15 lt_q15 le_q16 lt_q16 le_q17 lt_q17 le_q18 lt_q18 le_q19 lt_q19 le_q20 lt_q20 le_q21 lt_q21 le_q22 lt_q22 le_q23 lt_q23 le_q24 lt_q24

theorem Try.info5 : (Try.prog.info? 5).map (fun i => (i.zero, i.size, i.bytes)) = some (some (.int .u8 0), 1, 1) := by kernel_rfl



/-- The cells xs lie in block b from off on. -/
def LiesV (w : World) (b off : Nat) (xs : List Value) : Prop := ∀ j (h : j < xs.length), w.cell? ⟨b, off + j, none⟩ = some xs[j]

/-- The slice v reads as xs. -/
def LstV (w : World) (v : Value) (xs : List Value) : Prop :=
  ∃ ao cap, v = .slice ao xs.length cap ∧ xs.length ≤ cap ∧ (xs = [] ∨ ∃ b off, ao = some ⟨b, off, none⟩ ∧ b < w.heap.size ∧ LiesV w b off xs)

theorem LiesV.adds {w w' : World} {b off : Nat} {xs : List Value} (h : LiesV w b off xs) (hb : b < w.heap.size) (ha : Adds w w') : LiesV w' b off xs := by
  obtain ⟨os, k, rfl⟩ := ha
  intro j hj
  rw [cell?_more _ _ _ _ hb]
  exact h j hj

theorem LstV.adds {w w' : World} {v : Value} {xs : List Value} (h : LstV w v xs) (ha : Adds w w') : LstV w' v xs := by
  obtain ⟨ao, cap, rfl, hc, h⟩ := h
  refine ⟨ao, cap, rfl, hc, ?_⟩
  rcases h with h | ⟨b, off, rfl, hb, hl⟩
  · exact .inl h
  · refine .inr ⟨b, off, rfl, ?_, hl.adds hb ha⟩
    exact Nat.lt_of_lt_of_le hb ha.below.size

theorem LstV.below {w w' : World} {v : Value} {xs : List Value} (h : LstV w v xs) (hb : Below w.heap.size w w') : LstV w' v xs := h.adds (Adds.of hb)

theorem add_at (b off j : Nat) : (⟨b, off, none⟩ : Addr).add j = ⟨b, off + j, none⟩ := by
  unfold Addr.add
  by_cases h : j = 0 <;> simp [h]

theorem LiesV.cells {w : World} {b off : Nat} {xs : List Value} (h : LiesV w b off xs) : ∀ j u, xs[j]? = some u → w.cell? ((⟨b, off, none⟩ : Addr).add j) = some u := by
  intro j u hu
  obtain ⟨hj, rfl⟩ := List.getElem?_eq_some_iff.1 hu
  rw [add_at]
  exact h j hj

theorem liesV_of {w : World} {b off : Nat} {xs : List Value} (h : ∀ j u, xs[j]? = some u → w.cell? ((⟨b, off, none⟩ : Addr).add j) = some u) : LiesV w b off xs := by
  intro j hj
  rw [← add_at]
  exact h j xs[j] (by simp [hj])

/-- A slice of a slice. -/
theorem LstV.cut {w : World} {ao : Option Addr} {cap lo hi : Nat} {xs : List Value} (h : LstV w (.slice ao xs.length cap) xs) (h1 : lo ≤ hi) (h2 : hi ≤ xs.length) :
    LstV w (.slice (if cap = lo then ao else ao.map (·.add lo)) (hi - lo) (cap - lo)) ((xs.take hi).drop lo) := by
  obtain ⟨ao', cap', he, hc, h⟩ := h
  cases he
  have hlen : ((xs.take hi).drop lo).length = hi - lo := by simp; omega
  refine ⟨_, cap - lo, by rw [hlen], by rw [hlen]; omega, ?_⟩
  rcases h with rfl | ⟨b, off, rfl, hb, hl⟩
  · exact .inl (by simp)
  · by_cases he : hi = lo
    · subst he
      exact .inl (List.eq_nil_of_length_eq_zero (by rw [hlen]; omega))
    · have hne : cap ≠ lo := by omega
      refine .inr ⟨b, off + lo, by rw [if_neg hne]; simp [Addr.add], hb, ?_⟩
      intro j hj
      rw [hlen] at hj
      have := hl (lo + j) (by omega)
      rw [Nat.add_assoc, this]
      simp

theorem new_block (w : World) (o : Obj) : (w.alloc o).heap[w.heap.size]? = some o := by
  show (w.heap.push o)[w.heap.size]? = _
  simp

/-- The slice v has the cells xs, in a block of type e from B on that the call owns; below B nothing has turned since W0. -/
def OwnV (B : Nat) (e : TypeId) (v : Value) (xs : List Value) (W0 w : World) : Prop := w.ownsRow B e 1 v xs.length xs ∧ Below B W0 w ∧ B ≤ w.heap.size

theorem OwnV.nil (B : Nat) (e : TypeId) (w : World) (hB : B ≤ w.heap.size) : OwnV B e (.slice none 0 0) [] w w := ⟨World.ownsRow_nil _ _ _ _, Below.refl _ _, hB⟩

theorem OwnV.below {B : Nat} {e : TypeId} {v : Value} {xs : List Value} {W0 w w' : World} (h : OwnV B e v xs W0 w) (hb : Below w.heap.size w w') : OwnV B e v xs W0 w' := by
  have hg : w.grownBy w' none := ⟨hb.os, hb.tape, hb.output, hb.size, fun k hk _ => hb.block k hk⟩
  refine ⟨h.1.kept hg ?_, h.2.1.trans (hb.mono h.2.2), Nat.le_trans h.2.2 hb.size⟩
  cases v.ownBlock with
  | none => exact .inl rfl
  | some k => exact .inr (by simp)

theorem OwnV.adds {B : Nat} {e : TypeId} {v : Value} {xs : List Value} {W0 w w' : World} (h : OwnV B e v xs W0 w) (hb : Adds w w') : OwnV B e v xs W0 w' := h.below hb.below
theorem OwnV.alloc {B : Nat} {e : TypeId} {v : Value} {xs : List Value} {W0 w : World} (h : OwnV B e v xs W0 w) (o : Obj) : OwnV B e v xs W0 (w.alloc o) := h.adds ((Adds.refl _).alloc o)

theorem OwnV.lst {B : Nat} {e : TypeId} {v : Value} {xs : List Value} {W0 w : World} (h : OwnV B e v xs W0 w) : LstV w v xs := by
  have hc := fun g => h.1.cells (g := g)
  have hlt := h.1.lt
  rcases h.1.2 with ⟨rfl, hn⟩ | ⟨g, cap, cur, rfl, hb, hg, hnc, hcm, hcs, htk⟩
  · have : xs = [] := List.eq_nil_of_length_eq_zero hn
    subst this
    exact ⟨none, 0, rfl, Nat.le_refl _, .inl rfl⟩
  · exact ⟨_, cap, rfl, hnc, .inr ⟨g, 0, rfl, (hlt g rfl).2, liesV_of (hc g rfl)⟩⟩

/-- append to such a row, of cells that lie somewhere. -/
theorem ownV_append {t e : TypeId} {z : Value} {nb : Nat} (hu : Try.prog.underlying t = some (.slice e)) (hinfo : (Try.prog.info? e).map (fun i => (i.zero, i.size, i.bytes)) = some (some z, 1, nb)) (hz1 : z.oneCell' = true) (hnb : nb ≤ 64)
    (w : World) (B : Nat) (ty : TypeId) (v : Value) (xs : List Value) (W0 : World) (h : OwnV B e v xs W0 w) (x : Value) (ys : List Value) (hx : LstV w x ys) (hys : ∀ u ∈ ys, u.oneCell' = true) (hlen : xs.length + ys.length ≤ 1000000) :
    ∃ v' w', (Builtin.append_ #[t, t] ty #[v, x]).run Try.prog w = .ok v' w' ∧ OwnV B e v' (xs ++ ys) W0 w' ∧ w.grownBy w' v.ownBlock := by
  obtain ⟨i0, hi, hz0, hzs, hzb⟩ := info_parts hinfo
  obtain ⟨ao, cap, rfl, hcap, hxs⟩ := hx
  have key : ∀ v' w', w'.ownsRow B e 1 v' (xs.length + ys.length) (xs ++ ys) → w.grownBy w' v.ownBlock → OwnV B e v' (xs ++ ys) W0 w' := by
    intro v' w' h2 h3
    refine ⟨by rw [List.length_append]; exact h2, ?_, Nat.le_trans h.2.2 h3.size⟩
    refine ⟨h3.os.trans h.2.1.os, h3.tape.trans h.2.1.tape, h3.output.trans h.2.1.output, Nat.le_trans h.2.1.size h3.size, fun k hk => ?_⟩
    rw [h3.block k (Nat.lt_of_lt_of_le hk h.2.2) ?_]
    · exact h.2.1.block k hk
    · intro e
      have := h.1.lt k e.symm
      omega
  rcases hxs with rfl | ⟨b, off, rfl, hb, hl⟩
  · have hrun : (Builtin.append_ #[t, t] ty #[v, .slice ao 0 cap]).run Try.prog w = .ok v w := by
      rcases h.1.2 with ⟨rfl, hn⟩ | ⟨g, cp, cur, rfl, hbb, hg, hnc, hcm, hcs, htk⟩
      · cases ao <;> simp [Builtin.append_, run_underlying hu, sizeOf, typeInfo, hi, Builtin.lenOf, Builtin.firstCells, loadCells, loadCellsFrom]
      · cases ao <;> simp [Builtin.append_, run_underlying hu, sizeOf, typeInfo, hi, Builtin.lenOf, Builtin.firstCells, loadCells, loadCellsFrom, hnc, storeCells]
    refine ⟨v, w, by simpa using hrun, ?_, ⟨rfl, rfl, rfl, Nat.le_refl _, fun _ _ _ => rfl⟩⟩
    rw [List.append_nil]
    exact h
  · have hsz : (xs.length + ys.length) * nb ≤ 140737488355328 := Nat.le_trans (Nat.mul_le_mul hlen hnb) (by decide)
    obtain ⟨v', w', h1, h2, h3, _⟩ := run_append_own (P := Try.prog) w B t ty e i0 z 1 nb hu hi hz0 hzs hzb (by cases z <;> first | rfl | cases hz1) (by decide) v xs.length xs h.1 ⟨b, off, none⟩ ys.length cap ys (by omega) hl.cells hys (by unfold maxLen; omega) hsz h.2.2
    exact ⟨v', w', h1, key v' w' h2 h3, h3⟩



def cellsB (l : List UInt8) : List Value := l.map fun b => Value.int .u8 (b.toNat : Int)

theorem cellsB_length (l : List UInt8) : (cellsB l).length = l.length := by simp [cellsB]
theorem cellsB_append (a b : List UInt8) : cellsB (a ++ b) = cellsB a ++ cellsB b := by simp [cellsB]
theorem cellsB_one (l : List UInt8) : ∀ u ∈ cellsB l, u.oneCell' = true := by
  intro u hu
  obtain ⟨b, _, rfl⟩ := List.mem_map.1 hu
  rfl
theorem cellsB_cut (l : List UInt8) (lo hi : Nat) : ((cellsB l).take hi).drop lo = cellsB ((l.take hi).drop lo) := by simp [cellsB, List.map_take, List.map_drop]

/-- The slice v reads as the bytes l. -/
def Byt (w : World) (v : Value) (l : List UInt8) : Prop := LstV w v (cellsB l)

theorem Byt.adds {w w' : World} {v : Value} {l : List UInt8} (h : Byt w v l) (ha : Adds w w') : Byt w' v l := LstV.adds h ha

def LiesB (w : World) (b off : Nat) (l : List UInt8) : Prop := ∀ j (h : j < l.length), w.cell? ⟨b, off + j, none⟩ = some (.int .u8 (l[j].toNat : Int))

theorem Byt.open {w : World} {v : Value} {l : List UInt8} (h : Byt w v l) : ∃ ao cap, v = .slice ao l.length cap ∧ l.length ≤ cap ∧ (l = [] ∨ ∃ b off, ao = some ⟨b, off, none⟩ ∧ b < w.heap.size ∧ LiesB w b off l) := by
  obtain ⟨ao, cap, rfl, hc, h⟩ := h
  rw [cellsB_length] at hc ⊢
  refine ⟨ao, cap, rfl, hc, ?_⟩
  rcases h with h | ⟨b, off, rfl, hb, hl⟩
  · exact .inl (by simpa [cellsB] using h)
  · refine .inr ⟨b, off, rfl, hb, fun j hj => ?_⟩
    have := hl j (by rw [cellsB_length]; exact hj)
    simpa [cellsB] using this

theorem Byt.cut {w : World} {ao : Option Addr} {cap lo hi n : Nat} {l : List UInt8} (h : Byt w (.slice ao n cap) l) (h1 : lo ≤ hi) (h2 : hi ≤ l.length) :
    Byt w (.slice (if cap = lo then ao else ao.map (·.add lo)) (hi - lo) (cap - lo)) ((l.take hi).drop lo) := by
  have hn : n = (cellsB l).length := by
    obtain ⟨ao', cap', he, _⟩ := h
    cases he
    rfl
  subst hn
  have := LstV.cut (lo := lo) (hi := hi) h h1 (by rw [cellsB_length]; exact h2)
  rw [cellsB_cut] at this
  exact this

theorem Byt.len {w : World} {ao : Option Addr} {n cap : Nat} {l : List UInt8} (h : Byt w (.slice ao n cap) l) : n = l.length := by
  obtain ⟨ao', cap', he, _⟩ := h
  cases he
  exact cellsB_length l

theorem Byt.take {w : World} {ao : Option Addr} {cap hi n : Nat} {l : List UInt8} (h : Byt w (.slice ao n cap) l) (h2 : hi ≤ l.length) : Byt w (.slice ao hi cap) (l.take hi) := by
  have := h.cut (lo := 0) (hi := hi) (by omega) h2
  rw [List.drop_zero, Nat.sub_zero, Nat.sub_zero] at this
  have e : ao.map (·.add 0) = ao := by cases ao <;> simp [Addr.add]
  rw [e] at this
  simpa using this

theorem Byt.str {w : World} {v : Value} {l : List UInt8} (h : Byt w v l) : (convert 26 9 v).run Try.prog w = .ok (.string ⟨l.toArray⟩) w := by
  obtain ⟨ao, cap, rfl, hcap, ho⟩ := h.open
  rcases ho with rfl | ⟨b, off, rfl, hb, hl⟩
  · rw [run_convert_bytes_string w 26 9 5 _ _ _ Try.underlying26 Try.underlying5 Try.underlying9]
    cases ao <;> simp [Conv.bytesToString, loadCells]
    all_goals rfl
  · have := Lib.run_convert_whole (P := Try.prog) w 26 5 9 Try.underlying26 Try.underlying5 Try.underlying9 b off ⟨l.toArray⟩ (fun i hi => by
      have hi' : i < l.length := hi
      rw [hl i hi']
      rfl) cap
    exact this

end Go.Proofs.Ytccddgohagakoaa
