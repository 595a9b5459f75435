/-
  Changes and subscriptions in memory, and which feeds may be.
-/
import Derived.Test.YtgnhkpihlghbmaaDocs
import Derived.Test.YtgnhkpihlghbmaaCmpl
namespace Go.Proofs.Ytgnhkpihlghbmaa
open Go.RowKit
attribute [local go_sem] cell?_more frozen?_more setCell_more size_more tape_more drew_more drewN_more more_drew more_drewN one_out plus_out plus_end lt_one le_p2 le_p3 le_p4 le_p5 le_p6 le_p7 le_p8 le_p9 le_p10 le_p11 le_p12 le_p13 le_p14 le_p15 le_p16 le_p17 le_p18 le_p19 le_p20 le_p21 le_p22 le_p23 le_p24 le_q0 le_q1 lt_q1 le_q2 lt_q2 le_q3 lt_q3 le_q4 lt_q4 le_q5 lt_q5 le_q6 lt_q6 le_q7 lt_q7 le_q8 lt_q8 le_q9 lt_q9 le_q10 lt_q10 le_q11 lt_q11 le_q12 lt_q12 le_q13 lt_q13 le_q14 lt_q14 le_q15 lt_q15 le_q16 lt_q16 le_q17 lt_q17 le_q18 lt_q18 le_q19 lt_q19 le_q20 lt_q20 le_q21 lt_q21 le_q22 lt_q22 le_q23 lt_q23 le_q24 lt_q24

/-- A change: where it stands, its key, whether there is a document, and which. -/
structure Ch where
  pos : Int
  key : ByteArray
  has : Bool
  doc : List F

/-- A subscription. -/
structure Sb where
  name : ByteArray
  pos : Int

/-- The cells of the changes cs, from ⟨b, off⟩ on. -/
def LiesH (w : World) (b off : Nat) (cs : List Ch) : Prop := ∀ j (h : j < cs.length), ∃ v,
  w.cell? ⟨b, off + j * 4, none⟩ = some (.int .i64 cs[j].pos) ∧ w.cell? ⟨b, off + j * 4 + 1, none⟩ = some (.string cs[j].key) ∧ w.cell? ⟨b, off + j * 4 + 2, none⟩ = some (.bool cs[j].has) ∧
  w.cell? ⟨b, off + j * 4 + 3, none⟩ = some v ∧ Lst w v cs[j].doc

/-- The slice value s reads as the changes cs. -/
def LstH (w : World) (s : Value) (cs : List Ch) : Prop :=
  ∃ ao cap, s = .slice ao cs.length cap ∧ cs.length ≤ cap ∧ (cs = [] ∨ ∃ b off, ao = some ⟨b, off, none⟩ ∧ b < w.heap.size ∧ LiesH w b off cs)

theorem LiesH.adds {w w' : World} {b off : Nat} {cs : List Ch} (h : LiesH w b off cs) (ha : Adds w w') (hb : b < w.heap.size) : LiesH w' b off cs := by
  intro j hj
  obtain ⟨v, h0, h1, h2, h3, h4⟩ := h j hj
  have hq := ha.below
  exact ⟨v, (hq.cell (by exact hb)).trans h0, (hq.cell (by exact hb)).trans h1, (hq.cell (by exact hb)).trans h2, (hq.cell (by exact hb)).trans h3, h4.adds ha⟩

theorem LstH.adds {w w' : World} {s : Value} {cs : List Ch} (h : LstH w s cs) (ha : Adds w w') : LstH w' s cs := by
  obtain ⟨ao, cap, rfl, hc, h | ⟨b, off, rfl, hlt, hl⟩⟩ := h
  · exact ⟨ao, cap, rfl, hc, .inl h⟩
  · exact ⟨_, cap, rfl, hc, .inr ⟨b, off, rfl, Nat.lt_of_lt_of_le hlt ha.below.size, hl.adds ha hlt⟩⟩

/-- The cells of the subscriptions ss, from ⟨b, off⟩ on. -/
def LiesS (w : World) (b off : Nat) (ss : List Sb) : Prop := ∀ j (h : j < ss.length),
  w.cell? ⟨b, off + j * 2, none⟩ = some (.string ss[j].name) ∧ w.cell? ⟨b, off + j * 2 + 1, none⟩ = some (.int .i64 ss[j].pos)

def LstS (w : World) (s : Value) (ss : List Sb) : Prop :=
  ∃ ao cap, s = .slice ao ss.length cap ∧ ss.length ≤ cap ∧ (ss = [] ∨ ∃ b off, ao = some ⟨b, off, none⟩ ∧ b < w.heap.size ∧ LiesS w b off ss)

theorem LiesS.adds {w w' : World} {b off : Nat} {ss : List Sb} (h : LiesS w b off ss) (ha : Adds w w') (hb : b < w.heap.size) : LiesS w' b off ss := by
  intro j hj
  obtain ⟨h0, h1⟩ := h j hj
  have hq := ha.below
  exact ⟨(hq.cell (by exact hb)).trans h0, (hq.cell (by exact hb)).trans h1⟩

theorem LstS.adds {w w' : World} {s : Value} {ss : List Sb} (h : LstS w s ss) (ha : Adds w w') : LstS w' s ss := by
  obtain ⟨ao, cap, rfl, hc, h | ⟨b, off, rfl, hlt, hl⟩⟩ := h
  · exact ⟨ao, cap, rfl, hc, .inl h⟩
  · exact ⟨_, cap, rfl, hc, .inr ⟨b, off, rfl, Nat.lt_of_lt_of_le hlt ha.below.size, hl.adds ha hlt⟩⟩

/-- What lies in a slice from k on. -/
theorem LiesH.drop {w : World} {b off : Nat} {cs : List Ch} (h : LiesH w b off cs) (k : Nat) : LiesH w b (off + k * 4) (cs.drop k) := by
  intro j hj
  have hj' : k + j < cs.length := by simp at hj; omega
  obtain ⟨v, h0, h1, h2, h3, h4⟩ := h (k + j) hj'
  have e : off + (k + j) * 4 = off + k * 4 + j * 4 := by omega
  rw [e] at h0 h1 h2 h3
  exact ⟨v, by simpa using h0, by simpa using h1, by simpa using h2, h3, by simpa using h4⟩

theorem LiesH.take {w : World} {b off : Nat} {cs : List Ch} (h : LiesH w b off cs) (k : Nat) : LiesH w b off (cs.take k) := by
  intro j hj
  have hj' : j < cs.length := by simp at hj; omega
  obtain ⟨v, h0, h1, h2, h3, h4⟩ := h j hj'
  exact ⟨v, by simpa using h0, by simpa using h1, by simpa using h2, h3, by simpa using h4⟩

def GoodH (cs : List Ch) (t : Int) (k : Nat) (h : k < cs.length) : Prop := cs[k].pos = t + 1 + k ∧ isKey cs[k].key = true ∧ May cs[k].doc ∧ (cs[k].has = true ∨ cs[k].doc.length = 0)

/-- The changes may stand behind t. -/
def Follow (cs : List Ch) (t : Int) : Prop := ∀ k (h : k < cs.length), GoodH cs t k h
instance (cs : List Ch) (t : Int) : Decidable (Follow cs t) := by unfold Follow GoodH; infer_instance
theorem follow_bad {cs : List Ch} {t : Int} {k : Nat} {h : k < cs.length} (hb : ¬ GoodH cs t k h) : decide (Follow cs t) = false := decide_eq_false fun hm => hb (hm k h)

def GoodS (ss : List Sb) (lo hi : Int) (k : Nat) (h : k < ss.length) : Prop := isKey ss[k].name = true ∧ lo ≤ ss[k].pos ∧ ss[k].pos ≤ hi ∧ (0 < k → lessP ss[k - 1].name ss[k].name = true)

/-- The subscriptions may be, from lo to hi. -/
def Subsc (ss : List Sb) (lo hi : Int) : Prop := ss.length ≤ 8 ∧ ∀ k (h : k < ss.length), GoodS ss lo hi k h
instance (ss : List Sb) (lo hi : Int) : Decidable (Subsc ss lo hi) := by unfold Subsc GoodS; infer_instance
theorem subsc_bad {ss : List Sb} {lo hi : Int} {k : Nat} {h : k < ss.length} (hb : ¬ GoodS ss lo hi k h) : decide (Subsc ss lo hi) = false := decide_eq_false fun hm => hb (hm.2 k h)

/-- A feed. -/
structure Fd where
  base : Int
  total : Int
  ch : List Ch
  sb : List Sb

def MayF (f : Fd) : Prop := 0 ≤ f.base ∧ f.base ≤ f.total ∧ f.total ≤ 2147483647 ∧ (f.ch.length : Int) = f.total - f.base ∧ Follow f.ch f.base ∧ Subsc f.sb f.base f.total
instance (f : Fd) : Decidable (MayF f) := by unfold MayF; infer_instance

/-- A feed as the model holds it: two numbers, two slices. -/
def LstF (w : World) (v : Value) (f : Fd) : Prop := ∃ s t, v = .agg #[.int .i64 f.base, .int .i64 f.total, s, t] ∧ LstH w s f.ch ∧ LstS w t f.sb
theorem LstF.adds {w w' : World} {v : Value} {f : Fd} (h : LstF w v f) (ha : Adds w w') : LstF w' v f := by
  obtain ⟨s, t, e, h1, h2⟩ := h
  exact ⟨s, t, e, h1.adds ha, h2.adds ha⟩

end Go.Proofs.Ytgnhkpihlghbmaa
