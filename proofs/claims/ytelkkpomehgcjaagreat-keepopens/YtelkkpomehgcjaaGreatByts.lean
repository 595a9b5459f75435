/-
  Slices of bytes; what reads as bytes.
-/
import Derived.Test.YtelkkpomehgcjaaGreatRowv
namespace Go.Proofs.YtelkkpomehgcjaaGreat
open Go.RowKit
attribute [local go_sem] cell?_more frozen?_more setCell_more size_more tape_more drew_more drewN_more more_drew more_drewN more_more one_out plus_out plus_end lt_one le_p2 le_p3 le_p4 le_p5 le_p6 le_p7 le_p8 le_p9 le_p10 le_p11 le_p12 le_p13 le_p14 le_p15 le_p16 le_p17 le_p18 le_p19 le_p20 le_p21 le_p22 le_p23 le_p24 le_q0 le_q1 lt_q1 le_q2 lt_q2 le_q3 lt_q3 le_q4 lt_q4 le_q5 lt_q5 le_q6 lt_q6 le_q7 lt_q7 le_q8 lt_q8 le_q9 lt_q9 le_q10 lt_q10 le_q11 lt_q11 le_q12 lt_q12 le_q13 lt_q13 le_q14 lt_q14 le_q15 lt_q15 le_q16 lt_q16 le_q17 lt_q17 le_q18 lt_q18 le_q19 lt_q19 le_q20 lt_q20 le_q21 lt_q21 le_q22 lt_q22 le_q23 lt_q23 le_q24 lt_q24

def cellsB (l : List UInt8) : List Value := l.map fun b => Value.int .u8 (b.toNat : Int)

theorem cellsB_length (l : List UInt8) : (cellsB l).length = l.length := by simp [cellsB]
theorem cellsB_append (a b : List UInt8) : cellsB (a ++ b) = cellsB a ++ cellsB b := by simp [cellsB]
theorem cellsB_one (l : List UInt8) : ∀ u ∈ cellsB l, u.oneCell' = true := by
  intro u hu
  obtain ⟨b, _, rfl⟩ := List.mem_map.1 hu
  rfl
theorem cellsB_cut (l : List UInt8) (lo hi : Nat) : ((cellsB l).take hi).drop lo = cellsB ((l.take hi).drop lo) := by simp [cellsB, List.map_take, List.map_drop]

/-- The slice v reads as the bytes l. -/
def Byt (w : World) (v : Value) (l : List UInt8) : Prop := LstV w v (cellsB l)

theorem Byt.adds {w w' : World} {v : Value} {l : List UInt8} (h : Byt w v l) (ha : Adds w w') : Byt w' v l := LstV.adds h ha

def LiesB (w : World) (b off : Nat) (l : List UInt8) : Prop := ∀ j (h : j < l.length), w.cell? ⟨b, off + j, none⟩ = some (.int .u8 (l[j].toNat : Int))

theorem Byt.open {w : World} {v : Value} {l : List UInt8} (h : Byt w v l) : ∃ ao cap, v = .slice ao l.length cap ∧ l.length ≤ cap ∧ (l = [] ∨ ∃ b off, ao = some ⟨b, off, none⟩ ∧ b < w.heap.size ∧ LiesB w b off l) := by
  obtain ⟨ao, cap, rfl, hc, h⟩ := h
  rw [cellsB_length] at hc ⊢
  refine ⟨ao, cap, rfl, hc, ?_⟩
  rcases h with h | ⟨b, off, rfl, hb, hl⟩
  · exact .inl (by simpa [cellsB] using h)
  · refine .inr ⟨b, off, rfl, hb, fun j hj => ?_⟩
    have := hl j (by rw [cellsB_length]; exact hj)
    simpa [cellsB] using this

theorem Byt.cut {w : World} {ao : Option Addr} {cap lo hi n : Nat} {l : List UInt8} (h : Byt w (.slice ao n cap) l) (h1 : lo ≤ hi) (h2 : hi ≤ l.length) :
    Byt w (.slice (if cap = lo then ao else ao.map (·.add lo)) (hi - lo) (cap - lo)) ((l.take hi).drop lo) := by
  have hn : n = (cellsB l).length := by
    obtain ⟨ao', cap', he, _⟩ := h
    cases he
    rfl
  subst hn
  have := LstV.cut (lo := lo) (hi := hi) h h1 (by rw [cellsB_length]; exact h2)
  rw [cellsB_cut] at this
  exact this

theorem Byt.len {w : World} {ao : Option Addr} {n cap : Nat} {l : List UInt8} (h : Byt w (.slice ao n cap) l) : n = l.length := by
  obtain ⟨ao', cap', he, _⟩ := h
  cases he
  exact cellsB_length l

end Go.Proofs.YtelkkpomehgcjaaGreat
