/-
  An argument of type []Op opened: what is within them reads too.
-/
import Derived.Test.YtgnhkpihlghbmaaSop
namespace Go.Proofs.Ytgnhkpihlghbmaa
open Go.RowKit
attribute [local go_sem] cell?_more frozen?_more setCell_more size_more tape_more drew_more drewN_more more_drew more_drewN one_out plus_out plus_end lt_one le_p2 le_p3 le_p4 le_p5 le_p6 le_p7 le_p8 le_p9 le_p10 le_p11 le_p12 le_p13 le_p14 le_p15 le_p16 le_p17 le_p18 le_p19 le_p20 le_p21 le_p22 le_p23 le_p24 le_q0 le_q1 lt_q1 le_q2 lt_q2 le_q3 lt_q3 le_q4 lt_q4 le_q5 lt_q5 le_q6 lt_q6 le_q7 lt_q7 le_q8 lt_q8 le_q9 lt_q9 le_q10 lt_q10 le_q11 lt_q11 le_q12 lt_q12 le_q13 lt_q13 le_q14 lt_q14 le_q15 lt_q15 le_q16 lt_q16 le_q17 lt_q17 le_q18 lt_q18 le_q19 lt_q19 le_q20 lt_q20 le_q21 lt_q21 le_q22 lt_q22 le_q23 lt_q23 le_q24 lt_q24

open Go.ChangeShapes Go.WideShapes Go.ChangeAt Go.RowKit Go.Joins Go.ChangeMaps

set_option maxRecDepth 20000 in
theorem trod_ops2 {H : Type} {enc : TypeId × Value → H} {w : World} {fuel : Nat} {c : Value} {x : DataW H × List MemPlace} (hf : DataW.trod enc Try.prog w 0 (fun _ => true) true fuel 23 [c] = some x) : ∃ os, LstP w c os ∧ ∀ v ∈ os, ∃ xs, LstP w v.lv xs := by
  obtain ⟨l, ao, cap, rfl, hle, h⟩ := open_gen (α := Qv) (R := fun v cs => cs = v.cells ∧ QvRaw w v ∧ ∃ xs, LstP w v.lv xs) Try.underlying23 Try.cells31 (by omega) (fun n cs y h _ => by
    obtain ⟨v, h1, h2, m, z, hz⟩ := trod_op h
    exact ⟨v, h1, h2, trod_ops hz⟩) hf
  refine ⟨l, ⟨ao, cap, rfl, hle, ?_⟩, ?_⟩
  · rcases h with h | ⟨b, off, rfl, hb, hh⟩
    · exact .inl h
    · refine .inr ⟨b, off, rfl, hb, fun j hj => ?_⟩
      obtain ⟨cs, ⟨rfl, hr, _⟩, _, hc⟩ := hh j hj
      exact ⟨⟨hc 0 (by simp [Qv.cells]), hc 1 (by simp [Qv.cells]), hc 2 (by simp [Qv.cells]), hc 3 (by simp [Qv.cells]), hc 4 (by simp [Qv.cells]), hc 5 (by simp [Qv.cells]), hc 6 (by simp [Qv.cells]), hc 7 (by simp [Qv.cells]), hc 8 (by simp [Qv.cells]), hc 9 (by simp [Qv.cells]), hc 10 (by simp [Qv.cells])⟩, hr⟩
  · intro v hv
    rcases h with rfl | ⟨b, off, rfl, hb, hh⟩
    · cases hv
    · obtain ⟨j, hj, rfl⟩ := List.mem_iff_getElem.1 hv
      obtain ⟨cs, ⟨rfl, _, hx⟩, _, _⟩ := hh j hj
      exact hx

set_option maxRecDepth 20000 in
theorem open_ops {H : Type} {enc : TypeId × Value → H} {w : World} {b0 : Nat} {r : Reach} {v : Value} {d : DataW H} {ps : List MemPlace}
    (hv : Value.okWide Try.prog w r b0 23 v) (h : DataW.Trod enc Try.prog w 0 (fun _ => true) true 23 v d ps) : ∃ os, LstP w v os ∧ ∀ x ∈ os, ∃ xs, LstP w x.lv xs := by
  obtain ⟨ao, len, cap, rfl⟩ := okWide_slice Try.underlying23 hv
  obtain ⟨fuel, hf⟩ := h
  exact trod_ops2 hf

end Go.Proofs.Ytgnhkpihlghbmaa
