/-
  An argument of type Op opened: what is asked, and what is within it. An argument of type []Op opened: what is within them reads too.
-/
import Derived.Test.YtgnhkpihlghbmaaIxop
import Derived.Test.YtgnhkpihlghbmaaMsla
namespace Go.Proofs.Ytgnhkpihlghbmaa
open Go.RowKit
attribute [local go_sem] cell?_more frozen?_more setCell_more size_more tape_more drew_more drewN_more more_drew more_drewN one_out plus_out plus_end lt_one le_p2 le_p3 le_p4 le_p5 le_p6 le_p7 le_p8 le_p9 le_p10 le_p11 le_p12 le_p13 le_p14 le_p15 le_p16 le_p17 le_p18 le_p19 le_p20 le_p21 le_p22 le_p23 le_p24 le_q0 le_q1 lt_q1 le_q2 lt_q2 le_q3 lt_q3 le_q4 lt_q4 le_q5 lt_q5 le_q6 lt_q6 le_q7 lt_q7 le_q8 lt_q8 le_q9 lt_q9 le_q10 lt_q10 le_q11 lt_q11 le_q12 lt_q12 le_q13 lt_q13 le_q14 lt_q14 le_q15 lt_q15 le_q16 lt_q16 le_q17 lt_q17 le_q18 lt_q18 le_q19 lt_q19 le_q20 lt_q20 le_q21 lt_q21 le_q22 lt_q22 le_q23 lt_q23 le_q24 lt_q24

open Go.ChangeShapes Go.WideShapes Go.ChangeAt Go.RowKit Go.Joins Go.ChangeMaps

theorem Try.cells31 : Try.prog.cellsOf 31 = 11 := by kernel_rfl
theorem Try.cells23 : Try.prog.cellsOf 23 = 1 := by kernel_rfl
theorem Try.cells22 : Try.prog.cellsOf 22 = 1 := by kernel_rfl
theorem Try.cells26 : Try.prog.cellsOf 26 = 1 := by kernel_rfl

def Qv.cells (v : Qv) : List Value := [.int .i64 v.q.kind, .string v.q.key, .string v.q.to, v.dv, v.wv, .bool v.q.has, .int .i64 v.q.n, .int .i64 v.q.most, v.lv, v.sv, v.nv]

theorem trod_shape {H : Type} {enc : TypeId × Value → H} {w : World} {t e : TypeId} {fuel : Nat} {c : Value} {x : DataW H × List MemPlace} (ht : Try.prog.underlying t = some (.slice e)) (hf : DataW.trod enc Try.prog w 0 (fun _ => true) true fuel t [c] = some x) : ∃ a n m, c = .slice a n m := by
  rcases Deep.open_slice ht hf with ⟨hcs, hx⟩ | ⟨a, len, cap, m, n, D, Pl, hcs, _⟩
  · exact ⟨none, 0, 0, by simpa using hcs⟩
  · exact ⟨_, _, _, by simpa using hcs⟩

set_option maxRecDepth 20000 in
theorem trod_op {H : Type} {enc : TypeId × Value → H} {w : World} {fuel : Nat} {cs : List Value} {x : DataW H × List MemPlace} (h : DataW.trod enc Try.prog w 0 (fun _ => true) true fuel 31 cs = some x) :
    ∃ v : Qv, cs = v.cells ∧ QvRaw w v ∧ ∃ n y, DataW.trod enc Try.prog w 0 (fun _ => true) true n 23 [v.lv] = some y := by
  obtain ⟨xs, n, _, _, hl, hlen, hf⟩ := DataW.trod_struct Try.underlying31 h
  rw [Try.cells31] at hl
  match cs, hl, xs, hlen with
  | [c0, c1, c2, c3, c4, c5, c6, c7, c8, c9, c10], _, [y0, y1, y2, y3, y4, y5, y6, y7, y8, y9, y10], _ =>
    have h0 : DataW.trod enc Try.prog w 0 (fun _ => true) true n 3 (([c0, c1, c2, c3, c4, c5, c6, c7, c8, c9, c10].drop 0).take (Try.prog.cellsOf 3)) = some y0 := hf 0 _ rfl
    have h1 : DataW.trod enc Try.prog w 0 (fun _ => true) true n 9 (([c0, c1, c2, c3, c4, c5, c6, c7, c8, c9, c10].drop 1).take (Try.prog.cellsOf 9)) = some y1 := hf 1 _ rfl
    have h2 : DataW.trod enc Try.prog w 0 (fun _ => true) true n 9 (([c0, c1, c2, c3, c4, c5, c6, c7, c8, c9, c10].drop 2).take (Try.prog.cellsOf 9)) = some y2 := hf 2 _ rfl
    have h3 : DataW.trod enc Try.prog w 0 (fun _ => true) true n 29 (([c0, c1, c2, c3, c4, c5, c6, c7, c8, c9, c10].drop 3).take (Try.prog.cellsOf 29)) = some y3 := hf 3 _ rfl
    have h4 : DataW.trod enc Try.prog w 0 (fun _ => true) true n 29 (([c0, c1, c2, c3, c4, c5, c6, c7, c8, c9, c10].drop 4).take (Try.prog.cellsOf 29)) = some y4 := hf 4 _ rfl
    have h5 : DataW.trod enc Try.prog w 0 (fun _ => true) true n 4 (([c0, c1, c2, c3, c4, c5, c6, c7, c8, c9, c10].drop 5).take (Try.prog.cellsOf 4)) = some y5 := hf 5 _ rfl
    have h6 : DataW.trod enc Try.prog w 0 (fun _ => true) true n 3 (([c0, c1, c2, c3, c4, c5, c6, c7, c8, c9, c10].drop 6).take (Try.prog.cellsOf 3)) = some y6 := hf 6 _ rfl
    have h7 : DataW.trod enc Try.prog w 0 (fun _ => true) true n 3 (([c0, c1, c2, c3, c4, c5, c6, c7, c8, c9, c10].drop 7).take (Try.prog.cellsOf 3)) = some y7 := hf 7 _ rfl
    have h8 : DataW.trod enc Try.prog w 0 (fun _ => true) true n 23 (([c0, c1, c2, c3, c4, c5, c6, c7, c8, c9, c10].drop 8).take (Try.prog.cellsOf 23)) = some y8 := hf 8 _ rfl
    have h9 : DataW.trod enc Try.prog w 0 (fun _ => true) true n 22 (([c0, c1, c2, c3, c4, c5, c6, c7, c8, c9, c10].drop 9).take (Try.prog.cellsOf 22)) = some y9 := hf 9 _ rfl
    have h10 : DataW.trod enc Try.prog w 0 (fun _ => true) true n 26 (([c0, c1, c2, c3, c4, c5, c6, c7, c8, c9, c10].drop 10).take (Try.prog.cellsOf 26)) = some y10 := hf 10 _ rfl
    simp only [Try.cells3, Try.cells9, Try.cells29, Try.cells4, Try.cells23, Try.cells22, Try.cells26, List.drop_zero, List.take_succ_cons, List.take_zero, List.drop_succ_cons] at h0 h1 h2 h3 h4 h5 h6 h7 h8 h9 h10
    obtain ⟨m0, e0, _, _⟩ := DataW.trod_int Try.underlying3 h0
    obtain ⟨s1, e1, _⟩ := DataW.trod_string Try.underlying9 h1
    obtain ⟨s2, e2, _⟩ := DataW.trod_string Try.underlying9 h2
    obtain ⟨f3, hf3⟩ := trod_doc h3
    obtain ⟨f4, hf4⟩ := trod_doc h4
    obtain ⟨b5, e5, _⟩ := DataW.trod_bool Try.underlying4 h5
    obtain ⟨m6, e6, _, _⟩ := DataW.trod_int Try.underlying3 h6
    obtain ⟨m7, e7, _, _⟩ := DataW.trod_int Try.underlying3 h7
    have g8 := trod_shape Try.underlying23 h8
    have g9 := trod_shape Try.underlying22 h9
    have g10 := trod_shape Try.underlying26 h10
    simp at e0 e1 e2 e5 e6 e7
    subst e0 e1 e2 e5 e6 e7
    exact ⟨⟨⟨m0, s1, s2, f3, f4, b5, m6, m7⟩, c3, c4, c8, c9, c10⟩, rfl, ⟨hf3, hf4, g8, g9, g10⟩, n, y8, h8⟩

instance : Nonempty Qv := ⟨⟨⟨0, ⟨#[]⟩, ⟨#[]⟩, [], [], false, 0, 0⟩, .slice none 0 0, .slice none 0 0, .slice none 0 0, .slice none 0 0, .slice none 0 0⟩⟩

set_option maxRecDepth 20000 in
theorem trod_ops {H : Type} {enc : TypeId × Value → H} {w : World} {fuel : Nat} {c : Value} {x : DataW H × List MemPlace} (hf : DataW.trod enc Try.prog w 0 (fun _ => true) true fuel 23 [c] = some x) : ∃ os, LstP w c os := by
  obtain ⟨l, ao, cap, rfl, hle, h⟩ := open_gen (α := Qv) (R := fun v cs => cs = v.cells ∧ QvRaw w v) Try.underlying23 Try.cells31 (by omega) (fun n cs y h _ => by
    obtain ⟨v, h1, h2, _⟩ := trod_op h
    exact ⟨v, h1, h2⟩) hf
  refine ⟨l, ao, cap, rfl, hle, ?_⟩
  rcases h with h | ⟨b, off, rfl, hb, hh⟩
  · exact .inl h
  · refine .inr ⟨b, off, rfl, hb, fun j hj => ?_⟩
    obtain ⟨cs, ⟨rfl, hr⟩, _, hc⟩ := hh j hj
    exact ⟨⟨hc 0 (by simp [Qv.cells]), hc 1 (by simp [Qv.cells]), hc 2 (by simp [Qv.cells]), hc 3 (by simp [Qv.cells]), hc 4 (by simp [Qv.cells]), hc 5 (by simp [Qv.cells]), hc 6 (by simp [Qv.cells]), hc 7 (by simp [Qv.cells]), hc 8 (by simp [Qv.cells]), hc 9 (by simp [Qv.cells]), hc 10 (by simp [Qv.cells])⟩, hr⟩

set_option maxRecDepth 20000 in
theorem open_op {H : Type} {enc : TypeId × Value → H} {w : World} {b0 : Nat} {r : Reach} {v : Value} {d : DataW H} {ps : List MemPlace}
    (hv : Value.okWide Try.prog w r b0 31 v) (h : DataW.Trod enc Try.prog w 0 (fun _ => true) true 31 v d ps) : ∃ (x : Qv) (os : List Qv), v = x.val ∧ QvRaw w x ∧ LstP w x.lv os := by
  obtain ⟨cs, rfl, hsz⟩ := okWide_struct Try.underlying31 hv
  obtain ⟨fuel, hf⟩ := h
  obtain ⟨x, hx, hr, n, y, hy⟩ := trod_op hf
  obtain ⟨os, ho⟩ := trod_ops hy
  refine ⟨x, os, ?_, hr, ho⟩
  have : cs = x.cells.toArray := by
    have hx' : cs.toList = x.cells := hx
    rw [← hx']
  rw [this]
  rfl

end Go.Proofs.Ytgnhkpihlghbmaa

namespace Go.Proofs.Ytgnhkpihlghbmaa
open Go.RowKit
attribute [local go_sem] cell?_more frozen?_more setCell_more size_more tape_more drew_more drewN_more more_drew more_drewN one_out plus_out plus_end lt_one le_p2 le_p3 le_p4 le_p5 le_p6 le_p7 le_p8 le_p9 le_p10 le_p11 le_p12 le_p13 le_p14 le_p15 le_p16 le_p17 le_p18 le_p19 le_p20 le_p21 le_p22 le_p23 le_p24 le_q0 le_q1 lt_q1 le_q2 lt_q2 le_q3 lt_q3 le_q4 lt_q4 le_q5 lt_q5 le_q6 lt_q6 le_q7 lt_q7 le_q8 lt_q8 le_q9 lt_q9 le_q10 lt_q10 le_q11 lt_q11 le_q12 lt_q12 le_q13 lt_q13 le_q14 lt_q14 le_q15 lt_q15 le_q16 lt_q16 le_q17 lt_q17 le_q18 lt_q18 le_q19 lt_q19 le_q20 lt_q20 le_q21 lt_q21 le_q22 lt_q22 le_q23 lt_q23 le_q24 lt_q24

open Go.ChangeShapes Go.WideShapes Go.ChangeAt Go.RowKit Go.Joins Go.ChangeMaps

set_option maxRecDepth 20000 in
theorem trod_ops2 {H : Type} {enc : TypeId × Value → H} {w : World} {fuel : Nat} {c : Value} {x : DataW H × List MemPlace} (hf : DataW.trod enc Try.prog w 0 (fun _ => true) true fuel 23 [c] = some x) : ∃ os, LstP w c os ∧ ∀ v ∈ os, ∃ xs, LstP w v.lv xs := by
  obtain ⟨l, ao, cap, rfl, hle, h⟩ := open_gen (α := Qv) (R := fun v cs => cs = v.cells ∧ QvRaw w v ∧ ∃ xs, LstP w v.lv xs) Try.underlying23 Try.cells31 (by omega) (fun n cs y h _ => by
    obtain ⟨v, h1, h2, m, z, hz⟩ := trod_op h
    exact ⟨v, h1, h2, trod_ops hz⟩) hf
  refine ⟨l, ⟨ao, cap, rfl, hle, ?_⟩, ?_⟩
  · rcases h with h | ⟨b, off, rfl, hb, hh⟩
    · exact .inl h
    · refine .inr ⟨b, off, rfl, hb, fun j hj => ?_⟩
      obtain ⟨cs, ⟨rfl, hr, _⟩, _, hc⟩ := hh j hj
      exact ⟨⟨hc 0 (by simp [Qv.cells]), hc 1 (by simp [Qv.cells]), hc 2 (by simp [Qv.cells]), hc 3 (by simp [Qv.cells]), hc 4 (by simp [Qv.cells]), hc 5 (by simp [Qv.cells]), hc 6 (by simp [Qv.cells]), hc 7 (by simp [Qv.cells]), hc 8 (by simp [Qv.cells]), hc 9 (by simp [Qv.cells]), hc 10 (by simp [Qv.cells])⟩, hr⟩
  · intro v hv
    rcases h with rfl | ⟨b, off, rfl, hb, hh⟩
    · cases hv
    · obtain ⟨j, hj, rfl⟩ := List.mem_iff_getElem.1 hv
      obtain ⟨cs, ⟨rfl, _, hx⟩, _, _⟩ := hh j hj
      exact hx

set_option maxRecDepth 20000 in
theorem open_ops {H : Type} {enc : TypeId × Value → H} {w : World} {b0 : Nat} {r : Reach} {v : Value} {d : DataW H} {ps : List MemPlace}
    (hv : Value.okWide Try.prog w r b0 23 v) (h : DataW.Trod enc Try.prog w 0 (fun _ => true) true 23 v d ps) : ∃ os, LstP w v os ∧ ∀ x ∈ os, ∃ xs, LstP w x.lv xs := by
  obtain ⟨ao, len, cap, rfl⟩ := okWide_slice Try.underlying23 hv
  obtain ⟨fuel, hf⟩ := h
  exact trod_ops2 hf

end Go.Proofs.Ytgnhkpihlghbmaa
