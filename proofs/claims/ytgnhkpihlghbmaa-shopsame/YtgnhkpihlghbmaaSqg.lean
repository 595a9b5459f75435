/-
  Arguments of the types Answer and Doc opened, with the lengths of their slices.
-/
import Derived.Test.YtgnhkpihlghbmaaMsqc
import Derived.Test.YtgnhkpihlghbmaaMsop
import Derived.Test.YtgnhkpihlghbmaaRow
namespace Go.Proofs.Ytgnhkpihlghbmaa
open Go.RowKit
attribute [local go_sem] cell?_more frozen?_more setCell_more size_more tape_more drew_more drewN_more more_drew more_drewN one_out plus_out plus_end lt_one le_p2 le_p3 le_p4 le_p5 le_p6 le_p7 le_p8 le_p9 le_p10 le_p11 le_p12 le_p13 le_p14 le_p15 le_p16 le_p17 le_p18 le_p19 le_p20 le_p21 le_p22 le_p23 le_p24 le_q0 le_q1 lt_q1 le_q2 lt_q2 le_q3 lt_q3 le_q4 lt_q4 le_q5 lt_q5 le_q6 lt_q6 le_q7 lt_q7 le_q8 lt_q8 le_q9 lt_q9 le_q10 lt_q10 le_q11 lt_q11 le_q12 lt_q12 le_q13 lt_q13 le_q14 lt_q14 le_q15 lt_q15 le_q16 lt_q16 le_q17 lt_q17 le_q18 lt_q18 le_q19 lt_q19 le_q20 lt_q20 le_q21 lt_q21 le_q22 lt_q22 le_q23 lt_q23 le_q24 lt_q24

open Go.ChangeShapes Go.WideShapes Go.ChangeAt Go.RowKit Go.Joins Go.ChangeMaps

theorem Try.cells35 : Try.prog.cellsOf 35 = 8 := by kernel_rfl
theorem Try.cells32 : Try.prog.cellsOf 32 = 1 := by kernel_rfl
theorem Try.cells69 : Try.prog.cellsOf 69 = 2 := by kernel_rfl
theorem Try.cells33 : Try.prog.cellsOf 33 = 1 := by kernel_rfl

theorem trod_len {H : Type} {enc : TypeId × Value → H} {w : World} {t e : TypeId} {fuel : Nat} {a : Option Addr} {n m : Nat} {x : DataW H × List MemPlace} (ht : Try.prog.underlying t = some (.slice e)) (hf : DataW.trod enc Try.prog w 0 (fun _ => true) true fuel t [.slice a n m] = some x) : n ≤ 9223372036854775807 := by
  rcases Deep.open_slice ht hf with ⟨hcs, hx⟩ | ⟨a, len, cap, m, n, D, Pl, hcs, _, h1, h2, _⟩
  · simp at hcs
    omega
  · simp at hcs
    unfold maxLen at h2
    omega

instance : Nonempty Sh.F := ⟨⟨⟨#[]⟩, ⟨#[]⟩⟩⟩
instance : Nonempty {y : Ch // y.doc.length ≤ 9223372036854775807} := ⟨⟨⟨0, ⟨#[]⟩, false, []⟩, by simp⟩⟩

set_option maxRecDepth 20000 in
theorem trod_pairs {H : Type} {enc : TypeId × Value → H} {w : World} {fuel : Nat} {c : Value} {x : DataW H × List MemPlace} (hf : DataW.trod enc Try.prog w 0 (fun _ => true) true fuel 33 [c] = some x) : ∃ fs, Sh.Lst w c fs ∧ fs.length ≤ 9223372036854775807 := by
  obtain ⟨l, ao, cap, rfl, hle, h⟩ := open_gen (α := Sh.F) (R := fun f cs => cs = [.string f.path, .string f.val]) Try.underlying33 Try.cells69 (by omega) (fun n cs y h hlen => by
    obtain ⟨y0, y1, n, _, hl, h0, h1⟩ := trod_struct2 Try.underlying69 h
    match cs, hlen with
    | [c0, c1], _ =>
      simp only [Try.cells9, List.drop_zero, List.take_succ_cons, List.take_zero, List.drop_succ_cons] at h0 h1
      obtain ⟨p, e0, _, _⟩ := DataW.trod_string Try.underlying9 h0
      obtain ⟨q, e1, _, _⟩ := DataW.trod_string Try.underlying9 h1
      simp at e0 e1
      subst e0 e1
      exact ⟨⟨p, q⟩, rfl⟩) hf
  refine ⟨l, ⟨ao, cap, rfl, hle, ?_⟩, trod_len Try.underlying33 hf⟩
  rcases h with h | ⟨b, off, rfl, hb, hh⟩
  · exact .inl h
  · refine .inr ⟨b, off, rfl, hb, fun j hj => ?_⟩
    obtain ⟨cs, rfl, _, hc⟩ := hh j hj
    exact ⟨hc 0 (by simp), hc 1 (by simp)⟩

theorem trod_docS {H : Type} {enc : TypeId × Value → H} {w : World} {fuel : Nat} {c : Value} {x : DataW H × List MemPlace} (hf : DataW.trod enc Try.prog w 0 (fun _ => true) true fuel 29 [c] = some x) : ∃ fs, Lst w c fs ∧ fs.length ≤ 9223372036854775807 := by
  obtain ⟨fs, h⟩ := trod_doc hf
  obtain ⟨ao, cap, rfl, _, _⟩ := id h
  exact ⟨fs, h, trod_len Try.underlying29 hf⟩

set_option maxRecDepth 20000 in
theorem trod_news {H : Type} {enc : TypeId × Value → H} {w : World} {fuel : Nat} {c : Value} {x : DataW H × List MemPlace} (hf : DataW.trod enc Try.prog w 0 (fun _ => true) true fuel 26 [c] = some x) : ∃ cs, LstH w c cs ∧ ∀ y ∈ cs, y.doc.length ≤ 9223372036854775807 := by
  obtain ⟨l, ao, cap, rfl, hle, h⟩ := open_gen (α := {y : Ch // y.doc.length ≤ 9223372036854775807}) (R := fun y cs => ∃ v, cs = [.int .i64 y.1.pos, .string y.1.key, .bool y.1.has, v] ∧ Lst w v y.1.doc) Try.underlying26 Try.cells40 (by omega) (fun n cs y h hlen => by
    obtain ⟨y0, y1, y2, y3, n, _, hl, h0, h1, h2, h3⟩ := trod_struct4 Try.underlying40 h
    match cs, hlen with
    | [c0, c1, c2, c3], _ =>
      simp only [Try.cells3, Try.cells9, Try.cells4, Try.cells29, List.drop_zero, List.take_succ_cons, List.take_zero, List.drop_succ_cons] at h0 h1 h2 h3
      obtain ⟨m, e0, _, _⟩ := DataW.trod_int Try.underlying3 h0
      obtain ⟨s, e1, _⟩ := DataW.trod_string Try.underlying9 h1
      obtain ⟨b, e2, _⟩ := DataW.trod_bool Try.underlying4 h2
      obtain ⟨fs, hfs, hfl⟩ := trod_docS h3
      simp at e0 e1 e2
      subst e0 e1 e2
      exact ⟨⟨⟨m, s, b, fs⟩, hfl⟩, c3, rfl, hfs⟩) hf
  refine ⟨l.map (·.1), ⟨ao, cap, by rw [List.length_map], by rw [List.length_map]; exact hle, ?_⟩, fun y hy => ?_⟩
  · rcases h with h | ⟨b, off, rfl, hb, hh⟩
    · exact .inl (by rw [h]; rfl)
    · refine .inr ⟨b, off, rfl, hb, fun j hj => ?_⟩
      have hj' : j < l.length := by simpa using hj
      obtain ⟨cs, ⟨v, rfl, hv⟩, _, hc⟩ := hh j hj'
      simp only [List.getElem_map]
      exact ⟨v, hc 0 (by simp), hc 1 (by simp), hc 2 (by simp), hc 3 (by simp), hv⟩
  · obtain ⟨z, hz, rfl⟩ := List.mem_map.1 hy
    exact z.2

set_option maxRecDepth 20000 in
theorem trod_ans {H : Type} {enc : TypeId × Value → H} {w : World} {fuel : Nat} {cs : List Value} {x : DataW H × List MemPlace} (h : DataW.trod enc Try.prog w 0 (fun _ => true) true fuel 35 cs = some x) :
    ∃ (a : An) (dv sv nv kv : Value), cs = [.int .i64 a.code, .bool a.has, dv, sv, nv, .int .i64 a.n, .int .i64 a.total, kv] ∧ AnOk w a dv sv nv kv ∧ a.keys.length ≤ 9223372036854775807 ∧ ∀ y ∈ a.news, y.doc.length ≤ 9223372036854775807 := by
  obtain ⟨xs, n, _, _, hl, hlen, hf⟩ := DataW.trod_struct Try.underlying35 h
  rw [Try.cells35] at hl
  match cs, hl, xs, hlen with
  | [c0, c1, c2, c3, c4, c5, c6, c7], _, [y0, y1, y2, y3, y4, y5, y6, y7], _ =>
    have h0 : DataW.trod enc Try.prog w 0 (fun _ => true) true n 32 (([c0, c1, c2, c3, c4, c5, c6, c7].drop 0).take (Try.prog.cellsOf 32)) = some y0 := hf 0 _ rfl
    have h1 : DataW.trod enc Try.prog w 0 (fun _ => true) true n 4 (([c0, c1, c2, c3, c4, c5, c6, c7].drop 1).take (Try.prog.cellsOf 4)) = some y1 := hf 1 _ rfl
    have h2 : DataW.trod enc Try.prog w 0 (fun _ => true) true n 29 (([c0, c1, c2, c3, c4, c5, c6, c7].drop 2).take (Try.prog.cellsOf 29)) = some y2 := hf 2 _ rfl
    have h3 : DataW.trod enc Try.prog w 0 (fun _ => true) true n 22 (([c0, c1, c2, c3, c4, c5, c6, c7].drop 3).take (Try.prog.cellsOf 22)) = some y3 := hf 3 _ rfl
    have h4 : DataW.trod enc Try.prog w 0 (fun _ => true) true n 26 (([c0, c1, c2, c3, c4, c5, c6, c7].drop 4).take (Try.prog.cellsOf 26)) = some y4 := hf 4 _ rfl
    have h5 : DataW.trod enc Try.prog w 0 (fun _ => true) true n 3 (([c0, c1, c2, c3, c4, c5, c6, c7].drop 5).take (Try.prog.cellsOf 3)) = some y5 := hf 5 _ rfl
    have h6 : DataW.trod enc Try.prog w 0 (fun _ => true) true n 3 (([c0, c1, c2, c3, c4, c5, c6, c7].drop 6).take (Try.prog.cellsOf 3)) = some y6 := hf 6 _ rfl
    have h7 : DataW.trod enc Try.prog w 0 (fun _ => true) true n 33 (([c0, c1, c2, c3, c4, c5, c6, c7].drop 7).take (Try.prog.cellsOf 33)) = some y7 := hf 7 _ rfl
    simp only [Try.cells32, Try.cells4, Try.cells29, Try.cells22, Try.cells26, Try.cells3, Try.cells33, List.drop_zero, List.take_succ_cons, List.take_zero, List.drop_succ_cons] at h0 h1 h2 h3 h4 h5 h6 h7
    obtain ⟨m0, e0, _, _⟩ := DataW.trod_int Try.underlying32 h0
    obtain ⟨b1, e1, _⟩ := DataW.trod_bool Try.underlying4 h1
    obtain ⟨f2, hf2⟩ := trod_doc h2
    obtain ⟨l3, hl3⟩ := trod_docs h3
    obtain ⟨l4, hl4, hl4'⟩ := trod_news h4
    obtain ⟨m5, e5, _, _⟩ := DataW.trod_int Try.underlying3 h5
    obtain ⟨m6, e6, _, _⟩ := DataW.trod_int Try.underlying3 h6
    obtain ⟨l7, hl7, hl7'⟩ := trod_pairs h7
    simp at e0 e1 e5 e6
    subst e0 e1 e5 e6
    exact ⟨⟨m0, b1, f2, l3, l4, m5, m6, l7⟩, c2, c3, c4, c7, rfl, ⟨hf2, hl3, hl4, hl7⟩, hl7', hl4'⟩

set_option maxRecDepth 20000 in
theorem open_ans {H : Type} {enc : TypeId × Value → H} {w : World} {b0 : Nat} {r : Reach} {v : Value} {d : DataW H} {ps : List MemPlace}
    (hv : Value.okWide Try.prog w r b0 35 v) (h : DataW.Trod enc Try.prog w 0 (fun _ => true) true 35 v d ps) :
    ∃ (a : An) (dv sv nv kv : Value), v = a.val dv sv nv kv ∧ AnOk w a dv sv nv kv ∧ a.keys.length ≤ 9223372036854775807 ∧ ∀ y ∈ a.news, y.doc.length ≤ 9223372036854775807 := by
  obtain ⟨cs, rfl, hsz⟩ := okWide_struct Try.underlying35 hv
  obtain ⟨fuel, hf⟩ := h
  obtain ⟨a, dv, sv, nv, kv, hx, hr⟩ := trod_ans hf
  refine ⟨a, dv, sv, nv, kv, ?_, hr⟩
  have : cs = #[.int .i64 a.code, .bool a.has, dv, sv, nv, .int .i64 a.n, .int .i64 a.total, kv] := by
    have hx' : cs.toList = [.int .i64 a.code, .bool a.has, dv, sv, nv, .int .i64 a.n, .int .i64 a.total, kv] := hx
    exact Array.toList_inj.1 hx'
  rw [this]
  rfl

set_option maxRecDepth 20000 in
theorem open_doc {H : Type} {enc : TypeId × Value → H} {w : World} {b0 : Nat} {r : Reach} {v : Value} {d : DataW H} {ps : List MemPlace}
    (hv : Value.okWide Try.prog w r b0 29 v) (h : DataW.Trod enc Try.prog w 0 (fun _ => true) true 29 v d ps) : ∃ fs, Lst w v fs := by
  obtain ⟨a0, len, cap, rfl⟩ := okWide_slice Try.underlying29 hv
  obtain ⟨fuel, hf⟩ := h
  exact trod_doc hf

end Go.Proofs.Ytgnhkpihlghbmaa
