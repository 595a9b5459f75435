/-
  Arguments opened: a byte, texts, bytes.
-/
import Derived.Test.YtpjhohmbifpogaaFld
import Derived.Test.YtpjhohmbifpogaaOpn
namespace Go.Proofs.Ytpjhohmbifpogaa
open Go.RowKit
attribute [local go_sem] cell?_more frozen?_more setCell_more size_more tape_more drew_more drewN_more more_drew more_drewN one_out plus_out plus_end lt_one le_p2 le_p3 le_p4 le_p5 le_p6 le_p7 le_p8 le_p9 le_p10 le_p11 le_p12 le_p13 le_p14 le_p15 le_p16 le_p17 le_p18 le_p19 le_p20 le_p21 le_p22 le_p23 le_p24 le_q0 le_q1 lt_q1 le_q2 lt_q2 le_q3 lt_q3 le_q4 lt_q4 le_q5 lt_q5 le_q6 lt_q6 le_q7 lt_q7 le_q8 lt_q8 le_q9 lt_q9 le_q10 lt_q10 le_q11 lt_q11 le_q12 lt_q12 le_q13 lt_q13 le_q14 lt_q14 le_q15 lt_q15 le_q16 lt_q16 le_q17 lt_q17 le_q18 lt_q18 le_q19 lt_q19 le_q20 lt_q20 le_q21 lt_q21 le_q22 lt_q22 le_q23 lt_q23 le_q24 lt_q24

open Go.ChangeShapes Go.WideShapes Go.ChangeAt Go.RowKit Go.Joins Go.ChangeMaps

theorem byte_wf {n : Int} (h : (Lit.int .u8 n).wf = true) : 0 ≤ n ∧ n < 256 := by
  have h0 : IntKind.u8.min = 0 := by decide
  have h1 : IntKind.u8.max = 255 := by decide
  simp only [Lit.wf, Bool.and_eq_true, decide_eq_true_eq] at h
  omega

set_option maxRecDepth 20000 in
theorem open_byte {H : Type} {enc : TypeId × Value → H} {w : World} {b0 : Nat} {r : Reach} {v : Value} {d : DataW H} {ps : List MemPlace}
    (hv : Value.okWide Try.prog w r b0 5 v) (h : DataW.Trod enc Try.prog w 0 (fun _ => true) true 5 v d ps) : ∃ p : Int, v = .int .u8 p ∧ 0 ≤ p ∧ p < 256 := by
  obtain ⟨n, rfl, _, _, hw⟩ := open_int (k := .u8) (by kernel_rfl) hv h
  exact ⟨n, rfl, byte_wf hw⟩

theorem Try.cells5 : Try.prog.cellsOf 5 = 1 := by kernel_rfl

instance : Nonempty ByteArray := ⟨⟨#[]⟩⟩

set_option maxRecDepth 20000 in
theorem open_texts {H : Type} {enc : TypeId × Value → H} {w : World} {b0 : Nat} {r : Reach} {v : Value} {d : DataW H} {ps : List MemPlace}
    (hv : Value.okWide Try.prog w r b0 52 v) (h : DataW.Trod enc Try.prog w 0 (fun _ => true) true 52 v d ps) : ∃ ks, LstK w v ks := by
  have hu : Try.prog.underlying 52 = some (.slice 9) := by kernel_rfl
  obtain ⟨a0, len, cap, rfl⟩ := okWide_slice hu hv
  obtain ⟨fuel, hf⟩ := h
  obtain ⟨l, ao, cap', e, hle, hx⟩ := open_gen (α := ByteArray) (R := fun s cs => cs = [.string s]) hu Try.cells9 (by omega) (fun n cs y h _ => by
    obtain ⟨s, e1, _⟩ := DataW.trod_string Try.underlying9 h
    exact ⟨s, e1⟩) hf
  refine ⟨l, ao, cap', e, hle, ?_⟩
  rcases hx with hx | ⟨b, off, rfl, hb, hh⟩
  · exact .inl hx
  · refine .inr ⟨b, off, rfl, hb, fun j hj => ?_⟩
    obtain ⟨cs, rfl, _, hc⟩ := hh j hj
    simpa using hc 0 (by simp)

set_option maxRecDepth 20000 in
theorem open_bytes {H : Type} {enc : TypeId × Value → H} {w : World} {b0 : Nat} {r : Reach} {v : Value} {d : DataW H} {ps : List MemPlace}
    (hv : Value.okWide Try.prog w r b0 53 v) (h : DataW.Trod enc Try.prog w 0 (fun _ => true) true 53 v d ps) : ∃ us, LstU w v us := by
  have hu : Try.prog.underlying 53 = some (.slice 5) := by kernel_rfl
  obtain ⟨a0, len, cap, rfl⟩ := okWide_slice hu hv
  obtain ⟨fuel, hf⟩ := h
  obtain ⟨l, ao, cap', e, hle, hx⟩ := open_gen (α := Int) (R := fun u cs => cs = [.int .u8 u] ∧ 0 ≤ u ∧ u < 256) hu Try.cells5 (by omega) (fun n cs y h _ => by
    obtain ⟨s, e1, _, hw⟩ := DataW.trod_int (k := .u8) (by kernel_rfl) h
    exact ⟨s, e1, byte_wf hw⟩) hf
  refine ⟨l, ao, cap', e, hle, ?_⟩
  rcases hx with hx | ⟨b, off, rfl, hb, hh⟩
  · exact .inl hx
  · refine .inr ⟨b, off, rfl, hb, fun j hj => ?_⟩
    obtain ⟨cs, ⟨rfl, h0, h1⟩, _, hc⟩ := hh j hj
    exact ⟨by simpa using hc 0 (by simp), h0, h1⟩

theorem feedFlows_any (p : Int) (hp0 : 0 ≤ p) (hp1 : p < 256) (v1 v2 : Value) (ks : List ByteArray) (us : List Int) (w : World) (hk : LstK w v1 ks) (hu : LstU w v2 us) :
    Calls Try.prog 6 #[.int .u8 p, v1, v2] w fun e w' => e = .returned (.bool true) ∧ Adds w w' := by
  obtain ⟨ko, kc, rfl, h1⟩ := id hk
  obtain ⟨uo, uc, rfl, h2⟩ := id hu
  exact feedFlows_walk p hp0 hp1 ko uo kc uc ks us w hk hu

end Go.Proofs.Ytpjhohmbifpogaa
