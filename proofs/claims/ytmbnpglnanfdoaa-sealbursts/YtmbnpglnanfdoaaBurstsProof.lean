/-
  The statement SealBursts holds: a sealed record of which some bits are turned, all within 24 in a row in its head or behind it, is none; no condition.
-/
import Derived.Test.YtmbnpglnanfdoaaBursts
import Derived.Test.YtmbnpglnanfdoaaOpen
namespace Go.Proofs.Ytmbnpglnanfdoaa
open Go.ChangeShapes Go.WideShapes Go.ChangeAt Go.RowKit Go.Joins Go.ChangeMaps

theorem sealBursts_any (v : Value) (l : List UInt8) (A Pt : Nat) (w : World) (h : Byt w v l) (hA : A < 65536) : Calls Try.prog 6 #[v, .int .u16 A, .int .u32 Pt] w fun e w' => e = .returned (.bool true) ∧ Adds w w' := by
  by_cases h1 : l.length ≤ 3000
  · by_cases h2 : A % 2 = 0
    · exact sealBursts_even v l A Pt w h h1 hA h2
    · exact sealBursts_odd v l A Pt w h h1 hA (by omega)
  · exact sealBursts_awake v l A Pt w h (by omega)

set_option maxRecDepth 100000 in
theorem sealBursts_lifted (os : Os) (started : os.Started) (H : Type) (enc : TypeId × Value → H) :
    ReturnsInHanded {} Try.checked os 6 .any (Rows.sealBurstsSpec.pre6 enc Try.prog Try.f6 Rows.sealBurstsRow.domain false) (Rows.sealBurstsSpec.post enc Try.prog Try.f6 false true false false) := by
  refine returnsInHanded_of_change (C := Try.checked) Try.own started (by kernel_rfl) Try.func6
    (ChangeSpec.witness6 (enc := enc) (C := Try.checked) false ⟨#[], #[.slice none 0 0, .int .u16 0, .int .u32 0], []⟩ 8 (by kernel_rfl) (by kernel_rfl) (by kernel_rfl) (by kernel_rfl)) ?_
  intro W base args ds gs before hval0 hW _ _
  have hval : ∀ (j : Nat) t v, Try.f6.params[j]? = some t → args[j]? = some v → Value.okWide Try.prog W .any base t v := hval0
  have hW' := hW
  obtain ⟨p, q, hA0, hV, rfl, _, _⟩ := hW
  have hA : DataW.TrodAll enc Try.prog W 0 (fun _ => true) true Try.f6.params.toList args.toList ds p := hA0
  rw [Try.params6] at hA hval
  obtain ⟨v0, v1, v2, d0, d1, d2, p0, p1, p2, rfl, rfl, rfl, h0, h1, h2⟩ := trodAll_three hA
  obtain ⟨rfl, rfl⟩ := trodVars_none hV
  have hlt := hW'.lt
  obtain ⟨l, hl⟩ := open_Byt (hval 0 22 v0 rfl rfl) h0 (fun x hx => by simpa using hlt x (by simp [hx]))
  obtain ⟨a, rfl, rfl, rfl, wa⟩ := open_int Try.underlying37 (hval 1 37 v1 rfl rfl) h1
  obtain ⟨b, rfl, rfl, rfl, wb⟩ := open_int Try.underlying29 (hval 2 29 v2 rfl rfl) h2
  clear hA0 hval0
  have ha : 0 ≤ a ∧ a ≤ 65535 := by
    simp only [Lit.wf, Bool.and_eq_true, decide_eq_true_eq] at wa
    have h3 : IntKind.u16.min = 0 := by decide
    have h4 : IntKind.u16.max = 65535 := by decide
    rw [h3, h4] at wa
    exact wa
  have hb : 0 ≤ b := by
    simp only [Lit.wf, Bool.and_eq_true, decide_eq_true_eq] at wb
    have h3 : IntKind.u32.min = 0 := by decide
    rw [h3] at wb
    exact wb.1
  have ea : a = ((a.toNat : Nat) : Int) := by omega
  have eb : b = ((b.toNat : Nat) : Int) := by omega
  have key := sealBursts_any v0 l a.toNat b.toNat W hl (by omega)
  rw [← ea, ← eb] at key
  refine key.mono fun e W' ⟨he, hb⟩ => ⟨_, he, ?_⟩
  exact law_post Try.laidOut rfl hW' (by kernel_rfl) Try.underlying4 (by rw [Try.params6]; intro t ht; simp at ht; rcases ht with rfl | rfl | rfl <;> exact ⟨by kernel_rfl, of_decide_eq_true (by kernel_rfl)⟩) rfl hb.below

theorem sealBursts_holds : Rows.SealBurstsSaid :=
  OpenClaim.holds_of_wide 6 Try.f6 rfl rfl rfl rfl rfl rfl rfl ⟨rfl, rfl, rfl, rfl, rfl⟩ rfl rfl rfl rfl rfl (by kernel_rfl) Try.func6 (by kernel_rfl)
    (of_decide_eq_true (by kernel_rfl)) (by unfold Func.isWrapper; first | (rw [if_pos (by decide +kernel)]; kernel_rfl) | (rw [if_neg (by decide +kernel)]; exact ⟨rfl, rfl⟩))
    (fun os started H enc _ => sealBursts_lifted os started H enc)

#print axioms sealBursts_holds
end Go.Proofs.Ytmbnpglnanfdoaa
