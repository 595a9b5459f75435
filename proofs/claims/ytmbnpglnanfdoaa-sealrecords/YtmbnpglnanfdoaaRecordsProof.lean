/-
  The statement SealRecords holds: any bytes' sum and sealed record are the document's, and they are read back; no condition.
-/
import Derived.Test.YtmbnpglnanfdoaaRecords
import Derived.Test.YtmbnpglnanfdoaaOpen
namespace Go.Proofs.Ytmbnpglnanfdoaa
open Go.ChangeShapes Go.WideShapes Go.ChangeAt Go.RowKit Go.Joins Go.ChangeMaps

theorem sealRecords_any (v : Value) (l : List UInt8) (w : World) (h : Byt w v l) : Calls Try.prog 3 #[v] w fun e w' => e = .returned (.bool true) ∧ Adds w w' := by
  by_cases h1 : l.length ≤ 3000
  · exact sealRecords_short v l w h h1
  · by_cases h2 : 16384 < l.length ∧ l.length ≤ 20000
    · exact sealRecords_long v l w h h2.1 h2.2
    · exact sealRecords_awake v l w h (by omega)

set_option maxRecDepth 100000 in
theorem sealRecords_lifted (os : Os) (started : os.Started) (H : Type) (enc : TypeId × Value → H) :
    ReturnsInHanded {} Try.checked os 3 .any (Rows.sealRecordsSpec.pre6 enc Try.prog Try.f3 Rows.sealRecordsRow.domain false) (Rows.sealRecordsSpec.post enc Try.prog Try.f3 false true false false) := by
  refine returnsInHanded_of_change (C := Try.checked) Try.own started (by kernel_rfl) Try.func3
    (ChangeSpec.witness6 (enc := enc) (C := Try.checked) false ⟨#[], #[.slice none 0 0], []⟩ 8 (by kernel_rfl) (by kernel_rfl) (by kernel_rfl) (by kernel_rfl)) ?_
  intro W base args ds gs before hval0 hW _ _
  have hval : ∀ (j : Nat) t v, Try.f3.params[j]? = some t → args[j]? = some v → Value.okWide Try.prog W .any base t v := hval0
  have hW' := hW
  obtain ⟨p, q, hA0, hV, rfl, _, _⟩ := hW
  have hA : DataW.TrodAll enc Try.prog W 0 (fun _ => true) true Try.f3.params.toList args.toList ds p := hA0
  rw [Try.params3] at hA hval
  obtain ⟨v0, d0, rfl, rfl, h0⟩ := trodAll_one hA
  obtain ⟨rfl, rfl⟩ := trodVars_none hV
  have hlt := hW'.lt
  obtain ⟨l, hl⟩ := open_Byt (hval 0 22 v0 rfl rfl) h0 (fun x hx => by simpa using hlt x (by simp [hx]))
  clear hA0 hval0
  refine (sealRecords_any v0 l W hl).mono fun e W' ⟨he, hb⟩ => ⟨_, he, ?_⟩
  exact law_post Try.laidOut rfl hW' (by kernel_rfl) Try.underlying4 (by rw [Try.params3]; intro t ht; simp at ht; subst ht; exact ⟨by kernel_rfl, of_decide_eq_true (by kernel_rfl)⟩) rfl hb.below

theorem sealRecords_holds : Rows.SealRecordsSaid :=
  OpenClaim.holds_of_wide 3 Try.f3 rfl rfl rfl rfl rfl rfl rfl ⟨rfl, rfl, rfl, rfl, rfl⟩ rfl rfl rfl rfl rfl (by kernel_rfl) Try.func3 (by kernel_rfl)
    (of_decide_eq_true (by kernel_rfl)) (by unfold Func.isWrapper; first | (rw [if_pos (by decide +kernel)]; kernel_rfl) | (rw [if_neg (by decide +kernel)]; exact ⟨rfl, rfl⟩))
    (fun os started H enc _ => sealRecords_lifted os started H enc)

#print axioms sealRecords_holds
end Go.Proofs.Ytmbnpglnanfdoaa
