/-
  The statement FeedFlows holds: whatever is added and trimmed between, what is read, acknowledged and read on is all changes from where it was opened, each once; no condition.
-/
import Derived.Test.YtpjhohmbifpogaaFld
import Derived.Test.YtpjhohmbifpogaaFlo
import Derived.Test.YtpjhohmbifpogaaOpn
import Derived.Test.YtpjhohmbifpogaaRow
namespace Go.Proofs.Ytpjhohmbifpogaa
open Go.ChangeShapes Go.WideShapes Go.ChangeAt Go.RowKit Go.Joins Go.ChangeMaps

set_option maxRecDepth 100000 in
theorem feedFlows_lifted (os : Os) (started : os.Started) (H : Type) (enc : TypeId × Value → H) :
    ReturnsInHanded {} Try.checked os 6 .any (Rows.feedFlowsSpec.pre6 enc Try.prog Try.f6 Rows.feedFlowsRow.domain false) (Rows.feedFlowsSpec.post enc Try.prog Try.f6 false true false false) := by
  refine returnsInHanded_of_change (C := Try.checked) Try.own started (by kernel_rfl) Try.func6
    (ChangeSpec.witness6 (enc := enc) (C := Try.checked) false ⟨#[], #[.int .u8 0, .slice none 0 0, .slice none 0 0], []⟩ 8 (by kernel_rfl) (by kernel_rfl) (by kernel_rfl) (by kernel_rfl)) ?_
  intro W base args ds gs before hval0 hW _ _
  have hval : ∀ (j : Nat) t v, Try.f6.params[j]? = some t → args[j]? = some v → Value.okWide Try.prog W .any base t v := hval0
  have hW' := hW
  obtain ⟨p, q, hA0, hV, rfl, _, _⟩ := hW
  have hA : DataW.TrodAll enc Try.prog W 0 (fun _ => true) true Try.f6.params.toList args.toList ds p := hA0
  rw [Try.params6] at hA hval
  obtain ⟨v0, v1, v2, d0, d1, d2, p0, p1, p2, rfl, rfl, rfl, h0, h1, h2⟩ := trodAll_three hA
  obtain ⟨rfl, rfl⟩ := trodVars_none hV
  obtain ⟨p, rfl, hp0, hp1⟩ := open_byte (hval 0 5 v0 rfl rfl) h0
  obtain ⟨ks, hk⟩ := open_texts (hval 1 52 v1 rfl rfl) h1
  obtain ⟨us, hu⟩ := open_bytes (hval 2 53 v2 rfl rfl) h2
  clear hA0 hval0
  refine (feedFlows_any p hp0 hp1 v1 v2 ks us W hk hu).mono fun e W' ⟨he, hb⟩ => ⟨_, he, ?_⟩
  exact law_post Try.laidOut rfl hW' (by kernel_rfl) Try.underlying4 (by rw [Try.params6]; intro t ht; simp at ht; rcases ht with rfl | rfl | rfl <;> exact ⟨by kernel_rfl, of_decide_eq_true (by kernel_rfl)⟩) rfl hb.below

theorem feedFlows_holds : Rows.FeedFlowsSaid :=
  OpenClaim.holds_of_wide 6 Try.f6 rfl rfl rfl rfl rfl rfl rfl ⟨rfl, rfl, rfl, rfl, rfl⟩ rfl rfl rfl rfl rfl (by kernel_rfl) Try.func6 (by kernel_rfl)
    (of_decide_eq_true (by kernel_rfl)) (by unfold Func.isWrapper; first | (rw [if_pos (by decide +kernel)]; kernel_rfl) | (rw [if_neg (by decide +kernel)]; exact ⟨rfl, rfl⟩))
    (fun os started H enc _ => feedFlows_lifted os started H enc)

#print axioms feedFlows_holds
end Go.Proofs.Ytpjhohmbifpogaa
