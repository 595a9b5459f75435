/-
  The statement SheafOrders holds: in whatever order a sheaf's pairs are set, the sheaf comes out; no condition.
-/
import Derived.Test.YtflhdhmnhgmbpaaOrders
import Derived.Test.YtflhdhmnhgmbpaaOpen
namespace Go.Proofs.Ytflhdhmnhgmbpaa
open Go.ChangeShapes Go.WideShapes Go.ChangeAt Go.RowKit Go.Joins Go.ChangeMaps

theorem open_Byt {H : Type} {enc : TypeId × Value → H} {w : World} {b0 : Nat} {r : Reach} {v : Value} {d : DataW H} {ps : List MemPlace}
    (hv : Value.okWide Try.prog w r b0 46 v) (h : DataW.Trod enc Try.prog w 0 (fun _ => true) true 46 v d ps) (hlt : ∀ x ∈ ps, x.block < w.heap.size) :
    ∃ bs, Byt w v bs ∧ bs.length ≤ 9223372036854775807 := by
  obtain ⟨a0, len, cap, rfl⟩ := okWide_slice Try.underlying46 hv
  obtain ⟨fuel, hf⟩ := h
  rcases Deep.open_slice1 Try.underlying46 Try.cells5 hf with ⟨hcs, hx⟩ | ⟨a, len', cap', m, n, V, D, Pl, hcs, _, hl, hm, hmm, hx, hcell⟩
  · simp [Value.cells] at hcs
    obtain ⟨rfl, rfl, rfl⟩ := hcs
    exact ⟨[], ⟨none, 0, rfl, .inl rfl⟩, by simp⟩
  · simp [Value.cells] at hcs
    obtain ⟨rfl, rfl, rfl⟩ := hcs
    simp only [if_true] at hmm
    subst hmm
    by_cases hl0 : len = 0
    · subst hl0
      exact ⟨[], ⟨some a, _, rfl, .inl rfl⟩, by simp⟩
    have each : ∀ i, i < len → ∃ c : UInt8, w.cell? (a.add i) = some (.int .u8 c.toNat) := by
      intro i hi
      obtain ⟨h1, h2⟩ := hcell i (by omega)
      obtain ⟨k, e0, _, hk⟩ := DataW.trod_int Try.underlying5 h2
      simp at e0
      rw [e0] at h1
      have hb : 0 ≤ k ∧ k ≤ 255 := by
        simp [Lit.wf, IntKind.min, IntKind.max, IntKind.signed, IntKind.bits] at hk
        omega
      refine ⟨UInt8.ofNat k.toNat, ?_⟩
      rw [h1]
      have e : ((UInt8.ofNat k.toNat).toNat : Int) = k := by
        rw [UInt8.toNat_ofNat']
        omega
      rw [e]
    obtain ⟨b, off, spot⟩ := a
    have hspot : spot = none := by
      obtain ⟨c, hc⟩ := each 0 (by omega)
      simpa [Addr.add] using World.cell?_spot hc
    subst hspot
    have hbW : b < w.heap.size := by
      simp only [Prod.mk.injEq] at hx
      refine hlt (.cell b off) ?_
      rw [hx.2]
      refine List.mem_append.2 (.inl (MemPlace.mem_row.2 ⟨0, ?_, by simp⟩))
      omega
    obtain ⟨X, hX⟩ : ∃ X : Nat → UInt8, ∀ i, i < len → w.cell? ((⟨b, off, none⟩ : Addr).add i) = some (.int .u8 (X i).toNat) :=
      ⟨fun i => if h : i < len then (each i h).choose else 0, fun i hi => by simp only [hi, dif_pos]; exact (each i hi).choose_spec⟩
    refine ⟨(List.range len).map X, ⟨some ⟨b, off, none⟩, m, by simp, .inr ⟨b, off, rfl, hbW, ?_⟩⟩, ?_⟩
    · intro i hi
      have hi' : i < len := by simpa using hi
      have := hX i hi'
      rw [Addr.add_lit] at this
      simpa using this
    · unfold maxLen at hm
      simp
      omega

set_option maxRecDepth 100000 in
theorem sheafOrders_lifted (os : Os) (started : os.Started) (H : Type) (enc : TypeId × Value → H) :
    ReturnsInHanded {} Try.checked os 6 .any (Rows.sheafOrdersSpec.pre6 enc Try.prog Try.f6 Rows.sheafOrdersRow.domain false) (Rows.sheafOrdersSpec.post enc Try.prog Try.f6 false true false false) := by
  refine returnsInHanded_of_change (C := Try.checked) Try.own started (by kernel_rfl) Try.func6
    (ChangeSpec.witness6 (enc := enc) (C := Try.checked) false ⟨#[], #[.slice none 0 0, .slice none 0 0], []⟩ 8 (by kernel_rfl) (by kernel_rfl) (by kernel_rfl) (by kernel_rfl)) ?_
  intro W base args ds gs before hval0 hW _ _
  have hval : ∀ (j : Nat) t v, Try.f6.params[j]? = some t → args[j]? = some v → Value.okWide Try.prog W .any base t v := hval0
  have hW' := hW
  obtain ⟨p, q, hA0, hV, rfl, _, _⟩ := hW
  have hA : DataW.TrodAll enc Try.prog W 0 (fun _ => true) true Try.f6.params.toList args.toList ds p := hA0
  rw [Try.params6] at hA hval
  obtain ⟨v0, v1, d0, d1, p0, p1, rfl, rfl, rfl, h0, h1⟩ := trodAll_two hA
  obtain ⟨rfl, rfl⟩ := trodVars_none hV
  have hlt := hW'.lt
  obtain ⟨l, hl⟩ := open_Lst (hval 0 22 v0 rfl rfl) h0 (fun x hx => by simpa using hlt x (by simp [hx]))
  obtain ⟨bs, hb, hbs⟩ := open_Byt (hval 1 46 v1 rfl rfl) h1 (fun x hx => by simpa using hlt x (by simp [hx]))
  clear hA0 hval0
  refine (sheafOrders_any v0 v1 l bs W hl hb hbs).mono fun e W' ⟨he, hb⟩ => ⟨_, he, ?_⟩
  exact law_post Try.laidOut rfl hW' (by kernel_rfl) Try.underlying4 (by rw [Try.params6]; intro t ht; simp at ht; rcases ht with rfl | rfl <;> exact ⟨by kernel_rfl, of_decide_eq_true (by kernel_rfl)⟩) rfl hb.below

theorem sheafOrders_holds : Rows.SheafOrdersSaid :=
  OpenClaim.holds_of_wide 6 Try.f6 rfl rfl rfl rfl rfl rfl rfl ⟨rfl, rfl, rfl, rfl, rfl⟩ rfl rfl rfl rfl rfl (by kernel_rfl) Try.func6 (by kernel_rfl)
    (of_decide_eq_true (by kernel_rfl)) (by unfold Func.isWrapper; first | (rw [if_pos (by decide +kernel)]; kernel_rfl) | (rw [if_neg (by decide +kernel)]; exact ⟨rfl, rfl⟩))
    (fun os started H enc _ => sheafOrders_lifted os started H enc)

#print axioms sheafOrders_holds
end Go.Proofs.Ytflhdhmnhgmbpaa
