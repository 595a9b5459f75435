/-
  Which lists are documents, by contract.
-/
import Derived.Test.YtgnhkpihlghbmaaMays
import Derived.Test.YtgnhkpihlghbmaaCmpl
namespace Go.Proofs.Ytgnhkpihlghbmaa
open Go.RowKit
attribute [local go_sem] cell?_more frozen?_more setCell_more size_more tape_more drew_more drewN_more more_drew more_drewN one_out plus_out plus_end lt_one le_p2 le_p3 le_p4 le_p5 le_p6 le_p7 le_p8 le_p9 le_p10 le_p11 le_p12 le_p13 le_p14 le_p15 le_p16 le_p17 le_p18 le_p19 le_p20 le_p21 le_p22 le_p23 le_p24 le_q0 le_q1 lt_q1 le_q2 lt_q2 le_q3 lt_q3 le_q4 lt_q4 le_q5 lt_q5 le_q6 lt_q6 le_q7 lt_q7 le_q8 lt_q8 le_q9 lt_q9 le_q10 lt_q10 le_q11 lt_q11 le_q12 lt_q12 le_q13 lt_q13 le_q14 lt_q14 le_q15 lt_q15 le_q16 lt_q16 le_q17 lt_q17 le_q18 lt_q18 le_q19 lt_q19 le_q20 lt_q20 le_q21 lt_q21 le_q22 lt_q22 le_q23 lt_q23 le_q24 lt_q24


/-- A document and its key. -/
structure Dn where
  key : ByteArray
  doc : List F

def LiesD (w : World) (b off : Nat) (ds : List Dn) : Prop := ∀ j (h : j < ds.length), ∃ v,
  w.cell? ⟨b, off + j * 2, none⟩ = some (.string ds[j].key) ∧ w.cell? ⟨b, off + j * 2 + 1, none⟩ = some v ∧ Lst w v ds[j].doc

def LstD (w : World) (s : Value) (ds : List Dn) : Prop :=
  ∃ ao cap, s = .slice ao ds.length cap ∧ ds.length ≤ cap ∧ (ds = [] ∨ ∃ b off, ao = some ⟨b, off, none⟩ ∧ b < w.heap.size ∧ LiesD w b off ds)

theorem LiesD.adds {w w' : World} {b off : Nat} {ds : List Dn} (h : LiesD w b off ds) (hA : Adds w w') (hb : b < w.heap.size) : LiesD w' b off ds := by
  intro j hj
  obtain ⟨v, h0, h1, h2⟩ := h j hj
  exact ⟨v, (hA.below.cell (by exact hb)).trans h0, (hA.below.cell (by exact hb)).trans h1, h2.adds hA⟩

theorem LstD.adds {w w' : World} {s : Value} {ds : List Dn} (h : LstD w s ds) (hA : Adds w w') : LstD w' s ds := by
  obtain ⟨ao, cap, rfl, hc, h | ⟨b, off, rfl, hlt, hl⟩⟩ := h
  · exact ⟨ao, cap, rfl, hc, .inl h⟩
  · exact ⟨_, cap, rfl, hc, .inr ⟨b, off, rfl, Nat.lt_of_lt_of_le hlt hA.below.size, hl.adds hA hlt⟩⟩

def GoodD (ds : List Dn) (k : Nat) (h : k < ds.length) : Prop := isKey ds[k].key = true ∧ May ds[k].doc ∧ (0 < k → lessP ds[k - 1].key ds[k].key = true)

def MayD (ds : List Dn) : Prop := ∀ k (h : k < ds.length), GoodD ds k h

instance (ds : List Dn) : Decidable (MayD ds) := by unfold MayD GoodD; infer_instance

theorem mayD_bad {ds : List Dn} {k : Nat} {h : k < ds.length} (hb : ¬ GoodD ds k h) : ¬ MayD ds := fun hm => hb (hm k h)

set_option maxHeartbeats 4000000 in
set_option maxRecDepth 20000 in
theorem docs_any (s : Value) (ds : List Dn) (w : World) (h : LstD w s ds) (hl6 : ds.length ≤ 1000) :
    Calls Try.prog 39 #[s] w fun e w' => e = .returned (.int .i64 (errOf (MayD ds) 1)) ∧ Adds w w' := by
  obtain ⟨ao, cap, rfl, hcap, hlo⟩ := h
  go_enter Try.func39, Try.ntmps39
  go_wp2
  go_loopw [7] (fun i wr => ∃ k : Nat, k ≤ ds.length ∧ i = .int .i64 k ∧ (∀ j (hj : j < ds.length), j < k → GoodD ds j hj) ∧ Adds w wr) (fun i _ => ds.length - (intOf i).toNat)
  case atStart => exact ⟨0, Nat.zero_le _, rfl, fun j _ hj => absurd hj (by omega), Adds.refl _⟩
  case round =>
    obtain ⟨k, hk, rfl, hgood, os, n, rfl⟩ := hrel
    by_cases hlt : k < ds.length
    · rcases hlo with rfl | ⟨b, off, rfl, hb, hl⟩
      · simp at hlt
      obtain ⟨v, c0, c1, hdoc⟩ := hl k hlt
      have hK := key_any ds[k].key
      have hC := fun w' hA => check_doc v ds[k].doc w' (hdoc.adds hA)
      obtain ⟨vo, vc, rfl, _, _⟩ := hdoc
      have hlt' : (k : Int) < (ds.length : Int) := by omega
      by_cases h1 : isKey ds[k].key = true
      rotate_left
      · have HB : Hid (¬ GoodD ds k hlt) := fun h => h1 h.1
        rw [show isKey ds[k].key = false by simpa using h1] at hK
        clear hC h1
        generalize ds[k].key = ky at *
        generalize ds[k].doc.length = nd at *
        go_wp2_with (first | (go_at_call 59; refine (hK _).mono ?_; rintro e w1 ⟨rfl, hw⟩; subst w1))
        go_ret
        refine ⟨by rw [err_bad (mayD_bad (h := hlt) HB.out)]; rfl, ?_⟩
        repeat (first | with_reducible exact Adds.refl _ | with_reducible refine Adds.alloc ?_ _ | with_reducible refine Adds.more ?_ _ _ | with_reducible refine Adds.drew ?_ | with_reducible refine Adds.drewN ?_ _)
      rw [h1] at hK
      by_cases h2 : May ds[k].doc
      rotate_left
      · have HB : Hid (¬ GoodD ds k hlt) := fun h => h2 h.2.1
        rw [err_bad h2] at hC
        clear h2 h1
        generalize ds[k].key = ky at *
        generalize ds[k].doc.length = nd at *
        go_wp2_with (first | (go_at_call 59; refine (hK _).mono ?_; rintro e w1 ⟨rfl, hw⟩; subst w1) | (go_at_call 50; refine (hC _ (by repeat (first | with_reducible exact Adds.refl _ | with_reducible refine Adds.alloc ?_ _ | with_reducible refine Adds.more ?_ _ _ | with_reducible refine Adds.drew ?_ | with_reducible refine Adds.drewN ?_ _))).mono ?_; rintro e w2 ⟨rfl, os2, n2, rfl⟩))
        go_ret
        refine ⟨by rw [err_bad (mayD_bad (h := hlt) HB.out)]; rfl, ?_⟩
        repeat (first | with_reducible exact Adds.refl _ | with_reducible refine Adds.alloc ?_ _ | with_reducible refine Adds.more ?_ _ _ | with_reducible refine Adds.drew ?_ | with_reducible refine Adds.drewN ?_ _)
      rw [err_ok h2] at hC
      cases k with
      | zero =>
        have HGO : Hid (GoodD ds 0 hlt) := ⟨h1, h2, fun h => absurd h (by omega)⟩
        clear h1 h2
        simp only [Nat.zero_mul, Nat.add_zero] at c0 c1
        generalize ds[0].key = ky at *
        generalize ds[0].doc.length = nd at *
        go_wp2_with (first | (go_at_call 59; refine (hK _).mono ?_; rintro e w1 ⟨rfl, hw⟩; subst w1) | (go_at_call 50; refine (hC _ (by repeat (first | with_reducible exact Adds.refl _ | with_reducible refine Adds.alloc ?_ _ | with_reducible refine Adds.more ?_ _ _ | with_reducible refine Adds.drew ?_ | with_reducible refine Adds.drewN ?_ _))).mono ?_; rintro e w2 ⟨rfl, os2, n2, rfl⟩))
        go_quiet (fail)
        go_wp2
        go_roundw
        case rel =>
          refine ⟨0 + 1, by omega, by go_num, ?_, ?_⟩
          · intro j hj hj2
            by_cases e : j = 0
            · subst e
              exact HGO.out
            · exact hgood j hj (by omega)
          · repeat (first | with_reducible exact Adds.refl _ | with_reducible refine Adds.alloc ?_ _ | with_reducible refine Adds.more ?_ _ _ | with_reducible refine Adds.drew ?_ | with_reducible refine Adds.drewN ?_ _)
        case measure => simp [intOf]; omega
      | succ m =>
        obtain ⟨v2, d0, _, _⟩ := hl m (by omega)
        obtain ⟨q, hq⟩ : ∃ q, Op.bytesLess ds[m].key.toList ds[m + 1].key.toList = q := ⟨_, rfl⟩
        have hml : m < ds.length := by omega
        have hw1 : IntKind.i64.wrap (m : Int) = m := by rw [IntKind.wrap_i64]; omega
        cases q
        · have HB : Hid (¬ GoodD ds (m + 1) hlt) := fun h => by
            have h3 := h.2.2 (by omega)
            have e : lessP ds[m].key ds[m + 1].key = false := hq
            simp only [Nat.add_sub_cancel] at h3
            rw [e] at h3
            cases h3
          clear h1 h2
          generalize ds[m + 1].key = ky at *
          generalize ds[m].key = kp at *
          generalize ds[m + 1].doc.length = nd at *
          go_wp2_with (first | (go_at_call 59; refine (hK _).mono ?_; rintro e w1 ⟨rfl, hw⟩; subst w1) | (go_at_call 50; refine (hC _ (by repeat (first | with_reducible exact Adds.refl _ | with_reducible refine Adds.alloc ?_ _ | with_reducible refine Adds.more ?_ _ _ | with_reducible refine Adds.drew ?_ | with_reducible refine Adds.drewN ?_ _))).mono ?_; rintro e w2 ⟨rfl, os2, n2, rfl⟩))
          go_quiet (fail)
          go_wp2
          go_ret
          refine ⟨by rw [err_bad (mayD_bad (h := hlt) HB.out)]; rfl, ?_⟩
          repeat (first | with_reducible exact Adds.refl _ | with_reducible refine Adds.alloc ?_ _ | with_reducible refine Adds.more ?_ _ _ | with_reducible refine Adds.drew ?_ | with_reducible refine Adds.drewN ?_ _)
        · have HGO : Hid (GoodD ds (m + 1) hlt) := ⟨h1, h2, fun _ => hq⟩
          clear h1 h2
          generalize ds[m + 1].key = ky at *
          generalize ds[m].key = kp at *
          generalize ds[m + 1].doc.length = nd at *
          go_wp2_with (first | (go_at_call 59; refine (hK _).mono ?_; rintro e w1 ⟨rfl, hw⟩; subst w1) | (go_at_call 50; refine (hC _ (by repeat (first | with_reducible exact Adds.refl _ | with_reducible refine Adds.alloc ?_ _ | with_reducible refine Adds.more ?_ _ _ | with_reducible refine Adds.drew ?_ | with_reducible refine Adds.drewN ?_ _))).mono ?_; rintro e w2 ⟨rfl, os2, n2, rfl⟩))
          go_quiet (fail)
          go_wp2
          go_roundw
          case rel =>
            refine ⟨(m + 1) + 1, by omega, by go_num, ?_, ?_⟩
            · intro j hj hj2
              by_cases e : j = (m + 1)
              · subst e
                exact HGO.out
              · exact hgood j hj (by omega)
            · repeat (first | with_reducible exact Adds.refl _ | with_reducible refine Adds.alloc ?_ _ | with_reducible refine Adds.more ?_ _ _ | with_reducible refine Adds.drew ?_ | with_reducible refine Adds.drewN ?_ _)
          case measure => simp [intOf]; omega
    · have hlt' : ¬ (k : Int) < (ds.length : Int) := by omega
      go_wp2
      go_ret
      refine ⟨by rw [err_ok (show MayD ds from fun j hj => hgood j hj (by omega))]; rfl, ?_⟩
      repeat (first | with_reducible exact Adds.refl _ | with_reducible refine Adds.alloc ?_ _ | with_reducible refine Adds.more ?_ _ _ | with_reducible refine Adds.drew ?_ | with_reducible refine Adds.drewN ?_ _)


end Go.Proofs.Ytgnhkpihlghbmaa
