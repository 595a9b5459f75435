/-
  The statements' own example: a document of one field, set at one key.
-/
import Derived.Test.YtgnhkpihlghbmaaMsak
namespace Go.Proofs.Ytgnhkpihlghbmaa
open Go.RowKit
attribute [local go_sem] cell?_more frozen?_more setCell_more size_more tape_more drew_more drewN_more more_drew more_drewN one_out plus_out plus_end lt_one le_p2 le_p3 le_p4 le_p5 le_p6 le_p7 le_p8 le_p9 le_p10 le_p11 le_p12 le_p13 le_p14 le_p15 le_p16 le_p17 le_p18 le_p19 le_p20 le_p21 le_p22 le_p23 le_p24 le_q0 le_q1 lt_q1 le_q2 lt_q2 le_q3 lt_q3 le_q4 lt_q4 le_q5 lt_q5 le_q6 lt_q6 le_q7 lt_q7 le_q8 lt_q8 le_q9 lt_q9 le_q10 lt_q10 le_q11 lt_q11 le_q12 lt_q12 le_q13 lt_q13 le_q14 lt_q14 le_q15 lt_q15 le_q16 lt_q16 le_q17 lt_q17 le_q18 lt_q18 le_q19 lt_q19 le_q20 lt_q20 le_q21 lt_q21 le_q22 lt_q22 le_q23 lt_q23 le_q24 lt_q24

def fA : F := ⟨⟨#[97]⟩, ⟨1, 1, ⟨#[]⟩, 0, 0⟩, by decide⟩
def kX : ByteArray := ⟨#[120]⟩
def qX : Qs := ⟨3, kX, ⟨#[]⟩, [fA], [], false, 0, 0⟩

theorem a_list : (⟨#[97]⟩ : ByteArray).toList = [97] := by rw [ByteArray.toList_eq]
theorem x_list : kX.toList = [120] := by
  unfold kX
  rw [ByteArray.toList_eq]
theorem e_list : (⟨#[]⟩ : ByteArray).toList = [] := by rw [ByteArray.toList_eq]

theorem fA_check : fA.val.check = 0 := by
  unfold V.check V.fits fA
  simp

theorem fA_may : May [fA] := by
  refine ⟨by simp, fun k hk => ?_⟩
  have : k = 0 := by simpa using hk
  subst this
  refine ⟨?_, fA_check, fun h => absurd h (by decide)⟩
  show isPath ⟨#[97]⟩ = true
  unfold isPath
  rw [a_list]
  decide

theorem kX_key : isKey kX = true := by
  unfold isKey kX
  decide

theorem fA_light : lightD [fA] = true := by
  have h1 : number 1 = [1] := number_small (by decide)
  have h2 : number 2 = [2] := number_small (by decide)
  have hz : zig 1 = 2 := by decide
  have e0 : docBytes [fA] = 3 :: (number 1 ++ ((3 :: (number 2 ++ ((2 :: (number 1 ++ [97])) ++ ((1 :: number (zig 1)) ++ [])))) ++ [])) := rfl
  have e : docBytes [fA] = [3, 1, 3, 2, 2, 1, 97, 1, 2] := by
    rw [e0, hz, h1, h2]
    rfl
  unfold lightD
  rw [e]
  simp [fA_may]

theorem fine_nil : Fine [] := ⟨fun k hk => by simp at hk, by simp⟩

theorem qX_first : codeT [] qX = 0 := by
  unfold codeT codeC codeP
  simp [qX, kX_key, fA_may, fA_light, hasAt_nil]

theorem less_self (x : ByteArray) : lessP x x = false := lessP_irr rfl

theorem one_doc : stepT [] qX = [⟨kX, [fA]⟩] := by
  unfold stepT
  rw [foldS_eq List.Pairwise.nil]
  simp [foldD, foldGo, qX, hasT, docOf]

theorem one_fine : Fine [(⟨kX, [fA]⟩ : Dn)] := by
  have := fine_nil.step qX_first
  rw [one_doc] at this
  exact this

theorem one_has : hasAt kX [(⟨kX, [fA]⟩ : Dn)] = true := by
  rw [hasAt_here (less_self kX)]
  simp

theorem qX_second : codeT [⟨kX, [fA]⟩] qX = 7 := by
  unfold codeT codeC
  simp [qX, kX_key, fA_may, one_has]

theorem qX_doc : qX.doc.length ≤ 1000 := by decide
theorem qX_want : qX.want.length ≤ 1000 := by decide
theorem qX_4 : ¬ qX.kind = 4 := by decide
theorem qX_5 : ¬ qX.kind = 5 := by decide
theorem qX_6 : ¬ qX.kind = 6 := by decide

theorem lst_nil (W : World) : Lst W (.slice none 0 0) [] := ⟨none, 0, rfl, Nat.le_refl _, .inl rfl⟩

/-- The first setting, and the second. -/
theorem awake_first (W : World) (k : Nat) (hd : Lst W (.slice (some ⟨k, 0, none⟩) 1 1) [fA]) :
    Calls Try.prog 11 #[.slice none 0 0, .agg #[.int .i64 3, .string ⟨#[120]⟩, .string ⟨#[]⟩, .slice (some ⟨k, 0, none⟩) 1 1, .slice none 0 0, .bool false, .int .i64 0, .int .i64 0, .slice none 0 0, .slice none 0 0, .slice none 0 0], .int .i64 5] W fun e w' => ∃ to tn tc av co cc, e = .returned (.tuple #[.slice to tn tc, ansW 0 false av nilV 6, .slice co 1 cc, .int .i64 0]) ∧ Adds W w' ∧ Hid (LstD w' (.slice to tn tc) [⟨kX, [fA]⟩]) ∧ (∃ a n c, av = .slice a n c) := by
  have := apply_turn (.slice none 0 0) [] ⟨qX, .slice (some ⟨k, 0, none⟩) 1 1, .slice none 0 0, .slice none 0 0, .slice none 0 0, .slice none 0 0⟩ 5 W ⟨none, 0, rfl, Nat.le_refl _, .inl rfl⟩ fine_nil ⟨by omega, by omega⟩ ⟨hd, qX_doc, lst_nil W, qX_want, ⟨none, 0, 0, rfl⟩, ⟨none, 0, 0, rfl⟩, ⟨none, 0, 0, rfl⟩⟩ qX_4 qX_5 qX_6
  refine this.mono ?_
  rintro e w' ⟨tv, ah, av, cv, rfl, hA, hF⟩
  have h1 := hF.out.docs _ (Far.refl _ _)
  have h2 := hF.out.has
  have h3 := hF.out.doc _ (Far.refl _ _)
  have h4 := hF.out.news _ (Far.refl _ _)
  simp only [csT, qX_first, if_true] at h1 h2 h3 h4
  have e1 : foldC [] [chgT qX] = [⟨kX, [fA]⟩] := one_doc
  rw [e1] at h1
  obtain ⟨to, tc, rfl, _, _⟩ := id h1
  obtain ⟨co, cc, rfl, _, _⟩ := h4
  obtain ⟨ao, ac, hav, _, _⟩ := h3
  refine ⟨to, _, tc, av, co, cc, ?_, hA, h1, ⟨_, _, _, hav⟩⟩
  have e2 : ah = false := by rw [h2]; rfl
  subst e2
  simp only [csT, qX_first, if_true]
  rfl

theorem awake_second (W : World) (k : Nat) (s : Value) (hl : LstD W s [⟨kX, [fA]⟩]) (hd : Lst W (.slice (some ⟨k, 0, none⟩) 1 1) [fA]) :
    Calls Try.prog 11 #[s, .agg #[.int .i64 3, .string ⟨#[120]⟩, .string ⟨#[]⟩, .slice (some ⟨k, 0, none⟩) 1 1, .slice none 0 0, .bool false, .int .i64 0, .int .i64 0, .slice none 0 0, .slice none 0 0, .slice none 0 0], .int .i64 6] W fun e w' => ∃ to tn tc av co cc, e = .returned (.tuple #[.slice to tn tc, ansW 7 true av nilV 0, .slice co 0 cc, .int .i64 0]) ∧ Adds W w' ∧ (∃ a n c, av = .slice a n c) := by
  have := apply_turn s [⟨kX, [fA]⟩] ⟨qX, .slice (some ⟨k, 0, none⟩) 1 1, .slice none 0 0, .slice none 0 0, .slice none 0 0, .slice none 0 0⟩ 6 W hl one_fine ⟨by omega, by omega⟩ ⟨hd, qX_doc, lst_nil W, qX_want, ⟨none, 0, 0, rfl⟩, ⟨none, 0, 0, rfl⟩, ⟨none, 0, 0, rfl⟩⟩ qX_4 qX_5 qX_6
  refine this.mono ?_
  rintro e w' ⟨tv, ah, av, cv, rfl, hA, hF⟩
  have h1 := hF.out.docs _ (Far.refl _ _)
  have h2 := hF.out.has
  have h3 := hF.out.doc _ (Far.refl _ _)
  have h4 := hF.out.news _ (Far.refl _ _)
  have e0 : csT [⟨kX, [fA]⟩] qX = [] := by
    unfold csT
    rw [qX_second]
    rfl
  simp only [e0, qX_second] at h1 h2 h3 h4
  obtain ⟨to, tc, rfl, _, _⟩ := id h1
  obtain ⟨co, cc, rfl, _, _⟩ := h4
  obtain ⟨ao, ac, hav, _, _⟩ := h3
  refine ⟨to, (foldC [(⟨kX, [fA]⟩ : Dn)] []).length, tc, av, co, cc, ?_, hA, ⟨_, _, _, hav⟩⟩
  have e2 : ah = true := by
    rw [h2]
    show (decide ((7 : Int) = 7) && hasAt kX [⟨kX, [fA]⟩]) = true
    rw [one_has]
    rfl
  subst e2
  simp only [e0, qX_second]
  rfl

set_option maxRecDepth 20000 in
set_option maxHeartbeats 2000000 in
theorem awake_any (w : World) : Calls Try.prog 9 #[] w fun e w' => e = .returned (.bool true) ∧ Adds w w' := by
  have HD : Hid (∀ W k, W.heap[k]? = some (.cells #[.string ⟨#[97]⟩, .int .i64 1, .int .i64 1, .string ⟨#[]⟩, .int .i64 0, .int .i64 0] 54 (0, 0)) → Lst W (.slice (some ⟨k, 0, none⟩) 1 1) [fA]) := by
    intro W k hk
    refine ⟨_, 1, rfl, Nat.le_refl _, .inr ⟨k, 0, rfl, (Array.getElem?_eq_some_iff.1 hk).1, fun j hj => ?_⟩⟩
    have : j = 0 := by simpa using hj
    subst this
    simp [World.cell?, hk, fA]
  have kA := fun (W : World) (k : Nat) hk => awake_first W k (HD.out W k hk)
  have kB := fun (W : World) (k : Nat) (s : Value) hl hk => awake_second W k s hl (HD.out W k hk)
  have KB : Hid _ := kB
  clear HD kB
  go_enter Try.func9, Try.ntmps9
  go_wp2_with fail
  refine (kA _ w.heap.size (box_at w _ _)).mono ?_
  rintro e w1 ⟨to, tn, tc, av, co, cc, rfl, ⟨os1, n1, rfl⟩, HL, ⟨va, vn, vc, rfl⟩⟩
  clear kA
  go_wp2_with fail
  refine (KB.out _ w.heap.size _ (HL.out.adds (by repeat (first | with_reducible exact Adds.refl _ | with_reducible refine Adds.alloc ?_ _ | with_reducible refine Adds.more ?_ _ _ | with_reducible refine Adds.drew ?_ | with_reducible refine Adds.drewN ?_ _))) (((Adds.below (w := (w.alloc _).alloc _) (by repeat (first | with_reducible exact Adds.refl _ | with_reducible refine Adds.alloc ?_ _ | with_reducible refine Adds.more ?_ _ _ | with_reducible refine Adds.drew ?_ | with_reducible refine Adds.drewN ?_ _))).block w.heap.size (by simp only [World.size_alloc]; omega)).trans (box_at w _ _))).mono ?_
  rintro e w2 ⟨to2, tn2, tc2, av2, co2, cc2, rfl, ⟨os2, n2, rfl⟩, ⟨va2, vn2, vc2, rfl⟩⟩
  go_wp2_with fail
  go_ret
  exact ⟨rfl, (by repeat (first | with_reducible exact Adds.refl _ | with_reducible refine Adds.alloc ?_ _ | with_reducible refine Adds.more ?_ _ _ | with_reducible refine Adds.drew ?_ | with_reducible refine Adds.drewN ?_ _))⟩

end Go.Proofs.Ytgnhkpihlghbmaa
