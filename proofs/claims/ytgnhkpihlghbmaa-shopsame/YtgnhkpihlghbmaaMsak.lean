/-
  The function ask of package shop, by contracts, for all that is asked but a scan. The memory of Apply of package shop: the place of a change is stored into a row that the call owns; a box turns. The function Apply of package shop, by contract. Apply of package shop, of one that turns a document, of one that gets, and of a batch.
-/
import Derived.Test.YtgnhkpihlghbmaaMsbc
namespace Go.Proofs.Ytgnhkpihlghbmaa
open Go.RowKit
attribute [local go_sem] cell?_more frozen?_more setCell_more size_more tape_more drew_more drewN_more more_drew more_drewN one_out plus_out plus_end lt_one le_p2 le_p3 le_p4 le_p5 le_p6 le_p7 le_p8 le_p9 le_p10 le_p11 le_p12 le_p13 le_p14 le_p15 le_p16 le_p17 le_p18 le_p19 le_p20 le_p21 le_p22 le_p23 le_p24 le_q0 le_q1 lt_q1 le_q2 lt_q2 le_q3 lt_q3 le_q4 lt_q4 le_q5 lt_q5 le_q6 lt_q6 le_q7 lt_q7 le_q8 lt_q8 le_q9 lt_q9 le_q10 lt_q10 le_q11 lt_q11 le_q12 lt_q12 le_q13 lt_q13 le_q14 lt_q14 le_q15 lt_q15 le_q16 lt_q16 le_q17 lt_q17 le_q18 lt_q18 le_q19 lt_q19 le_q20 lt_q20 le_q21 lt_q21 le_q22 lt_q22 le_q23 lt_q23 le_q24 lt_q24

abbrev ansW (c : Int) (has : Bool) (v d : Value) (n : Int) : Value := .agg #[.int .i64 c, .bool has, v, d, .slice none 0 0, .int .i64 n, .int .i64 0, .slice none 0 0]

/-- What is known of what ask tells: the changes, the code, what stands there. -/
structure AskFacts (cs : List Ch) (hs : Bool) (doc : List F) (w w' : World) (v : Value) (ah : Bool) (av : Value) : Prop where
  rows : ∃ rs, OwnH w.heap.size v rs w w' ∧ rs.map (·.1) = cs
  has : ah = hs
  doc : RowF w.heap.size w' av doc

def AskTold (cs : List Ch) (code : Int) (hs : Bool) (doc : List F) (w : World) (e : Ending) (w' : World) : Prop :=
  ∃ vo vn vc ah ao an ac, e = .returned (.tuple #[.slice vo vn vc, ansW code ah (.slice ao an ac) nilV 0]) ∧ Adds w w' ∧ Hid (AskFacts cs hs doc w w' (.slice vo vn vc) ah (.slice ao an ac))

theorem ownH_far {B C : Nat} {v : Value} {rs : List Rh} {W0 w w0 w' : World} (h : OwnH B v rs W0 w) (hf : Far B w w') (hC : C ≤ B) (hA : Adds w0 w') (hn : C ≤ w'.heap.size) (h0 : w0.heap.size = C) : OwnH C v rs w0 w' := by
  subst h0
  exact ⟨row_lower (row_far h.1 hf) hC, hA.below, hn, fun r hr => row_lower (row_far (h.2.2.2 r hr) hf) hC⟩

theorem askTold_nil {cs : List Ch} {code : Int} {hs : Bool} {doc : List F} {w w' : World} {ah : Bool} {ao : Option Addr} {an ac : Nat} (hc : cs = []) (hA : Adds w w') (h1 : ah = hs) (h2 : RowF w.heap.size w' (.slice ao an ac) doc) : AskTold cs code hs doc w (.returned (.tuple #[nilV, ansV code ah (.slice ao an ac)])) w' :=
  ⟨none, 0, 0, ah, ao, an, ac, rfl, hA, ⟨[], ⟨World.ownsRow_nil _ _ _ _, hA.below, hA.below.size, fun r h => by cases h⟩, hc.symm⟩, h1, h2⟩

theorem askTold_own {cs : List Ch} {code : Int} {hs : Bool} {doc : List F} {w w' : World} {vo : Option Addr} {vn vc : Nat} {ah : Bool} {ao : Option Addr} {an ac : Nat} {rs : List Rh} (hA : Adds w w') (ho : OwnH w.heap.size (.slice vo vn vc) rs w w') (hm : rs.map (·.1) = cs) (h1 : ah = hs) (h2 : RowF w.heap.size w' (.slice ao an ac) doc) : AskTold cs code hs doc w (.returned (.tuple #[.slice vo vn vc, ansV code ah (.slice ao an ac)])) w' :=
  ⟨vo, vn, vc, ah, ao, an, ac, rfl, hA, ⟨rs, ho, hm⟩, h1, h2⟩

theorem ownH_one {w0 W : World} {k : Nat} (r : Rh) (hk : W.heap[k]? = some (.cells #[.int .i64 r.1.pos, .string r.1.key, .bool r.1.has, r.2] 40 (0, 0))) (hB : w0.heap.size ≤ k) (hr : RowF w0.heap.size W r.2 r.1.doc) (hA : Adds w0 W) : OwnH w0.heap.size (.slice (some ⟨k, 0, none⟩) 1 1) [r] w0 W :=
  ⟨⟨by simp [cellsH, Ch.cells], .inr ⟨k, 1, _, rfl, hB, hk, Nat.le_refl _, by unfold maxLen; omega, by simp, by simp [cellsH, Ch.cells]⟩⟩, hA.below, hA.below.size, fun x hx => by have := List.mem_singleton.1 hx; subst this; exact hr⟩

/-- Of a batch. -/
def codeBt (ds : List Dn) (os : List Qv) : Int := if os.length < 1 ∨ 4 < os.length ∨ os.any (fun v => aloneQ v.q) = true then 1 else codeB ds (qsOf os)

set_option maxRecDepth 20000 in
set_option maxHeartbeats 2000000 in
theorem ask_get (s : Value) (ds : List Dn) (v : Qv) (w : World) (hl : LstD w s ds) (hf : Fine ds) (hk : v.q.kind = 4) :
    Calls Try.prog 21 #[s, v.val] w fun e w' => AskTold [] (if isKey v.q.key then 0 else 1) (isKey v.q.key && hasAt v.q.key ds) (if isKey v.q.key then docAt v.q.key ds else []) w e w' := by
  obtain ⟨⟨kind, key, to, doc, want, has, n, most⟩, dv, wv, lv, sv, nv⟩ := v
  simp only at hk
  subst hk
  have kG := fun W (hA : Adds w W) => get_any s ds ⟨4, key, to, doc, want, has, n, most⟩ dv wv lv sv nv W (hl.adds hA) hf
  obtain ⟨so, sc, rfl, _, _⟩ := hl
  simp only [Qv.val, opV] at kG ⊢
  clear hf
  generalize h1 : (if isKey key = true then (0 : Int) else 1) = c0
  generalize h2 : (isKey key && hasAt key ds) = b0
  generalize h3 : (if isKey key = true then docAt key ds else []) = d0
  have H1 : Hid _ := h1
  have H2 : Hid _ := h2
  have H3 : Hid _ := h3
  clear h1 h2 h3
  go_enter Try.func21, Try.ntmps21
  go_wp2_with (go_at_call 40; refine (kG _ (by repeat (first | with_reducible exact Adds.refl _ | with_reducible refine Adds.alloc ?_ _ | with_reducible refine Adds.more ?_ _ _ | with_reducible refine Adds.drew ?_ | with_reducible refine Adds.drewN ?_ _))).mono ?_; rintro e w4 ⟨c, ah, ao, an, ac, rfl, ⟨os4, n4, rfl⟩, HP⟩)
  refine bodyPost_ret (v := .tuple #[nilV, ansV c ah (.slice ao an ac)]) (by simp [results, Try.results21, go_sem]) rfl ?_
  obtain ⟨hc, h2, h3⟩ := HP.out
  have hc' : c = c0 := hc.trans H1.out
  subst hc'
  refine askTold_nil rfl ?_ (h2.trans H2.out) (row_lower (row_far (by rw [← H3.out]; exact h3) ?_) ?_)
  · repeat (first | with_reducible exact Adds.refl _ | with_reducible refine Adds.alloc ?_ _ | with_reducible refine Adds.more ?_ _ _ | with_reducible refine Adds.drew ?_ | with_reducible refine Adds.drewN ?_ _)
  · repeat (first | with_reducible exact Far.refl _ _ | with_reducible refine Far.mores ?_ (by simp [go_sem]) _ _ _ | with_reducible refine Far.allocs ?_ (by simp [go_sem]) _ | with_reducible refine Far.low ?_ (by simp [go_sem]) (by first | omega | (simp [go_sem] <;> omega)) _ _ | with_reducible refine Far.more ?_ _ _ | with_reducible refine Far.alloc ?_ _ | with_reducible refine Far.drew ?_ | with_reducible refine Far.drewN ?_ _)
  · simp only [World.size_alloc]; omega

set_option maxRecDepth 20000 in
set_option maxHeartbeats 2000000 in
theorem ask_batch (s : Value) (ds : List Dn) (v : Qv) (os : List Qv) (w : World) (hl : LstD w s ds) (hf : Fine ds) (ho : LstO w v.lv os) (ho6 : os.length ≤ 1000) (hk : v.q.kind = 6) :
    Calls Try.prog 21 #[s, v.val] w fun e w' => AskTold (if codeBt ds os = 0 then os.map (fun v => chgT v.q) else []) (codeBt ds os) false [] w e w' := by
  obtain ⟨⟨kind, key, to, doc, want, has, n, most⟩, dv, wv, lv, sv, nv⟩ := v
  simp only at hk ho
  subst hk
  have kG := fun W (hA : Adds w W) => batch_any s ds lv os W (hl.adds hA) hf (ho.adds hA) ho6
  obtain ⟨so, sc, rfl, _, _⟩ := hl
  obtain ⟨lo, lc, rfl, _, _⟩ := ho
  simp only [Qv.val, opV] at kG ⊢
  clear hf
  generalize hcs : (if codeBt ds os = 0 then os.map (fun v => chgT v.q) else []) = cs
  have HCS : Hid _ := hcs
  clear hcs
  go_enter Try.func21, Try.ntmps21
  go_wp2_with (go_at_call 42; refine (kG _ (by repeat (first | with_reducible exact Adds.refl _ | with_reducible refine Adds.alloc ?_ _ | with_reducible refine Adds.more ?_ _ _ | with_reducible refine Adds.drew ?_ | with_reducible refine Adds.drewN ?_ _))).mono ?_; rintro e w4 ⟨c, vo, vn, vc, rfl, ⟨os4, n4, rfl⟩, HP⟩)
  refine bodyPost_ret (v := .tuple #[.slice vo vn vc, ansV c false nilV]) (by simp [results, Try.results21, go_sem]) rfl ?_
  obtain ⟨hc, hbad, hgood⟩ := HP.out
  have hc' : c = codeBt ds os := hc
  have hcs := HCS.out
  rw [← hc'] at hcs ⊢
  by_cases h0 : c = 0
  · obtain ⟨rs, hr1, hr2⟩ := hgood h0
    rw [if_pos h0] at hcs
    refine askTold_own ?_ (ownH_far hr1 ?_ ?_ ?_ ?_ rfl) (hr2.trans hcs) rfl (World.ownsRow_nil _ _ _ _)
    · repeat (first | with_reducible exact Adds.refl _ | with_reducible refine Adds.alloc ?_ _ | with_reducible refine Adds.more ?_ _ _ | with_reducible refine Adds.drew ?_ | with_reducible refine Adds.drewN ?_ _)
    · repeat (first | with_reducible exact Far.refl _ _ | with_reducible refine Far.mores ?_ (by simp [go_sem]) _ _ _ | with_reducible refine Far.allocs ?_ (by simp [go_sem]) _ | with_reducible refine Far.low ?_ (by simp [go_sem]) (by first | omega | (simp [go_sem] <;> omega)) _ _ | with_reducible refine Far.more ?_ _ _ | with_reducible refine Far.alloc ?_ _ | with_reducible refine Far.drew ?_ | with_reducible refine Far.drewN ?_ _)
    · simp only [World.size_alloc]; omega
    · repeat (first | with_reducible exact Adds.refl _ | with_reducible refine Adds.alloc ?_ _ | with_reducible refine Adds.more ?_ _ _ | with_reducible refine Adds.drew ?_ | with_reducible refine Adds.drewN ?_ _)
    · simp only [size_more, World.size_alloc]; omega
  · obtain ⟨rfl, rfl, rfl⟩ := hbad h0
    rw [if_neg h0] at hcs
    refine askTold_nil hcs.symm ?_ rfl (World.ownsRow_nil _ _ _ _)
    repeat (first | with_reducible exact Adds.refl _ | with_reducible refine Adds.alloc ?_ _ | with_reducible refine Adds.more ?_ _ _ | with_reducible refine Adds.drew ?_ | with_reducible refine Adds.drewN ?_ _)

set_option maxRecDepth 20000 in
set_option maxHeartbeats 4000000 in
theorem ask_turn (s : Value) (ds : List Dn) (v : Qv) (w : World) (hl : LstD w s ds) (hf : Fine ds) (hv : QvOk w v) (h4 : ¬ v.q.kind = 4) (h5 : ¬ v.q.kind = 5) (h6 : ¬ v.q.kind = 6) :
    Calls Try.prog 21 #[s, v.val] w fun e w' => AskTold (if codeT ds v.q = 0 then [chgT v.q] else []) (codeT ds v.q) (decide (codeT ds v.q = 7) && hasAt v.q.key ds) (if codeT ds v.q = 7 then docAt v.q.key ds else []) w e w' := by
  have kT := fun W (hA : Adds w W) => turn_any s ds v.q v.dv v.wv v.lv v.sv v.nv W (hl.adds hA) ⟨by have := hf.2; omega, hf.risen, hf.docs, hv.1.adds hA, hv.2.1, hv.2.2.1.adds hA, hv.2.2.2.1⟩
  have HD : Hid (∀ ck ch co cn cc ah ao an ac W w1 w2, TurnFacts (codeT ds v.q) ds v.q W w1 ck ch (.slice co cn cc) ah (.slice ao an ac) → Far W.heap.size w1 w2 → w.heap.size ≤ W.heap.size →
      ah = (decide (codeT ds v.q = 7) && hasAt v.q.key ds) ∧ RowF w.heap.size w2 (.slice ao an ac) (if codeT ds v.q = 7 then docAt v.q.key ds else [])) := by
    intro ck ch co cn cc ah ao an ac W w1 w2 hT hfr hs
    by_cases h7 : codeT ds v.q = 7
    · obtain ⟨a1, a2⟩ := hT.some h7
      rw [if_pos h7]
      exact ⟨by rw [a1]; simp [h7], row_lower (row_far a2 hfr) hs⟩
    · obtain ⟨a1, a2⟩ := hT.none h7
      rw [if_neg h7]
      exact ⟨by rw [a1]; simp [h7], by rw [a2]; exact World.ownsRow_nil _ _ _ _⟩
  obtain ⟨_, _, _, _, ⟨la, ln, lc, h51⟩, ⟨sa, sn, sc', h52⟩, ⟨na, nn, nc, h53⟩⟩ := id hv
  obtain ⟨hd1, _, hw1, _⟩ := hv
  obtain ⟨q, dv, wv, lv, sv, nv⟩ := v
  simp only at h51 h52 h53 hd1 hw1 h4 h5 h6 kT HD
  subst h51 h52 h53
  obtain ⟨da, dc, rfl, _, _⟩ := hd1
  obtain ⟨wa, wc, rfl, _, _⟩ := hw1
  obtain ⟨so, sc, rfl, _, _⟩ := hl
  simp only [Qv.val, opV] at kT ⊢
  have b4 : (q.kind == 4) = false := by simpa using h4
  have b5 : (q.kind == 5) = false := by simpa using h5
  have b6 : (q.kind == 6) = false := by simpa using h6
  clear hf
  have HW : Hid (∀ ck ch co cn cc ah ao an ac W w1 w2, TurnFacts (codeT ds q) ds q W w1 ck ch (.slice co cn cc) ah (.slice ao an ac) → Far W.heap.size w1 w2 → w.heap.size ≤ W.heap.size → codeT ds q = 0 → ck = q.key ∧ ch = hasT q ∧ RowF w.heap.size w2 (.slice co cn cc) (docOf q)) := by
    intro ck ch co cn cc ah ao an ac W w1 w2 hT hfr hs h0
    obtain ⟨a1, a2, a3⟩ := hT.good h0
    exact ⟨a1, a2, row_lower (row_far a3 hfr) hs⟩
  generalize (decide (codeT ds q = 7) && hasAt q.key ds) = b0 at *
  generalize (if codeT ds q = 7 then docAt q.key ds else []) = d0 at *
  generalize hcs : (if codeT ds q = 0 then [chgT q] else []) = cs
  have HCS : Hid _ := hcs
  clear hcs
  generalize codeT ds q = c0 at *
  by_cases hz : c0 = 0
  · subst hz
    have hcs : cs = [chgT q] := by rw [← HCS.out]; rfl
    have HCS2 : Hid _ := hcs
    clear HCS hcs
    go_enter Try.func21, Try.ntmps21
    go_wp2_with (go_at_call 43; refine (kT _ (by repeat (first | with_reducible exact Adds.refl _ | with_reducible refine Adds.alloc ?_ _ | with_reducible refine Adds.more ?_ _ _ | with_reducible refine Adds.drew ?_ | with_reducible refine Adds.drewN ?_ _))).mono ?_; rintro e w4 ⟨ck, ch, co, cn, cc, ah, ao, an, ac, rfl, ⟨os4, n4, rfl⟩, HP⟩)
    go_region
    all_goals
      go_wp2
      refine bodyPost_ret (v := .tuple #[.slice (some ⟨w.heap.size + os4.size + 1 + 1 + 1 + 1, 0, none⟩) 1 1, ansV 0 ah (.slice ao an ac)]) (by simp [results, Try.results21, go_sem]) rfl ?_
      have h3 := HP.out
      obtain ⟨rfl, rfl, _⟩ := HW.out _ _ _ _ _ _ _ _ _ _ _ _ h3 (Far.refl _ _) (by simp only [World.size_alloc]; omega) (by simp)
      refine askTold_own ?_ (ownH_one ((⟨0, q.key, hasT q, docOf q⟩, .slice co cn cc) : Rh) (at_newH _ _ _ (by simp [go_sem])) (by omega) (HW.out _ _ _ _ _ _ _ _ _ _ _ _ h3 (by repeat (first | with_reducible exact Far.refl _ _ | with_reducible refine Far.mores ?_ (by simp [go_sem]) _ _ _ | with_reducible refine Far.allocs ?_ (by simp [go_sem]) _ | with_reducible refine Far.low ?_ (by simp [go_sem]) (by first | omega | (simp [go_sem] <;> omega)) _ _ | with_reducible refine Far.more ?_ _ _ | with_reducible refine Far.alloc ?_ _ | with_reducible refine Far.drew ?_ | with_reducible refine Far.drewN ?_ _)) (by simp only [World.size_alloc]; omega) (by simp)).2.2 ?_) (by rw [HCS2.out]; rfl) (HD.out _ _ _ _ _ _ _ _ _ _ _ _ h3 (Far.refl _ _) (by simp only [World.size_alloc]; omega)).1 (HD.out _ _ _ _ _ _ _ _ _ _ _ _ h3 (by repeat (first | with_reducible exact Far.refl _ _ | with_reducible refine Far.mores ?_ (by simp [go_sem]) _ _ _ | with_reducible refine Far.allocs ?_ (by simp [go_sem]) _ | with_reducible refine Far.low ?_ (by simp [go_sem]) (by first | omega | (simp [go_sem] <;> omega)) _ _ | with_reducible refine Far.more ?_ _ _ | with_reducible refine Far.alloc ?_ _ | with_reducible refine Far.drew ?_ | with_reducible refine Far.drewN ?_ _)) (by simp only [World.size_alloc]; omega)).2
      · repeat (first | with_reducible exact Adds.refl _ | with_reducible refine Adds.alloc ?_ _ | with_reducible refine Adds.more ?_ _ _ | with_reducible refine Adds.drew ?_ | with_reducible refine Adds.drewN ?_ _)
      · repeat (first | with_reducible exact Adds.refl _ | with_reducible refine Adds.alloc ?_ _ | with_reducible refine Adds.more ?_ _ _ | with_reducible refine Adds.drew ?_ | with_reducible refine Adds.drewN ?_ _)
  · have hcs : cs = [] := by rw [← HCS.out, if_neg hz]
    have HCS2 : Hid _ := hcs
    clear HCS hcs HW
    have hz1 : (c0 == 0) = false := by simpa using hz
    have hz2 : (c0 != 0) = true := by simpa using hz
    clear hz
    go_enter Try.func21, Try.ntmps21
    go_wp2_with (go_at_call 43; refine (kT _ (by repeat (first | with_reducible exact Adds.refl _ | with_reducible refine Adds.alloc ?_ _ | with_reducible refine Adds.more ?_ _ _ | with_reducible refine Adds.drew ?_ | with_reducible refine Adds.drewN ?_ _))).mono ?_; rintro e w4 ⟨ck, ch, co, cn, cc, ah, ao, an, ac, rfl, ⟨os4, n4, rfl⟩, HP⟩)
    go_region
    all_goals
      go_wp2
      refine bodyPost_ret (v := .tuple #[nilV, ansV c0 ah (.slice ao an ac)]) (by simp [results, Try.results21, go_sem]) rfl ?_
      have h3 := HP.out
      refine askTold_nil HCS2.out ?_ (HD.out _ _ _ _ _ _ _ _ _ _ _ _ h3 (Far.refl _ _) (by simp only [World.size_alloc]; omega)).1 (HD.out _ _ _ _ _ _ _ _ _ _ _ _ h3 (by repeat (first | with_reducible exact Far.refl _ _ | with_reducible refine Far.mores ?_ (by simp [go_sem]) _ _ _ | with_reducible refine Far.allocs ?_ (by simp [go_sem]) _ | with_reducible refine Far.low ?_ (by simp [go_sem]) (by first | omega | (simp [go_sem] <;> omega)) _ _ | with_reducible refine Far.more ?_ _ _ | with_reducible refine Far.alloc ?_ _ | with_reducible refine Far.drew ?_ | with_reducible refine Far.drewN ?_ _)) (by simp only [World.size_alloc]; omega)).2
      repeat (first | with_reducible exact Adds.refl _ | with_reducible refine Adds.alloc ?_ _ | with_reducible refine Adds.more ?_ _ _ | with_reducible refine Adds.drew ?_ | with_reducible refine Adds.drewN ?_ _)

end Go.Proofs.Ytgnhkpihlghbmaa

namespace Go.Proofs.Ytgnhkpihlghbmaa
open Go.RowKit
attribute [local go_sem] cell?_more frozen?_more setCell_more size_more tape_more drew_more drewN_more more_drew more_drewN one_out plus_out plus_end lt_one le_p2 le_p3 le_p4 le_p5 le_p6 le_p7 le_p8 le_p9 le_p10 le_p11 le_p12 le_p13 le_p14 le_p15 le_p16 le_p17 le_p18 le_p19 le_p20 le_p21 le_p22 le_p23 le_p24 le_q0 le_q1 lt_q1 le_q2 lt_q2 le_q3 lt_q3 le_q4 lt_q4 le_q5 lt_q5 le_q6 lt_q6 le_q7 lt_q7 le_q8 lt_q8 le_q9 lt_q9 le_q10 lt_q10 le_q11 lt_q11 le_q12 lt_q12 le_q13 lt_q13 le_q14 lt_q14 le_q15 lt_q15 le_q16 lt_q16 le_q17 lt_q17 le_q18 lt_q18 le_q19 lt_q19 le_q20 lt_q20 le_q21 lt_q21 le_q22 lt_q22 le_q23 lt_q23 le_q24 lt_q24

theorem cellsH_set (rs : List Rh) (i : Nat) (hi : i < rs.length) (p : Int) : cellsH (rs.set i (⟨p, rs[i].1.key, rs[i].1.has, rs[i].1.doc⟩, rs[i].2)) = (cellsH rs).set (i * 4) (.int .i64 p) := by
  induction rs generalizing i with
  | nil => simp at hi
  | cons f r ih =>
    cases i with
    | zero => simp [cellsH, Ch.cells]
    | succ i =>
      have := ih i (by simpa using hi)
      simp only [cellsH, List.set_cons_succ, List.flatMap_cons, List.getElem_cons_succ] at this ⊢
      rw [this]
      simp only [Ch.cells, List.cons_append, List.nil_append]
      rw [show (i + 1) * 4 = i * 4 + 1 + 1 + 1 + 1 by omega, List.set_cons_succ, List.set_cons_succ, List.set_cons_succ, List.set_cons_succ]

/-- A row of a document stays where blocks of other types turn. -/
theorem rowF_two {B P g i j : Nat} {wr : World} {a b v : Value} {doc : List F} {cP cg : Array Value} {tP tg : TypeId} (h : RowF B wr v doc) (hP : wr.heap[P]? = some (.cells cP tP (0, 0))) (hg : wr.heap[g]? = some (.cells cg tg (0, 0))) (nP : ¬ tP = 54) (ng : ¬ tg = 54) : RowF B ((wr.setCell ⟨P, i, none⟩ a).setCell ⟨g, j, none⟩ b) v doc := by
  refine ⟨h.1, ?_⟩
  rcases h.2 with h | ⟨q, cap, cur, e, hb, hq, r⟩
  · exact .inl h
  · refine .inr ⟨q, cap, cur, e, hb, ?_, r⟩
    have h1 : q ≠ P := by
      rintro rfl
      rw [hq] at hP
      simp only [Option.some.injEq, Obj.cells.injEq] at hP
      exact nP hP.2.1.symm
    have h2 : q ≠ g := by
      rintro rfl
      rw [hq] at hg
      simp only [Option.some.injEq, Obj.cells.injEq] at hg
      exact ng hg.2.1.symm
    rw [heap_setCell_other _ ⟨g, j, none⟩ q _ h2, heap_setCell_other _ ⟨P, i, none⟩ q _ h1]
    exact hq

/-- The row at a block: its cells, and that they may be written. -/
theorem ownH_open {B n cap : Nat} {ao : Option Addr} {rs : List Rh} {W0 w : World} (h : OwnH B (.slice ao n cap) rs W0 w) (h0 : 0 < rs.length) : n = rs.length ∧ ∃ g, ao = some ⟨g, 0, none⟩ ∧ B ≤ g ∧ n ≤ cap ∧ (∃ cur, w.heap[g]? = some (.cells cur 40 (0, 0))) ∧
    ∀ i (hi : i < rs.length), (w.cell? ⟨g, i * 4, none⟩ = some (.int .i64 rs[i].1.pos) ∧ w.cell? ⟨g, i * 4 + 1, none⟩ = some (.string rs[i].1.key) ∧ w.cell? ⟨g, i * 4 + 2, none⟩ = some (.bool rs[i].1.has) ∧ w.cell? ⟨g, i * 4 + 3, none⟩ = some rs[i].2) ∧ w.frozen? ⟨g, i * 4, none⟩ = false := by
  have hc := fun g => h.1.cells (g := g)
  rcases h.1.2 with ⟨e, hn⟩ | ⟨g, cap', cur, e, hb, hg, hnc, hcm, hcs, htk⟩
  · omega
  · simp only [Value.slice.injEq] at e
    obtain ⟨rfl, rfl, rfl⟩ := e
    refine ⟨rfl, g, rfl, hb, hnc, ⟨cur, hg⟩, fun i hi => ?_⟩
    have q := fun r hr u hu => hc g rfl (i * 4 + r) u (by rw [cellsH_get rs i hi r hr]; exact hu)
    simp only [Addr.add_lit] at q
    refine ⟨⟨?_, ?_, ?_, ?_⟩, by simp [World.frozen?, hg]⟩
    · simpa using q 0 (by omega) _ rfl
    · simpa [Nat.add_assoc] using q 1 (by omega) _ rfl
    · simpa [Nat.add_assoc] using q 2 (by omega) _ rfl
    · simpa [Nat.add_assoc] using q 3 (by omega) _ rfl

/-- The row behind the store of a place, the box's store ahead of it. -/
theorem ownH_place {B g n cap P : Nat} {rs : List Rh} {w : World} {a : Value} {cP : Array Value} (hn : n = rs.length) (h : OwnH B (.slice (some ⟨g, 0, none⟩) n cap) rs w w) (hP : w.heap[P]? = some (.cells cP 35 (0, 0))) (i : Nat) (hi : i < rs.length) (p : Int) :
    OwnH B (.slice (some ⟨g, 0, none⟩) n cap) (rs.set i (⟨p, rs[i].1.key, rs[i].1.has, rs[i].1.doc⟩, rs[i].2)) ((w.setCell ⟨P, 5, none⟩ a).setCell ⟨g, i * 4, none⟩ (.int .i64 p)) ((w.setCell ⟨P, 5, none⟩ a).setCell ⟨g, i * 4, none⟩ (.int .i64 p)) := by
  subst hn
  rcases h.1.2 with ⟨e, hn⟩ | ⟨g', cap', cur, e, hb, hg, hnc, hcm, hcs, htk⟩
  · omega
  · simp only [Value.slice.injEq, Option.some.injEq, Addr.mk.injEq] at e
    obtain ⟨⟨rfl, _⟩, _, rfl⟩ := e
    have hgP : g ≠ P := by
      rintro rfl
      rw [hg] at hP
      simp at hP
    have hg1 : (w.setCell ⟨P, 5, none⟩ a).heap[g]? = some (.cells cur 40 (0, 0)) := by
      rw [heap_setCell_other _ ⟨P, 5, none⟩ g _ hgP]
      exact hg
    have hg2 := heap_setCell_same _ g (i * 4) cur 40 (.int .i64 p) hg1
    refine ⟨⟨by rw [cellsH_set rs i hi, List.length_set, List.length_set, h.1.1], .inr ⟨g, cap, _, by simp, hb, hg2, by simpa using hnc, hcm, by simp [hcs], ?_⟩⟩, Below.refl _ _, by rw [World.size_setCell, World.size_setCell]; exact h.2.2.1, fun r hr => ?_⟩
    · rw [cellsH_set rs i hi, ← htk, List.length_set]
      simp [List.take_set]
    · have hr' : ∃ r0 ∈ rs, r.2 = r0.2 ∧ r.1.doc = r0.1.doc := by
        rcases List.mem_or_eq_of_mem_set hr with hr | rfl
        · exact ⟨r, hr, rfl, rfl⟩
        · exact ⟨rs[i], List.getElem_mem hi, rfl, rfl⟩
      obtain ⟨r0, hr0, e1, e2⟩ := hr'
      rw [e1, e2]
      exact rowF_two (h.2.2.2 r0 hr0) hP hg (by decide) (by decide)

/-- Documents behind some changes. -/
def foldC (ds : List Dn) (cs : List Ch) : List Dn := cs.foldl (fun d c => foldS d c.key c.has c.doc) ds

theorem foldC_zero (ds : List Dn) (cs : List Ch) : foldC ds (cs.take 0) = ds := by simp [foldC]

theorem foldC_next {ds : List Dn} {cs : List Ch} {i : Nat} (h : i < cs.length) : foldC ds (cs.take (i + 1)) = foldS (foldC ds (cs.take i)) cs[i].key cs[i].has cs[i].doc := by
  have e := List.take_succ_eq_append_getElem h
  unfold foldC
  rw [e, List.foldl_append]
  rfl

/-- A change at its place. -/
def atPlace (p : Int) (c : Ch) : Ch := ⟨p, c.key, c.has, c.doc⟩

/-- The changes with their places, the first i of them. -/
def placed (total : Int) (cs : List Ch) (i : Nat) : List Ch := cs.mapIdx (fun j c => if j < i then atPlace (total + 1 + (j : Int)) c else c)

theorem placed_zero (total : Int) (cs : List Ch) : placed total cs 0 = cs := by
  unfold placed
  apply List.ext_getElem
  · simp
  · intro j h1 h2
    simp

theorem placed_len (total : Int) (cs : List Ch) (i : Nat) : (placed total cs i).length = cs.length := by
  unfold placed
  simp

theorem placed_get {total : Int} {cs : List Ch} {i : Nat} (h : i < cs.length) : (placed total cs i)[i]? = some cs[i] := by
  unfold placed
  simp [h]

theorem placed_next {total : Int} {cs : List Ch} {i : Nat} (h : i < cs.length) : (placed total cs i).set i (atPlace (total + 1 + (i : Int)) cs[i]) = placed total cs (i + 1) := by
  unfold placed
  apply List.ext_getElem
  · simp
  · intro j h1 h2
    rw [List.getElem_set]
    by_cases hj : i = j
    · subst hj
      simp
    · rw [if_neg hj]
      simp only [List.getElem_mapIdx]
      by_cases hlt : j < i
      · rw [if_pos hlt, if_pos (by omega)]
      · rw [if_neg hlt, if_neg (by omega)]

end Go.Proofs.Ytgnhkpihlghbmaa

namespace Go.Proofs.Ytgnhkpihlghbmaa
open Go.RowKit
attribute [local go_sem] cell?_more frozen?_more setCell_more size_more tape_more drew_more drewN_more more_drew more_drewN one_out plus_out plus_end lt_one le_p2 le_p3 le_p4 le_p5 le_p6 le_p7 le_p8 le_p9 le_p10 le_p11 le_p12 le_p13 le_p14 le_p15 le_p16 le_p17 le_p18 le_p19 le_p20 le_p21 le_p22 le_p23 le_p24 le_q0 le_q1 lt_q1 le_q2 lt_q2 le_q3 lt_q3 le_q4 lt_q4 le_q5 lt_q5 le_q6 lt_q6 le_q7 lt_q7 le_q8 lt_q8 le_q9 lt_q9 le_q10 lt_q10 le_q11 lt_q11 le_q12 lt_q12 le_q13 lt_q13 le_q14 lt_q14 le_q15 lt_q15 le_q16 lt_q16 le_q17 lt_q17 le_q18 lt_q18 le_q19 lt_q19 le_q20 lt_q20 le_q21 lt_q21 le_q22 lt_q22 le_q23 lt_q23 le_q24 lt_q24

/-- The place of the last of some changes. -/
def nOf (total : Int) (k : Nat) : Int := if k = 0 then 0 else total + k

structure ApplyFacts (ds : List Dn) (cs : List Ch) (hs : Bool) (doc : List F) (total : Int) (w w' : World) (tv : Value) (ah : Bool) (av cv : Value) : Prop where
  docs : ∀ w2, Far w.heap.size w' w2 → LstD w2 tv (foldC ds cs)
  has : ah = hs
  doc : ∀ w2, Far w.heap.size w' w2 → Lst w2 av doc
  news : ∀ w2, Far w.heap.size w' w2 → LstH w2 cv (placed total cs cs.length)
  own : ∃ rs, OwnH w.heap.size cv rs w w' ∧ rs.map (·.1) = placed total cs cs.length

/-- What is told of what is done. -/
def ApplyTold (ds : List Dn) (cs : List Ch) (code : Int) (hs : Bool) (doc : List F) (total : Int) (w : World) (e : Ending) (w' : World) : Prop :=
  ∃ tv ah av cv, e = .returned (.tuple #[tv, ansW code ah av nilV (nOf total cs.length), cv, .int .i64 0]) ∧ Adds w w' ∧ Hid (ApplyFacts ds cs hs doc total w w' tv ah av cv)

theorem Far.trans {n : Nat} {a b c : World} (h : Far n a b) (k : Far n b c) : Far n a c := ⟨Nat.le_trans h.1 k.1, fun g hg hl => (k.2 g hg (Nat.lt_of_lt_of_le hl h.1)).trans (h.2 g hg hl)⟩

theorem below_drew {n : Nat} {w w' : World} (h : Below n w w') : Below n w w'.drew := ⟨h.os, h.tape, h.output, h.size, h.block⟩

theorem OwnH.self {B : Nat} {v : Value} {rs : List Rh} {W0 w : World} (h : OwnH B v rs W0 w) : OwnH B v rs w w := ⟨h.1, Below.refl _ _, h.2.2.1, h.2.2.2⟩

theorem map_at {rs : List Rh} {cs : List Ch} {total : Int} {k : Nat} (hm : rs.map (·.1) = placed total cs k) (hk : k < cs.length) (hk' : k < rs.length) : rs[k].1 = cs[k] := by
  have h1 : (rs.map (·.1))[k]? = some cs[k] := by rw [hm]; exact placed_get hk
  rw [List.getElem?_map, List.getElem?_eq_getElem hk'] at h1
  exact Option.some.inj h1

theorem set_at {w : World} {P i : Nat} {cs : Array Value} {T : TypeId} (h : w.heap[P]? = some (.cells cs T (0, 0))) {v : Value} (hv : cs[i]? = some v) : w.cell? ⟨P, i, none⟩ = some v ∧ w.frozen? ⟨P, i, none⟩ = false := by
  constructor
  · simp [World.cell?, h, hv]
  · simp [World.frozen?, h]

/-- What lies where, behind what is asked and the copy of the documents. -/
theorem apply_mem {w : World} {O1 : Obj} {c2 c3 : Array Value} {os1 os2 os3 : Array Obj} {n1 n2 n3 : Nat} {vo : Option Addr} {vn vc : Nat} {rs0 : List Rh} {av tv : Value} {doc : List F} {ts : List Rn}
    (h : OwnH (more ((w.alloc O1).alloc (.cells c2 35)) os1 n1).heap.size (.slice vo vn vc) rs0 (more ((w.alloc O1).alloc (.cells c2 35)) os1 n1) (more (more ((w.alloc O1).alloc (.cells c2 35)) os1 n1) os2 n2))
    (ha : RowF (more ((w.alloc O1).alloc (.cells c2 35)) os1 n1).heap.size (more (more ((w.alloc O1).alloc (.cells c2 35)) os1 n1) os2 n2) av doc)
    (hT : OwnC ((more (more ((w.alloc O1).alloc (.cells c2 35)) os1 n1) os2 n2).alloc (.cells c3 35)).heap.size tv ts ((more (more ((w.alloc O1).alloc (.cells c2 35)) os1 n1) os2 n2).alloc (.cells c3 35)) (more ((more (more ((w.alloc O1).alloc (.cells c2 35)) os1 n1) os2 n2).alloc (.cells c3 35)) os3 n3)) :
    ∃ P W1, P = w.heap.size + os1.size + os2.size + 1 + 1 ∧ W1 = more ((more (more ((w.alloc O1).alloc (.cells c2 35)) os1 n1) os2 n2).alloc (.cells c3 35)) os3 n3 ∧ Adds w W1 ∧ w.heap.size + 2 ≤ P ∧ P < W1.heap.size ∧
      W1.heap[w.heap.size + 1]? = some (.cells c2 35 (0, 0)) ∧ W1.heap[P]? = some (.cells c3 35 (0, 0)) ∧ OwnH (w.heap.size + 2) (.slice vo vn vc) rs0 W1 W1 ∧ (∀ g, (Value.slice vo vn vc).ownBlock = some g → g < P) ∧ RowF (w.heap.size + 2) W1 av doc ∧
      (∀ w2, Far (P + 1) W1 w2 → LstD w2 tv (ts.map (·.1))) := by
  have hs1 : (more ((w.alloc O1).alloc (.cells c2 35)) os1 n1).heap.size = w.heap.size + os1.size + 1 + 1 := by simp only [size_more, World.size_alloc]; omega
  have hs2 : (more (more ((w.alloc O1).alloc (.cells c2 35)) os1 n1) os2 n2).heap.size = w.heap.size + os1.size + os2.size + 1 + 1 := by rw [size_more, hs1]; omega
  have hA0 : Adds w (more ((more (more ((w.alloc O1).alloc (.cells c2 35)) os1 n1) os2 n2).alloc (.cells c3 35)) os3 n3) := (by repeat (first | with_reducible exact Adds.refl _ | with_reducible refine Adds.alloc ?_ _ | with_reducible refine Adds.more ?_ _ _ | with_reducible refine Adds.drew ?_ | with_reducible refine Adds.drewN ?_ _))
  have hA2 : Adds ((w.alloc O1).alloc (.cells c2 35)) (more ((more (more ((w.alloc O1).alloc (.cells c2 35)) os1 n1) os2 n2).alloc (.cells c3 35)) os3 n3) := (by repeat (first | with_reducible exact Adds.refl _ | with_reducible refine Adds.alloc ?_ _ | with_reducible refine Adds.more ?_ _ _ | with_reducible refine Adds.drew ?_ | with_reducible refine Adds.drewN ?_ _))
  have hA3 : Adds (more (more ((w.alloc O1).alloc (.cells c2 35)) os1 n1) os2 n2) (more ((more (more ((w.alloc O1).alloc (.cells c2 35)) os1 n1) os2 n2).alloc (.cells c3 35)) os3 n3) := (by repeat (first | with_reducible exact Adds.refl _ | with_reducible refine Adds.alloc ?_ _ | with_reducible refine Adds.more ?_ _ _ | with_reducible refine Adds.drew ?_ | with_reducible refine Adds.drewN ?_ _))
  have hA4 : Adds ((more (more ((w.alloc O1).alloc (.cells c2 35)) os1 n1) os2 n2).alloc (.cells c3 35)) (more ((more (more ((w.alloc O1).alloc (.cells c2 35)) os1 n1) os2 n2).alloc (.cells c3 35)) os3 n3) := (by repeat (first | with_reducible exact Adds.refl _ | with_reducible refine Adds.alloc ?_ _ | with_reducible refine Adds.more ?_ _ _ | with_reducible refine Adds.drew ?_ | with_reducible refine Adds.drewN ?_ _))
  have hN := h.adds hA3
  have hNa := ha.adds hA3
  have hlt := h.1.lt
  refine ⟨_, _, rfl, rfl, hA0, by omega, ?_, ?_, ?_, ?_, ?_, ?_, ?_⟩
  · have := hA4.below.size
    rw [World.size_alloc, hs2] at this
    omega
  · rw [hA2.below.block (w.heap.size + 1) (by simp)]
    exact at_newH _ _ _ (by simp)
  · rw [hA4.below.block _ (by rw [World.size_alloc, hs2]; omega)]
    exact at_newH _ _ _ hs2.symm
  · exact ⟨row_lower hN.1 (by rw [hs1]; omega), Below.refl _ _, by have := hA0.below.size; have := hA2.below.size; simp only [World.size_alloc] at this; omega, fun r hr => row_lower (hN.2.2.2 r hr) (by rw [hs1]; omega)⟩
  · intro g hg
    have := (hlt g hg).2
    rw [hs2] at this
    exact this
  · exact row_lower hNa (by rw [hs1]; omega)
  · intro w2 hf
    rw [World.size_alloc, hs2] at hT
    exact ownC_far hT hf

set_option maxRecDepth 20000 in
set_option maxHeartbeats 4000000 in
theorem apply_any (s : Value) (ds : List Dn) (v : Qv) (total : Int) (cs : List Ch) (code : Int) (hs : Bool) (doc : List F) (w : World) (hl : LstD w s ds) (hf : Fine ds) (ht : 0 ≤ total ∧ total ≤ 2147483643) (hcs : cs.length ≤ 4) (hfine : ∀ i, i ≤ cs.length → Fine (foldC ds (cs.take i))) (hdoc : ∀ c ∈ cs, c.doc.length ≤ 1000) (hv : QvOk w v)
    (kA : ∀ W, Adds w W → Calls Try.prog 21 #[s, v.val] W fun e w' => AskTold cs code hs doc W e w') :
    Calls Try.prog 11 #[s, v.val, .int .i64 total] w fun e w' => ApplyTold ds cs code hs doc total w e w' := by
  have kC := fun W (hA : Adds w W) => shopCheck_any s ds W (hl.adds hA) (by have := hf.2; omega)
  rw [err_ok ⟨hf.2, hf.1⟩] at kC
  have kY := fun W (hA : Adds w W) => copyOf_any s ds W (hl.adds hA) (by have := hf.2; omega) hf.docs
  obtain ⟨_, _, _, _, ⟨la, ln, lc, h51⟩, ⟨sa, sn, sc', h52⟩, ⟨na, nn, nc, h53⟩⟩ := id hv
  obtain ⟨hd1, _, hw1, _⟩ := hv
  obtain ⟨q, dv, wv, lv, sv, nv⟩ := v
  simp only at h51 h52 h53 hd1 hw1 kA
  subst h51 h52 h53
  obtain ⟨da, dc, rfl, _, _⟩ := hd1
  obtain ⟨wa, wc, rfl, _, _⟩ := hw1
  obtain ⟨so, sc, rfl, _, _⟩ := hl
  simp only [Qv.val, opV] at kA ⊢
  obtain ⟨ht0, ht1⟩ := ht
  have HFI : Hid (∀ i, i ≤ cs.length → Fine (foldC ds (cs.take i))) := hfine
  have HDC : Hid (∀ c ∈ cs, c.doc.length ≤ 1000) := hdoc
  clear hf hfine hdoc
  go_enter Try.func11, Try.ntmps11
  go_wp2_with (first
    | (go_at_call 20; refine (kC _ (by repeat (first | with_reducible exact Adds.refl _ | with_reducible refine Adds.alloc ?_ _ | with_reducible refine Adds.more ?_ _ _ | with_reducible refine Adds.drew ?_ | with_reducible refine Adds.drewN ?_ _))).mono ?_; rintro e w1 ⟨rfl, os1, n1, rfl⟩)
    | (go_at_call 21; refine (kA _ (by repeat (first | with_reducible exact Adds.refl _ | with_reducible refine Adds.alloc ?_ _ | with_reducible refine Adds.more ?_ _ _ | with_reducible refine Adds.drew ?_ | with_reducible refine Adds.drewN ?_ _))).mono ?_; rintro e w2 ⟨vo, vn, vc, ah, ao, an, ac, rfl, ⟨os2, n2, rfl⟩, HP⟩)
    | (go_at_call 22; refine (kY _ (by repeat (first | with_reducible exact Adds.refl _ | with_reducible refine Adds.alloc ?_ _ | with_reducible refine Adds.more ?_ _ _ | with_reducible refine Adds.drew ?_ | with_reducible refine Adds.drewN ?_ _))).mono ?_; rintro e w3 ⟨tv, rfl, ts, HT0, hm⟩; have HT : Hid _ := HT0; have HM : Hid _ := hm; obtain ⟨os3, n3, rfl⟩ := Adds.of HT0.2.1; obtain ⟨to, tc, rfl, _, _⟩ := (OwnC.lstD HT0); clear HT0 hm))
  obtain ⟨rs0, hr0, hrm⟩ := HP.out.rows
  obtain ⟨P, W1, hP, hW1, hA1, hP2, hP3, hbQ, hbP, hN, hlt, hNa, hD⟩ := apply_mem hr0 HP.out.doc HT.out
  have htl : ts.length = ds.length := by rw [← HM.out, List.length_map]
  rw [HM.out] at hD
  rw [← hW1, ← hP, htl]
  have HX : Hid (Adds w W1 ∧ rs0.map (·.1) = cs ∧ ah = hs) := ⟨hA1, hrm, HP.out.has⟩
  have hvl : vn = cs.length := by
    obtain ⟨_, _, e, _⟩ := hN.lstH
    simp only [Value.slice.injEq] at e
    rw [e.2.1, hrm]
  clear hP hW1 hA1 hrm HP HT HM hr0 htl
  clear kC kY kA
  subst hvl
  have hP2' := hP2
  obtain ⟨HA1, hrm1, hah⟩ := HX.out
  have HAH : Hid (ah = hs) := hah
  clear hah
  go_loopw [12, 36] (fun tv iv wr => ∃ (k : Nat) (rs : List Rh), k ≤ cs.length ∧ iv = .int .i64 k ∧ (∃ a n c, tv = .slice a n c) ∧ Hid (∀ w2, Far (P + 1) wr w2 → LstD w2 tv (foldC ds (cs.take k))) ∧ Hid (OwnH (w.heap.size + 2) (.slice vo cs.length vc) rs wr wr) ∧ Hid (rs.map (·.1) = placed total cs k) ∧
    Hid (wr.heap[P]? = some (.cells #[.int .i64 code, .bool ah, .slice ao an ac, .slice none 0 0, .slice none 0 0, .int .i64 (nOf total k), .int .i64 0, .slice none 0 0] 35 (0, 0))) ∧ Hid (wr.heap[w.heap.size + 1]? = some (.cells #[.int .i64 0, .bool false, .slice none 0 0, .slice none 0 0, .slice none 0 0, .int .i64 0, .int .i64 0, .slice none 0 0] 35 (0, 0))) ∧
    Hid (Adds w wr) ∧ Hid (RowF (w.heap.size + 2) wr (.slice ao an ac) doc) ∧ Hid (P < wr.heap.size)) (fun _ iv _ => cs.length - (intOf iv).toNat)
  case atStart => exact ⟨0, rs0, by omega, rfl, ⟨_, _, _, rfl⟩, by show ∀ w2, _; rw [foldC_zero]; exact hD, hN, by show _ = _; rw [placed_zero]; exact hrm1, hbP, hbQ, HA1, hNa, hP3⟩
  case round =>
    clear hD hN hbP hbQ hNa hP3 hrm1 HA1
    obtain ⟨k, rs, hk, rfl, ⟨ta, tn, tcc, rfl⟩, HD, HO, HM, HBP, HBQ, HA, HV, HPS⟩ := hrel
    have hlen : rs.length = cs.length := by
      have := congrArg List.length HM.out
      rw [List.length_map, placed_len] at this
      exact this
    have x0 := set_at HBP.out (i := 0) rfl
    have x1 := set_at HBP.out (i := 1) rfl
    have x2 := set_at HBP.out (i := 2) rfl
    have x3 := set_at HBP.out (i := 3) rfl
    have x4 := set_at HBP.out (i := 4) rfl
    have x5 := set_at HBP.out (i := 5) rfl
    have x6 := set_at HBP.out (i := 6) rfl
    have x7 := set_at HBP.out (i := 7) rfl
    obtain ⟨x0, x0f⟩ := x0
    obtain ⟨x1, x1f⟩ := x1
    obtain ⟨x2, x2f⟩ := x2
    obtain ⟨x3, x3f⟩ := x3
    obtain ⟨x4, x4f⟩ := x4
    obtain ⟨x5, x5f⟩ := x5
    obtain ⟨x6, x6f⟩ := x6
    obtain ⟨x7, x7f⟩ := x7
    by_cases hltk : k < cs.length
    · obtain ⟨hn0, g, rfl, hBg, hcap, ⟨cur, hcur⟩, hcells⟩ := ownH_open HO.out (by omega)
      clear hn0
      have hkr : k < rs.length := by omega
      obtain ⟨⟨c0, c1, c2, c3⟩, c0f⟩ := hcells k hkr
      have hgP : g < P := hlt g rfl
      have hrk := map_at HM.out hltk hkr
      have hrd : RowF (w.heap.size + 2) wr (rs[k]'hkr).2 cs[k].doc := by
        have := HO.out.2.2.2 _ (List.getElem_mem hkr)
        rw [hrk] at this
        exact this
      have hpl := ownH_place (cap := vc) (n := cs.length) hlen.symm HO.out HBP.out k hkr (total + 1 + (k : Int)) (a := .int .i64 (total + 1 + (k : Int)))
      have hd6 := HDC.out _ (List.getElem_mem hltk)
      rw [hrk] at c0 c1 c2
      have hrv : ∃ a n c, (rs[k]'hkr).2 = .slice a n c := by
        obtain ⟨a, c, e, _⟩ := RowF.lst hrd
        exact ⟨_, _, _, e⟩
      obtain ⟨ra, rn, rc, hrv⟩ := hrv
      rw [hrv] at c3 hrd
      have HZD : Hid (LstD ((wr.setCell ⟨P, 5, none⟩ (.int .i64 (total + 1 + (k : Int)))).setCell ⟨g, k * 4, none⟩ (.int .i64 (total + 1 + (k : Int)))) (.slice ta tn tcc) (foldC ds (cs.take k))) :=
        HD.out _ (((Far.refl _ _).set (by omega) _ _).set (by omega) _ _)
      have HZR : Hid (Lst ((wr.setCell ⟨P, 5, none⟩ (.int .i64 (total + 1 + (k : Int)))).setCell ⟨g, k * 4, none⟩ (.int .i64 (total + 1 + (k : Int)))) (.slice ra rn rc) cs[k].doc) :=
        RowF.lst (rowF_two hrd HBP.out hcur (by decide) (by decide))
      have hgP1 : ¬ P = g := by omega
      have HZP : Hid (((wr.setCell ⟨P, 5, none⟩ (.int .i64 (total + 1 + (k : Int)))).setCell ⟨g, k * 4, none⟩ (.int .i64 (total + 1 + (k : Int)))).heap[P]? = some (.cells #[.int .i64 code, .bool ah, .slice ao an ac, .slice none 0 0, .slice none 0 0, .int .i64 (nOf total (k + 1)), .int .i64 0, .slice none 0 0] 35 (0, 0))) := by
        show _ = _
        rw [heap_setCell_other _ ⟨g, k * 4, none⟩ P _ hgP1, heap_setCell_same _ P 5 _ _ _ HBP.out]
        have e : nOf total (k + 1) = total + 1 + (k : Int) := by
          unfold nOf
          simp
          omega
        rw [e]
        rfl
      have HZQ : Hid (((wr.setCell ⟨P, 5, none⟩ (.int .i64 (total + 1 + (k : Int)))).setCell ⟨g, k * 4, none⟩ (.int .i64 (total + 1 + (k : Int)))).heap[w.heap.size + 1]? = some (.cells #[.int .i64 0, .bool false, .slice none 0 0, .slice none 0 0, .slice none 0 0, .int .i64 0, .int .i64 0, .slice none 0 0] 35 (0, 0))) := by
        show _ = _
        rw [heap_setCell_other _ ⟨g, k * 4, none⟩ _ _ (by show ¬ _ = g; omega), heap_setCell_other _ ⟨P, 5, none⟩ _ _ (by show ¬ _ = P; omega)]
        exact HBQ.out
      have HZA : Hid (Adds w ((wr.setCell ⟨P, 5, none⟩ (.int .i64 (total + 1 + (k : Int)))).setCell ⟨g, k * 4, none⟩ (.int .i64 (total + 1 + (k : Int))))) := Adds.of (below_set (below_set HA.out.below (by omega) _ _) (by omega) _ _)
      have HZV : Hid (RowF (w.heap.size + 2) ((wr.setCell ⟨P, 5, none⟩ (.int .i64 (total + 1 + (k : Int)))).setCell ⟨g, k * 4, none⟩ (.int .i64 (total + 1 + (k : Int)))) (.slice ao an ac) doc) := rowF_two HV.out HBP.out hcur (by decide) (by decide)
      have HFK := HFI.out k hk
      have KF : Hid (∀ W, Adds ((wr.setCell ⟨P, 5, none⟩ (.int .i64 (total + 1 + (k : Int)))).setCell ⟨g, k * 4, none⟩ (.int .i64 (total + 1 + (k : Int)))) W → Calls Try.prog 13 #[.slice ta tn tcc, .agg #[.int .i64 (total + 1 + (k : Int)), .string cs[k].key, .bool cs[k].has, .slice ra rn rc]] W fun e w' => (∃ v, e = .returned v ∧ Hid (∀ w4, Far W.heap.size w' w4 → LstD w4 v (foldS (foldC ds (cs.take k)) cs[k].key cs[k].has cs[k].doc))) ∧ Adds W w') :=
        fun W hA => shopFold_any _ _ _ _ _ _ _ W (HZD.out.adds hA) (HZR.out.adds hA) (by have := HFK.2; omega) HFK.risen HFK.docs hd6
      have HPL : Hid _ := hpl
      have HFN : Hid _ := foldC_next (ds := ds) hltk
      have HPN : Hid (((rs.set k (⟨total + 1 + (k : Int), (rs[k]'hkr).1.key, (rs[k]'hkr).1.has, (rs[k]'hkr).1.doc⟩, (rs[k]'hkr).2)).map (·.1)) = placed total cs (k + 1)) := by
        show _ = _
        rw [List.map_set, HM.out, ← placed_next hltk, hrk]
        rfl
      generalize hcsk : cs[k] = c at *
      have hgP' : ¬ g = P := by omega
      have hPg' : ¬ P = g := by omega
      have hkc : (k : Int) < (cs.length : Int) := by omega
      have hk4 : (k : Int) ≤ 4 := by omega
      have hcapi : (cs.length : Int) ≤ (vc : Int) := by omega
      have HLEN : Hid (rs.length = cs.length) := hlen
      have HCK : Hid _ := hcsk
      clear hcells hrd hpl hd6 HFK hcur hrk hrv HZD HZR hlen hcsk hgP hBg hgP1
      obtain ⟨cp, ck, ch, cd⟩ := c
      simp only at c0 c1 c2 KF
      go_wp2_with (go_at_call 13; refine (KF.out _ (by repeat (first | with_reducible exact Adds.refl _ | with_reducible refine Adds.alloc ?_ _ | with_reducible refine Adds.more ?_ _ _ | with_reducible refine Adds.drew ?_ | with_reducible refine Adds.drewN ?_ _))).mono ?_; rintro e w7 ⟨⟨v7, rfl, hv7⟩, os7, n7, rfl⟩; obtain ⟨o7, c7', rfl, _, _⟩ := hv7.out _ (Far.refl _ _))
      go_roundw
      case rel =>
        have hS := HPS.out
        refine ⟨k + 1, _, by omega, by go_num, ⟨_, _, _, rfl⟩, ?_, OwnH.self (OwnH.adds HPL.out (by repeat (first | with_reducible exact Adds.refl _ | with_reducible refine Adds.alloc ?_ _ | with_reducible refine Adds.more ?_ _ _ | with_reducible refine Adds.drew ?_ | with_reducible refine Adds.drewN ?_ _))), HPN.out, ?_, ?_, Adds.trans HZA.out (by repeat (first | with_reducible exact Adds.refl _ | with_reducible refine Adds.alloc ?_ _ | with_reducible refine Adds.more ?_ _ _ | with_reducible refine Adds.drew ?_ | with_reducible refine Adds.drewN ?_ _)), RowF.adds HZV.out (by repeat (first | with_reducible exact Adds.refl _ | with_reducible refine Adds.alloc ?_ _ | with_reducible refine Adds.more ?_ _ _ | with_reducible refine Adds.drew ?_ | with_reducible refine Adds.drewN ?_ _)), ?_⟩
        · show ∀ w2, _
          rw [HFN.out]
          exact fun w2 hf => hv7.out w2 (Far.mono hf (by simp only [World.size_setCell]; omega))
        · show _ = _
          rw [more_block _ _ (by simp only [World.size_setCell]; omega)]
          exact HZP.out
        · show _ = _
          rw [more_block _ _ (by simp only [World.size_setCell]; omega)]
          exact HZQ.out
        · show P < _
          simp only [size_more, World.size_setCell]
          omega
      case measure => simp [intOf]; omega
    · have hkk : k = cs.length := by omega
      subst hkk
      obtain ⟨q0, r0⟩ := set_at HBQ.out (i := 0) rfl
      obtain ⟨q1, r1⟩ := set_at HBQ.out (i := 1) rfl
      obtain ⟨q2, r2⟩ := set_at HBQ.out (i := 2) rfl
      obtain ⟨q3, r3⟩ := set_at HBQ.out (i := 3) rfl
      obtain ⟨q4, r4⟩ := set_at HBQ.out (i := 4) rfl
      obtain ⟨q5, r5⟩ := set_at HBQ.out (i := 5) rfl
      obtain ⟨q6, r6⟩ := set_at HBQ.out (i := 6) rfl
      obtain ⟨q7, r7⟩ := set_at HBQ.out (i := 7) rfl
      have hPQ : ¬ P = w.heap.size + 1 := by omega
      have hQP : ¬ w.heap.size + 1 = P := by omega
      have HLEN : Hid (rs.length = cs.length) := hlen
      clear hlen hltk
      generalize hnn : nOf total cs.length = N at *
      have HN : Hid _ := hnn
      clear hnn
      go_wp2
      go_region
      all_goals
        go_wp2
        refine bodyPost_ret (v := .tuple #[.slice ta tn tcc, ansW code ah (.slice ao an ac) nilV N, .slice vo cs.length vc, .int .i64 0]) (by simp [results, Try.results11, go_sem, q0, q1, q2, q3, q4, q5, q6, q7]) rfl ?_
        have hF1 : ∀ n, w.heap.size + 1 < n → Far n wr ((((((((wr.setCell ⟨w.heap.size + 1, 0, none⟩ (.int .i64 code)).setCell ⟨w.heap.size + 1, 1, none⟩ (.bool ah)).setCell ⟨w.heap.size + 1, 2, none⟩ (.slice ao an ac)).setCell ⟨w.heap.size + 1, 3, none⟩ nilV).setCell ⟨w.heap.size + 1, 4, none⟩ (.slice none 0 0)).setCell ⟨w.heap.size + 1, 5, none⟩ (.int .i64 N)).setCell ⟨w.heap.size + 1, 6, none⟩ (.int .i64 0)).setCell ⟨w.heap.size + 1, 7, none⟩ (.slice none 0 0)).drew := fun n hn => Far.drew (Far.set (Far.set (Far.set (Far.set (Far.set (Far.set (Far.set (Far.set (Far.refl _ _) hn 0 (.int .i64 code)) hn 1 (.bool ah)) hn 2 (.slice ao an ac)) hn 3 nilV) hn 4 (.slice none 0 0)) hn 5 (.int .i64 N)) hn 6 (.int .i64 0)) hn 7 (.slice none 0 0))
        have hBl : Below w.heap.size w ((((((((wr.setCell ⟨w.heap.size + 1, 0, none⟩ (.int .i64 code)).setCell ⟨w.heap.size + 1, 1, none⟩ (.bool ah)).setCell ⟨w.heap.size + 1, 2, none⟩ (.slice ao an ac)).setCell ⟨w.heap.size + 1, 3, none⟩ nilV).setCell ⟨w.heap.size + 1, 4, none⟩ (.slice none 0 0)).setCell ⟨w.heap.size + 1, 5, none⟩ (.int .i64 N)).setCell ⟨w.heap.size + 1, 6, none⟩ (.int .i64 0)).setCell ⟨w.heap.size + 1, 7, none⟩ (.slice none 0 0)).drew := below_drew (below_set (below_set (below_set (below_set (below_set (below_set (below_set (below_set (HA.out.below) (Nat.le_succ _) 0 (.int .i64 code)) (Nat.le_succ _) 1 (.bool ah)) (Nat.le_succ _) 2 (.slice ao an ac)) (Nat.le_succ _) 3 nilV) (Nat.le_succ _) 4 (.slice none 0 0)) (Nat.le_succ _) 5 (.int .i64 N)) (Nat.le_succ _) 6 (.int .i64 0)) (Nat.le_succ _) 7 (.slice none 0 0))
        refine ⟨_, ah, _, _, by rw [HN.out], Adds.of hBl, fun w2 hf => ?_, HAH.out, fun w2 hf => RowF.lst (row_far HV.out ((hF1 _ (by omega)).trans (Far.mono hf (by omega)))), fun w2 hf => ?_, rs, ownH_far HO.out (hF1 _ (by omega)) (by omega) (Adds.of hBl) hBl.size rfl, HM.out⟩
        · have := HD.out w2 ((hF1 (P + 1) (by omega)).trans (Far.mono hf (by omega)))
          rw [List.take_length] at this
          exact this
        · have := (OwnH.far HO.out ((hF1 _ (by omega)).trans (Far.mono hf (by omega))) (Nat.le_refl _)).lstH
          rw [HM.out] at this
          exact this

end Go.Proofs.Ytgnhkpihlghbmaa

namespace Go.Proofs.Ytgnhkpihlghbmaa
open Go.RowKit
attribute [local go_sem] cell?_more frozen?_more setCell_more size_more tape_more drew_more drewN_more more_drew more_drewN one_out plus_out plus_end lt_one le_p2 le_p3 le_p4 le_p5 le_p6 le_p7 le_p8 le_p9 le_p10 le_p11 le_p12 le_p13 le_p14 le_p15 le_p16 le_p17 le_p18 le_p19 le_p20 le_p21 le_p22 le_p23 le_p24 le_q0 le_q1 lt_q1 le_q2 lt_q2 le_q3 lt_q3 le_q4 lt_q4 le_q5 lt_q5 le_q6 lt_q6 le_q7 lt_q7 le_q8 lt_q8 le_q9 lt_q9 le_q10 lt_q10 le_q11 lt_q11 le_q12 lt_q12 le_q13 lt_q13 le_q14 lt_q14 le_q15 lt_q15 le_q16 lt_q16 le_q17 lt_q17 le_q18 lt_q18 le_q19 lt_q19 le_q20 lt_q20 le_q21 lt_q21 le_q22 lt_q22 le_q23 lt_q23 le_q24 lt_q24

/-- The changes of one that turns a document. -/
def csT (ds : List Dn) (q : Qs) : List Ch := if codeT ds q = 0 then [chgT q] else []

theorem csT_len (ds : List Dn) (q : Qs) : (csT ds q).length ≤ 4 := by
  unfold csT
  split <;> simp

theorem csT_fold (ds : List Dn) (q : Qs) : foldC ds (csT ds q) = if codeT ds q = 0 then stepT ds q else ds := by
  unfold csT
  split
  · rfl
  · rfl

theorem csT_fine {ds : List Dn} {q : Qs} (hf : Fine ds) : ∀ i, i ≤ (csT ds q).length → Fine (foldC ds ((csT ds q).take i)) := by
  intro i hi
  unfold csT at hi ⊢
  split at hi
  · rename_i h0
    rw [if_pos h0]
    simp only [List.length_singleton] at hi
    by_cases hz : i = 0
    · subst hz
      simpa [foldC] using hf
    · have : i = 1 := by omega
      subst this
      exact hf.step h0
  · rename_i h0
    rw [if_neg h0]
    simpa [foldC] using hf

theorem apply_turn (s : Value) (ds : List Dn) (v : Qv) (total : Int) (w : World) (hl : LstD w s ds) (hf : Fine ds) (ht : 0 ≤ total ∧ total ≤ 2147483643) (hv : QvOk w v) (h4 : ¬ v.q.kind = 4) (h5 : ¬ v.q.kind = 5) (h6 : ¬ v.q.kind = 6) :
    Calls Try.prog 11 #[s, v.val, .int .i64 total] w fun e w' => ApplyTold ds (csT ds v.q) (codeT ds v.q) (decide (codeT ds v.q = 7) && hasAt v.q.key ds) (if codeT ds v.q = 7 then docAt v.q.key ds else []) total w e w' :=
  apply_any s ds v total _ _ _ _ w hl hf ht (csT_len ds v.q) (csT_fine hf) (by
    intro c hc
    unfold csT at hc
    split at hc
    · have := List.mem_singleton.1 hc
      subst this
      exact docOf_len hv.2.1
    · cases hc) hv (fun W hA => ask_turn s ds v W (hl.adds hA) hf (hv.adds hA) h4 h5 h6)

theorem apply_get (s : Value) (ds : List Dn) (v : Qv) (total : Int) (w : World) (hl : LstD w s ds) (hf : Fine ds) (ht : 0 ≤ total ∧ total ≤ 2147483643) (hv : QvOk w v) (h4 : v.q.kind = 4) :
    Calls Try.prog 11 #[s, v.val, .int .i64 total] w fun e w' => ApplyTold ds [] (if isKey v.q.key then 0 else 1) (isKey v.q.key && hasAt v.q.key ds) (if isKey v.q.key then docAt v.q.key ds else []) total w e w' :=
  apply_any s ds v total _ _ _ _ w hl hf ht (by simp) (fun i _ => by simpa [foldC] using hf) (fun c hc => by cases hc) hv (fun W hA => ask_get s ds v W (hl.adds hA) hf h4)

theorem foldT_foldC (ds : List Dn) (os : List Qv) : foldC ds (os.map (fun v => chgT v.q)) = foldT ds os := by
  unfold foldC foldT
  rw [List.foldl_map]
  rfl

theorem codeB_fine : ∀ {os : List Qv} {ds : List Dn}, Fine ds → codeB ds (qsOf os) = 0 → ∀ i, i ≤ os.length → Fine (foldT ds (os.take i))
  | [], ds, hf, _, i, _ => by simpa [foldT] using hf
  | v :: r, ds, hf, h0, i, hi => by
    have e : codeB ds (qsOf (v :: r)) = if codeT ds v.q = 0 then codeB (stepT ds v.q) (qsOf r) else codeT ds v.q := rfl
    rw [e] at h0
    split at h0
    · rename_i hz
      cases i with
      | zero => simpa [foldT] using hf
      | succ i =>
        have := codeB_fine (hf.step hz) h0 i (by simpa using hi)
        simpa [foldT] using this
    · rename_i hz
      exact absurd h0 hz

/-- The changes of a batch. -/
def csB (ds : List Dn) (os : List Qv) : List Ch := if codeBt ds os = 0 then os.map (fun v => chgT v.q) else []

theorem codeBt_zero {ds : List Dn} {os : List Qv} (h : codeBt ds os = 0) : os.length ≤ 4 ∧ codeB ds (qsOf os) = 0 := by
  unfold codeBt at h
  split at h
  · cases h
  · rename_i hn
    exact ⟨by omega, h⟩

theorem apply_batch (s : Value) (ds : List Dn) (v : Qv) (os : List Qv) (total : Int) (w : World) (hl : LstD w s ds) (hf : Fine ds) (ht : 0 ≤ total ∧ total ≤ 2147483643) (hv : QvOk w v) (ho : LstO w v.lv os) (ho6 : os.length ≤ 1000) (hod : ∀ x ∈ os, x.q.doc.length ≤ 1000) (h6 : v.q.kind = 6) :
    Calls Try.prog 11 #[s, v.val, .int .i64 total] w fun e w' => ApplyTold ds (csB ds os) (codeBt ds os) false [] total w e w' := by
  refine apply_any s ds v total _ _ _ _ w hl hf ht ?_ ?_ ?_ hv (fun W hA => ask_batch s ds v os W (hl.adds hA) hf (ho.adds hA) ho6 h6)
  · unfold csB
    split
    · rename_i h
      simpa using (codeBt_zero h).1
    · simp
  · intro i hi
    unfold csB at hi ⊢
    split at hi
    · rename_i h
      rw [if_pos h, ← List.map_take, foldT_foldC]
      exact codeB_fine hf (codeBt_zero h).2 i (by simpa using hi)
    · rename_i h
      rw [if_neg h]
      simpa [foldC] using hf
  · intro c hc
    unfold csB at hc
    split at hc
    · obtain ⟨x, hx, rfl⟩ := List.mem_map.1 hc
      exact docOf_len (hod x hx)
    · cases hc

end Go.Proofs.Ytgnhkpihlghbmaa
