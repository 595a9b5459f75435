/-
  Apply of package shop, of a scan, by contract. Apply of package shop, of a scan, by contract: the walk. Apply of package shop, of whatever is asked: what the theorem of changes wants of it; append of a row to a row.
-/
import Derived.Test.YtgnhkpihlghbmaaMssc
import Derived.Test.YtgnhkpihlghbmaaMsak
import Derived.Test.YtgnhkpihlghbmaaMsld
namespace Go.Proofs.Ytgnhkpihlghbmaa
open Go.RowKit
attribute [local go_sem] cell?_more frozen?_more setCell_more size_more tape_more drew_more drewN_more more_drew more_drewN one_out plus_out plus_end lt_one le_p2 le_p3 le_p4 le_p5 le_p6 le_p7 le_p8 le_p9 le_p10 le_p11 le_p12 le_p13 le_p14 le_p15 le_p16 le_p17 le_p18 le_p19 le_p20 le_p21 le_p22 le_p23 le_p24 le_q0 le_q1 lt_q1 le_q2 lt_q2 le_q3 lt_q3 le_q4 lt_q4 le_q5 lt_q5 le_q6 lt_q6 le_q7 lt_q7 le_q8 lt_q8 le_q9 lt_q9 le_q10 lt_q10 le_q11 lt_q11 le_q12 lt_q12 le_q13 lt_q13 le_q14 lt_q14 le_q15 lt_q15 le_q16 lt_q16 le_q17 lt_q17 le_q18 lt_q18 le_q19 lt_q19 le_q20 lt_q20 le_q21 lt_q21 le_q22 lt_q22 le_q23 lt_q23 le_q24 lt_q24

theorem scan_any (s : Value) (ds : List Dn) (v : Qv) (w : World) (hl : LstD w s ds) (hf : Fine ds) (hv : QvOk w v) :
    Calls Try.prog 41 #[s, v.val] w fun e w' => ScanTold ds v.q w e w' := by
  obtain ⟨hd1, _, hw1, _, ⟨la, ln, lc, h51⟩, ⟨sa, sn, sc', h52⟩, ⟨na, nn, nc, h53⟩⟩ := hv
  obtain ⟨q, dv, wv, lv, sv, nv⟩ := v
  simp only at h51 h52 h53 hd1 hw1
  subst h51 h52 h53
  obtain ⟨da, dc, rfl, _, _⟩ := hd1
  obtain ⟨wa, wc, rfl, _, _⟩ := hw1
  by_cases h : q.key.size ≤ 64 ∧ q.to.size ≤ 64 ∧ 1 ≤ q.most ∧ q.most ≤ 24
  · exact scan_good s ds q _ _ _ _ _ _ _ _ _ _ _ _ _ _ _ w hl hf h
  · exact scan_bad s ds q _ _ _ _ _ _ _ _ _ _ _ _ _ _ _ w hl h

/-- What is told of a scan. -/
def AskScan (ds : List Dn) (q : Qs) (w : World) (e : Ending) (w' : World) : Prop :=
  ∃ so sn sc, e = .returned (.tuple #[nilV, ansN (codeN q) (.slice so sn sc)]) ∧ Adds w w' ∧ Hid (∀ w2, Far w.heap.size w' w2 → LstD w2 (.slice so sn sc) (if codeN q = 0 then scanD ds q else []))

set_option maxRecDepth 20000 in
set_option maxHeartbeats 2000000 in
theorem ask_scan (s : Value) (ds : List Dn) (v : Qv) (w : World) (hl : LstD w s ds) (hf : Fine ds) (hv : QvOk w v) (hk : v.q.kind = 5) :
    Calls Try.prog 21 #[s, v.val] w fun e w' => AskScan ds v.q w e w' := by
  have kG := fun W (hA : Adds w W) => scan_any s ds v W (hl.adds hA) hf (hv.adds hA)
  have HE : Hid (∀ W w1 w3 so sn sc, Adds w W → Hid (∀ w2, Far W.heap.size w1 w2 → LstD w2 (.slice so sn sc) (if codeN v.q = 0 then scanD ds v.q else [])) → Far W.heap.size w1 w3 → Adds w w3 → AskScan ds v.q w (.returned (.tuple #[nilV, ansN (codeN v.q) (.slice so sn sc)])) w3) :=
    fun W w1 w3 so sn sc hA h hF h3 => ⟨so, sn, sc, rfl, h3, fun w2 hf2 => h.out w2 (hF.trans (Far.mono hf2 hA.below.size))⟩
  obtain ⟨_, _, _, _, ⟨la, ln, lc, h51⟩, ⟨sa, sn, sc', h52⟩, ⟨na, nn, nc, h53⟩⟩ := id hv
  obtain ⟨hd1, _, hw1, _⟩ := hv
  obtain ⟨q, dv, wv, lv, sv, nv⟩ := v
  simp only at h51 h52 h53 hd1 hw1 hk kG HE
  subst h51 h52 h53
  obtain ⟨da, dc, rfl, _, _⟩ := hd1
  obtain ⟨wa, wc, rfl, _, _⟩ := hw1
  obtain ⟨so, sc, rfl, _, _⟩ := hl
  simp only [Qv.val, opV, ScanTold, hk] at kG ⊢
  clear hf
  generalize codeN q = c0 at *
  generalize (if c0 = 0 then scanD ds q else []) = l0 at *
  go_enter Try.func21, Try.ntmps21
  go_wp2_with (go_at_call 41; refine (kG _ (by repeat (first | with_reducible exact Adds.refl _ | with_reducible refine Adds.alloc ?_ _ | with_reducible refine Adds.more ?_ _ _ | with_reducible refine Adds.drew ?_ | with_reducible refine Adds.drewN ?_ _))).mono ?_; rintro e w4 ⟨ao, an, ac, rfl, ⟨os4, n4, rfl⟩, HP⟩)
  refine bodyPost_ret (v := .tuple #[nilV, ansN c0 (.slice ao an ac)]) (by simp [results, Try.results21, go_sem]) rfl (HE.out _ _ _ _ _ _ (by repeat (first | with_reducible exact Adds.refl _ | with_reducible refine Adds.alloc ?_ _ | with_reducible refine Adds.more ?_ _ _ | with_reducible refine Adds.drew ?_ | with_reducible refine Adds.drewN ?_ _)) HP (by repeat (first | with_reducible exact Far.refl _ _ | with_reducible refine Far.mores ?_ (by simp [go_sem]) _ _ _ | with_reducible refine Far.allocs ?_ (by simp [go_sem]) _ | with_reducible refine Far.low ?_ (by simp [go_sem]) (by first | omega | (simp [go_sem] <;> omega)) _ _ | with_reducible refine Far.more ?_ _ _ | with_reducible refine Far.alloc ?_ _ | with_reducible refine Far.drew ?_ | with_reducible refine Far.drewN ?_ _)) (by repeat (first | with_reducible exact Adds.refl _ | with_reducible refine Adds.alloc ?_ _ | with_reducible refine Adds.more ?_ _ _ | with_reducible refine Adds.drew ?_ | with_reducible refine Adds.drewN ?_ _)))

end Go.Proofs.Ytgnhkpihlghbmaa

namespace Go.Proofs.Ytgnhkpihlghbmaa
open Go.RowKit
attribute [local go_sem] cell?_more frozen?_more setCell_more size_more tape_more drew_more drewN_more more_drew more_drewN one_out plus_out plus_end lt_one le_p2 le_p3 le_p4 le_p5 le_p6 le_p7 le_p8 le_p9 le_p10 le_p11 le_p12 le_p13 le_p14 le_p15 le_p16 le_p17 le_p18 le_p19 le_p20 le_p21 le_p22 le_p23 le_p24 le_q0 le_q1 lt_q1 le_q2 lt_q2 le_q3 lt_q3 le_q4 lt_q4 le_q5 lt_q5 le_q6 lt_q6 le_q7 lt_q7 le_q8 lt_q8 le_q9 lt_q9 le_q10 lt_q10 le_q11 lt_q11 le_q12 lt_q12 le_q13 lt_q13 le_q14 lt_q14 le_q15 lt_q15 le_q16 lt_q16 le_q17 lt_q17 le_q18 lt_q18 le_q19 lt_q19 le_q20 lt_q20 le_q21 lt_q21 le_q22 lt_q22 le_q23 lt_q23 le_q24 lt_q24

theorem wp_names {P : Program} {c : Code} {Q : Exit → Act → World → Prop} {a : Act} {w : World} (h : ∀ X, Hid (X = w) → c.wp P Q a X) : c.wp P Q a w := h w rfl

/-- What Apply tells of a scan. -/
def ApplyScan (ds : List Dn) (q : Qs) (w : World) (e : Ending) (w' : World) : Prop :=
  ∃ to tn tc so sn sc, e = .returned (.tuple #[.slice to tn tc, ansN (codeN q) (.slice so sn sc), nilV, .int .i64 0]) ∧ Adds w w' ∧ Hid ((∀ w2, Far w.heap.size w' w2 → LstD w2 (.slice to tn tc) ds) ∧ ∀ w2, Far w.heap.size w' w2 → LstD w2 (.slice so sn sc) (if codeN q = 0 then scanD ds q else []))

set_option maxRecDepth 20000 in
set_option maxHeartbeats 4000000 in
theorem apply_scan (s : Value) (ds : List Dn) (v : Qv) (total : Int) (w : World) (hl : LstD w s ds) (hf : Fine ds) (ht : 0 ≤ total ∧ total ≤ 2147483643) (hv : QvOk w v) (hk : v.q.kind = 5) :
    Calls Try.prog 11 #[s, v.val, .int .i64 total] w fun e w' => ApplyScan ds v.q w e w' := by
  have kC := fun W (hA : Adds w W) => shopCheck_any s ds W (hl.adds hA) (by have := hf.2; omega)
  rw [err_ok ⟨hf.2, hf.1⟩] at kC
  have kA := fun W (hA : Adds w W) => ask_scan s ds v W (hl.adds hA) hf (hv.adds hA) hk
  have kY := fun W (hA : Adds w W) => copyOf_any s ds W (hl.adds hA) (by have := hf.2; omega) hf.docs
  have HE : Hid (∀ W W1 w1 w2 w3 to tn tc so sn sc, Adds w W → Adds w W1 → Hid (∀ w2, Far W.heap.size w1 w2 → LstD w2 (.slice so sn sc) (if codeN v.q = 0 then scanD ds v.q else [])) → Hid (∀ w4, Far W1.heap.size w2 w4 → LstD w4 (.slice to tn tc) ds) → Far W.heap.size w1 w3 → Far W1.heap.size w2 w3 → Adds w w3 → ApplyScan ds v.q w (.returned (.tuple #[.slice to tn tc, ansN (codeN v.q) (.slice so sn sc), nilV, .int .i64 0])) w3) :=
    fun W W1 w1 w2 w3 to tn tc so sn sc hA hA1 h h' hF hF' h3 => ⟨to, tn, tc, so, sn, sc, rfl, h3, fun w5 hf5 => h'.out w5 (hF'.trans (Far.mono hf5 hA1.below.size)), fun w5 hf5 => h.out w5 (hF.trans (Far.mono hf5 hA.below.size))⟩
  obtain ⟨_, _, _, _, ⟨la, ln, lc, h51⟩, ⟨sa, sn, sc', h52⟩, ⟨na, nn, nc, h53⟩⟩ := id hv
  obtain ⟨hd1, _, hw1, _⟩ := hv
  obtain ⟨q, dv, wv, lv, sv, nv⟩ := v
  simp only at h51 h52 h53 hd1 hw1 hk kA HE
  subst h51 h52 h53
  obtain ⟨da, dc, rfl, _, _⟩ := hd1
  obtain ⟨wa, wc, rfl, _, _⟩ := hw1
  obtain ⟨so, sc, rfl, _, _⟩ := hl
  simp only [Qv.val, opV, AskScan, hk] at kA ⊢
  obtain ⟨ht0, ht1⟩ := ht
  clear hf
  generalize codeN q = c0 at *
  generalize (if c0 = 0 then scanD ds q else []) = l0 at *
  go_enter Try.func11, Try.ntmps11
  go_wp2_with (first
    | (go_at_call 20; refine (kC _ (by repeat (first | with_reducible exact Adds.refl _ | with_reducible refine Adds.alloc ?_ _ | with_reducible refine Adds.more ?_ _ _ | with_reducible refine Adds.drew ?_ | with_reducible refine Adds.drewN ?_ _))).mono ?_; rintro e w1 ⟨rfl, os1, n1, rfl⟩)
    | (go_at_call 21; refine (kA _ (by repeat (first | with_reducible exact Adds.refl _ | with_reducible refine Adds.alloc ?_ _ | with_reducible refine Adds.more ?_ _ _ | with_reducible refine Adds.drew ?_ | with_reducible refine Adds.drewN ?_ _))).mono ?_; rintro e w2 ⟨ao, an, ac, rfl, ⟨os2, n2, rfl⟩, HP⟩)
    | (go_at_call 22; refine (kY _ (by repeat (first | with_reducible exact Adds.refl _ | with_reducible refine Adds.alloc ?_ _ | with_reducible refine Adds.more ?_ _ _ | with_reducible refine Adds.drew ?_ | with_reducible refine Adds.drewN ?_ _))).mono ?_; rintro e w3 ⟨tv, rfl, ts, HT0, hm⟩; have HT : Hid _ := HT0; have HM : Hid _ := hm; obtain ⟨os3, n3, rfl⟩ := Adds.of HT0.2.1; obtain ⟨to, tc, rfl, _, _⟩ := (OwnC.lstD HT0); clear HT0 hm))
  have HTT : Hid _ := ownC_told HT.out HM.out
  have htl : ts.length = ds.length := by rw [← HM.out, List.length_map]
  rw [htl]
  rw [List.length_map, htl] at HTT
  clear kC kA kY HT HM htl
  refine wp_names ?_
  intro W1 HW1
  have hW : Hid _ := HW1
  go_loopw [12, 36] (fun tv iv wr => iv = .int .i64 0 ∧ tv = .slice to ds.length tc ∧ wr = W1) (fun _ _ _ => 0)
  case atStart => exact ⟨rfl, rfl, rfl⟩
  case round =>
    obtain ⟨rfl, rfl, rfl⟩ := hrel
    have hw := hW.out
    clear hW HW1
    subst hw
    go_wp2
    go_region
    all_goals
      go_wp2
      refine bodyPost_ret (v := .tuple #[.slice to ds.length tc, ansN c0 (.slice ao an ac), nilV, .int .i64 0]) (by simp [results, Try.results11, go_sem]) rfl ?_
      refine HE.out _ _ _ _ _ _ _ _ _ _ _ ?_ ?_ HP HTT ?_ ?_ ?_
      · repeat (first | with_reducible exact Adds.refl _ | with_reducible refine Adds.alloc ?_ _ | with_reducible refine Adds.more ?_ _ _ | with_reducible refine Adds.drew ?_ | with_reducible refine Adds.drewN ?_ _)
      · repeat (first | with_reducible exact Adds.refl _ | with_reducible refine Adds.alloc ?_ _ | with_reducible refine Adds.more ?_ _ _ | with_reducible refine Adds.drew ?_ | with_reducible refine Adds.drewN ?_ _)
      · repeat (first | with_reducible exact Far.refl _ _ | with_reducible refine Far.mores ?_ (by simp [go_sem]) _ _ _ | with_reducible refine Far.allocs ?_ (by simp [go_sem]) _ | with_reducible refine Far.low ?_ (by simp [go_sem]) (by first | omega | (simp [go_sem] <;> omega)) _ _ | with_reducible refine Far.more ?_ _ _ | with_reducible refine Far.alloc ?_ _ | with_reducible refine Far.drew ?_ | with_reducible refine Far.drewN ?_ _)
      · repeat (first | with_reducible exact Far.refl _ _ | with_reducible refine Far.mores ?_ (by simp [go_sem]) _ _ _ | with_reducible refine Far.allocs ?_ (by simp [go_sem]) _ | with_reducible refine Far.low ?_ (by simp [go_sem]) (by first | omega | (simp [go_sem] <;> omega)) _ _ | with_reducible refine Far.more ?_ _ _ | with_reducible refine Far.alloc ?_ _ | with_reducible refine Far.drew ?_ | with_reducible refine Far.drewN ?_ _)
      · repeat (first | with_reducible exact Adds.refl _ | with_reducible refine Adds.alloc ?_ _ | with_reducible refine Adds.more ?_ _ _ | with_reducible refine Adds.drew ?_ | with_reducible refine Adds.drewN ?_ _)

end Go.Proofs.Ytgnhkpihlghbmaa

namespace Go.Proofs.Ytgnhkpihlghbmaa
open Go.RowKit
attribute [local go_sem] cell?_more frozen?_more setCell_more size_more tape_more drew_more drewN_more more_drew more_drewN one_out plus_out plus_end lt_one le_p2 le_p3 le_p4 le_p5 le_p6 le_p7 le_p8 le_p9 le_p10 le_p11 le_p12 le_p13 le_p14 le_p15 le_p16 le_p17 le_p18 le_p19 le_p20 le_p21 le_p22 le_p23 le_p24 le_q0 le_q1 lt_q1 le_q2 lt_q2 le_q3 lt_q3 le_q4 lt_q4 le_q5 lt_q5 le_q6 lt_q6 le_q7 lt_q7 le_q8 lt_q8 le_q9 lt_q9 le_q10 lt_q10 le_q11 lt_q11 le_q12 lt_q12 le_q13 lt_q13 le_q14 lt_q14 le_q15 lt_q15 le_q16 lt_q16 le_q17 lt_q17 le_q18 lt_q18 le_q19 lt_q19 le_q20 lt_q20 le_q21 lt_q21 le_q22 lt_q22 le_q23 lt_q23 le_q24 lt_q24

structure FoldFacts (ds : List Dn) (cs : List Ch) (c : Int) (q : Qs) (total : Int) (w w' : World) (tv cv : Value) : Prop where
  docs : LstD w' tv (foldC ds cs)
  far : ∀ w2, Far w.heap.size w' w2 → LstD w2 tv (foldC ds cs)
  own : ∃ rs, OwnH w.heap.size cv rs w w' ∧ rs.map (·.1) = placed total cs cs.length
  few : cs.length ≤ 4
  bad : ¬ c = 0 → cs = []
  reads : q.kind = 4 ∨ q.kind = 5 → cs = []
  fine : ∀ i, i ≤ cs.length → Fine (foldC ds (cs.take i))
  light : ∀ x ∈ cs, x.doc.length ≤ 1000

def ApplyAll (ds : List Dn) (q : Qs) (total : Int) (w : World) (e : Ending) (w' : World) : Prop :=
  ∃ (cs : List Ch) (c : Int) (ah : Bool) (to : Option Addr) (tn tc : Nat) (ao : Option Addr) (an ac : Nat) (so : Option Addr) (sn sc : Nat) (co : Option Addr) (cc : Nat),
    e = .returned (.tuple #[.slice to tn tc, .agg #[.int .i64 c, .bool ah, .slice ao an ac, .slice so sn sc, .slice none 0 0, .int .i64 (nOf total cs.length), .int .i64 0, .slice none 0 0], .slice co cs.length cc, .int .i64 0]) ∧ Adds w w' ∧ Hid (FoldFacts ds cs c q total w w' (.slice to tn tc) (.slice co cs.length cc))

theorem ApplyTold.all {ds : List Dn} {cs : List Ch} {c : Int} {hs : Bool} {doc : List F} {q : Qs} {total : Int} {w : World} {e : Ending} {w' : World} (h : ApplyTold ds cs c hs doc total w e w') (few : cs.length ≤ 4) (bad : ¬ c = 0 → cs = []) (reads : q.kind = 4 ∨ q.kind = 5 → cs = []) (fine : ∀ i, i ≤ cs.length → Fine (foldC ds (cs.take i))) (light : ∀ x ∈ cs, x.doc.length ≤ 1000) : ApplyAll ds q total w e w' := by
  obtain ⟨tv, ah, av, cv, rfl, hA, hF⟩ := h
  have h1 := hF.out.docs _ (Far.refl _ _)
  have h1' := hF.out.docs
  have h3 := hF.out.doc _ (Far.refl _ _)
  have h4 := hF.out.news _ (Far.refl _ _)
  have h5 := hF.out.own
  obtain ⟨to, tc, rfl, _, _⟩ := id h1
  obtain ⟨ao, ac, rfl, _, _⟩ := h3
  obtain ⟨co, cc, rfl, _, _⟩ := h4
  rw [placed_len] at h5 ⊢
  exact ⟨cs, c, ah, to, _, tc, ao, _, ac, none, 0, 0, co, cc, rfl, hA, ⟨h1, h1', h5, few, bad, reads, fine, light⟩⟩

theorem apply_all (s : Value) (ds : List Dn) (v : Qv) (os : List Qv) (total : Int) (w : World) (hl : LstD w s ds) (hf : Fine ds) (ht : 0 ≤ total ∧ total ≤ 2147483643) (hv : QvOk w v) (ho : LstO w v.lv os) (ho6 : os.length ≤ 1000) (hod : ∀ x ∈ os, x.q.doc.length ≤ 1000) :
    Calls Try.prog 11 #[s, v.val, .int .i64 total] w fun e w' => ApplyAll ds v.q total w e w' := by
  by_cases h4 : v.q.kind = 4
  · refine (apply_get s ds v total w hl hf ht hv h4).mono fun e w' h => h.all (by simp) (fun _ => rfl) (fun _ => rfl) (fun i _ => by simpa [foldC] using hf) (fun x hx => by cases hx)
  by_cases h5 : v.q.kind = 5
  · refine (apply_scan s ds v total w hl hf ht hv h5).mono ?_
    rintro e w' ⟨to, tn, tc, so, sn, sc, rfl, hA, hF⟩
    exact ⟨[], codeN v.q, false, to, tn, tc, none, 0, 0, so, sn, sc, none, 0, rfl, hA, ⟨hF.out.1 _ (Far.refl _ _), hF.out.1, ⟨[], ⟨World.ownsRow_nil _ _ _ _, hA.below, hA.below.size, fun r h => by cases h⟩, rfl⟩, by simp, fun _ => rfl, fun _ => rfl, fun i _ => by simpa [foldC] using hf, fun x hx => by cases hx⟩⟩
  by_cases h6 : v.q.kind = 6
  · refine (apply_batch s ds v os total w hl hf ht hv ho ho6 hod h6).mono fun e w' h => h.all ?_ ?_ (fun h => by omega) ?_ ?_
    · unfold csB
      split
      · rename_i h
        simpa using (codeBt_zero h).1
      · simp
    · intro h0
      unfold csB
      rw [if_neg h0]
    · intro i hi
      unfold csB at hi ⊢
      split at hi
      · rename_i h
        rw [if_pos h, ← List.map_take, foldT_foldC]
        exact codeB_fine hf (codeBt_zero h).2 i (by simpa using hi)
      · rename_i h
        rw [if_neg h]
        simpa [foldC] using hf
    · intro c hc
      unfold csB at hc
      split at hc
      · obtain ⟨x, hx, rfl⟩ := List.mem_map.1 hc
        exact docOf_len (hod x hx)
      · cases hc
  · refine (apply_turn s ds v total w hl hf ht hv h4 h5 h6).mono fun e w' h => h.all (csT_len _ _) ?_ (fun h => by omega) (csT_fine hf) ?_
    · intro h0
      unfold csT
      rw [if_neg h0]
    · intro c hc
      unfold csT at hc
      split at hc
      · have := List.mem_singleton.1 hc
        subst this
        exact docOf_len hv.2.1
      · cases hc

/-- append of a row to a row. -/
theorem ownH_appL {ops : Array Oper} {rest : List Oper} {o : Oper} {a : Act} {w : World} {Q : Exit → Act → World → Prop} (hgd : o.guard = none) (s x : Operand) (ho : o.op = .call { callee := .builtin .append, args := #[s, x], argTypes := #[26, 26] })
    {B C : Nat} {v cv : Value} {fs gs : List Rh} {W0 W1 w0 : World} (h : OwnH B v fs W0 w0) (hA : Adds w0 w) (hs : a.eval s = v) (hx : a.eval x = cv) (hg : OwnH C cv gs W1 w) (hBC : B ≤ C) (hlen : fs.length + gs.length ≤ 100000)
    (hQ : ∀ v' w', OwnH B v' (fs ++ gs) W0 w' → Far w0.heap.size w w' → wpList Try.prog ops Q rest (a.put o.dst v') w') : wpList Try.prog ops Q (o :: rest) a w := by
  have hc := fun g => hg.1.cells (g := g)
  have h0 := h.adds hA
  rcases hg.1.2 with ⟨rfl, hn⟩ | ⟨g, cap, cur, rfl, hb, hgg, hnc, hcm, hcs, htk⟩
  · have hz : gs = [] := List.eq_nil_of_length_eq_zero hn
    subst hz
    obtain ⟨i0, hi, hz0, hz1, hz2⟩ := info_parts Try.info40
    have hrun : (Builtin.append_ #[26, 26] o.type #[v, .slice none 0 0]).run Try.prog w = .ok v w := by
      rcases h0.1.2 with ⟨rfl, _⟩ | ⟨g, cap, cur, rfl, _, _, hnc, _, _, _⟩
      · simp [Builtin.append_, run_underlying Try.underlying26, sizeOf, typeInfo, hi, Builtin.lenOf, Builtin.firstCells]
      · simp [Builtin.append_, run_underlying Try.underlying26, sizeOf, typeInfo, hi, Builtin.lenOf, Builtin.firstCells, loadCells, storeCells, hnc]
    refine Lib.wpList_append_run w hgd s x _ _ ho v _ hs hx v w hrun (hQ v w ?_ (Far.refl _ _))
    rw [List.append_nil]
    exact h0
  · obtain ⟨v', w', hrun, h2, h3⟩ := ownH_append w B o.type v fs W0 h0 ⟨g, 0, none⟩ gs.length cap gs rfl (hc g rfl) (fun r hr => row_lower (hg.2.2.2 r hr) hBC) hlen
    refine Lib.wpList_append_run w hgd s x _ _ ho v _ hs hx v' w' hrun (hQ v' w' h2 ⟨h3.size, fun k hk hlt => h3.block k hlt (fun e => ?_)⟩)
    have := h.1.lt k e.symm
    omega

theorem foldC_placed (ds : List Dn) (total : Int) (cs : List Ch) (k i : Nat) : foldC ds ((placed total cs k).take i) = foldC ds (cs.take i) := by
  have : ∀ l1 l2 : List Ch, l1.map (fun c => (c.key, c.has, c.doc)) = l2.map (fun c => (c.key, c.has, c.doc)) → ∀ d, foldC d l1 = foldC d l2 := by
    intro l1
    induction l1 with
    | nil => intro l2 h d; cases l2 with
      | nil => rfl
      | cons _ _ => simp at h
    | cons x r ih =>
      intro l2 h d
      cases l2 with
      | nil => simp at h
      | cons y t =>
        simp only [List.map_cons, List.cons.injEq, Prod.mk.injEq] at h
        obtain ⟨⟨e1, e2, e3⟩, ht⟩ := h
        show foldC (foldS d x.key x.has x.doc) r = foldC (foldS d y.key y.has y.doc) t
        rw [e1, e2, e3]
        exact ih t ht _
  apply this
  rw [List.map_take, List.map_take]
  congr 1
  unfold placed
  apply List.ext_getElem
  · simp
  · intro j h1 h2
    simp only [List.getElem_map, List.getElem_mapIdx]
    split <;> rfl

theorem foldC_append (ds : List Dn) (l t : List Ch) : foldC ds (l ++ t) = foldC (foldC ds l) t := by
  unfold foldC
  rw [List.foldl_append]

end Go.Proofs.Ytgnhkpihlghbmaa
