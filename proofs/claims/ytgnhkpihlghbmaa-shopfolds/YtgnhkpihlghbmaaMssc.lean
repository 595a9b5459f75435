/-
  The function scan of package shop, by contract. The function scan of package shop, by contract: what may be.
-/
import Derived.Test.YtgnhkpihlghbmaaMsbc
import Derived.Test.YtgnhkpihlghbmaaMsak
namespace Go.Proofs.Ytgnhkpihlghbmaa
open Go.RowKit
attribute [local go_sem] cell?_more frozen?_more setCell_more size_more tape_more drew_more drewN_more more_drew more_drewN one_out plus_out plus_end lt_one le_p2 le_p3 le_p4 le_p5 le_p6 le_p7 le_p8 le_p9 le_p10 le_p11 le_p12 le_p13 le_p14 le_p15 le_p16 le_p17 le_p18 le_p19 le_p20 le_p21 le_p22 le_p23 le_p24 le_q0 le_q1 lt_q1 le_q2 lt_q2 le_q3 lt_q3 le_q4 lt_q4 le_q5 lt_q5 le_q6 lt_q6 le_q7 lt_q7 le_q8 lt_q8 le_q9 lt_q9 le_q10 lt_q10 le_q11 lt_q11 le_q12 lt_q12 le_q13 lt_q13 le_q14 lt_q14 le_q15 lt_q15 le_q16 lt_q16 le_q17 lt_q17 le_q18 lt_q18 le_q19 lt_q19 le_q20 lt_q20 le_q21 lt_q21 le_q22 lt_q22 le_q23 lt_q23 le_q24 lt_q24

theorem LstD.take {w : World} {ao : Option Addr} {n cap c : Nat} {ds : List Dn} (h : LstD w (.slice ao n cap) ds) (hc : c ≤ n) : LstD w (.slice ao c cap) (ds.take c) := by
  obtain ⟨ao', cap', he, hcap, hx⟩ := h
  simp only [Value.slice.injEq] at he
  obtain ⟨rfl, rfl, rfl⟩ := he
  refine ⟨ao, cap, by simp; omega, by simp; omega, ?_⟩
  rcases hx with rfl | ⟨b, off, rfl, hb, hl⟩
  · exact .inl (by simp)
  · refine .inr ⟨b, off, rfl, hb, fun j hj => ?_⟩
    have hj' : j < ds.length := by simp at hj; omega
    simpa using hl j hj'

theorem LstD.drop {w : World} {ao : Option Addr} {n cap c : Nat} {ds : List Dn} (h : LstD w (.slice ao n cap) ds) (hc : c ≤ n) : LstD w (.slice (if cap = c then ao else ao.map (fun a => a.add (c * 2))) (n - c) (cap - c)) (ds.drop c) := by
  obtain ⟨ao', cap', he, hcap, hx⟩ := h
  simp only [Value.slice.injEq] at he
  obtain ⟨rfl, rfl, rfl⟩ := he
  refine ⟨_, cap - c, by simp; rfl, by simp; omega, ?_⟩
  by_cases he : ds.length = c
  · exact .inl (by simp; omega)
  · rcases hx with rfl | ⟨b, off, rfl, hb, hl⟩
    · exact .inl (by simp)
    · refine .inr ⟨b, off + c * 2, by rw [if_neg (by omega)]; simp [Addr.add_lit], hb, fun j hj => ?_⟩
      have hj' : c + j < ds.length := by simp at hj; omega
      have := hl (c + j) hj'
      rw [show off + (c + j) * 2 = off + c * 2 + j * 2 by omega] at this
      simpa using this

theorem LstD.empty (w : World) (ao : Option Addr) (cap : Nat) : LstD w (.slice ao 0 cap) [] := ⟨ao, cap, rfl, Nat.zero_le _, .inl rfl⟩

theorem cutAt_len (p : ByteArray) (ds : List Dn) : cutAt p ds ≤ ds.length := by
  induction ds with
  | nil => simp [cutAt_nil]
  | cons d r ih =>
    rw [cutAt_cons]
    split
    · simp only [List.length_cons]; omega
    · exact Nat.zero_le _

/-- What a scan is refused for. -/
def codeN (q : Qs) : Int := if q.key.size ≤ 64 ∧ q.to.size ≤ 64 ∧ 1 ≤ q.most ∧ q.most ≤ 24 then 0 else 1

/-- Where a scan ends. -/
def endN (ds : List Dn) (q : Qs) : Nat := if q.to.toList = [] then ds.length else cutAt q.to ds

/-- What a scan tells. -/
def scanD (ds : List Dn) (q : Qs) : List Dn := ((ds.take (endN ds q)).drop (cutAt q.key (ds.take (endN ds q)))).take q.most.toNat

abbrev ansN (c : Int) (d : Value) : Value := .agg #[.int .i64 c, .bool false, .slice none 0 0, d, .slice none 0 0, .int .i64 0, .int .i64 0, .slice none 0 0]

def ScanTold (ds : List Dn) (q : Qs) (w : World) (e : Ending) (w' : World) : Prop :=
  ∃ so sn sc, e = .returned (ansN (codeN q) (.slice so sn sc)) ∧ Adds w w' ∧ Hid (∀ w2, Far w.heap.size w' w2 → LstD w2 (.slice so sn sc) (if codeN q = 0 then scanD ds q else []))

theorem scan_no {ds : List Dn} {q : Qs} {w w' : World} (h : ¬ (q.key.size ≤ 64 ∧ q.to.size ≤ 64 ∧ 1 ≤ q.most ∧ q.most ≤ 24)) (hA : Adds w w') : ScanTold ds q w (.returned (ansN 1 (.slice none 0 0))) w' := by
  have hc : codeN q = 1 := if_neg h
  refine ⟨none, 0, 0, by rw [hc], hA, fun w2 _ => ?_⟩
  rw [hc]
  exact LstD.empty _ _ _

set_option maxRecDepth 20000 in
set_option maxHeartbeats 2000000 in
theorem scan_bad (s : Value) (ds : List Dn) (q : Qs) (da : Option Addr) (dn dc : Nat) (wa : Option Addr) (wn wc : Nat) (la : Option Addr) (ln lc : Nat) (sa : Option Addr) (sn sc : Nat) (na : Option Addr) (nn nc : Nat) (w : World) (hl : LstD w s ds) (h : ¬ (q.key.size ≤ 64 ∧ q.to.size ≤ 64 ∧ 1 ≤ q.most ∧ q.most ≤ 24)) :
    Calls Try.prog 41 #[s, opV q (.slice da dn dc) (.slice wa wn wc) (.slice la ln lc) (.slice sa sn sc) (.slice na nn nc)] w fun e w' => ScanTold ds q w e w' := by
  have HN : Hid (∀ w', Adds w w' → ScanTold ds q w (.returned (ansN 1 (.slice none 0 0))) w') := fun w' hA => scan_no h hA
  obtain ⟨so, cap, rfl, _, _⟩ := hl
  obtain ⟨kind, key, to, doc, want, has, n, most⟩ := q
  simp only [opV] at h ⊢
  generalize ds.length = m at *
  by_cases h1 : key.size ≤ 64
  rotate_left
  · have h1' : (64 : Int) < (key.size : Int) := by omega
    clear h h1
    go_enter Try.func41, Try.ntmps41
    go_wp2_with (go_at_call 60; refine (refused_ans _ _).mono ?_; rintro e w2 ⟨rfl, os2, n2, rfl⟩)
    refine bodyPost_ret (v := ansN 1 nilV) (by simp [results, Try.results41, go_sem]) rfl (HN.out _ (by repeat (first | with_reducible exact Adds.refl _ | with_reducible refine Adds.alloc ?_ _ | with_reducible refine Adds.more ?_ _ _ | with_reducible refine Adds.drew ?_ | with_reducible refine Adds.drewN ?_ _)))
  have h1' : ¬ (64 : Int) < (key.size : Int) := by omega
  by_cases h2 : to.size ≤ 64
  rotate_left
  · have h2' : (64 : Int) < (to.size : Int) := by omega
    clear h h1 h2
    go_enter Try.func41, Try.ntmps41
    go_wp2_with (go_at_call 60; refine (refused_ans _ _).mono ?_; rintro e w2 ⟨rfl, os2, n2, rfl⟩)
    refine bodyPost_ret (v := ansN 1 nilV) (by simp [results, Try.results41, go_sem]) rfl (HN.out _ (by repeat (first | with_reducible exact Adds.refl _ | with_reducible refine Adds.alloc ?_ _ | with_reducible refine Adds.more ?_ _ _ | with_reducible refine Adds.drew ?_ | with_reducible refine Adds.drewN ?_ _)))
  have h2' : ¬ (64 : Int) < (to.size : Int) := by omega
  by_cases h3 : most < 1
  · clear h h1 h2
    go_enter Try.func41, Try.ntmps41
    go_wp2_with (go_at_call 60; refine (refused_ans _ _).mono ?_; rintro e w2 ⟨rfl, os2, n2, rfl⟩)
    refine bodyPost_ret (v := ansN 1 nilV) (by simp [results, Try.results41, go_sem]) rfl (HN.out _ (by repeat (first | with_reducible exact Adds.refl _ | with_reducible refine Adds.alloc ?_ _ | with_reducible refine Adds.more ?_ _ _ | with_reducible refine Adds.drew ?_ | with_reducible refine Adds.drewN ?_ _)))
  · have h4 : 24 < most := by omega
    clear h h1 h2
    go_enter Try.func41, Try.ntmps41
    go_wp2_with (go_at_call 60; refine (refused_ans _ _).mono ?_; rintro e w2 ⟨rfl, os2, n2, rfl⟩)
    refine bodyPost_ret (v := ansN 1 nilV) (by simp [results, Try.results41, go_sem]) rfl (HN.out _ (by repeat (first | with_reducible exact Adds.refl _ | with_reducible refine Adds.alloc ?_ _ | with_reducible refine Adds.more ?_ _ _ | with_reducible refine Adds.drew ?_ | with_reducible refine Adds.drewN ?_ _)))

end Go.Proofs.Ytgnhkpihlghbmaa

namespace Go.Proofs.Ytgnhkpihlghbmaa
open Go.RowKit
attribute [local go_sem] cell?_more frozen?_more setCell_more size_more tape_more drew_more drewN_more more_drew more_drewN one_out plus_out plus_end lt_one le_p2 le_p3 le_p4 le_p5 le_p6 le_p7 le_p8 le_p9 le_p10 le_p11 le_p12 le_p13 le_p14 le_p15 le_p16 le_p17 le_p18 le_p19 le_p20 le_p21 le_p22 le_p23 le_p24 le_q0 le_q1 lt_q1 le_q2 lt_q2 le_q3 lt_q3 le_q4 lt_q4 le_q5 lt_q5 le_q6 lt_q6 le_q7 lt_q7 le_q8 lt_q8 le_q9 lt_q9 le_q10 lt_q10 le_q11 lt_q11 le_q12 lt_q12 le_q13 lt_q13 le_q14 lt_q14 le_q15 lt_q15 le_q16 lt_q16 le_q17 lt_q17 le_q18 lt_q18 le_q19 lt_q19 le_q20 lt_q20 le_q21 lt_q21 le_q22 lt_q22 le_q23 lt_q23 le_q24 lt_q24

theorem ownC_told {B : Nat} {v : Value} {rs : List Rn} {W0 w : World} {l : List Dn} (h : OwnC B v rs W0 w) (hm : rs.map (·.1) = l) : ∀ w2, Far B w w2 → LstD w2 v l := fun w2 hf => by
  rw [← hm]
  exact ownC_far h hf

set_option maxRecDepth 20000 in
set_option maxHeartbeats 4000000 in
theorem scan_good (s : Value) (ds : List Dn) (q : Qs) (da : Option Addr) (dn dc : Nat) (wa : Option Addr) (wn wc : Nat) (la : Option Addr) (ln lc : Nat) (sa : Option Addr) (sn sc : Nat) (na : Option Addr) (nn nc : Nat) (w : World) (hl : LstD w s ds) (hf : Fine ds) (h : q.key.size ≤ 64 ∧ q.to.size ≤ 64 ∧ 1 ≤ q.most ∧ q.most ≤ 24) :
    Calls Try.prog 41 #[s, opV q (.slice da dn dc) (.slice wa wn wc) (.slice la ln lc) (.slice sa sn sc) (.slice na nn nc)] w fun e w' => ScanTold ds q w e w' := by
  have hc0 : codeN q = 0 := if_pos h
  have hel : endN ds q ≤ ds.length := by
    unfold endN
    split
    · exact Nat.le_refl _
    · exact cutAt_len _ _
  have kT := fun W (hA : Adds w W) => find_any s ds q.to W (hl.adds hA) (by have := hf.2; omega) hf.risen
  obtain ⟨so, cap, rfl, hcap, hlo⟩ := hl
  have hL : LstD w (.slice so ds.length cap) ds := ⟨so, cap, rfl, hcap, hlo⟩
  have hE := hL.take hel
  have hre : Risen (ds.take (endN ds q)) := hf.risen.sublist (List.take_sublist _ _)
  have hlen : (ds.take (endN ds q)).length = endN ds q := by rw [List.length_take]; omega
  have kF := fun W (hA : Adds w W) => find_any (.slice so (endN ds q) cap) (ds.take (endN ds q)) q.key W (hE.adds hA) (by have := hf.2; omega) hre
  have hcl := cutAt_len q.key (ds.take (endN ds q))
  rw [hlen] at hcl
  have HS : Hid (scanD ds q = ((ds.take (endN ds q)).drop (cutAt q.key (ds.take (endN ds q)))).take q.most.toNat) := rfl
  have hD := hE.drop hcl
  have hdd : ∀ d ∈ (ds.take (endN ds q)).drop (cutAt q.key (ds.take (endN ds q))), d.doc.length ≤ 1000 := fun d hd => hf.docs d (List.mem_of_mem_take (List.mem_of_mem_drop hd))
  have hll : ((ds.take (endN ds q)).drop (cutAt q.key (ds.take (endN ds q)))).length = endN ds q - cutAt q.key (ds.take (endN ds q)) := by rw [List.length_drop, hlen]
  have hto : (q.to.toList = [] ∧ endN ds q = ds.length) ∨ (¬ q.to.toList = [] ∧ endN ds q = cutAt q.to ds) := by
    unfold endN
    by_cases he : q.to.toList = []
    · exact .inl ⟨he, if_pos he⟩
    · exact .inr ⟨he, if_neg he⟩
  have hn24 : ds.length ≤ 24 := hf.2
  generalize hasAt q.key (ds.take (endN ds q)) = b1 at *
  generalize hasAt q.to ds = b2 at *
  generalize cutAt q.to ds = ct at *
  generalize cutAt q.key (ds.take (endN ds q)) = c at *
  generalize (ds.take (endN ds q)).drop c = dd at *
  generalize endN ds q = e at *
  have HC0 : Hid (codeN q = 0) := hc0
  obtain ⟨h1, h2, h3, h4⟩ := h
  -- the piece that is copied
  obtain ⟨m, hm1, hm2, hm3⟩ : ∃ m : Nat, (m = e - c ∨ m = q.most.toNat) ∧ m ≤ e - c ∧ m ≤ q.most.toNat := by
    by_cases hlt : (e - c : Nat) < q.most.toNat
    · exact ⟨e - c, .inl rfl, Nat.le_refl _, by omega⟩
    · exact ⟨q.most.toNat, .inr rfl, by omega, Nat.le_refl _⟩
  have hX := hD.take hm2
  have HT : Hid (scanD ds q = dd.take m) := by
    show _ = _
    rw [HS.out]
    rcases hm1 with hm1 | hm1
    · rw [List.take_of_length_le (by omega), List.take_of_length_le (by omega)]
    · rw [hm1]
  have hml : (dd.take m).length = m := by rw [List.length_take]; omega
  have HY : Hid (∀ X M C, X = (if cap = c then so else so.map (fun a => a.add (c * 2))) → M = m → C = cap - c → ∀ W, Adds w W → Calls Try.prog 22 #[.slice X M C] W fun e w' => (∃ vo vn vc, e = .returned (.slice vo vn vc) ∧ Hid (∀ w2, Far W.heap.size w' w2 → LstD w2 (.slice vo vn vc) (scanD ds q))) ∧ Adds W w') := by
    intro X M C hX1 hX2 hX3 W hA
    rw [hX1, hX2, hX3]
    refine (copyOf_any _ (dd.take m) W (hX.adds hA) (by omega) (fun d hd => hdd d (List.mem_of_mem_take hd))).mono ?_
    rintro e w' ⟨v, rfl, rs, hO, hmm⟩
    obtain ⟨vo, vc, rfl, _, _⟩ := OwnC.lstD hO
    refine ⟨⟨_, _, _, rfl, ?_⟩, Adds.of hO.2.1⟩
    rw [HT.out]
    exact ownC_told hO hmm
  have HEND : Hid (∀ W' W w1 vo vn vc w3, Hid (∀ w2, Far W.heap.size w1 w2 → LstD w2 (.slice vo vn vc) (scanD ds q)) → Adds w W → Far W.heap.size w1 W' → w3 = W' → Adds w w3 → ScanTold ds q w (.returned (ansN 0 (.slice vo vn vc))) w3) := by
    intro W' W w1 vo vn vc w3 hH hAW hF hw3 hA3
    subst hw3
    refine ⟨vo, vn, vc, by rw [HC0.out], hA3, fun w2 hf2 => ?_⟩
    rw [HC0.out, if_pos rfl]
    exact hH.out w2 (hF.trans (Far.mono hf2 hAW.below.size))
  clear hX hD hE hL hdd hll hf hre hlen HS HT hml hc0
  obtain ⟨kind, key, to, doc, want, has, n, most⟩ := q
  simp only [opV] at h1 h2 h3 h4 hto kT kF hm1 hm3 HY HEND ⊢
  have h1' : ¬ (64 : Int) < (key.size : Int) := by omega
  have h2' : ¬ (64 : Int) < (to.size : Int) := by omega
  have h3' : ¬ most < 1 := by omega
  have h4' : ¬ (24 : Int) < most := by omega
  have hc1 : (c : Int) ≤ (e : Int) := by omega
  have hc2 : (e : Int) ≤ (cap : Int) := by omega
  have hc3 : (c : Int) ≤ (cap : Int) := by omega
  have hc4 : (0 : Int) ≤ (c : Int) := by omega
  have hc5 : (0 : Int) ≤ (e : Int) := by omega
  rcases hto with ⟨he1, he2⟩ | ⟨he1, he2⟩
  · obtain rfl : to = ⟨#[]⟩ := toList_inj (by rw [he1, ByteArray.toList_eq])
    subst he2
    clear kT
    cases so with
    | none =>
      rcases hlo with rfl | ⟨_, _, hx, _⟩
      rotate_left
      · cases hx
      obtain rfl : c = 0 := by simp at hcl; omega
      simp only [List.length_nil] at kF hm1 hm2
      go_enter Try.func41, Try.ntmps41
      go_wp2_with (first
        | (go_at_call 24; (with_reducible refine (kF _ (by repeat (first | with_reducible exact Adds.refl _ | with_reducible refine Adds.alloc ?_ _ | with_reducible refine Adds.more ?_ _ _ | with_reducible refine Adds.drew ?_ | with_reducible refine Adds.drewN ?_ _))).mono ?_); rintro e w1 ⟨rfl, os1, n1, rfl⟩)
        | (go_at_call 22; refine (HY.out _ _ _ (by first | (simp; done) | (simp [hcc]; done) | (rw [if_neg hcc]; rfl)) (by omega) (by first | rfl | omega) _ (by repeat (first | with_reducible exact Adds.refl _ | with_reducible refine Adds.alloc ?_ _ | with_reducible refine Adds.more ?_ _ _ | with_reducible refine Adds.drew ?_ | with_reducible refine Adds.drewN ?_ _))).mono ?_; rintro e w3 ⟨⟨vo, vn, vc, rfl, HV⟩, os3, n3, rfl⟩))
      all_goals
        refine bodyPost_ret (v := ansN 0 (.slice vo vn vc)) (by simp [results, Try.results41, go_sem]) rfl (HEND.out _ _ _ _ _ _ _ HV (by repeat (first | with_reducible exact Adds.refl _ | with_reducible refine Adds.alloc ?_ _ | with_reducible refine Adds.more ?_ _ _ | with_reducible refine Adds.drew ?_ | with_reducible refine Adds.drewN ?_ _)) (by repeat (first | with_reducible exact Far.refl _ _ | with_reducible refine Far.mores ?_ (by simp [go_sem]) _ _ _ | with_reducible refine Far.allocs ?_ (by simp [go_sem]) _ | with_reducible refine Far.low ?_ (by simp [go_sem]) (by first | omega | (simp [go_sem] <;> omega)) _ _ | with_reducible refine Far.more ?_ _ _ | with_reducible refine Far.alloc ?_ _ | with_reducible refine Far.drew ?_ | with_reducible refine Far.drewN ?_ _)) rfl (by repeat (first | with_reducible exact Adds.refl _ | with_reducible refine Adds.alloc ?_ _ | with_reducible refine Adds.more ?_ _ _ | with_reducible refine Adds.drew ?_ | with_reducible refine Adds.drewN ?_ _)))
    | some a =>
      obtain ⟨b, off, spot⟩ := a
      clear hlo
      generalize ds.length = n' at *
      by_cases hcc : cap = c
      · have hnc : n' = c := by omega
        subst hcc hnc
        go_enter Try.func41, Try.ntmps41
        go_wp2_with (first
          | (go_at_call 24; (with_reducible refine (kF _ (by repeat (first | with_reducible exact Adds.refl _ | with_reducible refine Adds.alloc ?_ _ | with_reducible refine Adds.more ?_ _ _ | with_reducible refine Adds.drew ?_ | with_reducible refine Adds.drewN ?_ _))).mono ?_); rintro e w1 ⟨rfl, os1, n1, rfl⟩)
          | (go_at_call 22; refine (HY.out _ _ _ (by first | (simp; done) | (simp [hcc]; done) | (rw [if_neg hcc]; rfl)) (by omega) (by first | rfl | omega) _ (by repeat (first | with_reducible exact Adds.refl _ | with_reducible refine Adds.alloc ?_ _ | with_reducible refine Adds.more ?_ _ _ | with_reducible refine Adds.drew ?_ | with_reducible refine Adds.drewN ?_ _))).mono ?_; rintro e w3 ⟨⟨vo, vn, vc, rfl, HV⟩, os3, n3, rfl⟩))
        all_goals
          refine bodyPost_ret (v := ansN 0 (.slice vo vn vc)) (by simp [results, Try.results41, go_sem]) rfl (HEND.out _ _ _ _ _ _ _ HV (by repeat (first | with_reducible exact Adds.refl _ | with_reducible refine Adds.alloc ?_ _ | with_reducible refine Adds.more ?_ _ _ | with_reducible refine Adds.drew ?_ | with_reducible refine Adds.drewN ?_ _)) (by repeat (first | with_reducible exact Far.refl _ _ | with_reducible refine Far.mores ?_ (by simp [go_sem]) _ _ _ | with_reducible refine Far.allocs ?_ (by simp [go_sem]) _ | with_reducible refine Far.low ?_ (by simp [go_sem]) (by first | omega | (simp [go_sem] <;> omega)) _ _ | with_reducible refine Far.more ?_ _ _ | with_reducible refine Far.alloc ?_ _ | with_reducible refine Far.drew ?_ | with_reducible refine Far.drewN ?_ _)) rfl (by repeat (first | with_reducible exact Adds.refl _ | with_reducible refine Adds.alloc ?_ _ | with_reducible refine Adds.more ?_ _ _ | with_reducible refine Adds.drew ?_ | with_reducible refine Adds.drewN ?_ _)))
      · have hcc' : ¬ (cap : Int) = (c : Int) := by omega
        go_enter Try.func41, Try.ntmps41
        go_wp2_with (first
          | (go_at_call 24; (with_reducible refine (kF _ (by repeat (first | with_reducible exact Adds.refl _ | with_reducible refine Adds.alloc ?_ _ | with_reducible refine Adds.more ?_ _ _ | with_reducible refine Adds.drew ?_ | with_reducible refine Adds.drewN ?_ _))).mono ?_); rintro e w1 ⟨rfl, os1, n1, rfl⟩)
          | (go_at_call 22; refine (HY.out _ _ _ (by first | (simp; done) | (simp [hcc]; done) | (rw [if_neg hcc]; rfl)) (by omega) (by first | rfl | omega) _ (by repeat (first | with_reducible exact Adds.refl _ | with_reducible refine Adds.alloc ?_ _ | with_reducible refine Adds.more ?_ _ _ | with_reducible refine Adds.drew ?_ | with_reducible refine Adds.drewN ?_ _))).mono ?_; rintro e w3 ⟨⟨vo, vn, vc, rfl, HV⟩, os3, n3, rfl⟩))
        all_goals
          refine bodyPost_ret (v := ansN 0 (.slice vo vn vc)) (by simp [results, Try.results41, go_sem]) rfl (HEND.out _ _ _ _ _ _ _ HV (by repeat (first | with_reducible exact Adds.refl _ | with_reducible refine Adds.alloc ?_ _ | with_reducible refine Adds.more ?_ _ _ | with_reducible refine Adds.drew ?_ | with_reducible refine Adds.drewN ?_ _)) (by repeat (first | with_reducible exact Far.refl _ _ | with_reducible refine Far.mores ?_ (by simp [go_sem]) _ _ _ | with_reducible refine Far.allocs ?_ (by simp [go_sem]) _ | with_reducible refine Far.low ?_ (by simp [go_sem]) (by first | omega | (simp [go_sem] <;> omega)) _ _ | with_reducible refine Far.more ?_ _ _ | with_reducible refine Far.alloc ?_ _ | with_reducible refine Far.drew ?_ | with_reducible refine Far.drewN ?_ _)) rfl (by repeat (first | with_reducible exact Adds.refl _ | with_reducible refine Adds.alloc ?_ _ | with_reducible refine Adds.more ?_ _ _ | with_reducible refine Adds.drew ?_ | with_reducible refine Adds.drewN ?_ _)))
  · have ht1 : (to.toList == []) = false := by simpa using he1
    have ht2 : (to.toList != []) = true := by simpa using he1
    subst he2
    cases so with
    | none =>
      rcases hlo with rfl | ⟨_, _, hx, _⟩
      rotate_left
      · cases hx
      obtain rfl : e = 0 := by simpa using hel
      obtain rfl : c = 0 := by omega
      simp only [List.length_nil] at kT kF
      go_enter Try.func41, Try.ntmps41
      go_wp2_with (first
        | (go_at_call 24; (with_reducible refine (kT _ (by repeat (first | with_reducible exact Adds.refl _ | with_reducible refine Adds.alloc ?_ _ | with_reducible refine Adds.more ?_ _ _ | with_reducible refine Adds.drew ?_ | with_reducible refine Adds.drewN ?_ _))).mono ?_); rintro e w2 ⟨rfl, os2, n2, rfl⟩; clear kT)
        | (go_at_call 24; (with_reducible refine (kF _ (by repeat (first | with_reducible exact Adds.refl _ | with_reducible refine Adds.alloc ?_ _ | with_reducible refine Adds.more ?_ _ _ | with_reducible refine Adds.drew ?_ | with_reducible refine Adds.drewN ?_ _))).mono ?_); rintro e w1 ⟨rfl, os1, n1, rfl⟩)
        | (go_at_call 22; refine (HY.out _ _ _ (by first | (simp; done) | (simp [hcc]; done) | (rw [if_neg hcc]; rfl)) (by omega) (by first | rfl | omega) _ (by repeat (first | with_reducible exact Adds.refl _ | with_reducible refine Adds.alloc ?_ _ | with_reducible refine Adds.more ?_ _ _ | with_reducible refine Adds.drew ?_ | with_reducible refine Adds.drewN ?_ _))).mono ?_; rintro e w3 ⟨⟨vo, vn, vc, rfl, HV⟩, os3, n3, rfl⟩))
      all_goals
        refine bodyPost_ret (v := ansN 0 (.slice vo vn vc)) (by simp [results, Try.results41, go_sem]) rfl (HEND.out _ _ _ _ _ _ _ HV (by repeat (first | with_reducible exact Adds.refl _ | with_reducible refine Adds.alloc ?_ _ | with_reducible refine Adds.more ?_ _ _ | with_reducible refine Adds.drew ?_ | with_reducible refine Adds.drewN ?_ _)) (by repeat (first | with_reducible exact Far.refl _ _ | with_reducible refine Far.mores ?_ (by simp [go_sem]) _ _ _ | with_reducible refine Far.allocs ?_ (by simp [go_sem]) _ | with_reducible refine Far.low ?_ (by simp [go_sem]) (by first | omega | (simp [go_sem] <;> omega)) _ _ | with_reducible refine Far.more ?_ _ _ | with_reducible refine Far.alloc ?_ _ | with_reducible refine Far.drew ?_ | with_reducible refine Far.drewN ?_ _)) rfl (by repeat (first | with_reducible exact Adds.refl _ | with_reducible refine Adds.alloc ?_ _ | with_reducible refine Adds.more ?_ _ _ | with_reducible refine Adds.drew ?_ | with_reducible refine Adds.drewN ?_ _)))
    | some a =>
      obtain ⟨b, off, spot⟩ := a
      clear hlo
      generalize ds.length = n' at *
      by_cases hcc : cap = c
      · have hnc : e = c := by omega
        have hnc' : n' = c := by omega
        subst hcc hnc hnc'
        go_enter Try.func41, Try.ntmps41
        go_wp2_with (first
          | (go_at_call 24; (with_reducible refine (kT _ (by repeat (first | with_reducible exact Adds.refl _ | with_reducible refine Adds.alloc ?_ _ | with_reducible refine Adds.more ?_ _ _ | with_reducible refine Adds.drew ?_ | with_reducible refine Adds.drewN ?_ _))).mono ?_); rintro e w2 ⟨rfl, os2, n2, rfl⟩; clear kT)
          | (go_at_call 24; (with_reducible refine (kF _ (by repeat (first | with_reducible exact Adds.refl _ | with_reducible refine Adds.alloc ?_ _ | with_reducible refine Adds.more ?_ _ _ | with_reducible refine Adds.drew ?_ | with_reducible refine Adds.drewN ?_ _))).mono ?_); rintro e w1 ⟨rfl, os1, n1, rfl⟩)
          | (go_at_call 22; refine (HY.out _ _ _ (by first | (simp; done) | (simp [hcc]; done) | (rw [if_neg hcc]; rfl)) (by omega) (by first | rfl | omega) _ (by repeat (first | with_reducible exact Adds.refl _ | with_reducible refine Adds.alloc ?_ _ | with_reducible refine Adds.more ?_ _ _ | with_reducible refine Adds.drew ?_ | with_reducible refine Adds.drewN ?_ _))).mono ?_; rintro e w3 ⟨⟨vo, vn, vc, rfl, HV⟩, os3, n3, rfl⟩))
        all_goals
          refine bodyPost_ret (v := ansN 0 (.slice vo vn vc)) (by simp [results, Try.results41, go_sem]) rfl (HEND.out _ _ _ _ _ _ _ HV (by repeat (first | with_reducible exact Adds.refl _ | with_reducible refine Adds.alloc ?_ _ | with_reducible refine Adds.more ?_ _ _ | with_reducible refine Adds.drew ?_ | with_reducible refine Adds.drewN ?_ _)) (by repeat (first | with_reducible exact Far.refl _ _ | with_reducible refine Far.mores ?_ (by simp [go_sem]) _ _ _ | with_reducible refine Far.allocs ?_ (by simp [go_sem]) _ | with_reducible refine Far.low ?_ (by simp [go_sem]) (by first | omega | (simp [go_sem] <;> omega)) _ _ | with_reducible refine Far.more ?_ _ _ | with_reducible refine Far.alloc ?_ _ | with_reducible refine Far.drew ?_ | with_reducible refine Far.drewN ?_ _)) rfl (by repeat (first | with_reducible exact Adds.refl _ | with_reducible refine Adds.alloc ?_ _ | with_reducible refine Adds.more ?_ _ _ | with_reducible refine Adds.drew ?_ | with_reducible refine Adds.drewN ?_ _)))
      · have hcc' : ¬ (cap : Int) = (c : Int) := by omega
        go_enter Try.func41, Try.ntmps41
        go_wp2_with (first
          | (go_at_call 24; (with_reducible refine (kT _ (by repeat (first | with_reducible exact Adds.refl _ | with_reducible refine Adds.alloc ?_ _ | with_reducible refine Adds.more ?_ _ _ | with_reducible refine Adds.drew ?_ | with_reducible refine Adds.drewN ?_ _))).mono ?_); rintro e w2 ⟨rfl, os2, n2, rfl⟩; clear kT)
          | (go_at_call 24; (with_reducible refine (kF _ (by repeat (first | with_reducible exact Adds.refl _ | with_reducible refine Adds.alloc ?_ _ | with_reducible refine Adds.more ?_ _ _ | with_reducible refine Adds.drew ?_ | with_reducible refine Adds.drewN ?_ _))).mono ?_); rintro e w1 ⟨rfl, os1, n1, rfl⟩)
          | (go_at_call 22; refine (HY.out _ _ _ (by first | (simp; done) | (simp [hcc]; done) | (rw [if_neg hcc]; rfl)) (by omega) (by first | rfl | omega) _ (by repeat (first | with_reducible exact Adds.refl _ | with_reducible refine Adds.alloc ?_ _ | with_reducible refine Adds.more ?_ _ _ | with_reducible refine Adds.drew ?_ | with_reducible refine Adds.drewN ?_ _))).mono ?_; rintro e w3 ⟨⟨vo, vn, vc, rfl, HV⟩, os3, n3, rfl⟩))
        all_goals
          refine bodyPost_ret (v := ansN 0 (.slice vo vn vc)) (by simp [results, Try.results41, go_sem]) rfl (HEND.out _ _ _ _ _ _ _ HV (by repeat (first | with_reducible exact Adds.refl _ | with_reducible refine Adds.alloc ?_ _ | with_reducible refine Adds.more ?_ _ _ | with_reducible refine Adds.drew ?_ | with_reducible refine Adds.drewN ?_ _)) (by repeat (first | with_reducible exact Far.refl _ _ | with_reducible refine Far.mores ?_ (by simp [go_sem]) _ _ _ | with_reducible refine Far.allocs ?_ (by simp [go_sem]) _ | with_reducible refine Far.low ?_ (by simp [go_sem]) (by first | omega | (simp [go_sem] <;> omega)) _ _ | with_reducible refine Far.more ?_ _ _ | with_reducible refine Far.alloc ?_ _ | with_reducible refine Far.drew ?_ | with_reducible refine Far.drewN ?_ _)) rfl (by repeat (first | with_reducible exact Adds.refl _ | with_reducible refine Adds.alloc ?_ _ | with_reducible refine Adds.more ?_ _ _ | with_reducible refine Adds.drew ?_ | with_reducible refine Adds.drewN ?_ _)))

end Go.Proofs.Ytgnhkpihlghbmaa
