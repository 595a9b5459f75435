/-
  Subscriptions turned beside a box; slices.Insert, by contract. Open of package feed, by contract. Open of package feed where it is refused, by contract.
-/
import Derived.Test.YtpjhohmbifpogaaMadg
import Derived.Test.YtpjhohmbifpogaaMins
import Derived.Test.YtpjhohmbifpogaaMfnd
import Derived.Test.YtpjhohmbifpogaaRat
namespace Go.Proofs.Ytpjhohmbifpogaa
open Go.RowKit
attribute [local go_sem] cell?_more frozen?_more setCell_more size_more tape_more drew_more drewN_more more_drew more_drewN one_out plus_out plus_end lt_one le_p2 le_p3 le_p4 le_p5 le_p6 le_p7 le_p8 le_p9 le_p10 le_p11 le_p12 le_p13 le_p14 le_p15 le_p16 le_p17 le_p18 le_p19 le_p20 le_p21 le_p22 le_p23 le_p24 le_q0 le_q1 lt_q1 le_q2 lt_q2 le_q3 lt_q3 le_q4 lt_q4 le_q5 lt_q5 le_q6 lt_q6 le_q7 lt_q7 le_q8 lt_q8 le_q9 lt_q9 le_q10 lt_q10 le_q11 lt_q11 le_q12 lt_q12 le_q13 lt_q13 le_q14 lt_q14 le_q15 lt_q15 le_q16 lt_q16 le_q17 lt_q17 le_q18 lt_q18 le_q19 lt_q19 le_q20 lt_q20 le_q21 lt_q21 le_q22 lt_q22 le_q23 lt_q23 le_q24 lt_q24

theorem rows_other {w : World} {B C : Nat} {ty ty' : TypeId} {k k' : Nat} {v x : Value} {n m : Nat} {xs ys : List Value} (hne : ty ≠ ty') (h : w.ownsRow B ty k v n xs) (h' : w.ownsRow C ty' k' x m ys) : x.ownBlock = none ∨ x.ownBlock ≠ v.ownBlock := by
  rcases h'.2 with ⟨rfl, _⟩ | ⟨g, cap, cur, rfl, _, hg, _⟩
  · exact .inl rfl
  · refine .inr fun e => ?_
    rcases h.2 with ⟨rfl, _⟩ | ⟨g', cap', cur', rfl, _, hg', _⟩
    · cases e
    · simp only [Value.ownBlock, Option.some.injEq] at e
      subst e
      rw [hg] at hg'
      simp only [Option.some.injEq, Obj.cells.injEq] at hg'
      exact hne hg'.2.1.symm

theorem OwnH.grown {B C : Nat} {s t : Value} {rs : List Rh} {m : Nat} {ys : List Value} {W0 w w' : World} (h : OwnH B s rs W0 w) (ht : w.ownsRow C 43 2 t m ys) (hg : w.grownBy w' t.ownBlock) : OwnH B s rs w' w' :=
  ⟨h.1.kept hg (rows_other (by decide) ht h.1), Below.refl _ _, Nat.le_trans h.2.2.1 hg.size, fun r hr => World.ownsRow.kept (h.2.2.2 r hr) hg (rows_other (by decide) ht (h.2.2.2 r hr))⟩

theorem grown_split {Y : World} {os2 : Array Obj} {n2 : Nat} {c : Array Value} {w w' : World} {own : Option Nat} {B : Nat} (hw : Adds ((more Y os2 n2).alloc (.cells c 25)) w) (h3 : w.grownBy w' own) (hlt : ∀ q, own = some q → B ≤ q ∧ q < (more Y os2 n2).heap.size) (hYB : Y.heap.size ≤ B) :
    ∃ os2' os d, os2'.size = os2.size ∧ w' = more ((more Y os2' n2).alloc (.cells c 25)) os d := by
  have hAY : Adds Y w := (((Adds.refl _).more _ _).alloc _).trans hw
  have hbox : w.heap[Y.heap.size + os2.size]? = some (.cells c 25) := by
    rw [hw.below.block _ (by rw [alloc_size, size_more]; omega), ← size_more os2 n2]
    exact new_block2 _ _
  have hA : Adds Y w' := by
    refine Adds.of ?_
    have hb := hAY.below
    refine ⟨h3.os.trans hb.os, h3.tape.trans hb.tape, h3.output.trans hb.output, Nat.le_trans hb.size h3.size, fun q hq => ?_⟩
    rw [h3.block q (Nat.lt_of_lt_of_le hq hb.size) ?_]
    · exact hb.block q hq
    · intro e
      have := hlt q e.symm
      omega
  have hO : w'.heap[Y.heap.size + os2.size]? = some (.cells c 25) := by
    rw [h3.block _ ?_ ?_]
    · exact hbox
    · exact (Array.getElem?_eq_some_iff.1 hbox).1
    · intro e
      have := (hlt _ e.symm).2
      rw [size_more] at this
      omega
  exact world_split Y w' os2.size n2 _ hA hO

theorem insert_box {Y : World} {os2 : Array Obj} {n2 : Nat} {w : World} (c : Array Value) {B : Nat} {s : Value} {rs : List Rh} {W0 W1 : World} (hH : OwnH B s rs W0 (more Y os2 n2)) {uo : Option Addr} {n uc : Nat} {ss : List Sb} (hS : OwnS B (.slice uo n uc) ss W1 (more Y os2 n2)) (hn : ss.length = n) (hw : Adds ((more Y os2 n2).alloc (.cells c 25)) w) (hYB : Y.heap.size ≤ B) (x : Sb) (k : Nat) (hk : Alone1 w k x) (hkz : (more Y os2 n2).heap.size ≤ k) (i : Nat) (hi : i ≤ n) (hle : n ≤ 1000) :
    Calls Try.prog 42 #[.slice uo n uc, .int .i64 (i : Nat), .slice (some ⟨k, 0, none⟩) 1 1] w fun e w' => ∃ vo vc os2' os d, e = .returned (.slice vo (n + 1) vc) ∧ os2'.size = os2.size ∧ Hid (∀ c', OwnH B s rs (more ((more Y os2' n2).alloc (.cells c' 25)) os d) (more ((more Y os2' n2).alloc (.cells c' 25)) os d) ∧ OwnS B (.slice vo (n + 1) vc) (ss.take i ++ x :: ss.drop i) (more ((more Y os2' n2).alloc (.cells c' 25)) os d) (more ((more Y os2' n2).alloc (.cells c' 25)) os d)) ∧ w' = more ((more Y os2' n2).alloc (.cells c 25)) os d := by
  subst hn
  have hlt := hS.1.lt
  have hA0 : Adds (more Y os2 n2) w := ((Adds.refl _).alloc _).trans hw
  have hS' := hS.adds hA0
  have hH' := hH.adds hA0
  have hv : (Value.slice uo ss.length uc).ownBlock ≠ some k := fun e => by
    have := (hlt k e).2
    omega
  refine (insert_any B _ ss W1 w hS' x k hk hv i hi hle).mono ?_
  rintro e w' ⟨v', rfl, h1, h2⟩
  have hH2 := hH'.grown hS'.1 h2
  obtain ⟨os2', os, d, hz, rfl⟩ := grown_split hw h2 hlt hYB
  obtain ⟨vo, vc, rfl, _, _⟩ := h1.lst
  have hl : (ss.take i ++ x :: ss.drop i).length = ss.length + 1 := by
    rw [List.length_append, List.length_cons, List.length_take, List.length_drop]
    omega
  rw [hl] at h1 ⊢
  exact ⟨vo, vc, os2', os, d, rfl, hz, fun c' => ⟨hH2.box c', h1.box c'⟩, rfl⟩

end Go.Proofs.Ytpjhohmbifpogaa

namespace Go.Proofs.Ytpjhohmbifpogaa
open Go.RowKit
attribute [local go_sem] cell?_more frozen?_more setCell_more size_more tape_more drew_more drewN_more more_drew more_drewN one_out plus_out plus_end lt_one le_p2 le_p3 le_p4 le_p5 le_p6 le_p7 le_p8 le_p9 le_p10 le_p11 le_p12 le_p13 le_p14 le_p15 le_p16 le_p17 le_p18 le_p19 le_p20 le_p21 le_p22 le_p23 le_p24 le_q0 le_q1 lt_q1 le_q2 lt_q2 le_q3 lt_q3 le_q4 lt_q4 le_q5 lt_q5 le_q6 lt_q6 le_q7 lt_q7 le_q8 lt_q8 le_q9 lt_q9 le_q10 lt_q10 le_q11 lt_q11 le_q12 lt_q12 le_q13 lt_q13 le_q14 lt_q14 le_q15 lt_q15 le_q16 lt_q16 le_q17 lt_q17 le_q18 lt_q18 le_q19 lt_q19 le_q20 lt_q20 le_q21 lt_q21 le_q22 lt_q22 le_q23 lt_q23 le_q24 lt_q24

def insS (name : ByteArray) (pos : Int) (sb : List Sb) : List Sb := sb.take (cutAt name sb) ++ ⟨name, pos⟩ :: sb.drop (cutAt name sb)

theorem insS_length (name : ByteArray) (pos : Int) (sb : List Sb) : (insS name pos sb).length = sb.length + 1 := by
  have := cutAt_le name sb
  simp only [insS, List.length_append, List.length_cons, List.length_take, List.length_drop]
  omega

set_option maxHeartbeats 4000000 in
set_option maxRecDepth 20000 in
theorem open_ok (v : Value) (f : Fd) (name : ByteArray) (pos : Int) (w : World) (h : LstF w v f) (hM : MayF f) (hc : f.ch.length ≤ 1000) (hd : ∀ d ∈ f.ch, d.doc.length ≤ 1000) (hk : isKey name = true) (hn : hasAt name f.sb = false) (h8 : f.sb.length < 8) (h0 : f.base ≤ pos) (h1 : pos ≤ f.total) :
    Calls Try.prog 18 #[v, .string name, .int .i64 pos] w fun e w' => (∃ vo vc uo uc, e = .returned (.tuple #[.agg #[.int .i64 f.base, .int .i64 f.total, .slice vo f.ch.length vc, .slice uo (f.sb.length + 1) uc], .int .i64 0]) ∧ Hid (LstH w' (.slice vo f.ch.length vc) f.ch ∧ LstS w' (.slice uo (f.sb.length + 1) uc) (insS name pos f.sb))) ∧ Adds w w' := by
  have kC := fun w' (hA : Adds w w') => checkF_any v f w' (h.adds hA) hc
  rw [err_ok hM] at kC
  obtain ⟨s, t, rfl, hs, ht⟩ := h
  obtain ⟨base, total, ch, sb⟩ := f
  simp only at *
  have hs6 : sb.length ≤ 1000 := by omega
  have kO := fun w' (hA : Adds w w') => copyOf_row base total s t ch sb w' (hs.adds hA) (ht.adds hA) hc hd hs6
  have kF := fun u w' (hu : LstS w' u sb) => find_any u sb name w' hu hs6 (subsc_climbs hM.2.2.2.2.2)
  rw [hn] at kF
  have kK := key_any name
  rw [hk] at kK
  have hcut := cutAt_le name sb
  have HI : Hid (insS name pos sb = sb.take (cutAt name sb) ++ ⟨name, pos⟩ :: sb.drop (cutAt name sb)) := rfl
  have h0' : ¬ pos < base := by omega
  have h1' : ¬ total < pos := by omega
  have h2' : ¬ pos < 0 := by have := hM.1; simp only at this; omega
  have h3' : ¬ (sb.length : Int) = 8 := by omega
  have h3'' : ((sb.length : Int) == 8) = false := by simpa using h3'
  generalize insS name pos sb = ns at *
  generalize hcc : cutAt name sb = at_ at *
  clear hcc hd hM hs ht hn
  go_enter Try.func18, Try.ntmps18
  go_wp2_with (first
    | (go_at_call 13; refine (kC _ (by repeat (first | with_reducible exact Adds.refl _ | with_reducible refine Adds.alloc ?_ _ | with_reducible refine Adds.more ?_ _ _ | with_reducible refine Adds.drew ?_ | with_reducible refine Adds.drewN ?_ _))).mono ?_; rintro e w1 ⟨rfl, os1, n1, rfl⟩)
    | (go_at_call 31; refine (kO _ (by repeat (first | with_reducible exact Adds.refl _ | with_reducible refine Adds.alloc ?_ _ | with_reducible refine Adds.more ?_ _ _ | with_reducible refine Adds.drew ?_ | with_reducible refine Adds.drewN ?_ _))).mono ?_; rintro e w2 ⟨⟨v2, c2, u2, d2, rs, rfl, H2⟩, os2, n2, rfl⟩)
    | (go_at_call 40; refine (kF _ _ (OwnS.far H2.out.2.2 (by repeat (first | with_reducible exact Far.refl _ _ | with_reducible refine Far.mores ?_ (by simp [go_sem]) _ _ _ | with_reducible refine Far.allocs ?_ (by simp [go_sem]) _ | with_reducible refine Far.low ?_ (by simp [go_sem]) (by simp [go_sem] <;> omega) _ _ | with_reducible refine Far.more ?_ _ _ | with_reducible refine Far.alloc ?_ _)) (Nat.le_refl _)).lst).mono ?_; rintro e w3 ⟨rfl, os3, n3, rfl⟩)
    | (go_at_call 41; refine (kK _).mono ?_; rintro e w4 ⟨rfl, hw⟩; subst w4)
    | (go_at_call 42; refine (insert_box #[.int .i64 base, .int .i64 total, .slice v2 ch.length c2, .slice u2 sb.length d2] H2.out.1 H2.out.2.2 rfl (by repeat (first | with_reducible exact Adds.refl _ | with_reducible refine Adds.alloc ?_ _ | with_reducible refine Adds.more ?_ _ _ | with_reducible refine Adds.drew ?_ | with_reducible refine Adds.drewN ?_ _)) (by simp [go_sem] <;> omega) ⟨name, pos⟩ _ (at_newH _ _ _ (by simp [go_sem])) (by simp [go_sem] <;> omega) at_ hcut hs6).mono ?_; rintro e w5 ⟨v5, c5, os5, os6, d5, rfl, hz5, H5, rfl⟩))
  refine bodyPost_ret (v := .tuple #[.agg #[.int .i64 base, .int .i64 total, .slice v2 ch.length c2, .slice v5 (sb.length + 1) c5], .int .i64 0]) (by simp [results, Try.results18, go_sem]) rfl ⟨⟨v2, c2, v5, c5, rfl, ?_⟩, (by repeat (first | with_reducible exact Adds.refl _ | with_reducible refine Adds.alloc ?_ _ | with_reducible refine Adds.more ?_ _ _ | with_reducible refine Adds.drew ?_ | with_reducible refine Adds.drewN ?_ _))⟩
  have H7 := H5.out #[.int .i64 base, .int .i64 total, .slice v2 ch.length c2, .slice v5 (sb.length + 1) c5]
  rw [HI.out]
  exact lstG_far H7.1 H2.out.2.1 H7.2 (by repeat (first | with_reducible exact Far.refl _ _ | with_reducible refine Far.mores ?_ (by simp [go_sem]) _ _ _ | with_reducible refine Far.allocs ?_ (by simp [go_sem]) _ | with_reducible refine Far.low ?_ (by simp [go_sem]) (by simp [go_sem] <;> omega) _ _ | with_reducible refine Far.more ?_ _ _ | with_reducible refine Far.alloc ?_ _))

end Go.Proofs.Ytpjhohmbifpogaa

namespace Go.Proofs.Ytpjhohmbifpogaa
open Go.RowKit
attribute [local go_sem] cell?_more frozen?_more setCell_more size_more tape_more drew_more drewN_more more_drew more_drewN one_out plus_out plus_end lt_one le_p2 le_p3 le_p4 le_p5 le_p6 le_p7 le_p8 le_p9 le_p10 le_p11 le_p12 le_p13 le_p14 le_p15 le_p16 le_p17 le_p18 le_p19 le_p20 le_p21 le_p22 le_p23 le_p24 le_q0 le_q1 lt_q1 le_q2 lt_q2 le_q3 lt_q3 le_q4 lt_q4 le_q5 lt_q5 le_q6 lt_q6 le_q7 lt_q7 le_q8 lt_q8 le_q9 lt_q9 le_q10 lt_q10 le_q11 lt_q11 le_q12 lt_q12 le_q13 lt_q13 le_q14 lt_q14 le_q15 lt_q15 le_q16 lt_q16 le_q17 lt_q17 le_q18 lt_q18 le_q19 lt_q19 le_q20 lt_q20 le_q21 lt_q21 le_q22 lt_q22 le_q23 lt_q23 le_q24 lt_q24

set_option maxHeartbeats 2000000 in
set_option maxRecDepth 20000 in
theorem open_bad (v : Value) (f : Fd) (name : ByteArray) (pos : Int) (w : World) (h : LstF w v f) (hc : f.ch.length ≤ 1000) (hM : ¬ MayF f) :
    Calls Try.prog 18 #[v, .string name, .int .i64 pos] w fun e w' => e = .returned (.tuple #[.agg #[.int .i64 0, .int .i64 0, .slice none 0 0, .slice none 0 0], .int .i64 1]) ∧ Adds w w' := by
  have kC := fun w' (hA : Adds w w') => checkF_any v f w' (h.adds hA) hc
  rw [err_bad hM] at kC
  obtain ⟨s, t, rfl, hs, ht⟩ := h
  obtain ⟨so, sc, rfl, _, _⟩ := hs
  obtain ⟨uo, uc, rfl, _, _⟩ := ht
  clear hM
  go_enter Try.func18, Try.ntmps18
  go_wp2_with (first
    | (go_at_call 13; refine (kC _ (by repeat (first | with_reducible exact Adds.refl _ | with_reducible refine Adds.alloc ?_ _ | with_reducible refine Adds.more ?_ _ _ | with_reducible refine Adds.drew ?_ | with_reducible refine Adds.drewN ?_ _))).mono ?_; rintro e w1 ⟨rfl, os1, n1, rfl⟩))
  exact bodyPost_ret (v := .tuple #[.agg #[.int .i64 0, .int .i64 0, .slice none 0 0, .slice none 0 0], .int .i64 1]) (by simp [results, Try.results18, go_sem]) rfl ⟨rfl, (by repeat (first | with_reducible exact Adds.refl _ | with_reducible refine Adds.alloc ?_ _ | with_reducible refine Adds.more ?_ _ _ | with_reducible refine Adds.drew ?_ | with_reducible refine Adds.drewN ?_ _))⟩

set_option maxHeartbeats 4000000 in
set_option maxRecDepth 20000 in
theorem open_key (v : Value) (f : Fd) (name : ByteArray) (pos : Int) (w : World) (h : LstF w v f) (hM : MayF f) (hc : f.ch.length ≤ 1000) (hd : ∀ d ∈ f.ch, d.doc.length ≤ 1000) (hk : isKey name = false) :
    Calls Try.prog 18 #[v, .string name, .int .i64 pos] w fun e w' => (∃ vo vc uo uc, e = .returned (.tuple #[.agg #[.int .i64 f.base, .int .i64 f.total, .slice vo f.ch.length vc, .slice uo f.sb.length uc], .int .i64 1]) ∧ Hid (LstH w' (.slice vo f.ch.length vc) f.ch ∧ LstS w' (.slice uo f.sb.length uc) f.sb)) ∧ Adds w w' := by
  have kC := fun w' (hA : Adds w w') => checkF_any v f w' (h.adds hA) hc
  rw [err_ok hM] at kC
  obtain ⟨s, t, rfl, hs, ht⟩ := h
  obtain ⟨base, total, ch, sb⟩ := f
  simp only at *
  have hs6 : sb.length ≤ 1000 := Nat.le_trans hM.2.2.2.2.2.1 (by omega)
  have kO := fun w' (hA : Adds w w') => copyOf_row base total s t ch sb w' (hs.adds hA) (ht.adds hA) hc hd hs6
  have kF := fun u w' (hu : LstS w' u sb) => find_any u sb name w' hu hs6 (subsc_climbs hM.2.2.2.2.2)
  have kK := key_any name
  rw [hk] at kK
  generalize hasAt name sb = hq at *
  generalize cutAt name sb = at_ at *
  clear hd hM hs ht
  go_enter Try.func18, Try.ntmps18
  go_wp2_with (first
    | (go_at_call 13; refine (kC _ (by repeat (first | with_reducible exact Adds.refl _ | with_reducible refine Adds.alloc ?_ _ | with_reducible refine Adds.more ?_ _ _ | with_reducible refine Adds.drew ?_ | with_reducible refine Adds.drewN ?_ _))).mono ?_; rintro e w1 ⟨rfl, os1, n1, rfl⟩)
    | (go_at_call 31; refine (kO _ (by repeat (first | with_reducible exact Adds.refl _ | with_reducible refine Adds.alloc ?_ _ | with_reducible refine Adds.more ?_ _ _ | with_reducible refine Adds.drew ?_ | with_reducible refine Adds.drewN ?_ _))).mono ?_; rintro e w2 ⟨⟨v2, c2, u2, d2, rs, rfl, H2⟩, os2, n2, rfl⟩)
    | (go_at_call 40; refine (kF _ _ (OwnS.far H2.out.2.2 (by repeat (first | with_reducible exact Far.refl _ _ | with_reducible refine Far.mores ?_ (by simp [go_sem]) _ _ _ | with_reducible refine Far.allocs ?_ (by simp [go_sem]) _ | with_reducible refine Far.low ?_ (by simp [go_sem]) (by simp [go_sem] <;> omega) _ _ | with_reducible refine Far.more ?_ _ _ | with_reducible refine Far.alloc ?_ _)) (Nat.le_refl _)).lst).mono ?_; rintro e w3 ⟨rfl, os3, n3, rfl⟩)
    | (go_at_call 41; refine (kK _).mono ?_; rintro e w4 ⟨rfl, hw⟩; subst w4))
  refine bodyPost_ret (v := .tuple #[.agg #[.int .i64 base, .int .i64 total, .slice v2 ch.length c2, .slice u2 sb.length d2], .int .i64 1]) (by simp [results, Try.results18, go_sem]) rfl ⟨⟨v2, c2, u2, d2, rfl, ?_⟩, (by repeat (first | with_reducible exact Adds.refl _ | with_reducible refine Adds.alloc ?_ _ | with_reducible refine Adds.more ?_ _ _ | with_reducible refine Adds.drew ?_ | with_reducible refine Adds.drewN ?_ _))⟩
  exact lstG_far H2.out.1 H2.out.2.1 H2.out.2.2 (by repeat (first | with_reducible exact Far.refl _ _ | with_reducible refine Far.mores ?_ (by simp [go_sem]) _ _ _ | with_reducible refine Far.allocs ?_ (by simp [go_sem]) _ | with_reducible refine Far.low ?_ (by simp [go_sem]) (by simp [go_sem] <;> omega) _ _ | with_reducible refine Far.more ?_ _ _ | with_reducible refine Far.alloc ?_ _))

set_option maxHeartbeats 4000000 in
set_option maxRecDepth 20000 in
theorem open_neg (v : Value) (f : Fd) (name : ByteArray) (pos : Int) (w : World) (h : LstF w v f) (hM : MayF f) (hc : f.ch.length ≤ 1000) (hd : ∀ d ∈ f.ch, d.doc.length ≤ 1000) (hk : isKey name = true) (hp : pos < 0) :
    Calls Try.prog 18 #[v, .string name, .int .i64 pos] w fun e w' => (∃ vo vc uo uc, e = .returned (.tuple #[.agg #[.int .i64 f.base, .int .i64 f.total, .slice vo f.ch.length vc, .slice uo f.sb.length uc], .int .i64 1]) ∧ Hid (LstH w' (.slice vo f.ch.length vc) f.ch ∧ LstS w' (.slice uo f.sb.length uc) f.sb)) ∧ Adds w w' := by
  have kC := fun w' (hA : Adds w w') => checkF_any v f w' (h.adds hA) hc
  rw [err_ok hM] at kC
  obtain ⟨s, t, rfl, hs, ht⟩ := h
  obtain ⟨base, total, ch, sb⟩ := f
  simp only at *
  have hs6 : sb.length ≤ 1000 := Nat.le_trans hM.2.2.2.2.2.1 (by omega)
  have kO := fun w' (hA : Adds w w') => copyOf_row base total s t ch sb w' (hs.adds hA) (ht.adds hA) hc hd hs6
  have kF := fun u w' (hu : LstS w' u sb) => find_any u sb name w' hu hs6 (subsc_climbs hM.2.2.2.2.2)
  have kK := key_any name
  rw [hk] at kK
  generalize hasAt name sb = hq at *
  generalize cutAt name sb = at_ at *
  clear hd hM hs ht
  go_enter Try.func18, Try.ntmps18
  go_wp2_with (first
    | (go_at_call 13; refine (kC _ (by repeat (first | with_reducible exact Adds.refl _ | with_reducible refine Adds.alloc ?_ _ | with_reducible refine Adds.more ?_ _ _ | with_reducible refine Adds.drew ?_ | with_reducible refine Adds.drewN ?_ _))).mono ?_; rintro e w1 ⟨rfl, os1, n1, rfl⟩)
    | (go_at_call 31; refine (kO _ (by repeat (first | with_reducible exact Adds.refl _ | with_reducible refine Adds.alloc ?_ _ | with_reducible refine Adds.more ?_ _ _ | with_reducible refine Adds.drew ?_ | with_reducible refine Adds.drewN ?_ _))).mono ?_; rintro e w2 ⟨⟨v2, c2, u2, d2, rs, rfl, H2⟩, os2, n2, rfl⟩)
    | (go_at_call 40; refine (kF _ _ (OwnS.far H2.out.2.2 (by repeat (first | with_reducible exact Far.refl _ _ | with_reducible refine Far.mores ?_ (by simp [go_sem]) _ _ _ | with_reducible refine Far.allocs ?_ (by simp [go_sem]) _ | with_reducible refine Far.low ?_ (by simp [go_sem]) (by simp [go_sem] <;> omega) _ _ | with_reducible refine Far.more ?_ _ _ | with_reducible refine Far.alloc ?_ _)) (Nat.le_refl _)).lst).mono ?_; rintro e w3 ⟨rfl, os3, n3, rfl⟩)
    | (go_at_call 41; refine (kK _).mono ?_; rintro e w4 ⟨rfl, hw⟩; subst w4))
  refine bodyPost_ret (v := .tuple #[.agg #[.int .i64 base, .int .i64 total, .slice v2 ch.length c2, .slice u2 sb.length d2], .int .i64 1]) (by simp [results, Try.results18, go_sem]) rfl ⟨⟨v2, c2, u2, d2, rfl, ?_⟩, (by repeat (first | with_reducible exact Adds.refl _ | with_reducible refine Adds.alloc ?_ _ | with_reducible refine Adds.more ?_ _ _ | with_reducible refine Adds.drew ?_ | with_reducible refine Adds.drewN ?_ _))⟩
  exact lstG_far H2.out.1 H2.out.2.1 H2.out.2.2 (by repeat (first | with_reducible exact Far.refl _ _ | with_reducible refine Far.mores ?_ (by simp [go_sem]) _ _ _ | with_reducible refine Far.allocs ?_ (by simp [go_sem]) _ | with_reducible refine Far.low ?_ (by simp [go_sem]) (by simp [go_sem] <;> omega) _ _ | with_reducible refine Far.more ?_ _ _ | with_reducible refine Far.alloc ?_ _))

set_option maxHeartbeats 4000000 in
set_option maxRecDepth 20000 in
theorem open_far (v : Value) (f : Fd) (name : ByteArray) (pos : Int) (w : World) (h : LstF w v f) (hM : MayF f) (hc : f.ch.length ≤ 1000) (hd : ∀ d ∈ f.ch, d.doc.length ≤ 1000) (hk : isKey name = true) (hp : 0 ≤ pos) (hp2 : f.total < pos) :
    Calls Try.prog 18 #[v, .string name, .int .i64 pos] w fun e w' => (∃ vo vc uo uc, e = .returned (.tuple #[.agg #[.int .i64 f.base, .int .i64 f.total, .slice vo f.ch.length vc, .slice uo f.sb.length uc], .int .i64 1]) ∧ Hid (LstH w' (.slice vo f.ch.length vc) f.ch ∧ LstS w' (.slice uo f.sb.length uc) f.sb)) ∧ Adds w w' := by
  have kC := fun w' (hA : Adds w w') => checkF_any v f w' (h.adds hA) hc
  rw [err_ok hM] at kC
  obtain ⟨s, t, rfl, hs, ht⟩ := h
  obtain ⟨base, total, ch, sb⟩ := f
  simp only at *
  have hs6 : sb.length ≤ 1000 := Nat.le_trans hM.2.2.2.2.2.1 (by omega)
  have kO := fun w' (hA : Adds w w') => copyOf_row base total s t ch sb w' (hs.adds hA) (ht.adds hA) hc hd hs6
  have kF := fun u w' (hu : LstS w' u sb) => find_any u sb name w' hu hs6 (subsc_climbs hM.2.2.2.2.2)
  have kK := key_any name
  rw [hk] at kK
  have hp' : ¬ pos < 0 := by omega
  generalize hasAt name sb = hq at *
  generalize cutAt name sb = at_ at *
  clear hd hM hs ht
  go_enter Try.func18, Try.ntmps18
  go_wp2_with (first
    | (go_at_call 13; refine (kC _ (by repeat (first | with_reducible exact Adds.refl _ | with_reducible refine Adds.alloc ?_ _ | with_reducible refine Adds.more ?_ _ _ | with_reducible refine Adds.drew ?_ | with_reducible refine Adds.drewN ?_ _))).mono ?_; rintro e w1 ⟨rfl, os1, n1, rfl⟩)
    | (go_at_call 31; refine (kO _ (by repeat (first | with_reducible exact Adds.refl _ | with_reducible refine Adds.alloc ?_ _ | with_reducible refine Adds.more ?_ _ _ | with_reducible refine Adds.drew ?_ | with_reducible refine Adds.drewN ?_ _))).mono ?_; rintro e w2 ⟨⟨v2, c2, u2, d2, rs, rfl, H2⟩, os2, n2, rfl⟩)
    | (go_at_call 40; refine (kF _ _ (OwnS.far H2.out.2.2 (by repeat (first | with_reducible exact Far.refl _ _ | with_reducible refine Far.mores ?_ (by simp [go_sem]) _ _ _ | with_reducible refine Far.allocs ?_ (by simp [go_sem]) _ | with_reducible refine Far.low ?_ (by simp [go_sem]) (by simp [go_sem] <;> omega) _ _ | with_reducible refine Far.more ?_ _ _ | with_reducible refine Far.alloc ?_ _)) (Nat.le_refl _)).lst).mono ?_; rintro e w3 ⟨rfl, os3, n3, rfl⟩)
    | (go_at_call 41; refine (kK _).mono ?_; rintro e w4 ⟨rfl, hw⟩; subst w4))
  refine bodyPost_ret (v := .tuple #[.agg #[.int .i64 base, .int .i64 total, .slice v2 ch.length c2, .slice u2 sb.length d2], .int .i64 1]) (by simp [results, Try.results18, go_sem]) rfl ⟨⟨v2, c2, u2, d2, rfl, ?_⟩, (by repeat (first | with_reducible exact Adds.refl _ | with_reducible refine Adds.alloc ?_ _ | with_reducible refine Adds.more ?_ _ _ | with_reducible refine Adds.drew ?_ | with_reducible refine Adds.drewN ?_ _))⟩
  exact lstG_far H2.out.1 H2.out.2.1 H2.out.2.2 (by repeat (first | with_reducible exact Far.refl _ _ | with_reducible refine Far.mores ?_ (by simp [go_sem]) _ _ _ | with_reducible refine Far.allocs ?_ (by simp [go_sem]) _ | with_reducible refine Far.low ?_ (by simp [go_sem]) (by simp [go_sem] <;> omega) _ _ | with_reducible refine Far.more ?_ _ _ | with_reducible refine Far.alloc ?_ _))

set_option maxHeartbeats 4000000 in
set_option maxRecDepth 20000 in
theorem open_same (v : Value) (f : Fd) (name : ByteArray) (pos : Int) (w : World) (h : LstF w v f) (hM : MayF f) (hc : f.ch.length ≤ 1000) (hd : ∀ d ∈ f.ch, d.doc.length ≤ 1000) (hk : isKey name = true) (hp : 0 ≤ pos) (hp2 : pos ≤ f.total) (hn : hasAt name f.sb = true) :
    Calls Try.prog 18 #[v, .string name, .int .i64 pos] w fun e w' => (∃ vo vc uo uc, e = .returned (.tuple #[.agg #[.int .i64 f.base, .int .i64 f.total, .slice vo f.ch.length vc, .slice uo f.sb.length uc], .int .i64 11]) ∧ Hid (LstH w' (.slice vo f.ch.length vc) f.ch ∧ LstS w' (.slice uo f.sb.length uc) f.sb)) ∧ Adds w w' := by
  have kC := fun w' (hA : Adds w w') => checkF_any v f w' (h.adds hA) hc
  rw [err_ok hM] at kC
  obtain ⟨s, t, rfl, hs, ht⟩ := h
  obtain ⟨base, total, ch, sb⟩ := f
  simp only at *
  have hs6 : sb.length ≤ 1000 := Nat.le_trans hM.2.2.2.2.2.1 (by omega)
  have kO := fun w' (hA : Adds w w') => copyOf_row base total s t ch sb w' (hs.adds hA) (ht.adds hA) hc hd hs6
  have kF := fun u w' (hu : LstS w' u sb) => find_any u sb name w' hu hs6 (subsc_climbs hM.2.2.2.2.2)
  have kK := key_any name
  rw [hk] at kK
  have hp' : ¬ pos < 0 := by omega
  have hp2' : ¬ total < pos := by omega
  rw [hn] at kF
  clear hn
  generalize hasAt name sb = hq at *
  generalize cutAt name sb = at_ at *
  clear hd hM hs ht
  go_enter Try.func18, Try.ntmps18
  go_wp2_with (first
    | (go_at_call 13; refine (kC _ (by repeat (first | with_reducible exact Adds.refl _ | with_reducible refine Adds.alloc ?_ _ | with_reducible refine Adds.more ?_ _ _ | with_reducible refine Adds.drew ?_ | with_reducible refine Adds.drewN ?_ _))).mono ?_; rintro e w1 ⟨rfl, os1, n1, rfl⟩)
    | (go_at_call 31; refine (kO _ (by repeat (first | with_reducible exact Adds.refl _ | with_reducible refine Adds.alloc ?_ _ | with_reducible refine Adds.more ?_ _ _ | with_reducible refine Adds.drew ?_ | with_reducible refine Adds.drewN ?_ _))).mono ?_; rintro e w2 ⟨⟨v2, c2, u2, d2, rs, rfl, H2⟩, os2, n2, rfl⟩)
    | (go_at_call 40; refine (kF _ _ (OwnS.far H2.out.2.2 (by repeat (first | with_reducible exact Far.refl _ _ | with_reducible refine Far.mores ?_ (by simp [go_sem]) _ _ _ | with_reducible refine Far.allocs ?_ (by simp [go_sem]) _ | with_reducible refine Far.low ?_ (by simp [go_sem]) (by simp [go_sem] <;> omega) _ _ | with_reducible refine Far.more ?_ _ _ | with_reducible refine Far.alloc ?_ _)) (Nat.le_refl _)).lst).mono ?_; rintro e w3 ⟨rfl, os3, n3, rfl⟩)
    | (go_at_call 41; refine (kK _).mono ?_; rintro e w4 ⟨rfl, hw⟩; subst w4))
  refine bodyPost_ret (v := .tuple #[.agg #[.int .i64 base, .int .i64 total, .slice v2 ch.length c2, .slice u2 sb.length d2], .int .i64 11]) (by simp [results, Try.results18, go_sem]) rfl ⟨⟨v2, c2, u2, d2, rfl, ?_⟩, (by repeat (first | with_reducible exact Adds.refl _ | with_reducible refine Adds.alloc ?_ _ | with_reducible refine Adds.more ?_ _ _ | with_reducible refine Adds.drew ?_ | with_reducible refine Adds.drewN ?_ _))⟩
  exact lstG_far H2.out.1 H2.out.2.1 H2.out.2.2 (by repeat (first | with_reducible exact Far.refl _ _ | with_reducible refine Far.mores ?_ (by simp [go_sem]) _ _ _ | with_reducible refine Far.allocs ?_ (by simp [go_sem]) _ | with_reducible refine Far.low ?_ (by simp [go_sem]) (by simp [go_sem] <;> omega) _ _ | with_reducible refine Far.more ?_ _ _ | with_reducible refine Far.alloc ?_ _))

set_option maxHeartbeats 4000000 in
set_option maxRecDepth 20000 in
theorem open_full (v : Value) (f : Fd) (name : ByteArray) (pos : Int) (w : World) (h : LstF w v f) (hM : MayF f) (hc : f.ch.length ≤ 1000) (hd : ∀ d ∈ f.ch, d.doc.length ≤ 1000) (hk : isKey name = true) (hp : 0 ≤ pos) (hp2 : pos ≤ f.total) (hn : hasAt name f.sb = false) (h8 : f.sb.length = 8) :
    Calls Try.prog 18 #[v, .string name, .int .i64 pos] w fun e w' => (∃ vo vc uo uc, e = .returned (.tuple #[.agg #[.int .i64 f.base, .int .i64 f.total, .slice vo f.ch.length vc, .slice uo f.sb.length uc], .int .i64 2]) ∧ Hid (LstH w' (.slice vo f.ch.length vc) f.ch ∧ LstS w' (.slice uo f.sb.length uc) f.sb)) ∧ Adds w w' := by
  have kC := fun w' (hA : Adds w w') => checkF_any v f w' (h.adds hA) hc
  rw [err_ok hM] at kC
  obtain ⟨s, t, rfl, hs, ht⟩ := h
  obtain ⟨base, total, ch, sb⟩ := f
  simp only at *
  have hs6 : sb.length ≤ 1000 := Nat.le_trans hM.2.2.2.2.2.1 (by omega)
  have kO := fun w' (hA : Adds w w') => copyOf_row base total s t ch sb w' (hs.adds hA) (ht.adds hA) hc hd hs6
  have kF := fun u w' (hu : LstS w' u sb) => find_any u sb name w' hu hs6 (subsc_climbs hM.2.2.2.2.2)
  have kK := key_any name
  rw [hk] at kK
  have hp' : ¬ pos < 0 := by omega
  have hp2' : ¬ total < pos := by omega
  rw [hn] at kF
  clear hn
  have h8' : ((sb.length : Int) == 8) = true := by simp; omega
  have h8'' : (sb.length : Int) = 8 := by omega
  have HL : Hid (sb.length = 8) := h8
  clear h8
  generalize hasAt name sb = hq at *
  generalize cutAt name sb = at_ at *
  clear hd hM hs ht
  go_enter Try.func18, Try.ntmps18
  go_wp2_with (first
    | (go_at_call 13; refine (kC _ (by repeat (first | with_reducible exact Adds.refl _ | with_reducible refine Adds.alloc ?_ _ | with_reducible refine Adds.more ?_ _ _ | with_reducible refine Adds.drew ?_ | with_reducible refine Adds.drewN ?_ _))).mono ?_; rintro e w1 ⟨rfl, os1, n1, rfl⟩)
    | (go_at_call 31; refine (kO _ (by repeat (first | with_reducible exact Adds.refl _ | with_reducible refine Adds.alloc ?_ _ | with_reducible refine Adds.more ?_ _ _ | with_reducible refine Adds.drew ?_ | with_reducible refine Adds.drewN ?_ _))).mono ?_; rintro e w2 ⟨⟨v2, c2, u2, d2, rs, rfl, H2⟩, os2, n2, rfl⟩)
    | (go_at_call 40; refine (kF _ _ (OwnS.far H2.out.2.2 (by repeat (first | with_reducible exact Far.refl _ _ | with_reducible refine Far.mores ?_ (by simp [go_sem]) _ _ _ | with_reducible refine Far.allocs ?_ (by simp [go_sem]) _ | with_reducible refine Far.low ?_ (by simp [go_sem]) (by simp [go_sem] <;> omega) _ _ | with_reducible refine Far.more ?_ _ _ | with_reducible refine Far.alloc ?_ _)) (Nat.le_refl _)).lst).mono ?_; rintro e w3 ⟨rfl, os3, n3, rfl⟩)
    | (go_at_call 41; refine (kK _).mono ?_; rintro e w4 ⟨rfl, hw⟩; subst w4))
  refine bodyPost_ret (v := .tuple #[.agg #[.int .i64 base, .int .i64 total, .slice v2 ch.length c2, .slice u2 sb.length d2], .int .i64 2]) (by simp [results, Try.results18, go_sem]) rfl ⟨⟨v2, c2, u2, d2, rfl, ?_⟩, (by repeat (first | with_reducible exact Adds.refl _ | with_reducible refine Adds.alloc ?_ _ | with_reducible refine Adds.more ?_ _ _ | with_reducible refine Adds.drew ?_ | with_reducible refine Adds.drewN ?_ _))⟩
  exact lstG_far H2.out.1 H2.out.2.1 H2.out.2.2 (by repeat (first | with_reducible exact Far.refl _ _ | with_reducible refine Far.mores ?_ (by simp [go_sem]) _ _ _ | with_reducible refine Far.allocs ?_ (by simp [go_sem]) _ | with_reducible refine Far.low ?_ (by simp [go_sem]) (by simp [go_sem] <;> omega) _ _ | with_reducible refine Far.more ?_ _ _ | with_reducible refine Far.alloc ?_ _))

set_option maxHeartbeats 4000000 in
set_option maxRecDepth 20000 in
theorem open_old (v : Value) (f : Fd) (name : ByteArray) (pos : Int) (w : World) (h : LstF w v f) (hM : MayF f) (hc : f.ch.length ≤ 1000) (hd : ∀ d ∈ f.ch, d.doc.length ≤ 1000) (hk : isKey name = true) (hp : 0 ≤ pos) (hp2 : pos ≤ f.total) (hn : hasAt name f.sb = false) (h8 : f.sb.length < 8) (ho : pos < f.base) :
    Calls Try.prog 18 #[v, .string name, .int .i64 pos] w fun e w' => (∃ vo vc uo uc, e = .returned (.tuple #[.agg #[.int .i64 f.base, .int .i64 f.total, .slice vo f.ch.length vc, .slice uo f.sb.length uc], .int .i64 8]) ∧ Hid (LstH w' (.slice vo f.ch.length vc) f.ch ∧ LstS w' (.slice uo f.sb.length uc) f.sb)) ∧ Adds w w' := by
  have kC := fun w' (hA : Adds w w') => checkF_any v f w' (h.adds hA) hc
  rw [err_ok hM] at kC
  obtain ⟨s, t, rfl, hs, ht⟩ := h
  obtain ⟨base, total, ch, sb⟩ := f
  simp only at *
  have hs6 : sb.length ≤ 1000 := Nat.le_trans hM.2.2.2.2.2.1 (by omega)
  have kO := fun w' (hA : Adds w w') => copyOf_row base total s t ch sb w' (hs.adds hA) (ht.adds hA) hc hd hs6
  have kF := fun u w' (hu : LstS w' u sb) => find_any u sb name w' hu hs6 (subsc_climbs hM.2.2.2.2.2)
  have kK := key_any name
  rw [hk] at kK
  have hp' : ¬ pos < 0 := by omega
  have hp2' : ¬ total < pos := by omega
  rw [hn] at kF
  clear hn
  have h8' : ((sb.length : Int) == 8) = false := by simp; omega
  have h8'' : ¬ (sb.length : Int) = 8 := by omega
  generalize hasAt name sb = hq at *
  generalize cutAt name sb = at_ at *
  clear hd hM hs ht
  go_enter Try.func18, Try.ntmps18
  go_wp2_with (first
    | (go_at_call 13; refine (kC _ (by repeat (first | with_reducible exact Adds.refl _ | with_reducible refine Adds.alloc ?_ _ | with_reducible refine Adds.more ?_ _ _ | with_reducible refine Adds.drew ?_ | with_reducible refine Adds.drewN ?_ _))).mono ?_; rintro e w1 ⟨rfl, os1, n1, rfl⟩)
    | (go_at_call 31; refine (kO _ (by repeat (first | with_reducible exact Adds.refl _ | with_reducible refine Adds.alloc ?_ _ | with_reducible refine Adds.more ?_ _ _ | with_reducible refine Adds.drew ?_ | with_reducible refine Adds.drewN ?_ _))).mono ?_; rintro e w2 ⟨⟨v2, c2, u2, d2, rs, rfl, H2⟩, os2, n2, rfl⟩)
    | (go_at_call 40; refine (kF _ _ (OwnS.far H2.out.2.2 (by repeat (first | with_reducible exact Far.refl _ _ | with_reducible refine Far.mores ?_ (by simp [go_sem]) _ _ _ | with_reducible refine Far.allocs ?_ (by simp [go_sem]) _ | with_reducible refine Far.low ?_ (by simp [go_sem]) (by simp [go_sem] <;> omega) _ _ | with_reducible refine Far.more ?_ _ _ | with_reducible refine Far.alloc ?_ _)) (Nat.le_refl _)).lst).mono ?_; rintro e w3 ⟨rfl, os3, n3, rfl⟩)
    | (go_at_call 41; refine (kK _).mono ?_; rintro e w4 ⟨rfl, hw⟩; subst w4))
  refine bodyPost_ret (v := .tuple #[.agg #[.int .i64 base, .int .i64 total, .slice v2 ch.length c2, .slice u2 sb.length d2], .int .i64 8]) (by simp [results, Try.results18, go_sem]) rfl ⟨⟨v2, c2, u2, d2, rfl, ?_⟩, (by repeat (first | with_reducible exact Adds.refl _ | with_reducible refine Adds.alloc ?_ _ | with_reducible refine Adds.more ?_ _ _ | with_reducible refine Adds.drew ?_ | with_reducible refine Adds.drewN ?_ _))⟩
  exact lstG_far H2.out.1 H2.out.2.1 H2.out.2.2 (by repeat (first | with_reducible exact Far.refl _ _ | with_reducible refine Far.mores ?_ (by simp [go_sem]) _ _ _ | with_reducible refine Far.allocs ?_ (by simp [go_sem]) _ | with_reducible refine Far.low ?_ (by simp [go_sem]) (by simp [go_sem] <;> omega) _ _ | with_reducible refine Far.more ?_ _ _ | with_reducible refine Far.alloc ?_ _))

end Go.Proofs.Ytpjhohmbifpogaa
