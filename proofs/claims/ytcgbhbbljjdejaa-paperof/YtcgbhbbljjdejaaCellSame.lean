/-
  The function Same of package cell, by a contract, where few lists are to be held against each other: it tells whether two trees are one.
-/
import Derived.Test.YtcgbhbbljjdejaaMatch
import Derived.Deep.LoopGhost
namespace Go.Proofs.Ytcgbhbbljjdejaa
open Go.RowKit
attribute [local go_sem] cell?_more frozen?_more setCell_more size_more tape_more drew_more drewN_more more_drew more_drewN one_out plus_out plus_end lt_one le_p2 le_p3 le_p4 le_p5 le_p6 le_p7 le_p8 le_p9 le_p10 le_p11 le_p12 le_p13 le_p14 le_p15 le_p16 le_p17 le_p18 le_p19 le_p20 le_p21 le_p22 le_p23 le_p24 le_q0 le_q1 lt_q1 le_q2 lt_q2 le_q3 lt_q3 le_q4 lt_q4 le_q5 lt_q5 le_q6 lt_q6 le_q7 lt_q7 le_q8 lt_q8 le_q9 lt_q9 le_q10 lt_q10 le_q11 lt_q11 le_q12 lt_q12 le_q13 lt_q13 le_q14 lt_q14 le_q15 lt_q15 le_q16 lt_q16 le_q17 lt_q17 le_q18 lt_q18 le_q19 lt_q19 le_q20 lt_q20 le_q21 lt_q21 le_q22 lt_q22 le_q23 lt_q23 le_q24 lt_q24

theorem Tr.low {ok : Nat → Prop} {d B : Nat} {w w' : World} {s : Value} {ts : List T} (h : Tr ok d w s ts) (hA : Adds w w') (hB : w.heap.size ≤ B) : Tr (· < B) d w' s ts := by
  induction d generalizing s ts with
  | zero => exact h
  | succ d ih =>
    obtain ⟨ao, cap, rfl, hc, h | ⟨b, off, rfl, hlt, hb, hx⟩⟩ := h
    · exact ⟨ao, cap, rfl, hc, .inl h⟩
    · refine ⟨_, cap, rfl, hc, .inr ⟨b, off, rfl, Nat.lt_of_lt_of_le hlt hA.below.size, Nat.lt_of_lt_of_le hlt hB, fun j hj => ?_⟩⟩
      obtain ⟨x, ⟨h0, h1, h2, h3⟩, h4, h5⟩ := hx j hj
      have hk : ∀ i, w'.cell? ⟨b, i, none⟩ = w.cell? ⟨b, i, none⟩ := fun i => World.cell?_of_block (w := w) (a := ⟨b, i, none⟩) (hA.below.block b hlt)
      exact ⟨x, ⟨by rw [hk]; exact h0, by rw [hk]; exact h1, by rw [hk]; exact h2, by rw [hk]; exact h3⟩, h4, ih h5⟩

/-- A list of one, in a block of its own. -/
theorem tr_one {d B : Nat} {w' : World} {a : T} {sa : Value} {k : Nat} (hk : k < w'.heap.size) (hkB : k < B) (ha : Tr (· < B) d w' sa a.list) (h1 : a.text.size ≤ 9223372036854775807)
    (hc : w'.cell? ⟨k, 0, none⟩ = some (.int .i64 a.kind) ∧ w'.cell? ⟨k, 1, none⟩ = some (.int .i64 a.num) ∧ w'.cell? ⟨k, 2, none⟩ = some (.string a.text) ∧ w'.cell? ⟨k, 3, none⟩ = some sa) :
    Tr (· < B) (d + 1) w' (.slice (some ⟨k, 0, none⟩) 1 1) [a] := by
  refine ⟨_, 1, rfl, Nat.le_refl _, .inr ⟨k, 0, rfl, hk, hkB, fun j hj => ?_⟩⟩
  have : j = 0 := by simpa using hj
  subst this
  exact ⟨sa, by simpa using hc, h1, ha⟩

theorem cntL_pos (d : Nat) (ts : List T) : 1 ≤ cntL d ts := by
  cases d <;> simp [cntL]

def sumI (its : List It) : Nat := (its.map (fun x => cntL x.da x.la)).sum

theorem sumI_append (l t : List It) : sumI (l ++ t) = sumI l + sumI t := by simp [sumI]

theorem len_sumI (its : List It) : its.length ≤ sumI its := by
  induction its with
  | nil => simp [sumI]
  | cons x r ih =>
    have := cntL_pos x.da x.la
    simp only [sumI, List.map_cons, List.sum_cons, List.length_cons] at *
    omega

/-- The stack without its last pair. -/
theorem St.pop {M B : Nat} {W0 W : World} {g cap : Nat} {n : Int} {its : List It} {it : It} (h : St M B W0 W (.slice (some ⟨g, 0, none⟩) (its ++ [it]).length cap) n (its ++ [it])) :
    St M B W0 (W.setCell ⟨M, 0, none⟩ (.slice (some ⟨g, 0, none⟩) its.length cap)) (.slice (some ⟨g, 0, none⟩) its.length cap) n its := by
  have hfar := h.far
  have ho : W.ownsRow B 82 2 (.slice (some ⟨g, 0, none⟩) its.length cap) its.length (cellsI its) := by
    refine ⟨cellsI_length its, ?_⟩
    rcases h.2.1.2 with ⟨h0, _⟩ | ⟨g', cap', cur, he, hb, hg, hnc, hcm, hcs, htk⟩
    · cases h0
    · simp only [Value.slice.injEq, Option.some.injEq, Addr.mk.injEq] at he
      obtain ⟨⟨rfl, _⟩, _, rfl⟩ := he
      refine .inr ⟨g, cap, cur, rfl, hb, hg, by simp at hnc; omega, hcm, hcs, ?_⟩
      have h2 : (cur.toList.take ((its ++ [it]).length * 2)).take (its.length * 2) = (cellsI (its ++ [it])).take (its.length * 2) := by rw [htk]
      rw [List.take_take, cellsI_append, ← cellsI_length its, List.take_left, cellsI_length] at h2
      rw [← h2]
      congr 1
      simp
  refine ⟨set_m0 h.1, ho.kept (grown_setCell rfl) (.inr (by simpa [Value.ownBlock] using hfar)), below_setCells h.2.2.1 h.2.2.2.1 [_] 0, h.2.2.2.1, ?_, fun i hi => h.2.2.2.2.2 i (List.mem_append_left _ hi)⟩
  have := h.2.2.2.2.1
  simpa using this

theorem St.top {M B : Nat} {W0 W : World} {v : Value} {n : Int} {its : List It} {it : It} (h : St M B W0 W v n (its ++ [it])) :
    ∃ g cap, v = .slice (some ⟨g, 0, none⟩) (its ++ [it]).length cap ∧ (its ++ [it]).length ≤ cap ∧ g < W.heap.size ∧ W.cell? ⟨g, its.length * 2, none⟩ = some it.sa ∧ W.cell? ⟨g, its.length * 2 + 1, none⟩ = some it.sb := by
  have hc := fun g => h.2.1.cells (g := g)
  have hlt := h.2.1.lt
  rcases h.2.1.2 with ⟨_, h0⟩ | ⟨g, cap, cur, rfl, hb, hg, hnc, hcm, hcs, htk⟩
  · simp at h0
  · have hl : (cellsI its).length = its.length * 2 := cellsI_length its
    refine ⟨g, cap, rfl, hnc, (hlt g rfl).2, ?_, ?_⟩
    · have := hc g rfl (its.length * 2) it.sa (by rw [cellsI_append, List.getElem?_append_right (by omega), hl]; simp [cellsI, It.cells])
      rwa [Addr.add_lit, Nat.zero_add] at this
    · have := hc g rfl (its.length * 2 + 1) it.sb (by rw [cellsI_append, List.getElem?_append_right (by omega), hl]; simp [cellsI, It.cells])
      rwa [Addr.add_lit, Nat.zero_add] at this

theorem below_two (w : World) (o o' : Obj) {B : Nat} (hB : B = w.heap.size) : Below B w ((w.alloc o).alloc o') := by
  subst hB
  exact (adds2 w o o').below

set_option maxHeartbeats 1500000 in
theorem same_tree {ok ok' : Nat → Prop} {d d' : Nat} (a b : T) (sa sb : Value) (w : World) (ha : Tr ok d w sa a.list) (hb : Tr ok' d' w sb b.list) (hsl : Slim (d + 1) (tList [a])) (h1 : a.text.size ≤ 9223372036854775807) (h2 : b.text.size ≤ 9223372036854775807) (hcnt : cntL (d + 1) [a] ≤ 4000) :
    Calls Try.prog 42 #[cellV a sa, cellV b sb] w fun e w' => ∃ q : Bool, e = .returned (.bool q) ∧ (q = true ↔ a = b) ∧ Adds w w' := by
  obtain ⟨ao, ca, rfl⟩ := ha.shape
  obtain ⟨bo, cb, rfl⟩ := hb.shape
  have hAb : Adds w ((((w.alloc (.cells #[.int .i64 a.kind, .int .i64 a.num, .string a.text, .slice ao a.list.length ca] 50)).alloc (.cells #[.int .i64 b.kind, .int .i64 b.num, .string b.text, .slice bo b.list.length cb] 50)).alloc (.cells #[.int .i64 a.kind, .int .i64 a.num, .string a.text, .slice ao a.list.length ca] 50)).alloc (.cells #[.int .i64 b.kind, .int .i64 b.num, .string b.text, .slice bo b.list.length cb] 50)) := by repeat (first | with_reducible exact Adds.refl _ | with_reducible refine Adds.alloc ?_ _ | with_reducible refine Adds.more ?_ _ _ | with_reducible refine Adds.drew ?_ | with_reducible refine Adds.drewN ?_ _)
  have hWs : ((((w.alloc (.cells #[.int .i64 a.kind, .int .i64 a.num, .string a.text, .slice ao a.list.length ca] 50)).alloc (.cells #[.int .i64 b.kind, .int .i64 b.num, .string b.text, .slice bo b.list.length cb] 50)).alloc (.cells #[.int .i64 a.kind, .int .i64 a.num, .string a.text, .slice ao a.list.length ca] 50)).alloc (.cells #[.int .i64 b.kind, .int .i64 b.num, .string b.text, .slice bo b.list.length cb] 50)).heap.size = w.heap.size + 4 := by simp
  have hta := tr_one (k := w.heap.size + 1 + 1) (by rw [hWs]; omega) (by omega) (ha.low hAb (B := w.heap.size + 4) (by omega)) h1 ⟨by simp [go_sem], by simp [go_sem], by simp [go_sem], by simp [go_sem]⟩
  have htb := tr_one (k := w.heap.size + 1 + 1 + 1) (by rw [hWs]; omega) (by omega) (hb.low hAb (B := w.heap.size + 4) (by omega)) h2 ⟨by simp [go_sem], by simp [go_sem], by simp [go_sem], by simp [go_sem]⟩
  have hit : It.Ok (w.heap.size + 4) _ ⟨.slice (some ⟨w.heap.size + 1 + 1, 0, none⟩) 1 1, .slice (some ⟨w.heap.size + 1 + 1 + 1, 0, none⟩) 1 1, [a], [b], d + 1, d' + 1⟩ := ⟨hta, htb, hsl⟩
  clear hta htb
  simp only [cellV]
  go_enter Try.func42, Try.ntmps42
  go_wp2
  generalize ((((w.alloc (.cells #[.int .i64 a.kind, .int .i64 a.num, .string a.text, .slice ao a.list.length ca] 50)).alloc (.cells #[.int .i64 b.kind, .int .i64 b.num, .string b.text, .slice bo b.list.length cb] 50)).alloc (.cells #[.int .i64 a.kind, .int .i64 a.num, .string a.text, .slice ao a.list.length ca] 50)).alloc (.cells #[.int .i64 b.kind, .int .i64 b.num, .string b.text, .slice bo b.list.length cb] 50)) = Wb at *
  go_loopg [4] (cntL (d + 1) [a]) (fun kx s4 wr => ∃ v n its, St (w.heap.size + 1 + 1 + 1 + 1 + 1) (w.heap.size + 4) Wb wr v n its ∧ 0 ≤ n ∧ n + (sumI its : Int) = (cntL (d + 1) [a] : Int) ∧ sumI its ≤ kx ∧ (a = b ↔ ∀ x ∈ its, x.la = x.lb))
  case atStart =>
    refine ⟨.slice (some ⟨w.heap.size + 1 + 1 + 1 + 1, 0, none⟩) 1 1, 0, [⟨.slice (some ⟨w.heap.size + 1 + 1, 0, none⟩) 1 1, .slice (some ⟨w.heap.size + 1 + 1 + 1, 0, none⟩) 1 1, [a], [b], d + 1, d' + 1⟩], ?_, Int.le_refl _, by simp [sumI], by simp [sumI], by simp⟩
    refine ⟨?_, ⟨rfl, .inr ⟨w.heap.size + 1 + 1 + 1 + 1, 1, #[.slice (some ⟨w.heap.size + 1 + 1, 0, none⟩) 1 1, .slice (some ⟨w.heap.size + 1 + 1 + 1, 0, none⟩) 1 1], rfl, by omega, ?_, Nat.le_refl _, by unfold maxLen; omega, rfl, rfl⟩⟩, ?_, by omega, ?_, ?_⟩
    · rw [show w.heap.size + 1 + 1 + 1 + 1 + 1 = (Wb.alloc (.cells #[.slice (some ⟨w.heap.size + 1 + 1, 0, none⟩) 1 1, .slice (some ⟨w.heap.size + 1 + 1 + 1, 0, none⟩) 1 1] 82)).heap.size from by rw [World.size_alloc, hWs]]
      exact new_block _ _
    · have hlt : w.heap.size + 1 + 1 + 1 + 1 < (Wb.alloc (.cells #[.slice (some ⟨w.heap.size + 1 + 1, 0, none⟩) 1 1, .slice (some ⟨w.heap.size + 1 + 1 + 1, 0, none⟩) 1 1] 82)).heap.size := by rw [World.size_alloc, hWs]; omega
      rw [Below.heap_alloc _ _ _ hlt, show w.heap.size + 1 + 1 + 1 + 1 = Wb.heap.size from hWs.symm]
      exact new_block _ _
    · exact below_two _ _ _ hWs.symm
    · rw [World.size_alloc, World.size_alloc, hWs]
      omega
    · intro i hi
      simp only [List.mem_singleton] at hi
      subst hi
      exact hit
  case round =>
    obtain ⟨v, n, its, hS, hn0, hnC, hkx, hiff⟩ := hrel
    rcases List.eq_nil_or_concat its with rfl | ⟨init, last, rfl⟩
    · obtain ⟨vo, vc, rfl⟩ : ∃ vo vc, v = .slice vo 0 vc := by
        rcases hS.2.1.2 with ⟨rfl, _⟩ | ⟨g, cap, cur, rfl, _⟩
        · exact ⟨_, _, rfl⟩
        · exact ⟨_, _, rfl⟩
      obtain ⟨m0, m1, m2, mf, hM⟩ := hS.cells
      have hab : a = b := hiff.2 (by simp)
      have HAB : Hid _ := hab
      have hbel := hS.2.2.1
      have hfin : Adds w wr := Adds.of (hAb.below.trans (hbel.mono (by omega)))
      clear hab hiff hS
      go_wp2
      go_ret
      first
        | exact ⟨true, rfl, ⟨fun _ => HAB.out, fun _ => rfl⟩, hfin⟩
        | exact .inr ⟨rfl, HAB.out, hfin⟩
    · simp only [List.concat_eq_append] at hS hnC hkx hiff
      obtain ⟨g, cap, rfl, hcap, hgl, t0, t1⟩ := hS.top
      obtain ⟨m0, m1, m2, mf, hM⟩ := hS.cells
      have mf0 := mf 0
      have hok := hS.2.2.2.2.2 last (by simp)
      have hpop := hS.pop
      have hbel := hS.2.2.1
      obtain ⟨xo, xc, hxs⟩ := hok.1.shape
      obtain ⟨yo, yc, hys⟩ := hok.2.1.shape
      have hsum := sumI_append init [last]
      have hl1 : sumI [last] = cntL last.da last.la := by simp [sumI]
      have hpos := cntL_pos last.da last.la
      have hlen := len_sumI init
      have kM := fun o => match_any _ _ Wb ((wr.setCell ⟨w.heap.size + 1 + 1 + 1 + 1 + 1, 0, none⟩ (.slice (some ⟨g, 0, none⟩) init.length cap)).alloc o) _ n init (hpop.adds ((Adds.refl _).alloc o)) last hok hn0 (by omega) (by omega)
      have hcap' : init.length ≤ cap := by simp at hcap; omega
      have hl2 : (init ++ [last]).length = init.length + 1 := by simp
      have HIF : Hid _ := hiff
      have HSU : Hid _ := hsum
      have HKX : Hid _ := hkx
      have HNC : Hid _ := hnC
      rw [hl2] at m0
      rw [hxs, hys] at kM
      rw [hxs] at t0
      rw [hys] at t1
      have hwi : wrap64 (init.length : Int) = (init.length : Int) := by unfold wrap64; omega
      have HL1 : Hid _ := hl1
      have HPO : Hid _ := hpos
      clear hiff hsum hkx hnC hS hpop hxs hys mf hcap hl2 hl1 hpos hlen hok hsl hcnt ha hb hit
      go_wp2_with (go_at_call 51; refine (kM _).mono ?_; rintro e w5 ⟨q5, rfl, hb5, hq5⟩)
      · have hfin : Adds w w5 := Adds.of (hAb.below.trans (hb5.mono (by omega)))
        rcases hq5 with ⟨rfl, hne⟩ | ⟨rfl, _⟩
        · have hab : ¬ a = b := fun h => hne (HIF.out.1 h last (by simp))
          go_ret
          first
            | exact ⟨false, rfl, ⟨fun h => (by cases h), fun h => absurd h hab⟩, hfin⟩
            | exact .inl ⟨rfl, hab, hfin⟩
        · rename_i h
          simp at h
      · rcases hq5 with ⟨rfl, _⟩ | ⟨rfl, v', pu, hst, hpu, hsm⟩
        · rename_i h
          simp at h
        · have e1 := HSU.out
          have e2 := HL1.out
          have e3 := HKX.out
          have e4 := HNC.out
          have e5 := sumI_append init pu
          have e6 : sumI pu + 1 = cntL last.da last.la := hsm
          go_roundg (sumI (init ++ pu))
          case measure => omega
          case rel =>
            refine ⟨v', n + 1, init ++ pu, hst, by omega, by omega, Nat.le_refl _, ?_⟩
            rw [HIF.out]
            constructor
            · intro h x hx
              rcases List.mem_append.1 hx with hx | hx
              · exact h x (List.mem_append_left _ hx)
              · exact hpu.1 (h last (by simp)) x hx
            · intro h x hx
              rcases List.mem_append.1 hx with hx | hx
              · exact h x (List.mem_append_left _ hx)
              · simp only [List.mem_singleton] at hx
                subst hx
                exact hpu.2 (fun z hz => h z (List.mem_append_right _ hz))

end Go.Proofs.Ytcgbhbbljjdejaa
