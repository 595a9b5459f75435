/-
  The function Same of package expr, by contract, of two expressions that read alike.
-/
import Derived.Test.YtdlkpkldlljhcaaDoorPsb
import Derived.Deep.LoopGhost
namespace Go.Proofs.YtdlkpkldlljhcaaDoor
open Go.RowKit
attribute [local go_sem] cell?_more frozen?_more setCell_more size_more tape_more drew_more drewN_more more_drew more_drewN one_out plus_out plus_end lt_one le_p2 le_p3 le_p4 le_p5 le_p6 le_p7 le_p8 le_p9 le_p10 le_p11 le_p12 le_p13 le_p14 le_p15 le_p16 le_p17 le_p18 le_p19 le_p20 le_p21 le_p22 le_p23 le_p24 le_q0 le_q1 lt_q1 le_q2 lt_q2 le_q3 lt_q3 le_q4 lt_q4 le_q5 lt_q5 le_q6 lt_q6 le_q7 lt_q7 le_q8 lt_q8 le_q9 lt_q9 le_q10 lt_q10 le_q11 lt_q11 le_q12 lt_q12 le_q13 lt_q13 le_q14 lt_q14 le_q15 lt_q15 le_q16 lt_q16 le_q17 lt_q17 le_q18 lt_q18 le_q19 lt_q19 le_q20 lt_q20 le_q21 lt_q21 le_q22 lt_q22 le_q23 lt_q23 le_q24 lt_q24

theorem Tn.low {d B : Nat} {w w' : World} {s : Value} {ts : List N} (h : Tn (fun _ => True) d w s ts) (hA : Adds w w') (hB : w.heap.size ≤ B) : Tn (· < B) d w' s ts :=
  h.frame hA.below.size (fun b _ hlt => ⟨hA.below.block b hlt, Nat.lt_of_lt_of_le hlt hB⟩)

theorem tn_alone {d B : Nat} {w' : World} {a : N} {sa : Value} {k : Nat} (hk : k < w'.heap.size) (hkB : k < B) (ha : Tn (· < B) d w' sa a.args) (h1 : a.text.size ≤ 9223372036854775807) (hf : w'.frozen? ⟨k, 0, none⟩ = false)
    (hc : w'.cell? ⟨k, 0, none⟩ = some (.int .i64 a.kind) ∧ w'.cell? ⟨k, 1, none⟩ = some (.string a.text) ∧ w'.cell? ⟨k, 2, none⟩ = some (.int .i64 a.num) ∧ w'.cell? ⟨k, 3, none⟩ = some sa) :
    Tn (· < B) (d + 1) w' (.slice (some ⟨k, 0, none⟩) 1 1) [a] := by
  refine ⟨_, 1, rfl, Nat.le_refl _, .inr ⟨k, 0, rfl, hk, hkB, ⟨hf, fun h => absurd (show 0 < B by omega) h⟩, fun j hj => ?_⟩⟩
  have : j = 0 := by simpa using hj
  subst this
  exact ⟨sa, by simpa using hc, h1, ha⟩

theorem new_blk (w : World) (o : Obj) : (w.alloc o).heap[w.heap.size]? = some o := by
  show (w.heap.push o)[w.heap.size]? = _
  simp

theorem len_sumI {B : Nat} {W0 : World} (its : List It) (h : ∀ i ∈ its, i.Ok B W0) : its.length ≤ sumI its := by
  induction its with
  | nil => simp [sumI]
  | cons x r ih =>
    have h1 := cntN_len x.d x.ts
    have h2 : 0 < x.ts.length := List.length_pos_iff.2 (h x (by simp)).2.2
    have h3 := ih (fun i hi => h i (by simp [hi]))
    simp only [sumI, List.map_cons, List.sum_cons, List.length_cons] at *
    omega

set_option maxHeartbeats 4000000 in
set_option maxRecDepth 20000 in
theorem same_any {d : Nat} (a : N) (sa sb : Value) (w : World) (ha : Tn (fun _ => True) d w sa a.args) (hb : Tn (fun _ => True) d w sb a.args) (h1 : a.text.size ≤ 9223372036854775807) (hcnt : cntN (d + 1) [a] ≤ 256) :
    Calls Tryd.prog 13 #[nodeV a sa, nodeV a sb] w fun e w' => e = .returned (.bool true) ∧ Adds w w' := by
  obtain ⟨ao, ca, rfl⟩ := ha.shape
  obtain ⟨bo, cb, rfl⟩ := hb.shape
  obtain ⟨Wb, hWb⟩ : ∃ Wb, Wb = (((w.alloc (.cells #[.int .i64 a.kind, .string a.text, .int .i64 a.num, .slice ao a.args.length ca] 24)).alloc (.cells #[.int .i64 a.kind, .string a.text, .int .i64 a.num, .slice bo a.args.length cb] 24)).alloc (.cells #[.int .i64 a.kind, .string a.text, .int .i64 a.num, .slice ao a.args.length ca] 24)).alloc (.cells #[.int .i64 a.kind, .string a.text, .int .i64 a.num, .slice bo a.args.length cb] 24) := ⟨_, rfl⟩
  have hAb : Adds w Wb := by rw [hWb]; exact (by repeat (first | with_reducible exact Adds.refl _ | with_reducible refine Adds.alloc ?_ _ | with_reducible refine Adds.more ?_ _ _ | with_reducible refine Adds.drew ?_ | with_reducible refine Adds.drewN ?_ _))
  have hWs : Wb.heap.size = w.heap.size + 4 := by rw [hWb]; simp
  have hta := tn_alone (k := w.heap.size + 1 + 1) (B := w.heap.size + 4) (w' := Wb) (by rw [hWs]; omega) (by omega) (ha.low hAb (by omega)) h1 (by rw [hWb]; simp [go_sem]) (by rw [hWb]; exact ⟨by simp [go_sem], by simp [go_sem], by simp [go_sem], by simp [go_sem]⟩)
  have htb := tn_alone (k := w.heap.size + 1 + 1 + 1) (B := w.heap.size + 4) (w' := Wb) (by rw [hWs]; omega) (by omega) (hb.low hAb (by omega)) h1 (by rw [hWb]; simp [go_sem]) (by rw [hWb]; exact ⟨by simp [go_sem], by simp [go_sem], by simp [go_sem], by simp [go_sem]⟩)
  have hit : It.Ok (w.heap.size + 4) Wb ⟨.slice (some ⟨w.heap.size + 1 + 1, 0, none⟩) 1 1, .slice (some ⟨w.heap.size + 1 + 1 + 1, 0, none⟩) 1 1, [a], d + 1⟩ := ⟨hta, htb, by simp⟩
  clear hta htb
  simp only [nodeV]
  go_enter Tryd.func13, Tryd.ntmps13
  go_wp2
  rw [← hWb]
  clear hWb
  go_loopg [4] (cntN (d + 1) [a]) (fun kx s4 wr => ∃ v n its, St (w.heap.size + 1 + 1 + 1 + 1 + 1) (w.heap.size + 4) Wb wr v n its ∧ 0 ≤ n ∧ n + (sumI its : Int) = (cntN (d + 1) [a] : Int) ∧ sumI its ≤ kx)
  case atStart =>
    refine ⟨.slice (some ⟨w.heap.size + 1 + 1 + 1 + 1, 0, none⟩) 1 1, 0, [⟨.slice (some ⟨w.heap.size + 1 + 1, 0, none⟩) 1 1, .slice (some ⟨w.heap.size + 1 + 1 + 1, 0, none⟩) 1 1, [a], d + 1⟩], ?_, Int.le_refl _, by simp [sumI], by simp [sumI]⟩
    refine ⟨?_, ⟨rfl, .inr ⟨w.heap.size + 1 + 1 + 1 + 1, 1, #[.slice (some ⟨w.heap.size + 1 + 1, 0, none⟩) 1 1, .slice (some ⟨w.heap.size + 1 + 1 + 1, 0, none⟩) 1 1], rfl, by omega, ?_, Nat.le_refl _, by unfold maxLen; omega, rfl, rfl⟩⟩, ?_, by omega, ?_, ?_⟩
    · rw [show w.heap.size + 1 + 1 + 1 + 1 + 1 = (Wb.alloc (.cells #[.slice (some ⟨w.heap.size + 1 + 1, 0, none⟩) 1 1, .slice (some ⟨w.heap.size + 1 + 1 + 1, 0, none⟩) 1 1] 52)).heap.size from by rw [World.size_alloc, hWs]]
      exact new_blk _ _
    · have hlt : w.heap.size + 1 + 1 + 1 + 1 < (Wb.alloc (.cells #[.slice (some ⟨w.heap.size + 1 + 1, 0, none⟩) 1 1, .slice (some ⟨w.heap.size + 1 + 1 + 1, 0, none⟩) 1 1] 52)).heap.size := by rw [World.size_alloc, hWs]; omega
      rw [Below.heap_alloc _ _ _ hlt, show w.heap.size + 1 + 1 + 1 + 1 = Wb.heap.size from hWs.symm]
      exact new_blk _ _
    · exact below_two _ _ _ hWs.symm
    · rw [World.size_alloc, World.size_alloc, hWs]
      omega
    · intro i hi
      simp only [List.mem_singleton] at hi
      subst hi
      exact hit
  case round =>
    obtain ⟨v, n, its, hS, hn0, hnC, hkx⟩ := hrel
    rcases List.eq_nil_or_concat its with rfl | ⟨init, last, rfl⟩
    · obtain ⟨vo, vc, rfl⟩ : ∃ vo vc, v = .slice vo 0 vc := by
        rcases hS.2.1.2 with ⟨rfl, _⟩ | ⟨g, cap, cur, rfl, _⟩
        · exact ⟨_, _, rfl⟩
        · exact ⟨_, _, rfl⟩
      obtain ⟨m0, m1, m2, mf, hM⟩ := hS.cells
      have hbel := hS.2.2.1
      have hfin : Adds w wr := Adds.of (hAb.below.trans (hbel.mono (by omega)))
      clear hS
      go_wp2
      go_ret
      exact ⟨rfl, hfin⟩
    · simp only [List.concat_eq_append] at hS hnC hkx
      obtain ⟨g, cap, rfl, hcap, hgl, t0, t1⟩ := hS.top
      obtain ⟨m0, m1, m2, mf, hM⟩ := hS.cells
      have mf0 := mf 0
      have hok := hS.2.2.2.2.2 last (by simp)
      have hpop := hS.pop
      have hbel := hS.2.2.1
      obtain ⟨xo, xc, hxs⟩ := hok.1.shape
      obtain ⟨yo, yc, hys⟩ := hok.2.1.shape
      have hsum := sumI_append init [last]
      have hl1 : sumI [last] = cntN last.d last.ts := by simp [sumI]
      have hpos : 0 < last.ts.length := List.length_pos_iff.2 hok.2.2
      have hcl := cntN_len last.d last.ts
      have hlen := len_sumI init (fun i hi => hS.2.2.2.2.2 i (List.mem_append_left _ hi))
      have kM := fun o => match_any _ _ Wb ((wr.setCell ⟨w.heap.size + 1 + 1 + 1 + 1 + 1, 0, none⟩ (.slice (some ⟨g, 0, none⟩) init.length cap)).alloc o) _ n init (hpop.adds ((Adds.refl _).alloc o)) last hok hn0 (by omega) (by omega)
      have hcap' : init.length ≤ cap := by simp at hcap; omega
      have hl2 : (init ++ [last]).length = init.length + 1 := by simp
      have HSU : Hid _ := hsum
      have HKX : Hid _ := hkx
      have HNC : Hid _ := hnC
      rw [hl2] at m0
      rw [hxs, hys] at kM
      rw [hxs] at t0
      rw [hys] at t1
      have hwi : wrap64 (init.length : Int) = (init.length : Int) := by unfold wrap64; omega
      have HL1 : Hid _ := hl1
      have HPO : Hid _ := hpos
      have HN0 : Hid _ := hn0
      clear hsum hkx hnC hS hpop hxs hys mf hcap hl2 hl1 hpos hlen hok hcnt ha hb hit hcl
      go_wp2_with (go_at_call 22; refine (kM _).mono ?_; rintro e w5 ⟨rfl, v5, pu, hst5, hsm⟩)
      have e1 := HSU.out
      have e2 := HL1.out
      have e3 := HKX.out
      have e4 := HNC.out
      have e5 := sumI_append init pu
      have e6 := HPO.out
      have e7 := HN0.out
      go_roundg (sumI (init ++ pu))
      case measure => omega
      case rel => exact ⟨v5, n + (last.ts.length : Int), init ++ pu, hst5, by omega, by omega, Nat.le_refl _⟩

end Go.Proofs.YtdlkpkldlljhcaaDoor
