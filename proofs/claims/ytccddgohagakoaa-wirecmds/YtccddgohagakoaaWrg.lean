/-
  The reference's cells of a list of numbers, by contract.
-/
import Derived.Test.YtccddgohagakoaaWrf
namespace Go.Proofs.Ytccddgohagakoaa
open Go.RowKit
attribute [local go_sem] cell?_more frozen?_more setCell_more size_more tape_more drew_more drewN_more more_drew more_drewN one_out plus_out plus_end lt_one le_p2 le_p3 le_p4 le_p5 le_p6 le_p7 le_p8 le_p9 le_p10 le_p11 le_p12 le_p13 le_p14 le_p15 le_p16 le_p17 le_p18 le_p19 le_p20 le_p21 le_p22 le_p23 le_p24 le_q0 le_q1 lt_q1 le_q2 lt_q2 le_q3 lt_q3 le_q4 lt_q4 le_q5 lt_q5 le_q6 lt_q6 le_q7 lt_q7 le_q8 lt_q8 le_q9 lt_q9 le_q10 lt_q10 le_q11 lt_q11 le_q12 lt_q12 le_q13 lt_q13 le_q14 lt_q14 le_q15 lt_q15 le_q16 lt_q16 le_q17 lt_q17 le_q18 lt_q18 le_q19 lt_q19 le_q20 lt_q20 le_q21 lt_q21 le_q22 lt_q22 le_q23 lt_q23 le_q24 lt_q24

theorem tr_nums {B : Nat} {v : Value} {ns : List Int} {W0 w : World} (h : OwnN B v ns W0 w) : Tr (fun b => B ≤ b) 1 w v (ns.map tNum) := by
  rcases h.1.2 with ⟨rfl, hn⟩ | ⟨g, cap, cur, rfl, hb, hg, hnc, hcm, hcs, htk⟩
  · obtain rfl : ns = [] := List.length_eq_zero_iff.1 hn
    exact Tr.nil _ _ _
  · refine ⟨_, cap, by simp, by simpa using hnc, .inr ⟨g, 0, rfl, (Array.getElem?_eq_some_iff.1 hg).1, hb, fun j hj => ?_⟩⟩
    have hj' : j < ns.length := by simpa using hj
    have hcell : ∀ r, r < 4 → w.cell? ⟨g, 0 + j * 4 + r, none⟩ = ([.int .i64 1, .int .i64 ns[j], .string ⟨#[]⟩, .slice none 0 0] : List Value)[r]? := fun r hr => by
      have h1 := cellsN_get ns j hj' r hr
      rw [← htk] at h1
      rw [List.getElem?_take_of_lt (by omega)] at h1
      simp only [World.cell?, hg]
      rw [← h1]
      simp
    have e : (ns.map tNum)[j] = tNum ns[j] := by simp
    rw [e]
    exact ⟨.slice none 0 0, ⟨by simpa [tNum, T.kind] using hcell 0 (by omega), by simpa [tNum, T.num] using hcell 1 (by omega), by simpa [tNum, T.text] using hcell 2 (by omega), by simpa using hcell 3 (by omega)⟩, Nat.zero_le _, Tr.nil _ _ _⟩

theorem nums_end {w wr F : World} {oa : Option Addr} {k oc : Nat} {ts : List T} (hB : Below (w.alloc cBox).heap.size (w.alloc cBox) wr) (hT : Tr (fun b => (w.alloc cBox).heap.size ≤ b) 1 wr (.slice oa k oc) ts)
    (hF : Adds (putC wr w.heap.size (tList []) (.slice oa k oc)) F) :
    (∃ ao n cap, Ending.returned (.agg #[.int .i64 3, .int .i64 0, .string ⟨#[]⟩, .slice oa k oc]) = .returned (.agg #[.int .i64 3, .int .i64 0, .string ⟨#[]⟩, .slice ao n cap]) ∧ Hid (Tr (fun b => w.heap.size ≤ b) 1 F (.slice ao n cap) ts)) ∧ Adds w F := by
  have hs : (w.alloc cBox).heap.size = w.heap.size + 1 := by simp
  have hO : Oth w.heap.size wr (putC wr w.heap.size (tList []) (.slice oa k oc)) := (((Oth.set _ _ _ _).trans (Oth.set _ _ _ _)).trans (Oth.set _ _ _ _)).trans (Oth.set _ _ _ _)
  have hw : w.grownBy wr none := by
    have hA : Adds w (w.alloc cBox) := (Adds.refl _).alloc _
    exact ⟨hB.os.trans hA.below.os, hB.tape.trans hA.below.tape, hB.output.trans hA.below.output, by have := hB.size; omega, fun j hj _ => (hB.block j (by omega)).trans (hA.below.block j hj)⟩
  refine ⟨⟨_, _, _, rfl, ?_⟩, adds_out (grownBy_adds (grown_set (grown_set (grown_set (grown_set hw (Nat.le_refl _)) (Nat.le_refl _)) (Nat.le_refl _)) (Nat.le_refl _)) hF) (fun k h => by cases h)⟩
  exact (hT.frame (ok' := fun b => w.heap.size ≤ b) (by rw [hO.1]; omega) (fun b hb _ => hO.2 b (by omega)) (fun b hb => by omega)).adds hF

theorem at_obj {X : World} {xs : Array Value} {T : TypeId} {g : Nat} (h : X.heap.size = g) : (X.alloc (.cells xs T)).heap[g]? = some (.cells xs T (0, 0)) := by
  subst h
  exact new_block _ _

theorem num_app {ops : Array Oper} {rest : List Oper} {o : Oper} {a : Act} {w : World} {Q : Exit → Act → World → Prop} (hgd : o.guard = none) (s x : Operand) (ho : o.op = .call { callee := .builtin .append, args := #[s, x], argTypes := #[41, 41] })
    {B : Nat} {v : Value} {ns : List Int} {W0 : World} (h : OwnN B v ns W0 w) (hs : a.eval s = v) (m : Int) {k c : Nat} (hx : a.eval x = .slice (some ⟨k, 0, none⟩) 1 c)
    (hc : w.cell? ⟨k, 0, none⟩ = some (.int .i64 1) ∧ w.cell? ⟨k, 1, none⟩ = some (.int .i64 m) ∧ w.cell? ⟨k, 2, none⟩ = some (.string ⟨#[]⟩) ∧ w.cell? ⟨k, 3, none⟩ = some (.slice none 0 0)) (hlen : ns.length ≤ 10000)
    (hk : ∀ a2 c2 w', OwnN B (.slice a2 (ns ++ [m]).length c2) (ns ++ [m]) W0 w' → wpList Try.prog ops Q rest (a.put o.dst (.slice a2 (ns ++ [m]).length c2)) w') : wpList Try.prog ops Q (o :: rest) a w := by
  obtain ⟨v', w', hr, h2⟩ := push_num w B o.type v ns W0 h m k c hc hlen
  obtain ⟨a2, c2, rfl⟩ := h2.shape
  exact Lib.wpList_append_run w hgd s x 41 41 ho v _ hs hx _ w' hr (hk a2 c2 w' h2)

theorem ownN_lit {W0 W : World} {k : Nat} (hA : Adds W0 W) (hk : W0.heap.size ≤ k) (h : W.heap[k]? = some (.cells #[] 43 (0, 0))) : OwnN W0.heap.size (.slice (some ⟨k, 0, none⟩) 0 0) [] W0 W :=
  ⟨⟨rfl, .inr ⟨k, 0, #[], rfl, hk, h, Nat.le_refl _, by unfold maxLen; omega, rfl, rfl⟩⟩, hA.below, hA.below.size⟩

set_option maxRecDepth 20000 in
set_option maxHeartbeats 4000000 in
theorem rnums_any (v : Value) (ns : List Int) (w : World) (hl : LstI w v ns) (h100 : ns.length ≤ 100) :
    Calls Try.prog 27 #[v] w fun e w' => (∃ ao n cap, e = .returned (.agg #[.int .i64 3, .int .i64 0, .string ⟨#[]⟩, .slice ao n cap]) ∧ Hid (Tr (fun b => w.heap.size ≤ b) 1 w' (.slice ao n cap) (ns.map tNum))) ∧ Adds w w' := by
  obtain ⟨ao, cap, rfl, hcap, hlo⟩ := hl.open
  have kN := fun (m : Int) W => rnum_any m W
  have kC := fun a n c W => rlist_c a n c W
  clear hl
  go_enter Try.func27, Try.ntmps27
  go_wp2
  go_loopw [3, 4] (fun ov iv wr => ∃ k : Nat, k ≤ ns.length ∧ iv = .int .i64 k ∧ (∃ a c, ov = .slice a k c) ∧ Hid (OwnN (w.alloc cBox).heap.size ov (ns.take k) (w.alloc cBox) wr)) (fun _ iv _ => ns.length - (intOf iv).toNat)
  case atStart => exact ⟨0, by omega, rfl, ⟨_, _, rfl⟩, ownN_lit (by repeat (first | with_reducible exact Adds.refl _ | with_reducible refine Adds.alloc ?_ _ | with_reducible refine Adds.more ?_ _ _ | with_reducible refine Adds.drew ?_ | with_reducible refine Adds.drewN ?_ _)) (by simp) (at_obj (by simp))⟩
  case round =>
    obtain ⟨k, hk, rfl, ⟨oa, oc, rfl⟩, hO⟩ := hrel
    have hB := hO.out.2.1
    have hbox : wr.heap[w.heap.size]? = some cBox := (hB.block w.heap.size (by simp)).trans (at_rb rfl)
    by_cases hlt : k < ns.length
    · have hltI : (k : Int) < (ns.length : Int) := by omega
      rcases hlo with rfl | ⟨b, off, rfl, hb, hcl⟩
      · simp at hlt
      have c0 : wr.cell? ⟨b, off + k, none⟩ = some (.int .i64 ns[k]) := (hB.cell (p := ⟨b, off + k, none⟩) (by simp; omega)).trans ((by simp [go_sem, hb] : (w.alloc cBox).cell? ⟨b, off + k, none⟩ = w.cell? ⟨b, off + k, none⟩).trans (hcl k hlt))
      have hbs : b < wr.heap.size := by have := hB.size; simp at this; omega
      have hkl : (ns.take k).length = k := by simp; omega
      have HNX : Hid (ns.take (k + 1) = ns.take k ++ [ns[k]]) := List.take_succ_eq_append_getElem hlt
      have HKL : Hid ((ns.take k).length = k) := hkl
      clear hcl hB hbox hkl
      generalize ns[k] = m at *
      go_wp2_with (first
        | (go_at_call 25; refine (kN _ _).mono ?_; rintro e w3 ⟨rfl, os3, n3, rfl⟩)
        | (at_builtin; refine num_app rfl (.tmp 12) (.tmp 18) rfl (OwnN.adds hO.out (by repeat (first | with_reducible exact Adds.refl _ | with_reducible refine Adds.alloc ?_ _ | with_reducible refine Adds.more ?_ _ _ | with_reducible refine Adds.drew ?_ | with_reducible refine Adds.drewN ?_ _))) rfl m rfl ⟨by simp [go_sem], by simp [go_sem], by simp [go_sem], by simp [go_sem]⟩ (by have := HKL.out; omega) ?_; intro a4 c4 w4 h4; rw [show (ns.take k ++ [m]).length = k + 1 by simp; omega] at h4 ⊢; rw [← HNX.out] at h4; have H4 : Hid (OwnN (w.alloc cBox).heap.size (.slice a4 (k + 1) c4) (ns.take (k + 1)) (w.alloc cBox) w4) := h4; clear h4))
      go_roundw
      case rel => exact ⟨k + 1, by omega, by go_num, ⟨_, _, rfl⟩, H4.out⟩
      case measure => simp [intOf]; omega
    · obtain rfl : k = ns.length := by omega
      have hkI : ¬ (ns.length : Int) < (ns.length : Int) := by omega
      have HT : Hid (Tr (fun b => (w.alloc cBox).heap.size ≤ b) 1 wr (.slice oa ns.length oc) (ns.map tNum)) := by
        have h1 := hO.out
        rw [List.take_of_length_le (by omega)] at h1
        exact tr_nums h1
      have HBl : Hid (Below (w.alloc cBox).heap.size (w.alloc cBox) wr) := hB
      have hl0 : w.heap.size < wr.heap.size := (Array.getElem?_eq_some_iff.1 hbox).1
      have y0 : wr.cell? ⟨w.heap.size, 0, none⟩ = some (.int .i64 0) := by simp [World.cell?, hbox]
      have y1 : wr.cell? ⟨w.heap.size, 1, none⟩ = some (.int .i64 0) := by simp [World.cell?, hbox]
      have y2 : wr.cell? ⟨w.heap.size, 2, none⟩ = some (.string ⟨#[]⟩) := by simp [World.cell?, hbox]
      have y3 : wr.cell? ⟨w.heap.size, 3, none⟩ = some (.slice none 0 0) := by simp [World.cell?, hbox]
      have z0 : wr.frozen? ⟨w.heap.size, 0, none⟩ = false := by simp [World.frozen?, hbox]
      have z1 : wr.frozen? ⟨w.heap.size, 1, none⟩ = false := by simp [World.frozen?, hbox]
      have z2 : wr.frozen? ⟨w.heap.size, 2, none⟩ = false := by simp [World.frozen?, hbox]
      have z3 : wr.frozen? ⟨w.heap.size, 3, none⟩ = false := by simp [World.frozen?, hbox]
      clear hB hbox hlo hO
      go_wp2_with (go_at_call 24; refine (kC _ _ _ _).mono ?_; rintro e w4 ⟨rfl, os4, n4, rfl⟩)
      refine bodyPost_ret (v := .agg #[.int .i64 3, .int .i64 0, .string ⟨#[]⟩, .slice oa ns.length oc]) (by simp [results, Try.results27, go_sem, hl0, y0, y1, y2, y3]) rfl ?_
      exact nums_end HBl.out HT.out ⟨os4, n4, rfl⟩

end Go.Proofs.Ytccddgohagakoaa
