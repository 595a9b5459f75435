/-
  What of package wire reads a list of numbers: listOf, by contract.
-/
import Derived.Test.YtccddgohagakoaaWrj
namespace Go.Proofs.Ytccddgohagakoaa
open Go.RowKit
attribute [local go_sem] cell?_more frozen?_more setCell_more size_more tape_more drew_more drewN_more more_drew more_drewN one_out plus_out plus_end lt_one le_p2 le_p3 le_p4 le_p5 le_p6 le_p7 le_p8 le_p9 le_p10 le_p11 le_p12 le_p13 le_p14 le_p15 le_p16 le_p17 le_p18 le_p19 le_p20 le_p21 le_p22 le_p23 le_p24 le_q0 le_q1 lt_q1 le_q2 lt_q2 le_q3 lt_q3 le_q4 lt_q4 le_q5 lt_q5 le_q6 lt_q6 le_q7 lt_q7 le_q8 lt_q8 le_q9 lt_q9 le_q10 lt_q10 le_q11 lt_q11 le_q12 lt_q12 le_q13 lt_q13 le_q14 lt_q14 le_q15 lt_q15 le_q16 lt_q16 le_q17 lt_q17 le_q18 lt_q18 le_q19 lt_q19 le_q20 lt_q20 le_q21 lt_q21 le_q22 lt_q22 le_q23 lt_q23 le_q24 lt_q24

theorem info_int : (Try.prog.info? 3).map (fun i => (i.zero, i.size, i.bytes)) = some (some (.int .i64 0), 1, 8) := by kernel_rfl

theorem intsV_append (a b : List Int) : intsV (a ++ b) = intsV a ++ intsV b := by simp [intsV]

theorem int_app {ops : Array Oper} {rest : List Oper} {o : Oper} {a : Act} {w : World} {Q : Exit → Act → World → Prop} (hgd : o.guard = none) (s x : Operand) (ho : o.op = .call { callee := .builtin .append, args := #[s, x], argTypes := #[22, 22] })
    {B : Nat} {v : Value} {l : List Int} {W0 : World} (h : OwnV B 3 v (intsV l) W0 w) (hs : a.eval s = v) (m : Int) {k c : Nat} (hx : a.eval x = .slice (some ⟨k, 0, none⟩) 1 c) (hc : w.cell? ⟨k, 0, none⟩ = some (.int .i64 m)) (hk0 : k < w.heap.size) (hcc : 1 ≤ c) (hlen : l.length ≤ 10000)
    (hk : ∀ a2 c2 w', OwnV B 3 (.slice a2 (l.length + 1) c2) (intsV (l ++ [m])) W0 w' → wpList Try.prog ops Q rest (a.put o.dst (.slice a2 (l.length + 1) c2)) w') : wpList Try.prog ops Q (o :: rest) a w := by
  have hg : LstV w (.slice (some ⟨k, 0, none⟩) 1 c) (intsV [m]) := ⟨some ⟨k, 0, none⟩, c, rfl, hcc, .inr ⟨k, 0, rfl, hk0, fun j hj => by
    have : j = 0 := by simp [intsV] at hj; omega
    subst this
    simpa [intsV] using hc⟩⟩
  obtain ⟨v', w', hr, h2, h3⟩ := ownV_append Try.underlying22 info_int rfl (by decide) w B o.type v (intsV l) W0 h _ (intsV [m]) hg (fun u hu => by
    simp [intsV] at hu
    rw [hu]
    rfl) (by rw [intsV_length, intsV_length]; simp; omega)
  rw [← intsV_append] at h2
  obtain ⟨a2, c2, rfl, _⟩ := h2.lst
  rw [intsV_length, List.length_append, List.length_singleton] at h2 hr
  exact Lib.wpList_append_run w hgd s x 22 22 ho v _ hs hx _ w' hr (hk a2 c2 w' h2)

theorem own_none {w wr : World} (h : Adds w wr) : OwnV w.heap.size 3 (.slice none 0 0) (intsV []) w wr := (OwnV.nil w.heap.size 3 w (Nat.le_refl _)).adds h

set_option maxRecDepth 20000 in
set_option maxHeartbeats 4000000 in
theorem listP_any (P : Nat) (fv : Value) (ns : List Int) (s : Value) (ok : Nat → Prop) (w : World) (h : Rb P w fv) (hT : Tr ok 1 w s (ns.map tNum)) (h100 : ns.length ≤ 100) :
    Calls Try.prog 33 #[.pointer (some ⟨P, 0, none⟩), .agg #[.int .i64 3, .int .i64 0, .string ⟨#[]⟩, s], .func (.func 31) #[] #[]] w fun e w' => (∃ a c, e = .returned (.slice a ns.length c) ∧ Hid (OwnV w.heap.size 3 (.slice a ns.length c) (intsV ns) w w')) ∧ Adds w w' := by
  have kM := fun W (hA : Adds w W) => rmust_any P fv W (h.adds hA)
  have kN := fun (n : Int) (x : ByteArray) (a : Option Addr) (sn sc : Nat) W (hA : Adds w W) => rnumP_any P fv n x a sn sc W (h.adds hA)
  obtain ⟨so, cap, he, hcap, hlo⟩ := hT
  rw [List.length_map] at he hcap
  subst he
  clear h
  go_enter Try.func33, Try.ntmps33
  go_wp2_with (go_at_call 48; refine (kM _ (by repeat (first | with_reducible exact Adds.refl _ | with_reducible refine Adds.alloc ?_ _ | with_reducible refine Adds.more ?_ _ _ | with_reducible refine Adds.drew ?_ | with_reducible refine Adds.drewN ?_ _))).mono ?_; rintro e w2 ⟨rfl, rfl⟩)
  go_loopw [7, 18] (fun lv iv wr => ∃ k : Nat, k ≤ ns.length ∧ iv = .int .i64 k ∧ (∃ a c, lv = .slice a k c) ∧ Hid (OwnV w.heap.size 3 lv (intsV (ns.take k)) w wr)) (fun _ iv _ => ns.length - (intOf iv).toNat)
  case atStart => exact ⟨0, by omega, rfl, ⟨_, _, rfl⟩, own_none (by repeat (first | with_reducible exact Adds.refl _ | with_reducible refine Adds.alloc ?_ _ | with_reducible refine Adds.more ?_ _ _ | with_reducible refine Adds.drew ?_ | with_reducible refine Adds.drewN ?_ _))⟩
  case round =>
    obtain ⟨k, hk, rfl, ⟨oa, oc, rfl⟩, hO⟩ := hrel
    by_cases hlt : k < ns.length
    · have hltI : (k : Int) < (ns.length : Int) := by omega
      rcases hlo with hn | ⟨b, off, rfl, hb, _, hcl⟩
      · have : ns = [] := by simpa using hn
        rw [this] at hlt
        simp at hlt
      obtain ⟨y, ⟨c0, c1, c2, c3⟩, _, hTy⟩ := hcl k (by rw [List.length_map]; exact hlt)
      have e : (ns.map tNum)[k]'(by rw [List.length_map]; exact hlt) = tNum ns[k] := by simp
      rw [e] at c0 c1 c2 hTy
      have hB := hO.out.2.1
      have hAw : Adds w wr := Adds.of hB
      have c0' := (hB.cell (p := ⟨b, off + k * 4, none⟩) hb).trans c0
      have c1' := (hB.cell (p := ⟨b, off + k * 4 + 1, none⟩) hb).trans c1
      have c2' := (hB.cell (p := ⟨b, off + k * 4 + 2, none⟩) hb).trans c2
      have c3' := (hB.cell (p := ⟨b, off + k * 4 + 3, none⟩) hb).trans c3
      have hbs : b < wr.heap.size := Nat.lt_of_lt_of_le hb hB.size
      obtain ⟨_, yo, yc, rfl⟩ := hTy
      simp only [tNum, T.kind, T.num, T.text] at c0' c1' c2' c3'
      have HNX : Hid (ns.take (k + 1) = ns.take k ++ [ns[k]]) := List.take_succ_eq_append_getElem hlt
      have HKL : Hid ((ns.take k).length = k) := by show _ = _; simp; omega
      have HAW : Hid (Adds w wr) := hAw
      clear hcl hB hAw c0 c1 c2 c3 e
      generalize ns[k] = m at *
      go_wp2_with (first
        | (go_at_call 31; refine (kN _ _ _ _ _ _ (HAW.out.trans (by repeat (first | with_reducible exact Adds.refl _ | with_reducible refine Adds.alloc ?_ _ | with_reducible refine Adds.more ?_ _ _ | with_reducible refine Adds.drew ?_ | with_reducible refine Adds.drewN ?_ _)))).mono ?_; rintro e w3 ⟨rfl, os3, n3, rfl⟩)
        | (at_builtin; (refine int_app rfl (.tmp 22) (.tmp 27) rfl (OwnV.adds hO.out (by repeat (first | with_reducible exact Adds.refl _ | with_reducible refine Adds.alloc ?_ _ | with_reducible refine Adds.more ?_ _ _ | with_reducible refine Adds.drew ?_ | with_reducible refine Adds.drewN ?_ _))) rfl m rfl ?_ ?_ (Nat.le_refl _) (by have := HKL.out; omega) ?_; simp [go_sem]; simp [go_sem]; intro a4 c4 w4 h4; rw [← HNX.out, HKL.out] at h4; rw [HKL.out]; have H4 : Hid (OwnV w.heap.size 3 (.slice a4 (k + 1) c4) (intsV (ns.take (k + 1))) w w4) := h4; clear h4)))
      go_roundw
      case rel => exact ⟨k + 1, by omega, by go_num, ⟨_, _, rfl⟩, (OwnV.adds H4.out (by repeat (first | with_reducible exact Adds.refl _ | with_reducible refine Adds.alloc ?_ _ | with_reducible refine Adds.more ?_ _ _ | with_reducible refine Adds.drew ?_ | with_reducible refine Adds.drewN ?_ _)))⟩
      case measure => simp [intOf]; omega
    · have hkI : ¬ (k : Int) < (ns.length : Int) := by omega
      have hkn : k = ns.length := by omega
      subst hkn
      have HE : Hid (OwnV w.heap.size 3 (.slice oa ns.length oc) (intsV ns) w wr) := by
        have := hO.out
        rw [List.take_of_length_le (Nat.le_refl _)] at this
        exact this
      clear hO
      go_wp2
      go_ret
      exact ⟨⟨_, _, rfl, HE.out⟩, Adds.of HE.out.2.1⟩

end Go.Proofs.Ytccddgohagakoaa
