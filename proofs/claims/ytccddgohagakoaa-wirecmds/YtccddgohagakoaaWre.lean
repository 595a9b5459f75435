/-
  The functions record and Cmd of package wire, by contracts.
-/
import Derived.Test.YtccddgohagakoaaWrd
import Derived.Laws.EntriesVeiled
namespace Go.Proofs.Ytccddgohagakoaa
open Go.RowKit
attribute [local go_sem] cell?_more frozen?_more setCell_more size_more tape_more drew_more drewN_more more_drew more_drewN one_out plus_out plus_end lt_one le_p2 le_p3 le_p4 le_p5 le_p6 le_p7 le_p8 le_p9 le_p10 le_p11 le_p12 le_p13 le_p14 le_p15 le_p16 le_p17 le_p18 le_p19 le_p20 le_p21 le_p22 le_p23 le_p24 le_q0 le_q1 lt_q1 le_q2 lt_q2 le_q3 lt_q3 le_q4 lt_q4 le_q5 lt_q5 le_q6 lt_q6 le_q7 lt_q7 le_q8 lt_q8 le_q9 lt_q9 le_q10 lt_q10 le_q11 lt_q11 le_q12 lt_q12 le_q13 lt_q13 le_q14 lt_q14 le_q15 lt_q15 le_q16 lt_q16 le_q17 lt_q17 le_q18 lt_q18 le_q19 lt_q19 le_q20 lt_q20 le_q21 lt_q21 le_q22 lt_q22 le_q23 lt_q23 le_q24 lt_q24

theorem enc_app {l : List UInt8} {od : Bool} {w W w' : World} {e : Ending} (h : EncT l od W e w') (hA : Adds w W) : EncT l od w e w' := by
  unfold EncT at h ⊢
  cases od with
  | true =>
    simp only [if_true] at h ⊢
    exact ⟨h.1, hA.trans h.2⟩
  | false =>
    simp only [Bool.false_eq_true, if_false] at h ⊢
    obtain ⟨vo, vc, he, hO⟩ := h
    exact ⟨vo, vc, he, OwnV.back hO.out hA (size_of hA)⟩

theorem wb_new {X : World} {fv : Value} {room : Int} {P : Nat} (h : X.heap.size = P) : Wb P (X.alloc (.cells #[fv, .int .i64 room, .bool false] 50)) fv room false := by
  subst h
  exact new_block _ _

set_option maxRecDepth 20000 in
set_option maxHeartbeats 4000000 in
theorem record_any (c : Cm) (v : Value) (w : World) (hl : LstI w v c.ns) (h100 : c.ns.length ≤ 100) (hd : c.df.size ≤ 3000) :
    Calls Try.prog 9 #[c.val v, .func (.func 10) #[] #[]] w fun e w' => EncT (bytesT 3 (cmdT c)) (oddT 3 (cmdT c)) w e w' := by
  have hpl := cmdT_pl c hd
  have hsz := cmdT_size c h100
  have hln := cmdT_len c h100 hd
  have HL : Hid (LstI w v c.ns) := hl
  obtain ⟨ao, cap, rfl, hcap, hlo⟩ := hl.open
  have kW := fun (P : Nat) fv W (hW : Wb P W fv 16384 false) (hA : Adds w W) (hP : w.heap.size ≤ P) => wcmd_any P fv c (.slice ao c.ns.length cap) W hW (HL.out.adds hA) (fun b off n c' e => by
    rcases hlo with h | ⟨b2, off2, h2, hb2, _⟩
    · exact .inr h
    · left
      simp only [Value.slice.injEq] at e
      rw [h2] at e
      simp at e
      omega) h100 (by omega)
  have kE := fun s W (hT : Tr (fun b => b < W.heap.size) 2 W s (cmdT c).list) => encode_pl 2 (cmdT c) s W hT hpl (by omega) hsz (fun h => by have := hln h; show (bytesT 3 (cmdT c)).length ≤ 65536; omega)
  have hlenI : oddT 3 (cmdT c) = false → ¬ (16384 : Int) < ((bytesT 3 (cmdT c)).length : Int) := fun h => by have := hln h; omega
  clear hpl hsz hln hlo hl
  have hk : (cmdT c).kind = 3 ∧ (cmdT c).num = 0 ∧ (cmdT c).text = ⟨#[]⟩ := ⟨rfl, rfl, rfl⟩
  rw [hk.1, hk.2.1, hk.2.2] at kE
  clear hk
  generalize bytesT (2 + 1) (cmdT c) = l at *
  generalize oddT (2 + 1) (cmdT c) = od at *
  generalize (cmdT c).list = tl at *
  obtain ⟨kind, chain, epoch, node, df, ns⟩ := c
  simp only [Cm.val] at *
  cases od
  all_goals
    simp only [EncT, if_true, Bool.false_eq_true, if_false] at kE ⊢
    go_enter Try.func9, Try.ntmps9
    go_wp2_with fail
    go_at_call 10
    refine Calls.mono (kW (w.heap.size + 1) (.func (.func 16) #[] #[]) _ ?_ ?_ ?_) ?_
    · exact wb_new (by simp)
    · repeat (first | with_reducible exact Adds.refl _ | with_reducible refine Adds.alloc ?_ _ | with_reducible refine Adds.more ?_ _ _ | with_reducible refine Adds.drew ?_ | with_reducible refine Adds.drewN ?_ _)
    · omega
    rintro e w3 ⟨⟨ao3, n3, c3, rfl, hT3⟩, hW3, hg3⟩
    obtain ⟨hl3, _, _, d2, _, _⟩ := hW3.cells
    have hA3 : Adds w w3 := adds_out (grown_out (by repeat (first | with_reducible exact Adds.refl _ | with_reducible refine Adds.alloc ?_ _ | with_reducible refine Adds.more ?_ _ _ | with_reducible refine Adds.drew ?_ | with_reducible refine Adds.drewN ?_ _)) (by omega) hg3) (fun k h => by cases h)
    have HA3 : Hid (Adds w w3) := hA3
    have HT3 : Hid (Tr (fun b => b < w3.heap.size) 2 w3 (.slice ao3 n3 c3) tl) := (hT3.out.frame (ok' := fun _ => True) (Nat.le_refl _) (fun _ _ _ => rfl) (fun _ _ => trivial)).fresh
    clear hT3 hg3 hW3 hA3 kW
  · have hlI := hlenI trivial
    go_wp2_with (go_at_call 17; refine (kE _ _ (tr_lower HT3.out (by repeat (first | with_reducible exact Adds.refl _ | with_reducible refine Adds.alloc ?_ _ | with_reducible refine Adds.more ?_ _ _ | with_reducible refine Adds.drew ?_ | with_reducible refine Adds.drewN ?_ _)))).mono ?_; rintro e w4 ⟨vo, vc, rfl, hO⟩; have HO : Hid _ := hO; obtain ⟨os4, q4, rfl⟩ := Adds.of hO.out.2.1; clear hO)
    go_ret2
    exact ⟨vo, vc, rfl, OwnV.back HO.out (HA3.out.trans (by repeat (first | with_reducible exact Adds.refl _ | with_reducible refine Adds.alloc ?_ _ | with_reducible refine Adds.more ?_ _ _ | with_reducible refine Adds.drew ?_ | with_reducible refine Adds.drewN ?_ _))) (size_of (HA3.out.trans (by repeat (first | with_reducible exact Adds.refl _ | with_reducible refine Adds.alloc ?_ _ | with_reducible refine Adds.more ?_ _ _ | with_reducible refine Adds.drew ?_ | with_reducible refine Adds.drewN ?_ _))))⟩
  · go_wp2_with (go_at_call 17; refine (kE _ _ (tr_lower HT3.out (by repeat (first | with_reducible exact Adds.refl _ | with_reducible refine Adds.alloc ?_ _ | with_reducible refine Adds.more ?_ _ _ | with_reducible refine Adds.drew ?_ | with_reducible refine Adds.drewN ?_ _)))).mono ?_; rintro e w4 ⟨rfl, os4, q4, rfl⟩)
    go_ret2
    exact ⟨rfl, HA3.out.trans (by repeat (first | with_reducible exact Adds.refl _ | with_reducible refine Adds.alloc ?_ _ | with_reducible refine Adds.more ?_ _ _ | with_reducible refine Adds.drew ?_ | with_reducible refine Adds.drewN ?_ _))⟩

theorem wcmdB_any (c : Cm) (v : Value) (w : World) (hl : LstI w v c.ns) (h100 : c.ns.length ≤ 100) (hd : c.df.size ≤ 3000) :
    Calls Try.prog 5 #[c.val v] w fun e w' => EncT (bytesT 3 (cmdT c)) (oddT 3 (cmdT c)) w e w' := by
  have kR := fun W (hA : Adds w W) => record_any c v W (hl.adds hA) h100 hd
  obtain ⟨ao, cap, rfl, _, _⟩ := hl.open
  obtain ⟨kind, chain, epoch, node, df, ns⟩ := c
  simp only [Cm.val] at *
  generalize bytesT 3 (cmdT ⟨kind, chain, epoch, node, df, ns⟩) = l at *
  generalize oddT 3 (cmdT ⟨kind, chain, epoch, node, df, ns⟩) = od at *
  clear hl
  cases od
  all_goals simp only [EncT, if_true, Bool.false_eq_true, if_false] at kR ⊢
  · go_enter Try.func5, Try.ntmps5
    go_wp2_with (go_at_call 9; refine (kR _ (by repeat (first | with_reducible exact Adds.refl _ | with_reducible refine Adds.alloc ?_ _ | with_reducible refine Adds.more ?_ _ _ | with_reducible refine Adds.drew ?_ | with_reducible refine Adds.drewN ?_ _))).mono ?_; rintro e w4 ⟨vo, vc, rfl, hO⟩; have HO : Hid _ := hO; obtain ⟨os4, q4, rfl⟩ := Adds.of hO.out.2.1; clear hO)
    go_ret2
    exact ⟨vo, vc, rfl, OwnV.back HO.out (by repeat (first | with_reducible exact Adds.refl _ | with_reducible refine Adds.alloc ?_ _ | with_reducible refine Adds.more ?_ _ _ | with_reducible refine Adds.drew ?_ | with_reducible refine Adds.drewN ?_ _)) (size_of (by repeat (first | with_reducible exact Adds.refl _ | with_reducible refine Adds.alloc ?_ _ | with_reducible refine Adds.more ?_ _ _ | with_reducible refine Adds.drew ?_ | with_reducible refine Adds.drewN ?_ _)))⟩
  · go_enter Try.func5, Try.ntmps5
    go_wp2_with (go_at_call 9; refine (kR _ (by repeat (first | with_reducible exact Adds.refl _ | with_reducible refine Adds.alloc ?_ _ | with_reducible refine Adds.more ?_ _ _ | with_reducible refine Adds.drew ?_ | with_reducible refine Adds.drewN ?_ _))).mono ?_; rintro e w4 ⟨rfl, os4, q4, rfl⟩)
    go_ret2
    exact ⟨rfl, (by repeat (first | with_reducible exact Adds.refl _ | with_reducible refine Adds.alloc ?_ _ | with_reducible refine Adds.more ?_ _ _ | with_reducible refine Adds.drew ?_ | with_reducible refine Adds.drewN ?_ _))⟩

end Go.Proofs.Ytccddgohagakoaa
