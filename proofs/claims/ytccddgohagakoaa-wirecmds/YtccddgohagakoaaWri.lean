/-
  The reference's bytes of a command, by contracts: bytes, Cmd.
-/
import Derived.Test.YtccddgohagakoaaWrh
namespace Go.Proofs.Ytccddgohagakoaa
open Go.RowKit
attribute [local go_sem] cell?_more frozen?_more setCell_more size_more tape_more drew_more drewN_more more_drew more_drewN one_out plus_out plus_end lt_one le_p2 le_p3 le_p4 le_p5 le_p6 le_p7 le_p8 le_p9 le_p10 le_p11 le_p12 le_p13 le_p14 le_p15 le_p16 le_p17 le_p18 le_p19 le_p20 le_p21 le_p22 le_p23 le_p24 le_q0 le_q1 lt_q1 le_q2 lt_q2 le_q3 lt_q3 le_q4 lt_q4 le_q5 lt_q5 le_q6 lt_q6 le_q7 lt_q7 le_q8 lt_q8 le_q9 lt_q9 le_q10 lt_q10 le_q11 lt_q11 le_q12 lt_q12 le_q13 lt_q13 le_q14 lt_q14 le_q15 lt_q15 le_q16 lt_q16 le_q17 lt_q17 le_q18 lt_q18 le_q19 lt_q19 le_q20 lt_q20 le_q21 lt_q21 le_q22 lt_q22 le_q23 lt_q23 le_q24 lt_q24

/-- What the reference tells of a command's bytes. -/
def RefT (l : List UInt8) (od : Bool) (w : World) (e : Ending) (w' : World) : Prop :=
  if od then e = .returned (.tuple #[.slice none 0 0, .bool false]) ∧ Adds w w'
  else ∃ vo vc, e = .returned (.tuple #[.slice vo l.length vc, .bool true]) ∧ Hid (OwnV w.heap.size 5 (.slice vo l.length vc) (cellsB l) w w')

theorem rbytes_new (d : Nat) (t : T) (s : Value) (w : World) (h : Tr (fun b => b < w.heap.size) d w s t.list) (hk : okT (d + 1) t) (hl : (bytesT (d + 1) t).length ≤ 65536) :
    Calls Try.prog 23 #[.agg #[.int .i64 t.kind, .int .i64 t.num, .string t.text, s]] w fun e w' => ∃ vo vc, e = .returned (.slice vo (bytesT (d + 1) t).length vc) ∧ Hid (OwnV w.heap.size 5 (.slice vo (bytesT (d + 1) t).length vc) (cellsB (bytesT (d + 1) t)) w w') :=
  (rbytes_ok d t s w h hk hl).mono (by
    rintro e w' ⟨v, rfl, hO⟩
    obtain ⟨vo, vc, rfl, _, _⟩ := Byt.open hO.lst
    exact ⟨vo, vc, rfl, hO⟩)

set_option maxRecDepth 20000 in
set_option maxHeartbeats 4000000 in
theorem rbytesC_any (c : Cm) (s : Value) (w : World) (h : Tr (fun b => b < w.heap.size) 2 w s (cmdT c).list) (h100 : c.ns.length ≤ 100) (hd : c.df.size ≤ 3000) :
    Calls Try.prog 11 #[.agg #[.int .i64 3, .int .i64 0, .string ⟨#[]⟩, s]] w fun e w' => RefT (bytesT 3 (cmdT c)) (oddT 3 (cmdT c)) w e w' := by
  have hpl := cmdT_pl c hd
  have hsz := cmdT_size c h100
  have hln := cmdT_len c h100 hd
  have kC := fun W (hA : Adds w W) => rcheck_any 2 (cmdT c) s _ W (h.adds hA) hpl (by omega) hsz
  have kB := fun (ho : oddT 3 (cmdT c) = false) W (hA : Adds w W) => rbytes_new 2 (cmdT c) s W (tr_lower h hA) (okT_of 3 _ hpl ho) (by have := hln ho; show (bytesT 3 (cmdT c)).length ≤ 65536; omega)
  have hlI : oddT 3 (cmdT c) = false → ((bytesT 3 (cmdT c)).length : Int) ≤ 16384 := fun ho => by have := hln ho; omega
  obtain ⟨ao, cap, rfl⟩ := h.shape
  have hk : (cmdT c).kind = 3 ∧ (cmdT c).num = 0 ∧ (cmdT c).text = ⟨#[]⟩ := ⟨rfl, rfl, rfl⟩
  rw [hk.1, hk.2.1, hk.2.2] at kC kB
  clear hpl hsz hln h hk
  generalize bytesT (2 + 1) (cmdT c) = l at *
  generalize oddT (2 + 1) (cmdT c) = od at *
  generalize (cmdT c).list.length = tl at *
  cases od
  · have hl := hlI rfl
    have kB2 := kB rfl
    simp only [RefT, Bool.false_eq_true, if_false, codeO] at kC ⊢
    clear kB hlI
    go_enter Try.func11, Try.ntmps11
    go_wp2_with (first
      | (go_at_call 22; refine (kC _ (by repeat (first | with_reducible exact Adds.refl _ | with_reducible refine Adds.alloc ?_ _ | with_reducible refine Adds.more ?_ _ _ | with_reducible refine Adds.drew ?_ | with_reducible refine Adds.drewN ?_ _))).mono ?_; rintro e w2 ⟨rfl, os2, n2, rfl⟩)
      | (go_at_call 23; refine (kB2 _ (by repeat (first | with_reducible exact Adds.refl _ | with_reducible refine Adds.alloc ?_ _ | with_reducible refine Adds.more ?_ _ _ | with_reducible refine Adds.drew ?_ | with_reducible refine Adds.drewN ?_ _))).mono ?_; rintro e w3 ⟨vo, vc, rfl, hO⟩; have HO : Hid _ := hO; obtain ⟨os3, n3, rfl⟩ := Adds.of hO.out.2.1; clear hO))
    go_ret2
    exact ⟨vo, vc, by simp, OwnV.back HO.out (by repeat (first | with_reducible exact Adds.refl _ | with_reducible refine Adds.alloc ?_ _ | with_reducible refine Adds.more ?_ _ _ | with_reducible refine Adds.drew ?_ | with_reducible refine Adds.drewN ?_ _)) (size_of (by repeat (first | with_reducible exact Adds.refl _ | with_reducible refine Adds.alloc ?_ _ | with_reducible refine Adds.more ?_ _ _ | with_reducible refine Adds.drew ?_ | with_reducible refine Adds.drewN ?_ _)))⟩
  · simp only [RefT, if_true, codeO] at kC ⊢
    clear kB hlI
    go_enter Try.func11, Try.ntmps11
    go_wp2_with (go_at_call 22; refine (kC _ (by repeat (first | with_reducible exact Adds.refl _ | with_reducible refine Adds.alloc ?_ _ | with_reducible refine Adds.more ?_ _ _ | with_reducible refine Adds.drew ?_ | with_reducible refine Adds.drewN ?_ _))).mono ?_; rintro e w2 ⟨rfl, os2, n2, rfl⟩)
    go_ret2
    exact ⟨rfl, (by repeat (first | with_reducible exact Adds.refl _ | with_reducible refine Adds.alloc ?_ _ | with_reducible refine Adds.more ?_ _ _ | with_reducible refine Adds.drew ?_ | with_reducible refine Adds.drewN ?_ _))⟩

set_option maxRecDepth 20000 in
set_option maxHeartbeats 4000000 in
theorem rcmdB_any (c : Cm) (v : Value) (w : World) (hl : LstI w v c.ns) (h100 : c.ns.length ≤ 100) (hd : c.df.size ≤ 3000) :
    Calls Try.prog 6 #[c.val v] w fun e w' => RefT (bytesT 3 (cmdT c)) (oddT 3 (cmdT c)) w e w' := by
  have kC := fun W (hA : Adds w W) => rcmd_any c v W (hl.adds hA) h100 (by omega)
  have kB := fun s W (hT : Tr (fun b => b < W.heap.size) 2 W s (cmdT c).list) => rbytesC_any c s W hT h100 hd
  obtain ⟨ao, cap, rfl, _, _⟩ := hl.open
  obtain ⟨kind, chain, epoch, node, df, ns⟩ := c
  simp only [Cm.val] at *
  generalize bytesT 3 (cmdT ⟨kind, chain, epoch, node, df, ns⟩) = l at *
  generalize oddT 3 (cmdT ⟨kind, chain, epoch, node, df, ns⟩) = od at *
  generalize (cmdT ⟨kind, chain, epoch, node, df, ns⟩).list = tl at *
  clear hl
  cases od
  all_goals
    simp only [RefT, if_true, Bool.false_eq_true, if_false] at kB ⊢
    go_enter Try.func6, Try.ntmps6
  · go_wp2_with (first
      | (go_at_call 12; refine (kC _ (by repeat (first | with_reducible exact Adds.refl _ | with_reducible refine Adds.alloc ?_ _ | with_reducible refine Adds.more ?_ _ _ | with_reducible refine Adds.drew ?_ | with_reducible refine Adds.drewN ?_ _))).mono ?_; rintro e w2 ⟨⟨ao2, m2, c2, rfl, hT2⟩, hA2⟩; have HT2 : Hid (Tr (fun b => b < w2.heap.size) 2 w2 (.slice ao2 m2 c2) tl) := (hT2.out.frame (ok' := fun _ => True) (Nat.le_refl _) (fun _ _ _ => rfl) (fun _ _ => trivial)).fresh; obtain ⟨os2, n2, rfl⟩ := hA2; clear hT2)
      | (go_at_call 11; refine (kB _ _ (tr_lower HT2.out (by repeat (first | with_reducible exact Adds.refl _ | with_reducible refine Adds.alloc ?_ _ | with_reducible refine Adds.more ?_ _ _ | with_reducible refine Adds.drew ?_ | with_reducible refine Adds.drewN ?_ _)))).mono ?_; rintro e w3 ⟨vo, vc, rfl, hO⟩; have HO : Hid _ := hO; obtain ⟨os3, n3, rfl⟩ := Adds.of hO.out.2.1; clear hO))
    go_ret2
    exact ⟨vo, vc, rfl, OwnV.back HO.out (by repeat (first | with_reducible exact Adds.refl _ | with_reducible refine Adds.alloc ?_ _ | with_reducible refine Adds.more ?_ _ _ | with_reducible refine Adds.drew ?_ | with_reducible refine Adds.drewN ?_ _)) (size_of (by repeat (first | with_reducible exact Adds.refl _ | with_reducible refine Adds.alloc ?_ _ | with_reducible refine Adds.more ?_ _ _ | with_reducible refine Adds.drew ?_ | with_reducible refine Adds.drewN ?_ _)))⟩
  · go_wp2_with (first
      | (go_at_call 12; refine (kC _ (by repeat (first | with_reducible exact Adds.refl _ | with_reducible refine Adds.alloc ?_ _ | with_reducible refine Adds.more ?_ _ _ | with_reducible refine Adds.drew ?_ | with_reducible refine Adds.drewN ?_ _))).mono ?_; rintro e w2 ⟨⟨ao2, m2, c2, rfl, hT2⟩, hA2⟩; have HT2 : Hid (Tr (fun b => b < w2.heap.size) 2 w2 (.slice ao2 m2 c2) tl) := (hT2.out.frame (ok' := fun _ => True) (Nat.le_refl _) (fun _ _ _ => rfl) (fun _ _ => trivial)).fresh; obtain ⟨os2, n2, rfl⟩ := hA2; clear hT2)
      | (go_at_call 11; refine (kB _ _ (tr_lower HT2.out (by repeat (first | with_reducible exact Adds.refl _ | with_reducible refine Adds.alloc ?_ _ | with_reducible refine Adds.more ?_ _ _ | with_reducible refine Adds.drew ?_ | with_reducible refine Adds.drewN ?_ _)))).mono ?_; rintro e w3 ⟨rfl, os3, n3, rfl⟩))
    go_ret2
    exact ⟨rfl, (by repeat (first | with_reducible exact Adds.refl _ | with_reducible refine Adds.alloc ?_ _ | with_reducible refine Adds.more ?_ _ _ | with_reducible refine Adds.drew ?_ | with_reducible refine Adds.drewN ?_ _))⟩

end Go.Proofs.Ytccddgohagakoaa
