/-
  The reference's made and Check, by contracts.
-/
import Derived.Test.YtiacnmcdfpmcfaaGreatDoorRdep
namespace Go.Proofs.YtiacnmcdfpmcfaaGreatDoor
open Go.RowKit
attribute [local go_sem] cell?_more frozen?_more setCell_more size_more tape_more drew_more drewN_more more_drew more_drewN one_out plus_out plus_end lt_one le_p2 le_p3 le_p4 le_p5 le_p6 le_p7 le_p8 le_p9 le_p10 le_p11 le_p12 le_p13 le_p14 le_p15 le_p16 le_p17 le_p18 le_p19 le_p20 le_p21 le_p22 le_p23 le_p24 le_q0 le_q1 lt_q1 le_q2 lt_q2 le_q3 lt_q3 le_q4 lt_q4 le_q5 lt_q5 le_q6 lt_q6 le_q7 lt_q7 le_q8 lt_q8 le_q9 lt_q9 le_q10 lt_q10 le_q11 lt_q11 le_q12 lt_q12 le_q13 lt_q13 le_q14 lt_q14 le_q15 lt_q15 le_q16 lt_q16 le_q17 lt_q17 le_q18 lt_q18 le_q19 lt_q19 le_q20 lt_q20 le_q21 lt_q21 le_q22 lt_q22 le_q23 lt_q23 le_q24 lt_q24


/-- Made as it must be, through all levels. -/
def madeN : Nat → N → Bool
  | 0, n => rAlone n.kind n.text.toList n.num n.args.length
  | d + 1, n => n.args.all (madeN d) && rAlone n.kind n.text.toList n.num n.args.length

set_option maxHeartbeats 4000000 in
theorem made_core {ok : Nat → Prop} (d : Nat) (f : N → Bool) (n : N) (s : Value) (w : World) (hT : Tn ok d w s n.args) (hx : n.text.size ≤ 9223372036854775807) (hlen : n.args.length ≤ 10000)
    (ih : ∀ (e : Nat) (j : Nat) (h : j < n.args.length) (x : Value) (W : World), Tn ok e W x n.args[j].args → d = e + 1 → n.args[j].text.size ≤ 9223372036854775807 → Calls Tryz.prog 125 #[nodeV n.args[j] x] W fun e w' => e = .returned (.bool (f n.args[j])) ∧ Adds W w') :
    Calls Tryz.prog 125 #[nodeV n s] w fun e w' => e = .returned (.bool (n.args.all f && rAlone n.kind n.text.toList n.num n.args.length)) ∧ Adds w w' := by
  obtain ⟨ao, cap, rfl⟩ := hT.shape
  obtain ⟨nk, nt, nm, ts⟩ := n
  simp only [N.kind, N.text, N.num, N.args] at *
  have kP := refPath_any nt hx
  rw [isPath_L] at kP
  have kD := rPlain_any nt hx
  have kN := rName_any nt
  have HT : Hid (Tn ok d w (.slice ao ts.length cap) ts) := hT
  clear hT hx
  simp only [nodeV, N.kind, N.text, N.num]
  go_enter Tryz.func125, Tryz.ntmps125
  go_wp2
  go_loopw [3] (fun iv wr => ∃ j : Nat, j ≤ ts.length ∧ iv = .int .i64 j ∧ (ts.drop j).all f = ts.all f ∧ Adds (w.alloc (.cells #[.int .i64 nk, .string nt, .int .i64 nm, .slice ao ts.length cap] 81)) wr) (fun iv _ => ts.length - (intOf iv).toNat)
  case atStart => exact ⟨0, Nat.zero_le _, rfl, by simp, by repeat (first | with_reducible exact Adds.refl _ | with_reducible refine Adds.alloc ?_ _ | with_reducible refine Adds.more ?_ _ _ | with_reducible refine Adds.drew ?_ | with_reducible refine Adds.drewN ?_ _)⟩
  case round =>
    obtain ⟨j, hj, rfl, hall, os, n0, rfl⟩ := hrel
    by_cases hlt : j < ts.length
    · obtain ⟨e, b1, o1, x, he, rfl, hb1, ⟨c0, c1, c2, c3⟩, hsz, htx⟩ := HT.out.elem hlt
      have kR := fun W (hA : Adds w W) => ih e j hlt x W (htx.adds hA) he hsz
      have HN : Hid (ts.all f = (f ts[j] && (ts.drop (j + 1)).all f)) := by
        show _ = _
        rw [← hall, List.drop_eq_getElem_cons hlt]
        rfl
      obtain ⟨xo, xc, rfl⟩ := htx.shape
      (try simp only [nodeV] at kR)
      clear htx he HT hall ih hsz kP kD kN
      generalize f ts[j] = q1 at *
      generalize ts[j] = p at *
      cases q1
      · go_wp2_with (go_at_call 125; refine (kR _ (by repeat (first | with_reducible exact Adds.refl _ | with_reducible refine Adds.alloc ?_ _ | with_reducible refine Adds.more ?_ _ _ | with_reducible refine Adds.drew ?_ | with_reducible refine Adds.drewN ?_ _))).mono ?_; rintro e w2 ⟨rfl, os2, n2, rfl⟩)
        go_ret
        exact ⟨by rw [HN.out]; rfl, by repeat (first | with_reducible exact Adds.refl _ | with_reducible refine Adds.alloc ?_ _ | with_reducible refine Adds.more ?_ _ _ | with_reducible refine Adds.drew ?_ | with_reducible refine Adds.drewN ?_ _)⟩
      · go_wp2_with (go_at_call 125; refine (kR _ (by repeat (first | with_reducible exact Adds.refl _ | with_reducible refine Adds.alloc ?_ _ | with_reducible refine Adds.more ?_ _ _ | with_reducible refine Adds.drew ?_ | with_reducible refine Adds.drewN ?_ _))).mono ?_; rintro e w2 ⟨rfl, os2, n2, rfl⟩)
        go_roundw
        case rel => exact ⟨j + 1, by omega, by go_num, by rw [HN.out]; rfl, by repeat (first | with_reducible exact Adds.refl _ | with_reducible refine Adds.alloc ?_ _ | with_reducible refine Adds.more ?_ _ _ | with_reducible refine Adds.drew ?_ | with_reducible refine Adds.drewN ?_ _)⟩
        case measure => simp [intOf]; omega
    · have hj' : j = ts.length := by omega
      subst hj'
      have hq : ts.all f = true := by rw [← hall]; simp
      have HQ : Hid _ := hq
      clear hall hq HT ih
      by_cases h1 : nk = 1
      · subst h1
        cases ba : ((ts.length : Int) == 0)
        · have HR : Hid (rAlone 1 nt.toList nm ts.length = false) := by
            show rAlone 1 nt.toList nm ts.length = _
            unfold rAlone
            rw [if_pos rfl]
            simp only [rA1, ba]
            try rfl
          go_wp2_with (first
            | (go_at_call 39; refine (kP _).mono ?_; rintro e w5 ⟨rfl, hw⟩; subst w5)
            | (go_at_call 72; refine (kD _).mono ?_; rintro e w5 ⟨rfl, hw⟩; subst w5)
            | (go_at_call 71; refine (kN _).mono ?_; rintro e w5 ⟨rfl, hw⟩; subst w5))
          go_ret
          exact ⟨by rw [HQ.out, HR.out]; rfl, by repeat (first | with_reducible exact Adds.refl _ | with_reducible refine Adds.alloc ?_ _ | with_reducible refine Adds.more ?_ _ _ | with_reducible refine Adds.drew ?_ | with_reducible refine Adds.drewN ?_ _)⟩
        · cases bn : (nm == 0)
          · have HR : Hid (rAlone 1 nt.toList nm ts.length = false) := by
              show rAlone 1 nt.toList nm ts.length = _
              unfold rAlone
              rw [if_pos rfl]
              simp only [rA1, ba, bn]
              try rfl
            go_wp2_with (first
              | (go_at_call 39; refine (kP _).mono ?_; rintro e w5 ⟨rfl, hw⟩; subst w5)
              | (go_at_call 72; refine (kD _).mono ?_; rintro e w5 ⟨rfl, hw⟩; subst w5)
              | (go_at_call 71; refine (kN _).mono ?_; rintro e w5 ⟨rfl, hw⟩; subst w5))
            go_ret
            exact ⟨by rw [HQ.out, HR.out]; rfl, by repeat (first | with_reducible exact Adds.refl _ | with_reducible refine Adds.alloc ?_ _ | with_reducible refine Adds.more ?_ _ _ | with_reducible refine Adds.drew ?_ | with_reducible refine Adds.drewN ?_ _)⟩
          · cases hp : pathL nt.toList
            · rw [hp] at kP
              have HR : Hid (rAlone 1 nt.toList nm ts.length = false) := by
                show rAlone 1 nt.toList nm ts.length = _
                unfold rAlone
                rw [if_pos rfl]
                simp only [rA1, ba, bn, hp]
                try rfl
              go_wp2_with (first
                | (go_at_call 39; refine (kP _).mono ?_; rintro e w5 ⟨rfl, hw⟩; subst w5)
                | (go_at_call 72; refine (kD _).mono ?_; rintro e w5 ⟨rfl, hw⟩; subst w5)
                | (go_at_call 71; refine (kN _).mono ?_; rintro e w5 ⟨rfl, hw⟩; subst w5))
              go_ret
              exact ⟨by rw [HQ.out, HR.out]; rfl, by repeat (first | with_reducible exact Adds.refl _ | with_reducible refine Adds.alloc ?_ _ | with_reducible refine Adds.more ?_ _ _ | with_reducible refine Adds.drew ?_ | with_reducible refine Adds.drewN ?_ _)⟩
            · rw [hp] at kP
              cases hd : allDig nt.toList
              · rw [hd] at kD
                have HR : Hid (rAlone 1 nt.toList nm ts.length = true) := by
                  show rAlone 1 nt.toList nm ts.length = _
                  unfold rAlone
                  rw [if_pos rfl]
                  simp only [rA1, ba, bn, hp, hd]
                  try rfl
                go_wp2_with (first
                  | (go_at_call 39; refine (kP _).mono ?_; rintro e w5 ⟨rfl, hw⟩; subst w5)
                  | (go_at_call 72; refine (kD _).mono ?_; rintro e w5 ⟨rfl, hw⟩; subst w5)
                  | (go_at_call 71; refine (kN _).mono ?_; rintro e w5 ⟨rfl, hw⟩; subst w5))
                go_ret
                exact ⟨by rw [HQ.out, HR.out]; rfl, by repeat (first | with_reducible exact Adds.refl _ | with_reducible refine Adds.alloc ?_ _ | with_reducible refine Adds.more ?_ _ _ | with_reducible refine Adds.drew ?_ | with_reducible refine Adds.drewN ?_ _)⟩
              · rw [hd] at kD
                have HR : Hid (rAlone 1 nt.toList nm ts.length = false) := by
                  show rAlone 1 nt.toList nm ts.length = _
                  unfold rAlone
                  rw [if_pos rfl]
                  simp only [rA1, ba, bn, hp, hd]
                  try rfl
                go_wp2_with (first
                  | (go_at_call 39; refine (kP _).mono ?_; rintro e w5 ⟨rfl, hw⟩; subst w5)
                  | (go_at_call 72; refine (kD _).mono ?_; rintro e w5 ⟨rfl, hw⟩; subst w5)
                  | (go_at_call 71; refine (kN _).mono ?_; rintro e w5 ⟨rfl, hw⟩; subst w5))
                go_ret
                exact ⟨by rw [HQ.out, HR.out]; rfl, by repeat (first | with_reducible exact Adds.refl _ | with_reducible refine Adds.alloc ?_ _ | with_reducible refine Adds.more ?_ _ _ | with_reducible refine Adds.drew ?_ | with_reducible refine Adds.drewN ?_ _)⟩
      have b1 : (nk == 1) = false := by simpa using h1
      by_cases h2 : nk = 2
      · subst h2
        cases ba : ((ts.length : Int) == 0)
        · have HR : Hid (rAlone 2 nt.toList nm ts.length = false) := by
            show rAlone 2 nt.toList nm ts.length = _
            unfold rAlone
            rw [if_neg (by decide), if_pos rfl]
            simp only [rA2, ba]
            try rfl
          go_wp2_with (first
            | (go_at_call 39; refine (kP _).mono ?_; rintro e w5 ⟨rfl, hw⟩; subst w5)
            | (go_at_call 72; refine (kD _).mono ?_; rintro e w5 ⟨rfl, hw⟩; subst w5)
            | (go_at_call 71; refine (kN _).mono ?_; rintro e w5 ⟨rfl, hw⟩; subst w5))
          go_ret
          exact ⟨by rw [HQ.out, HR.out]; rfl, by repeat (first | with_reducible exact Adds.refl _ | with_reducible refine Adds.alloc ?_ _ | with_reducible refine Adds.more ?_ _ _ | with_reducible refine Adds.drew ?_ | with_reducible refine Adds.drewN ?_ _)⟩
        · cases bt : (nt.toList == [])
          · have HR : Hid (rAlone 2 nt.toList nm ts.length = false) := by
              show rAlone 2 nt.toList nm ts.length = _
              unfold rAlone
              rw [if_neg (by decide), if_pos rfl]
              simp only [rA2, ba, bt]
              try rfl
            go_wp2_with (first
              | (go_at_call 39; refine (kP _).mono ?_; rintro e w5 ⟨rfl, hw⟩; subst w5)
              | (go_at_call 72; refine (kD _).mono ?_; rintro e w5 ⟨rfl, hw⟩; subst w5)
              | (go_at_call 71; refine (kN _).mono ?_; rintro e w5 ⟨rfl, hw⟩; subst w5))
            go_ret
            exact ⟨by rw [HQ.out, HR.out]; rfl, by repeat (first | with_reducible exact Adds.refl _ | with_reducible refine Adds.alloc ?_ _ | with_reducible refine Adds.more ?_ _ _ | with_reducible refine Adds.drew ?_ | with_reducible refine Adds.drewN ?_ _)⟩
          · by_cases d0 : 0 ≤ nm
            · by_cases d1 : nm < 1000000000000000
              · have HR : Hid (rAlone 2 nt.toList nm ts.length = true) := by
                  show rAlone 2 nt.toList nm ts.length = _
                  unfold rAlone
                  rw [if_neg (by decide), if_pos rfl]
                  simp only [rA2, ba, bt, decide_eq_true d0, decide_eq_true d1]
                  try rfl
                go_wp2_with (first
                  | (go_at_call 39; refine (kP _).mono ?_; rintro e w5 ⟨rfl, hw⟩; subst w5)
                  | (go_at_call 72; refine (kD _).mono ?_; rintro e w5 ⟨rfl, hw⟩; subst w5)
                  | (go_at_call 71; refine (kN _).mono ?_; rintro e w5 ⟨rfl, hw⟩; subst w5))
                go_ret
                exact ⟨by rw [HQ.out, HR.out]; rfl, by repeat (first | with_reducible exact Adds.refl _ | with_reducible refine Adds.alloc ?_ _ | with_reducible refine Adds.more ?_ _ _ | with_reducible refine Adds.drew ?_ | with_reducible refine Adds.drewN ?_ _)⟩
              · have HR : Hid (rAlone 2 nt.toList nm ts.length = false) := by
                  show rAlone 2 nt.toList nm ts.length = _
                  unfold rAlone
                  rw [if_neg (by decide), if_pos rfl]
                  simp only [rA2, ba, bt, decide_eq_true d0, decide_eq_false d1]
                  try rfl
                go_wp2_with (first
                  | (go_at_call 39; refine (kP _).mono ?_; rintro e w5 ⟨rfl, hw⟩; subst w5)
                  | (go_at_call 72; refine (kD _).mono ?_; rintro e w5 ⟨rfl, hw⟩; subst w5)
                  | (go_at_call 71; refine (kN _).mono ?_; rintro e w5 ⟨rfl, hw⟩; subst w5))
                go_ret
                exact ⟨by rw [HQ.out, HR.out]; rfl, by repeat (first | with_reducible exact Adds.refl _ | with_reducible refine Adds.alloc ?_ _ | with_reducible refine Adds.more ?_ _ _ | with_reducible refine Adds.drew ?_ | with_reducible refine Adds.drewN ?_ _)⟩
            · have HR : Hid (rAlone 2 nt.toList nm ts.length = false) := by
                show rAlone 2 nt.toList nm ts.length = _
                unfold rAlone
                rw [if_neg (by decide), if_pos rfl]
                simp only [rA2, ba, bt, decide_eq_false d0]
                try rfl
              go_wp2_with (first
                | (go_at_call 39; refine (kP _).mono ?_; rintro e w5 ⟨rfl, hw⟩; subst w5)
                | (go_at_call 72; refine (kD _).mono ?_; rintro e w5 ⟨rfl, hw⟩; subst w5)
                | (go_at_call 71; refine (kN _).mono ?_; rintro e w5 ⟨rfl, hw⟩; subst w5))
              go_ret
              exact ⟨by rw [HQ.out, HR.out]; rfl, by repeat (first | with_reducible exact Adds.refl _ | with_reducible refine Adds.alloc ?_ _ | with_reducible refine Adds.more ?_ _ _ | with_reducible refine Adds.drew ?_ | with_reducible refine Adds.drewN ?_ _)⟩
      have b2 : (nk == 2) = false := by simpa using h2
      by_cases h3 : nk = 3
      · subst h3
        cases ba : ((ts.length : Int) == 2)
        · have HR : Hid (rAlone 3 nt.toList nm ts.length = false) := by
            show rAlone 3 nt.toList nm ts.length = _
            unfold rAlone
            rw [if_neg (by decide), if_neg (by decide), if_pos (Or.inl rfl)]
            simp only [rA3, ba]
            try rfl
          go_wp2_with (first
            | (go_at_call 39; refine (kP _).mono ?_; rintro e w5 ⟨rfl, hw⟩; subst w5)
            | (go_at_call 72; refine (kD _).mono ?_; rintro e w5 ⟨rfl, hw⟩; subst w5)
            | (go_at_call 71; refine (kN _).mono ?_; rintro e w5 ⟨rfl, hw⟩; subst w5))
          go_ret
          exact ⟨by rw [HQ.out, HR.out]; rfl, by repeat (first | with_reducible exact Adds.refl _ | with_reducible refine Adds.alloc ?_ _ | with_reducible refine Adds.more ?_ _ _ | with_reducible refine Adds.drew ?_ | with_reducible refine Adds.drewN ?_ _)⟩
        · cases bt : (nt.toList == [])
          · have HR : Hid (rAlone 3 nt.toList nm ts.length = false) := by
              show rAlone 3 nt.toList nm ts.length = _
              unfold rAlone
              rw [if_neg (by decide), if_neg (by decide), if_pos (Or.inl rfl)]
              simp only [rA3, ba, bt]
              try rfl
            go_wp2_with (first
              | (go_at_call 39; refine (kP _).mono ?_; rintro e w5 ⟨rfl, hw⟩; subst w5)
              | (go_at_call 72; refine (kD _).mono ?_; rintro e w5 ⟨rfl, hw⟩; subst w5)
              | (go_at_call 71; refine (kN _).mono ?_; rintro e w5 ⟨rfl, hw⟩; subst w5))
            go_ret
            exact ⟨by rw [HQ.out, HR.out]; rfl, by repeat (first | with_reducible exact Adds.refl _ | with_reducible refine Adds.alloc ?_ _ | with_reducible refine Adds.more ?_ _ _ | with_reducible refine Adds.drew ?_ | with_reducible refine Adds.drewN ?_ _)⟩
          · cases bn : (nm == 0)
            · have HR : Hid (rAlone 3 nt.toList nm ts.length = false) := by
                show rAlone 3 nt.toList nm ts.length = _
                unfold rAlone
                rw [if_neg (by decide), if_neg (by decide), if_pos (Or.inl rfl)]
                simp only [rA3, ba, bt, bn]
                try rfl
              go_wp2_with (first
                | (go_at_call 39; refine (kP _).mono ?_; rintro e w5 ⟨rfl, hw⟩; subst w5)
                | (go_at_call 72; refine (kD _).mono ?_; rintro e w5 ⟨rfl, hw⟩; subst w5)
                | (go_at_call 71; refine (kN _).mono ?_; rintro e w5 ⟨rfl, hw⟩; subst w5))
              go_ret
              exact ⟨by rw [HQ.out, HR.out]; rfl, by repeat (first | with_reducible exact Adds.refl _ | with_reducible refine Adds.alloc ?_ _ | with_reducible refine Adds.more ?_ _ _ | with_reducible refine Adds.drew ?_ | with_reducible refine Adds.drewN ?_ _)⟩
            · have HR : Hid (rAlone 3 nt.toList nm ts.length = true) := by
                show rAlone 3 nt.toList nm ts.length = _
                unfold rAlone
                rw [if_neg (by decide), if_neg (by decide), if_pos (Or.inl rfl)]
                simp only [rA3, ba, bt, bn]
                try rfl
              go_wp2_with (first
                | (go_at_call 39; refine (kP _).mono ?_; rintro e w5 ⟨rfl, hw⟩; subst w5)
                | (go_at_call 72; refine (kD _).mono ?_; rintro e w5 ⟨rfl, hw⟩; subst w5)
                | (go_at_call 71; refine (kN _).mono ?_; rintro e w5 ⟨rfl, hw⟩; subst w5))
              go_ret
              exact ⟨by rw [HQ.out, HR.out]; rfl, by repeat (first | with_reducible exact Adds.refl _ | with_reducible refine Adds.alloc ?_ _ | with_reducible refine Adds.more ?_ _ _ | with_reducible refine Adds.drew ?_ | with_reducible refine Adds.drewN ?_ _)⟩
      have b3 : (nk == 3) = false := by simpa using h3
      by_cases h4 : nk = 4
      · subst h4
        cases ba : ((ts.length : Int) == 2)
        · have HR : Hid (rAlone 4 nt.toList nm ts.length = false) := by
            show rAlone 4 nt.toList nm ts.length = _
            unfold rAlone
            rw [if_neg (by decide), if_neg (by decide), if_pos (Or.inr rfl)]
            simp only [rA3, ba]
            try rfl
          go_wp2_with (first
            | (go_at_call 39; refine (kP _).mono ?_; rintro e w5 ⟨rfl, hw⟩; subst w5)
            | (go_at_call 72; refine (kD _).mono ?_; rintro e w5 ⟨rfl, hw⟩; subst w5)
            | (go_at_call 71; refine (kN _).mono ?_; rintro e w5 ⟨rfl, hw⟩; subst w5))
          go_ret
          exact ⟨by rw [HQ.out, HR.out]; rfl, by repeat (first | with_reducible exact Adds.refl _ | with_reducible refine Adds.alloc ?_ _ | with_reducible refine Adds.more ?_ _ _ | with_reducible refine Adds.drew ?_ | with_reducible refine Adds.drewN ?_ _)⟩
        · cases bt : (nt.toList == [])
          · have HR : Hid (rAlone 4 nt.toList nm ts.length = false) := by
              show rAlone 4 nt.toList nm ts.length = _
              unfold rAlone
              rw [if_neg (by decide), if_neg (by decide), if_pos (Or.inr rfl)]
              simp only [rA3, ba, bt]
              try rfl
            go_wp2_with (first
              | (go_at_call 39; refine (kP _).mono ?_; rintro e w5 ⟨rfl, hw⟩; subst w5)
              | (go_at_call 72; refine (kD _).mono ?_; rintro e w5 ⟨rfl, hw⟩; subst w5)
              | (go_at_call 71; refine (kN _).mono ?_; rintro e w5 ⟨rfl, hw⟩; subst w5))
            go_ret
            exact ⟨by rw [HQ.out, HR.out]; rfl, by repeat (first | with_reducible exact Adds.refl _ | with_reducible refine Adds.alloc ?_ _ | with_reducible refine Adds.more ?_ _ _ | with_reducible refine Adds.drew ?_ | with_reducible refine Adds.drewN ?_ _)⟩
          · cases bn : (nm == 0)
            · have HR : Hid (rAlone 4 nt.toList nm ts.length = false) := by
                show rAlone 4 nt.toList nm ts.length = _
                unfold rAlone
                rw [if_neg (by decide), if_neg (by decide), if_pos (Or.inr rfl)]
                simp only [rA3, ba, bt, bn]
                try rfl
              go_wp2_with (first
                | (go_at_call 39; refine (kP _).mono ?_; rintro e w5 ⟨rfl, hw⟩; subst w5)
                | (go_at_call 72; refine (kD _).mono ?_; rintro e w5 ⟨rfl, hw⟩; subst w5)
                | (go_at_call 71; refine (kN _).mono ?_; rintro e w5 ⟨rfl, hw⟩; subst w5))
              go_ret
              exact ⟨by rw [HQ.out, HR.out]; rfl, by repeat (first | with_reducible exact Adds.refl _ | with_reducible refine Adds.alloc ?_ _ | with_reducible refine Adds.more ?_ _ _ | with_reducible refine Adds.drew ?_ | with_reducible refine Adds.drewN ?_ _)⟩
            · have HR : Hid (rAlone 4 nt.toList nm ts.length = true) := by
                show rAlone 4 nt.toList nm ts.length = _
                unfold rAlone
                rw [if_neg (by decide), if_neg (by decide), if_pos (Or.inr rfl)]
                simp only [rA3, ba, bt, bn]
                try rfl
              go_wp2_with (first
                | (go_at_call 39; refine (kP _).mono ?_; rintro e w5 ⟨rfl, hw⟩; subst w5)
                | (go_at_call 72; refine (kD _).mono ?_; rintro e w5 ⟨rfl, hw⟩; subst w5)
                | (go_at_call 71; refine (kN _).mono ?_; rintro e w5 ⟨rfl, hw⟩; subst w5))
              go_ret
              exact ⟨by rw [HQ.out, HR.out]; rfl, by repeat (first | with_reducible exact Adds.refl _ | with_reducible refine Adds.alloc ?_ _ | with_reducible refine Adds.more ?_ _ _ | with_reducible refine Adds.drew ?_ | with_reducible refine Adds.drewN ?_ _)⟩
      have b4 : (nk == 4) = false := by simpa using h4
      by_cases h5 : nk = 5
      · subst h5
        cases ba : ((ts.length : Int) == 1)
        · have HR : Hid (rAlone 5 nt.toList nm ts.length = false) := by
            show rAlone 5 nt.toList nm ts.length = _
            unfold rAlone
            rw [if_neg (by decide), if_neg (by decide), if_neg (by decide), if_pos rfl]
            simp only [rA5, ba]
            try rfl
          go_wp2_with (first
            | (go_at_call 39; refine (kP _).mono ?_; rintro e w5 ⟨rfl, hw⟩; subst w5)
            | (go_at_call 72; refine (kD _).mono ?_; rintro e w5 ⟨rfl, hw⟩; subst w5)
            | (go_at_call 71; refine (kN _).mono ?_; rintro e w5 ⟨rfl, hw⟩; subst w5))
          go_ret
          exact ⟨by rw [HQ.out, HR.out]; rfl, by repeat (first | with_reducible exact Adds.refl _ | with_reducible refine Adds.alloc ?_ _ | with_reducible refine Adds.more ?_ _ _ | with_reducible refine Adds.drew ?_ | with_reducible refine Adds.drewN ?_ _)⟩
        · cases bn : (nm == 0)
          · have HR : Hid (rAlone 5 nt.toList nm ts.length = false) := by
              show rAlone 5 nt.toList nm ts.length = _
              unfold rAlone
              rw [if_neg (by decide), if_neg (by decide), if_neg (by decide), if_pos rfl]
              simp only [rA5, ba, bn]
              try rfl
            go_wp2_with (first
              | (go_at_call 39; refine (kP _).mono ?_; rintro e w5 ⟨rfl, hw⟩; subst w5)
              | (go_at_call 72; refine (kD _).mono ?_; rintro e w5 ⟨rfl, hw⟩; subst w5)
              | (go_at_call 71; refine (kN _).mono ?_; rintro e w5 ⟨rfl, hw⟩; subst w5))
            go_ret
            exact ⟨by rw [HQ.out, HR.out]; rfl, by repeat (first | with_reducible exact Adds.refl _ | with_reducible refine Adds.alloc ?_ _ | with_reducible refine Adds.more ?_ _ _ | with_reducible refine Adds.drew ?_ | with_reducible refine Adds.drewN ?_ _)⟩
          · cases hn : isName nt.toList
            · rw [hn] at kN
              have HR : Hid (rAlone 5 nt.toList nm ts.length = false) := by
                show rAlone 5 nt.toList nm ts.length = _
                unfold rAlone
                rw [if_neg (by decide), if_neg (by decide), if_neg (by decide), if_pos rfl]
                simp only [rA5, ba, bn, hn]
                try rfl
              go_wp2_with (first
                | (go_at_call 39; refine (kP _).mono ?_; rintro e w5 ⟨rfl, hw⟩; subst w5)
                | (go_at_call 72; refine (kD _).mono ?_; rintro e w5 ⟨rfl, hw⟩; subst w5)
                | (go_at_call 71; refine (kN _).mono ?_; rintro e w5 ⟨rfl, hw⟩; subst w5))
              go_ret
              exact ⟨by rw [HQ.out, HR.out]; rfl, by repeat (first | with_reducible exact Adds.refl _ | with_reducible refine Adds.alloc ?_ _ | with_reducible refine Adds.more ?_ _ _ | with_reducible refine Adds.drew ?_ | with_reducible refine Adds.drewN ?_ _)⟩
            · rw [hn] at kN
              have HR : Hid (rAlone 5 nt.toList nm ts.length = true) := by
                show rAlone 5 nt.toList nm ts.length = _
                unfold rAlone
                rw [if_neg (by decide), if_neg (by decide), if_neg (by decide), if_pos rfl]
                simp only [rA5, ba, bn, hn]
                try rfl
              go_wp2_with (first
                | (go_at_call 39; refine (kP _).mono ?_; rintro e w5 ⟨rfl, hw⟩; subst w5)
                | (go_at_call 72; refine (kD _).mono ?_; rintro e w5 ⟨rfl, hw⟩; subst w5)
                | (go_at_call 71; refine (kN _).mono ?_; rintro e w5 ⟨rfl, hw⟩; subst w5))
              go_ret
              exact ⟨by rw [HQ.out, HR.out]; rfl, by repeat (first | with_reducible exact Adds.refl _ | with_reducible refine Adds.alloc ?_ _ | with_reducible refine Adds.more ?_ _ _ | with_reducible refine Adds.drew ?_ | with_reducible refine Adds.drewN ?_ _)⟩
      have b5 : (nk == 5) = false := by simpa using h5
      have HR : Hid (rAlone nk nt.toList nm ts.length = false) := by
        show rAlone nk nt.toList nm ts.length = _
        unfold rAlone
        rw [if_neg h1, if_neg h2, if_neg (by rintro (h | h); exact h3 h; exact h4 h), if_neg h5]
      go_wp2
      go_ret
      exact ⟨by rw [HQ.out, HR.out]; rfl, by repeat (first | with_reducible exact Adds.refl _ | with_reducible refine Adds.alloc ?_ _ | with_reducible refine Adds.more ?_ _ _ | with_reducible refine Adds.drew ?_ | with_reducible refine Adds.drewN ?_ _)⟩


theorem made_any {ok : Nat → Prop} (d : Nat) : ∀ (n : N) (s : Value) (w : World), Tn ok d w s n.args → n.text.size ≤ 9223372036854775807 → (∀ d, cntN d [n] ≤ 10000) →
    Calls Tryz.prog 125 #[nodeV n s] w fun e w' => e = .returned (.bool (madeN d n)) ∧ Adds w w' := by
  induction d with
  | zero =>
    intro n s w hT hx hc
    have h0 : n.args = [] := hT.1
    have := made_core 0 (fun _ => true) n s w hT hx (cnt_long hc) (fun e j h => absurd h (by rw [h0]; simp))
    have e : (n.args.all (fun _ => true) && rAlone n.kind n.text.toList n.num n.args.length) = madeN 0 n := by simp [madeN]
    rw [e] at this
    exact this
  | succ d ih =>
    intro n s w hT hx hc
    exact made_core (d + 1) (madeN d) n s w hT hx (cnt_long hc) (fun e j h x W hT' he hx' => by
      have : e = d := by omega
      subst this
      exact ih _ x W hT' hx' (cnt_kid hc (List.getElem_mem h)))

/-- No deeper than that. -/
def lowN : Nat → List N → Prop
  | 0, ts => ts = []
  | d + 1, ts => ∀ t ∈ ts, lowN d t.args
theorem Tn.low {ok : Nat → Prop} {d : Nat} {w : World} {s : Value} {ts : List N} (h : Tn ok d w s ts) : lowN d ts := by
  induction d generalizing s ts with
  | zero => exact h.1
  | succ d ih =>
    intro t ht
    obtain ⟨ao, cap, rfl, _, h | ⟨b, off, rfl, _, _, _, hx⟩⟩ := h
    · rw [h] at ht; cases ht
    · obtain ⟨j, hj, rfl⟩ := List.getElem_of_mem ht
      obtain ⟨x, _, _, h⟩ := hx j hj
      exact ih h

theorem fits_depth (k : Nat) : ∀ (m : Nat) (n : N), fitsN k n = true → depthN m n ≤ k := by
  induction k with
  | zero => intro m n h; cases h
  | succ k ih =>
    intro m n h
    simp only [fitsN, Bool.and_eq_true, List.all_eq_true] at h
    cases m with
    | zero => simp [depthN]
    | succ m =>
      have : mx (n.args.map (depthN m)) ≤ k := mx_le.2 (by simp only [List.mem_map]; rintro x ⟨y, hy, rfl⟩; exact ih m y (h.2 y hy))
      simp only [depthN]
      omega
theorem fits_made (k : Nat) : ∀ (d : Nat) (n : N), fitsN k n = true → madeN d n = true := by
  induction k with
  | zero => intro m n h; cases h
  | succ k ih =>
    intro d n h
    simp only [fitsN, Bool.and_eq_true, List.all_eq_true] at h
    cases d with
    | zero => simp only [madeN, rAlone_is]; exact h.1
    | succ d =>
      simp only [madeN, Bool.and_eq_true, List.all_eq_true, rAlone_is]
      exact ⟨fun y hy => ih d y (h.2 y hy), h.1⟩
theorem made_fits (k : Nat) : ∀ (d : Nat) (n : N), lowN d n.args → depthN (k + 1) n ≤ k → madeN d n = true → fitsN k n = true := by
  induction k with
  | zero => intro d n _ h; simp [depthN] at h
  | succ k ih =>
    intro d n hl hd hm
    have hd' : mx (n.args.map (depthN (k + 1))) ≤ k := by
      have e : depthN (k + 1 + 1) n = mx (n.args.map (depthN (k + 1))) + 1 := rfl
      omega
    rw [mx_le] at hd'
    simp only [fitsN, Bool.and_eq_true, List.all_eq_true]
    cases d with
    | zero =>
      have h0 : n.args = [] := hl
      simp only [madeN, rAlone_is] at hm
      exact ⟨hm, fun y hy => by rw [h0] at hy; cases hy⟩
    | succ d =>
      simp only [madeN, Bool.and_eq_true, List.all_eq_true, rAlone_is] at hm
      exact ⟨hm.2, fun y hy => ih d y (hl y hy) (hd' _ (List.mem_map.2 ⟨y, hy, rfl⟩)) (hm.1 y hy)⟩

theorem rCheckE_any {ok : Nat → Prop} {D : Nat} (n : N) (s : Value) (w : World) (hT : Tn ok D w s n.args) (hx : n.text.size ≤ 9223372036854775807) (hc : ∀ d, cntN d [n] ≤ 10000) :
    Calls Tryz.prog 99 #[nodeV n s] w fun e w' => (∃ x : Int, e = .returned (.int .i64 x) ∧ (x = 0 ↔ fitsN 8 n = true)) ∧ Adds w w' := by
  have kF := fun W hA => rDepth_any (ok := ok) 9 D n s W (Nat.le_refl _) (hT.adds hA) hc
  have kD := fun W hA => made_any (ok := ok) D n s W (hT.adds hA) hx hc
  have H1 : Hid (fitsN 8 n = true → depthN 9 n ≤ 8) := fits_depth 8 9 n
  have H2 : Hid (fitsN 8 n = true → madeN D n = true) := fits_made 8 D n
  have H3 : Hid (depthN 9 n ≤ 8 → madeN D n = true → fitsN 8 n = true) := made_fits 8 D n hT.low
  obtain ⟨ao, cap, rfl⟩ := hT.shape
  have h9 : ((9 : Nat) : Int) = 9 := rfl
  rw [h9] at kF
  have hd := depthN_le 9 n
  generalize depthN 9 n = dd at *
  generalize madeN D n = q at *
  generalize fitsN 8 n = r at *
  clear hT hx hc h9
  obtain ⟨nk, nt, nm, na⟩ := n
  simp only [nodeV, N.kind, N.text, N.num, N.args] at *
  generalize na.length = nl at *
  by_cases hg : 8 < (dd : Int)
  · go_enter Tryz.func99, Tryz.ntmps99
    go_wp2_with (first
      | (go_at_call 53; refine (kF _ (by repeat (first | with_reducible exact Adds.refl _ | with_reducible refine Adds.alloc ?_ _ | with_reducible refine Adds.more ?_ _ _ | with_reducible refine Adds.drew ?_ | with_reducible refine Adds.drewN ?_ _))).mono ?_; rintro e w1 ⟨rfl, os1, n1, rfl⟩))
    go_ret
    exact ⟨⟨13, rfl, fun h => absurd h (by decide), fun h => by have := H1.out h; omega⟩, by repeat (first | with_reducible exact Adds.refl _ | with_reducible refine Adds.alloc ?_ _ | with_reducible refine Adds.more ?_ _ _ | with_reducible refine Adds.drew ?_ | with_reducible refine Adds.drewN ?_ _)⟩
  · cases q
    · go_enter Tryz.func99, Tryz.ntmps99
      go_wp2_with (first
        | (go_at_call 53; refine (kF _ (by repeat (first | with_reducible exact Adds.refl _ | with_reducible refine Adds.alloc ?_ _ | with_reducible refine Adds.more ?_ _ _ | with_reducible refine Adds.drew ?_ | with_reducible refine Adds.drewN ?_ _))).mono ?_; rintro e w1 ⟨rfl, os1, n1, rfl⟩)
        | (go_at_call 125; refine (kD _ (by repeat (first | with_reducible exact Adds.refl _ | with_reducible refine Adds.alloc ?_ _ | with_reducible refine Adds.more ?_ _ _ | with_reducible refine Adds.drew ?_ | with_reducible refine Adds.drewN ?_ _))).mono ?_; rintro e w2 ⟨rfl, os2, n2, rfl⟩))
      go_ret
      exact ⟨⟨1, rfl, fun h => absurd h (by decide), fun h => by have := H2.out h; simp at this⟩, by repeat (first | with_reducible exact Adds.refl _ | with_reducible refine Adds.alloc ?_ _ | with_reducible refine Adds.more ?_ _ _ | with_reducible refine Adds.drew ?_ | with_reducible refine Adds.drewN ?_ _)⟩
    · go_enter Tryz.func99, Tryz.ntmps99
      go_wp2_with (first
        | (go_at_call 53; refine (kF _ (by repeat (first | with_reducible exact Adds.refl _ | with_reducible refine Adds.alloc ?_ _ | with_reducible refine Adds.more ?_ _ _ | with_reducible refine Adds.drew ?_ | with_reducible refine Adds.drewN ?_ _))).mono ?_; rintro e w1 ⟨rfl, os1, n1, rfl⟩)
        | (go_at_call 125; refine (kD _ (by repeat (first | with_reducible exact Adds.refl _ | with_reducible refine Adds.alloc ?_ _ | with_reducible refine Adds.more ?_ _ _ | with_reducible refine Adds.drew ?_ | with_reducible refine Adds.drewN ?_ _))).mono ?_; rintro e w2 ⟨rfl, os2, n2, rfl⟩))
      go_ret
      exact ⟨⟨0, rfl, fun _ => H3.out (by omega) (by first | rfl | trivial), fun _ => rfl⟩, by repeat (first | with_reducible exact Adds.refl _ | with_reducible refine Adds.alloc ?_ _ | with_reducible refine Adds.more ?_ _ _ | with_reducible refine Adds.drew ?_ | with_reducible refine Adds.drewN ?_ _)⟩

end Go.Proofs.YtiacnmcdfpmcfaaGreatDoor
