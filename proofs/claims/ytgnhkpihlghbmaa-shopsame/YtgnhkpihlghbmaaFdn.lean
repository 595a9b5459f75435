/-
  Fold of package shop, where the key does not stand; and of any documents.
-/
import Derived.Test.YtgnhkpihlghbmaaMfdl
import Derived.Test.YtgnhkpihlghbmaaMshm
namespace Go.Proofs.Ytgnhkpihlghbmaa
open Go.RowKit
attribute [local go_sem] cell?_more frozen?_more setCell_more size_more tape_more drew_more drewN_more more_drew more_drewN one_out plus_out plus_end lt_one le_p2 le_p3 le_p4 le_p5 le_p6 le_p7 le_p8 le_p9 le_p10 le_p11 le_p12 le_p13 le_p14 le_p15 le_p16 le_p17 le_p18 le_p19 le_p20 le_p21 le_p22 le_p23 le_p24 le_q0 le_q1 lt_q1 le_q2 lt_q2 le_q3 lt_q3 le_q4 lt_q4 le_q5 lt_q5 le_q6 lt_q6 le_q7 lt_q7 le_q8 lt_q8 le_q9 lt_q9 le_q10 lt_q10 le_q11 lt_q11 le_q12 lt_q12 le_q13 lt_q13 le_q14 lt_q14 le_q15 lt_q15 le_q16 lt_q16 le_q17 lt_q17 le_q18 lt_q18 le_q19 lt_q19 le_q20 lt_q20 le_q21 lt_q21 le_q22 lt_q22 le_q23 lt_q23 le_q24 lt_q24

theorem slices_none (c : Nat) : (Option.none : Option Addr).map (fun a => a.add (c * 2)) = Option.none := rfl

set_option maxHeartbeats 4000000 in
set_option maxRecDepth 20000 in
theorem fold_not (ao : Option Addr) (cap c : Nat) (rs : List Rn) (pos : Int) (key : ByteArray) (has : Bool) (vo : Option Addr) (vc : Nat) (doc : List F) (w : World) (hR : LstR w (.slice ao rs.length cap) rs) (hcap : rs.length ≤ cap) (hc : c ≤ rs.length) (hd : Lst w (.slice vo doc.length vc) doc) (hle : rs.length ≤ 500) (hd6 : ∀ r ∈ rs, r.1.doc.length ≤ 1000) (hdd : doc.length ≤ 1000)
    (k : ∀ W, Adds w W → Calls Try.prog 24 #[.slice ao rs.length cap, .string key] W fun e w' => e = .returned (.tuple #[.int .i64 c, .bool false]) ∧ Adds W w') :
    Calls Try.prog 13 #[.slice ao rs.length cap, .agg #[.int .i64 pos, .string key, .bool has, .slice vo doc.length vc]] w fun e w' => (∃ v, e = .returned v ∧ Hid (∀ w4, Far w.heap.size w' w4 → LstD w4 v ((rs.take c).map (·.1) ++ ((if has then [⟨key, doc⟩] else []) ++ (rs.drop c).map (·.1))))) ∧ Adds w w' := by
  have h1 : (0 : Int) ≤ (c : Int) := by omega
  have h2 : (c : Int) ≤ (rs.length : Int) := by omega
  have h3 : (c : Int) ≤ (cap : Int) := by omega
  have h4 : (rs.length : Int) ≤ (cap : Int) := by omega
  have hT := hR.take (c := c) (by omega)
  have hD := hR.drop (c := c) (by omega)
  have hdr : ∀ r ∈ rs.take c, r.1.doc.length ≤ 1000 := fun r hr => hd6 r (List.mem_of_mem_take hr)
  have hds : ∀ r ∈ rs.drop c, r.1.doc.length ≤ 1000 := fun r hr => hd6 r (List.mem_of_mem_drop hr)
  by_cases hcc : cap = c
  · rw [if_pos hcc] at hD
    subst hcc
    rw [Nat.sub_self] at hD
    cases ao with
    | none =>
      have hX : Hid (∀ S, S = Value.slice none (rs.length - cap) 0 → LstR w S (rs.drop cap)) := fun S hS => by rw [hS]; exact hD
      cases has with
      | false =>
        have kC := fun W k T S (hA : Adds w W) hk hS => cat_copy (W := W) (k := k) (T := T) (s3 := S) hk (hT.adds hA) (LstR.none W) ((hX.out S hS).adds hA) (by simp; omega) (by
          intro r hr
          rcases List.mem_append.1 hr with hr | hr
          · exact hdr r hr
          · rw [List.nil_append] at hr
            exact hds r hr)
        have HM : Hid ((rs.take cap ++ ([] ++ rs.drop cap)).map (fun r : Rn => r.1) = (rs.take cap).map (·.1) ++ ((if false then [⟨key, doc⟩] else []) ++ (rs.drop cap).map (·.1))) := by show _ = _; simp
        clear hT hD hR hd6 hd hdr hds hX
        generalize hJ : rs.take cap ++ ([] ++ rs.drop cap) = J at *
        clear hJ
        generalize (rs.take cap).map (·.1) ++ ((if false then [⟨key, doc⟩] else []) ++ (rs.drop cap).map (·.1)) = Z at *
        go_enter Try.func13, Try.ntmps13
        go_wp2_with (go_at_call 24; refine (k _ (by repeat (first | with_reducible exact Adds.refl _ | with_reducible refine Adds.alloc ?_ _ | with_reducible refine Adds.more ?_ _ _ | with_reducible refine Adds.drew ?_ | with_reducible refine Adds.drewN ?_ _))).mono ?_; rintro e w1 ⟨rfl, os1, n1, rfl⟩)
        go_quiet (fail)
        go_wp2_with (first
          | (go_at_call 25; refine (kC _ _ _ _ (by repeat (first | with_reducible exact Adds.refl _ | with_reducible refine Adds.alloc ?_ _ | with_reducible refine Adds.more ?_ _ _ | with_reducible refine Adds.drew ?_ | with_reducible refine Adds.drewN ?_ _)) (by simp [go_sem]) (by first | rfl | simp [*])).mono ?_; rintro e w2 ⟨⟨uo, uc, rfl, HC⟩, os2, n2, rfl⟩)
          | (go_at_call 22; refine (HC.out _ (by repeat (first | with_reducible exact Adds.refl _ | with_reducible refine Adds.alloc ?_ _ | with_reducible refine Adds.more ?_ _ _ | with_reducible refine Adds.drew ?_ | with_reducible refine Adds.drewN ?_ _))).mono ?_; rintro e w3 ⟨⟨v3, rfl, hv3⟩, os3, n3, rfl⟩))
        all_goals
          go_ret
          exact ⟨⟨v3, rfl, by show ∀ w4, _; rw [← HM.out]; have hz := hv3.out; first | exact fun w4 hf => hz w4 (by refine Far.mono hf ?_; (first | omega | (simp only [size_more, World.size_alloc]; omega) | (simp [go_sem] <;> omega))) | (simp only [*] at hz ⊢; exact fun w4 hf => hz w4 (by refine Far.mono hf ?_; (first | omega | (simp only [size_more, World.size_alloc]; omega) | (simp [go_sem] <;> omega)))) | (simp [*] at hz ⊢; exact fun w4 hf => hz w4 (by refine Far.mono hf ?_; (first | omega | (simp only [size_more, World.size_alloc]; omega) | (simp [go_sem] <;> omega))))⟩, (by repeat (first | with_reducible exact Adds.refl _ | with_reducible refine Adds.alloc ?_ _ | with_reducible refine Adds.more ?_ _ _ | with_reducible refine Adds.drew ?_ | with_reducible refine Adds.drewN ?_ _))⟩
      | true =>
        have kC := fun W k T k' S (hA : Adds w W) (hk' : k' = W.heap.size) hk hS => cat_copy (W := W.alloc (.cells #[.string key, .slice vo doc.length vc] 48)) (k := k) (T := T) (s3 := S) hk (hT.adds (hA.alloc _)) (LstR.one hk' (hd.adds hA)) ((hX.out S hS).adds (hA.alloc _)) (by simp; omega) (by
          intro r hr
          rcases List.mem_append.1 hr with hr | hr
          · exact hdr r hr
          · rcases List.mem_append.1 hr with hr | hr
            · have := List.mem_singleton.1 hr
              subst this
              exact hdd
            · exact hds r hr)
        have HM : Hid ((rs.take cap ++ ([((⟨key, doc⟩, .slice vo doc.length vc) : Rn)] ++ rs.drop cap)).map (fun r : Rn => r.1) = (rs.take cap).map (·.1) ++ ((if true then [⟨key, doc⟩] else []) ++ (rs.drop cap).map (·.1))) := by show _ = _; simp
        clear hT hD hR hd6 hd hdr hds hX
        generalize hJ : rs.take cap ++ ([((⟨key, doc⟩, .slice vo doc.length vc) : Rn)] ++ rs.drop cap) = J at *
        clear hJ
        generalize (rs.take cap).map (·.1) ++ ((if true then [⟨key, doc⟩] else []) ++ (rs.drop cap).map (·.1)) = Z at *
        go_enter Try.func13, Try.ntmps13
        go_wp2_with (go_at_call 24; refine (k _ (by repeat (first | with_reducible exact Adds.refl _ | with_reducible refine Adds.alloc ?_ _ | with_reducible refine Adds.more ?_ _ _ | with_reducible refine Adds.drew ?_ | with_reducible refine Adds.drewN ?_ _))).mono ?_; rintro e w1 ⟨rfl, os1, n1, rfl⟩)
        go_quiet (fail)
        go_wp2_with (first
          | (go_at_call 25; refine (kC _ _ _ _ _ (by repeat (first | with_reducible exact Adds.refl _ | with_reducible refine Adds.alloc ?_ _ | with_reducible refine Adds.more ?_ _ _ | with_reducible refine Adds.drew ?_ | with_reducible refine Adds.drewN ?_ _)) (by simp [go_sem]) (by simp [go_sem]) (by first | rfl | simp [*])).mono ?_; rintro e w2 ⟨⟨uo, uc, rfl, HC⟩, os2, n2, rfl⟩)
          | (go_at_call 22; refine (HC.out _ (by repeat (first | with_reducible exact Adds.refl _ | with_reducible refine Adds.alloc ?_ _ | with_reducible refine Adds.more ?_ _ _ | with_reducible refine Adds.drew ?_ | with_reducible refine Adds.drewN ?_ _))).mono ?_; rintro e w3 ⟨⟨v3, rfl, hv3⟩, os3, n3, rfl⟩))
        all_goals
          go_ret
          exact ⟨⟨v3, rfl, by show ∀ w4, _; rw [← HM.out]; have hz := hv3.out; first | exact fun w4 hf => hz w4 (by refine Far.mono hf ?_; (first | omega | (simp only [size_more, World.size_alloc]; omega) | (simp [go_sem] <;> omega))) | (simp only [*] at hz ⊢; exact fun w4 hf => hz w4 (by refine Far.mono hf ?_; (first | omega | (simp only [size_more, World.size_alloc]; omega) | (simp [go_sem] <;> omega)))) | (simp [*] at hz ⊢; exact fun w4 hf => hz w4 (by refine Far.mono hf ?_; (first | omega | (simp only [size_more, World.size_alloc]; omega) | (simp [go_sem] <;> omega))))⟩, (by repeat (first | with_reducible exact Adds.refl _ | with_reducible refine Adds.alloc ?_ _ | with_reducible refine Adds.more ?_ _ _ | with_reducible refine Adds.drew ?_ | with_reducible refine Adds.drewN ?_ _))⟩
    | some a =>
      have hX : Hid (∀ S, S = Value.slice (some a) (rs.length - cap) 0 → LstR w S (rs.drop cap)) := fun S hS => by rw [hS]; exact hD
      cases has with
      | false =>
        have kC := fun W k T S (hA : Adds w W) hk hS => cat_copy (W := W) (k := k) (T := T) (s3 := S) hk (hT.adds hA) (LstR.none W) ((hX.out S hS).adds hA) (by simp; omega) (by
          intro r hr
          rcases List.mem_append.1 hr with hr | hr
          · exact hdr r hr
          · rw [List.nil_append] at hr
            exact hds r hr)
        have HM : Hid ((rs.take cap ++ ([] ++ rs.drop cap)).map (fun r : Rn => r.1) = (rs.take cap).map (·.1) ++ ((if false then [⟨key, doc⟩] else []) ++ (rs.drop cap).map (·.1))) := by show _ = _; simp
        clear hT hD hR hd6 hd hdr hds hX
        generalize hJ : rs.take cap ++ ([] ++ rs.drop cap) = J at *
        clear hJ
        generalize (rs.take cap).map (·.1) ++ ((if false then [⟨key, doc⟩] else []) ++ (rs.drop cap).map (·.1)) = Z at *
        go_enter Try.func13, Try.ntmps13
        go_wp2_with (go_at_call 24; refine (k _ (by repeat (first | with_reducible exact Adds.refl _ | with_reducible refine Adds.alloc ?_ _ | with_reducible refine Adds.more ?_ _ _ | with_reducible refine Adds.drew ?_ | with_reducible refine Adds.drewN ?_ _))).mono ?_; rintro e w1 ⟨rfl, os1, n1, rfl⟩)
        go_quiet (fail)
        go_wp2_with (first
          | (go_at_call 25; refine (kC _ _ _ _ (by repeat (first | with_reducible exact Adds.refl _ | with_reducible refine Adds.alloc ?_ _ | with_reducible refine Adds.more ?_ _ _ | with_reducible refine Adds.drew ?_ | with_reducible refine Adds.drewN ?_ _)) (by simp [go_sem]) (by first | rfl | simp [*])).mono ?_; rintro e w2 ⟨⟨uo, uc, rfl, HC⟩, os2, n2, rfl⟩)
          | (go_at_call 22; refine (HC.out _ (by repeat (first | with_reducible exact Adds.refl _ | with_reducible refine Adds.alloc ?_ _ | with_reducible refine Adds.more ?_ _ _ | with_reducible refine Adds.drew ?_ | with_reducible refine Adds.drewN ?_ _))).mono ?_; rintro e w3 ⟨⟨v3, rfl, hv3⟩, os3, n3, rfl⟩))
        all_goals
          go_ret
          exact ⟨⟨v3, rfl, by show ∀ w4, _; rw [← HM.out]; have hz := hv3.out; first | exact fun w4 hf => hz w4 (by refine Far.mono hf ?_; (first | omega | (simp only [size_more, World.size_alloc]; omega) | (simp [go_sem] <;> omega))) | (simp only [*] at hz ⊢; exact fun w4 hf => hz w4 (by refine Far.mono hf ?_; (first | omega | (simp only [size_more, World.size_alloc]; omega) | (simp [go_sem] <;> omega)))) | (simp [*] at hz ⊢; exact fun w4 hf => hz w4 (by refine Far.mono hf ?_; (first | omega | (simp only [size_more, World.size_alloc]; omega) | (simp [go_sem] <;> omega))))⟩, (by repeat (first | with_reducible exact Adds.refl _ | with_reducible refine Adds.alloc ?_ _ | with_reducible refine Adds.more ?_ _ _ | with_reducible refine Adds.drew ?_ | with_reducible refine Adds.drewN ?_ _))⟩
      | true =>
        have kC := fun W k T k' S (hA : Adds w W) (hk' : k' = W.heap.size) hk hS => cat_copy (W := W.alloc (.cells #[.string key, .slice vo doc.length vc] 48)) (k := k) (T := T) (s3 := S) hk (hT.adds (hA.alloc _)) (LstR.one hk' (hd.adds hA)) ((hX.out S hS).adds (hA.alloc _)) (by simp; omega) (by
          intro r hr
          rcases List.mem_append.1 hr with hr | hr
          · exact hdr r hr
          · rcases List.mem_append.1 hr with hr | hr
            · have := List.mem_singleton.1 hr
              subst this
              exact hdd
            · exact hds r hr)
        have HM : Hid ((rs.take cap ++ ([((⟨key, doc⟩, .slice vo doc.length vc) : Rn)] ++ rs.drop cap)).map (fun r : Rn => r.1) = (rs.take cap).map (·.1) ++ ((if true then [⟨key, doc⟩] else []) ++ (rs.drop cap).map (·.1))) := by show _ = _; simp
        clear hT hD hR hd6 hd hdr hds hX
        generalize hJ : rs.take cap ++ ([((⟨key, doc⟩, .slice vo doc.length vc) : Rn)] ++ rs.drop cap) = J at *
        clear hJ
        generalize (rs.take cap).map (·.1) ++ ((if true then [⟨key, doc⟩] else []) ++ (rs.drop cap).map (·.1)) = Z at *
        go_enter Try.func13, Try.ntmps13
        go_wp2_with (go_at_call 24; refine (k _ (by repeat (first | with_reducible exact Adds.refl _ | with_reducible refine Adds.alloc ?_ _ | with_reducible refine Adds.more ?_ _ _ | with_reducible refine Adds.drew ?_ | with_reducible refine Adds.drewN ?_ _))).mono ?_; rintro e w1 ⟨rfl, os1, n1, rfl⟩)
        go_quiet (fail)
        go_wp2_with (first
          | (go_at_call 25; refine (kC _ _ _ _ _ (by repeat (first | with_reducible exact Adds.refl _ | with_reducible refine Adds.alloc ?_ _ | with_reducible refine Adds.more ?_ _ _ | with_reducible refine Adds.drew ?_ | with_reducible refine Adds.drewN ?_ _)) (by simp [go_sem]) (by simp [go_sem]) (by first | rfl | simp [*])).mono ?_; rintro e w2 ⟨⟨uo, uc, rfl, HC⟩, os2, n2, rfl⟩)
          | (go_at_call 22; refine (HC.out _ (by repeat (first | with_reducible exact Adds.refl _ | with_reducible refine Adds.alloc ?_ _ | with_reducible refine Adds.more ?_ _ _ | with_reducible refine Adds.drew ?_ | with_reducible refine Adds.drewN ?_ _))).mono ?_; rintro e w3 ⟨⟨v3, rfl, hv3⟩, os3, n3, rfl⟩))
        all_goals
          go_ret
          exact ⟨⟨v3, rfl, by show ∀ w4, _; rw [← HM.out]; have hz := hv3.out; first | exact fun w4 hf => hz w4 (by refine Far.mono hf ?_; (first | omega | (simp only [size_more, World.size_alloc]; omega) | (simp [go_sem] <;> omega))) | (simp only [*] at hz ⊢; exact fun w4 hf => hz w4 (by refine Far.mono hf ?_; (first | omega | (simp only [size_more, World.size_alloc]; omega) | (simp [go_sem] <;> omega)))) | (simp [*] at hz ⊢; exact fun w4 hf => hz w4 (by refine Far.mono hf ?_; (first | omega | (simp only [size_more, World.size_alloc]; omega) | (simp [go_sem] <;> omega))))⟩, (by repeat (first | with_reducible exact Adds.refl _ | with_reducible refine Adds.alloc ?_ _ | with_reducible refine Adds.more ?_ _ _ | with_reducible refine Adds.drew ?_ | with_reducible refine Adds.drewN ?_ _))⟩
  · rw [if_neg hcc] at hD
    cases ao with
    | none =>
      rw [slices_none] at hD
      have hX : Hid (∀ S, S = Value.slice none (rs.length - c) (cap - c) → LstR w S (rs.drop c)) := fun S hS => by rw [hS]; exact hD
      cases has with
      | false =>
        have kC := fun W k T S (hA : Adds w W) hk hS => cat_copy (W := W) (k := k) (T := T) (s3 := S) hk (hT.adds hA) (LstR.none W) ((hX.out S hS).adds hA) (by simp; omega) (by
          intro r hr
          rcases List.mem_append.1 hr with hr | hr
          · exact hdr r hr
          · rw [List.nil_append] at hr
            exact hds r hr)
        have HM : Hid ((rs.take c ++ ([] ++ rs.drop c)).map (fun r : Rn => r.1) = (rs.take c).map (·.1) ++ ((if false then [⟨key, doc⟩] else []) ++ (rs.drop c).map (·.1))) := by show _ = _; simp
        clear hT hD hR hd6 hd hdr hds hX
        generalize hJ : rs.take c ++ ([] ++ rs.drop c) = J at *
        clear hJ
        generalize (rs.take c).map (·.1) ++ ((if false then [⟨key, doc⟩] else []) ++ (rs.drop c).map (·.1)) = Z at *
        go_enter Try.func13, Try.ntmps13
        go_wp2_with (go_at_call 24; refine (k _ (by repeat (first | with_reducible exact Adds.refl _ | with_reducible refine Adds.alloc ?_ _ | with_reducible refine Adds.more ?_ _ _ | with_reducible refine Adds.drew ?_ | with_reducible refine Adds.drewN ?_ _))).mono ?_; rintro e w1 ⟨rfl, os1, n1, rfl⟩)
        go_quiet (fail)
        go_wp2_with (first
          | (go_at_call 25; refine (kC _ _ _ _ (by repeat (first | with_reducible exact Adds.refl _ | with_reducible refine Adds.alloc ?_ _ | with_reducible refine Adds.more ?_ _ _ | with_reducible refine Adds.drew ?_ | with_reducible refine Adds.drewN ?_ _)) (by simp [go_sem]) (by first | rfl | simp [*])).mono ?_; rintro e w2 ⟨⟨uo, uc, rfl, HC⟩, os2, n2, rfl⟩)
          | (go_at_call 22; refine (HC.out _ (by repeat (first | with_reducible exact Adds.refl _ | with_reducible refine Adds.alloc ?_ _ | with_reducible refine Adds.more ?_ _ _ | with_reducible refine Adds.drew ?_ | with_reducible refine Adds.drewN ?_ _))).mono ?_; rintro e w3 ⟨⟨v3, rfl, hv3⟩, os3, n3, rfl⟩))
        all_goals
          go_ret
          exact ⟨⟨v3, rfl, by show ∀ w4, _; rw [← HM.out]; have hz := hv3.out; first | exact fun w4 hf => hz w4 (by refine Far.mono hf ?_; (first | omega | (simp only [size_more, World.size_alloc]; omega) | (simp [go_sem] <;> omega))) | (simp only [*] at hz ⊢; exact fun w4 hf => hz w4 (by refine Far.mono hf ?_; (first | omega | (simp only [size_more, World.size_alloc]; omega) | (simp [go_sem] <;> omega)))) | (simp [*] at hz ⊢; exact fun w4 hf => hz w4 (by refine Far.mono hf ?_; (first | omega | (simp only [size_more, World.size_alloc]; omega) | (simp [go_sem] <;> omega))))⟩, (by repeat (first | with_reducible exact Adds.refl _ | with_reducible refine Adds.alloc ?_ _ | with_reducible refine Adds.more ?_ _ _ | with_reducible refine Adds.drew ?_ | with_reducible refine Adds.drewN ?_ _))⟩
      | true =>
        have kC := fun W k T k' S (hA : Adds w W) (hk' : k' = W.heap.size) hk hS => cat_copy (W := W.alloc (.cells #[.string key, .slice vo doc.length vc] 48)) (k := k) (T := T) (s3 := S) hk (hT.adds (hA.alloc _)) (LstR.one hk' (hd.adds hA)) ((hX.out S hS).adds (hA.alloc _)) (by simp; omega) (by
          intro r hr
          rcases List.mem_append.1 hr with hr | hr
          · exact hdr r hr
          · rcases List.mem_append.1 hr with hr | hr
            · have := List.mem_singleton.1 hr
              subst this
              exact hdd
            · exact hds r hr)
        have HM : Hid ((rs.take c ++ ([((⟨key, doc⟩, .slice vo doc.length vc) : Rn)] ++ rs.drop c)).map (fun r : Rn => r.1) = (rs.take c).map (·.1) ++ ((if true then [⟨key, doc⟩] else []) ++ (rs.drop c).map (·.1))) := by show _ = _; simp
        clear hT hD hR hd6 hd hdr hds hX
        generalize hJ : rs.take c ++ ([((⟨key, doc⟩, .slice vo doc.length vc) : Rn)] ++ rs.drop c) = J at *
        clear hJ
        generalize (rs.take c).map (·.1) ++ ((if true then [⟨key, doc⟩] else []) ++ (rs.drop c).map (·.1)) = Z at *
        go_enter Try.func13, Try.ntmps13
        go_wp2_with (go_at_call 24; refine (k _ (by repeat (first | with_reducible exact Adds.refl _ | with_reducible refine Adds.alloc ?_ _ | with_reducible refine Adds.more ?_ _ _ | with_reducible refine Adds.drew ?_ | with_reducible refine Adds.drewN ?_ _))).mono ?_; rintro e w1 ⟨rfl, os1, n1, rfl⟩)
        go_quiet (fail)
        go_wp2_with (first
          | (go_at_call 25; refine (kC _ _ _ _ _ (by repeat (first | with_reducible exact Adds.refl _ | with_reducible refine Adds.alloc ?_ _ | with_reducible refine Adds.more ?_ _ _ | with_reducible refine Adds.drew ?_ | with_reducible refine Adds.drewN ?_ _)) (by simp [go_sem]) (by simp [go_sem]) (by first | rfl | simp [*])).mono ?_; rintro e w2 ⟨⟨uo, uc, rfl, HC⟩, os2, n2, rfl⟩)
          | (go_at_call 22; refine (HC.out _ (by repeat (first | with_reducible exact Adds.refl _ | with_reducible refine Adds.alloc ?_ _ | with_reducible refine Adds.more ?_ _ _ | with_reducible refine Adds.drew ?_ | with_reducible refine Adds.drewN ?_ _))).mono ?_; rintro e w3 ⟨⟨v3, rfl, hv3⟩, os3, n3, rfl⟩))
        all_goals
          go_ret
          exact ⟨⟨v3, rfl, by show ∀ w4, _; rw [← HM.out]; have hz := hv3.out; first | exact fun w4 hf => hz w4 (by refine Far.mono hf ?_; (first | omega | (simp only [size_more, World.size_alloc]; omega) | (simp [go_sem] <;> omega))) | (simp only [*] at hz ⊢; exact fun w4 hf => hz w4 (by refine Far.mono hf ?_; (first | omega | (simp only [size_more, World.size_alloc]; omega) | (simp [go_sem] <;> omega)))) | (simp [*] at hz ⊢; exact fun w4 hf => hz w4 (by refine Far.mono hf ?_; (first | omega | (simp only [size_more, World.size_alloc]; omega) | (simp [go_sem] <;> omega))))⟩, (by repeat (first | with_reducible exact Adds.refl _ | with_reducible refine Adds.alloc ?_ _ | with_reducible refine Adds.more ?_ _ _ | with_reducible refine Adds.drew ?_ | with_reducible refine Adds.drewN ?_ _))⟩
    | some a =>
      rw [Option.map_some] at hD
      have hX : Hid (∀ S, S = Value.slice (some (a.add (c * 2))) (rs.length - c) (cap - c) → LstR w S (rs.drop c)) := fun S hS => by rw [hS]; exact hD
      cases has with
      | false =>
        have kC := fun W k T S (hA : Adds w W) hk hS => cat_copy (W := W) (k := k) (T := T) (s3 := S) hk (hT.adds hA) (LstR.none W) ((hX.out S hS).adds hA) (by simp; omega) (by
          intro r hr
          rcases List.mem_append.1 hr with hr | hr
          · exact hdr r hr
          · rw [List.nil_append] at hr
            exact hds r hr)
        have HM : Hid ((rs.take c ++ ([] ++ rs.drop c)).map (fun r : Rn => r.1) = (rs.take c).map (·.1) ++ ((if false then [⟨key, doc⟩] else []) ++ (rs.drop c).map (·.1))) := by show _ = _; simp
        clear hT hD hR hd6 hd hdr hds hX
        generalize hJ : rs.take c ++ ([] ++ rs.drop c) = J at *
        clear hJ
        generalize (rs.take c).map (·.1) ++ ((if false then [⟨key, doc⟩] else []) ++ (rs.drop c).map (·.1)) = Z at *
        go_enter Try.func13, Try.ntmps13
        go_wp2_with (go_at_call 24; refine (k _ (by repeat (first | with_reducible exact Adds.refl _ | with_reducible refine Adds.alloc ?_ _ | with_reducible refine Adds.more ?_ _ _ | with_reducible refine Adds.drew ?_ | with_reducible refine Adds.drewN ?_ _))).mono ?_; rintro e w1 ⟨rfl, os1, n1, rfl⟩)
        go_quiet (fail)
        go_wp2_with (first
          | (go_at_call 25; refine (kC _ _ _ _ (by repeat (first | with_reducible exact Adds.refl _ | with_reducible refine Adds.alloc ?_ _ | with_reducible refine Adds.more ?_ _ _ | with_reducible refine Adds.drew ?_ | with_reducible refine Adds.drewN ?_ _)) (by simp [go_sem]) (by first | rfl | simp [*])).mono ?_; rintro e w2 ⟨⟨uo, uc, rfl, HC⟩, os2, n2, rfl⟩)
          | (go_at_call 22; refine (HC.out _ (by repeat (first | with_reducible exact Adds.refl _ | with_reducible refine Adds.alloc ?_ _ | with_reducible refine Adds.more ?_ _ _ | with_reducible refine Adds.drew ?_ | with_reducible refine Adds.drewN ?_ _))).mono ?_; rintro e w3 ⟨⟨v3, rfl, hv3⟩, os3, n3, rfl⟩))
        all_goals
          go_ret
          exact ⟨⟨v3, rfl, by show ∀ w4, _; rw [← HM.out]; have hz := hv3.out; first | exact fun w4 hf => hz w4 (by refine Far.mono hf ?_; (first | omega | (simp only [size_more, World.size_alloc]; omega) | (simp [go_sem] <;> omega))) | (simp only [*] at hz ⊢; exact fun w4 hf => hz w4 (by refine Far.mono hf ?_; (first | omega | (simp only [size_more, World.size_alloc]; omega) | (simp [go_sem] <;> omega)))) | (simp [*] at hz ⊢; exact fun w4 hf => hz w4 (by refine Far.mono hf ?_; (first | omega | (simp only [size_more, World.size_alloc]; omega) | (simp [go_sem] <;> omega))))⟩, (by repeat (first | with_reducible exact Adds.refl _ | with_reducible refine Adds.alloc ?_ _ | with_reducible refine Adds.more ?_ _ _ | with_reducible refine Adds.drew ?_ | with_reducible refine Adds.drewN ?_ _))⟩
      | true =>
        have kC := fun W k T k' S (hA : Adds w W) (hk' : k' = W.heap.size) hk hS => cat_copy (W := W.alloc (.cells #[.string key, .slice vo doc.length vc] 48)) (k := k) (T := T) (s3 := S) hk (hT.adds (hA.alloc _)) (LstR.one hk' (hd.adds hA)) ((hX.out S hS).adds (hA.alloc _)) (by simp; omega) (by
          intro r hr
          rcases List.mem_append.1 hr with hr | hr
          · exact hdr r hr
          · rcases List.mem_append.1 hr with hr | hr
            · have := List.mem_singleton.1 hr
              subst this
              exact hdd
            · exact hds r hr)
        have HM : Hid ((rs.take c ++ ([((⟨key, doc⟩, .slice vo doc.length vc) : Rn)] ++ rs.drop c)).map (fun r : Rn => r.1) = (rs.take c).map (·.1) ++ ((if true then [⟨key, doc⟩] else []) ++ (rs.drop c).map (·.1))) := by show _ = _; simp
        clear hT hD hR hd6 hd hdr hds hX
        generalize hJ : rs.take c ++ ([((⟨key, doc⟩, .slice vo doc.length vc) : Rn)] ++ rs.drop c) = J at *
        clear hJ
        generalize (rs.take c).map (·.1) ++ ((if true then [⟨key, doc⟩] else []) ++ (rs.drop c).map (·.1)) = Z at *
        go_enter Try.func13, Try.ntmps13
        go_wp2_with (go_at_call 24; refine (k _ (by repeat (first | with_reducible exact Adds.refl _ | with_reducible refine Adds.alloc ?_ _ | with_reducible refine Adds.more ?_ _ _ | with_reducible refine Adds.drew ?_ | with_reducible refine Adds.drewN ?_ _))).mono ?_; rintro e w1 ⟨rfl, os1, n1, rfl⟩)
        go_quiet (fail)
        go_wp2_with (first
          | (go_at_call 25; refine (kC _ _ _ _ _ (by repeat (first | with_reducible exact Adds.refl _ | with_reducible refine Adds.alloc ?_ _ | with_reducible refine Adds.more ?_ _ _ | with_reducible refine Adds.drew ?_ | with_reducible refine Adds.drewN ?_ _)) (by simp [go_sem]) (by simp [go_sem]) (by first | rfl | simp [*])).mono ?_; rintro e w2 ⟨⟨uo, uc, rfl, HC⟩, os2, n2, rfl⟩)
          | (go_at_call 22; refine (HC.out _ (by repeat (first | with_reducible exact Adds.refl _ | with_reducible refine Adds.alloc ?_ _ | with_reducible refine Adds.more ?_ _ _ | with_reducible refine Adds.drew ?_ | with_reducible refine Adds.drewN ?_ _))).mono ?_; rintro e w3 ⟨⟨v3, rfl, hv3⟩, os3, n3, rfl⟩))
        all_goals
          go_ret
          exact ⟨⟨v3, rfl, by show ∀ w4, _; rw [← HM.out]; have hz := hv3.out; first | exact fun w4 hf => hz w4 (by refine Far.mono hf ?_; (first | omega | (simp only [size_more, World.size_alloc]; omega) | (simp [go_sem] <;> omega))) | (simp only [*] at hz ⊢; exact fun w4 hf => hz w4 (by refine Far.mono hf ?_; (first | omega | (simp only [size_more, World.size_alloc]; omega) | (simp [go_sem] <;> omega)))) | (simp [*] at hz ⊢; exact fun w4 hf => hz w4 (by refine Far.mono hf ?_; (first | omega | (simp only [size_more, World.size_alloc]; omega) | (simp [go_sem] <;> omega))))⟩, (by repeat (first | with_reducible exact Adds.refl _ | with_reducible refine Adds.alloc ?_ _ | with_reducible refine Adds.more ?_ _ _ | with_reducible refine Adds.drew ?_ | with_reducible refine Adds.drewN ?_ _))⟩

theorem shopFold_any (s : Value) (ds : List Dn) (pos : Int) (key : ByteArray) (has : Bool) (dv : Value) (doc : List F) (w : World) (h : LstD w s ds) (hd : Lst w dv doc) (hle : ds.length ≤ 500) (hr : Risen ds) (hd6 : ∀ d ∈ ds, d.doc.length ≤ 1000) (hdd : doc.length ≤ 1000) :
    Calls Try.prog 13 #[s, .agg #[.int .i64 pos, .string key, .bool has, dv]] w fun e w' => (∃ v, e = .returned v ∧ Hid (∀ w4, Far w.heap.size w' w4 → LstD w4 v (foldS ds key has doc))) ∧ Adds w w' := by
  have k := fun W (hA : Adds w W) => find_any s ds key W (h.adds hA) (by omega) hr
  obtain ⟨rs, hm, hR⟩ := h.rows
  have hR0 := hR
  obtain ⟨⟨ao, cap, rfl, hcap, hx⟩, _⟩ := hR0
  have hlen : rs.length = ds.length := by rw [← hm, List.length_map]
  have hcl := cutAt_le key ds
  have hrd : ∀ r ∈ rs, r.1.doc.length ≤ 1000 := fun r hrm => hd6 r.1 (by rw [← hm]; exact List.mem_map_of_mem hrm)
  have hd0 := hd
  obtain ⟨vo, vc, rfl, _, _⟩ := hd0
  have hd' := hd
  cases hh : hasAt key ds with
  | true =>
    have hlt := hasAt_lt hh
    rw [hh] at k
    have hf : foldS ds key has doc = (rs.take (cutAt key ds)).map (·.1) ++ ((if has then [⟨key, doc⟩] else []) ++ (rs.drop (cutAt key ds + 1)).map (·.1)) := by
      unfold foldS
      rw [hh, List.map_take, List.map_drop, hm]
      simp
    rw [hf]
    rcases hx with hx | ⟨b, off, rfl, hb, _⟩
    · rw [hx] at hlen
      simp at hlen
      omega
    · exact fold_has b off cap (cutAt key ds) rs pos key has vo vc doc w hR hcap (by omega) hd' (by omega) hrd hdd k
  | false =>
    rw [hh] at k
    have hf : foldS ds key has doc = (rs.take (cutAt key ds)).map (·.1) ++ ((if has then [⟨key, doc⟩] else []) ++ (rs.drop (cutAt key ds)).map (·.1)) := by
      unfold foldS
      rw [hh, List.map_take, List.map_drop, hm]
      simp
    rw [hf]
    exact fold_not ao cap (cutAt key ds) rs pos key has vo vc doc w hR hcap (by omega) hd' (by omega) hrd hdd k

end Go.Proofs.Ytgnhkpihlghbmaa
