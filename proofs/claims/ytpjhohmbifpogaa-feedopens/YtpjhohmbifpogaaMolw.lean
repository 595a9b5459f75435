/-
  The law of what is opened twice: FeedOpens returns true, whatever the input. The law of what is opened twice: FeedOpens returns true, whatever the input.
-/
import Derived.Test.YtpjhohmbifpogaaMpur
import Derived.Test.YtpjhohmbifpogaaRdf
import Derived.Test.YtpjhohmbifpogaaRlw
namespace Go.Proofs.Ytpjhohmbifpogaa
open Go.RowKit
attribute [local go_sem] cell?_more frozen?_more setCell_more size_more tape_more drew_more drewN_more more_drew more_drewN one_out plus_out plus_end lt_one le_p2 le_p3 le_p4 le_p5 le_p6 le_p7 le_p8 le_p9 le_p10 le_p11 le_p12 le_p13 le_p14 le_p15 le_p16 le_p17 le_p18 le_p19 le_p20 le_p21 le_p22 le_p23 le_p24 le_q0 le_q1 lt_q1 le_q2 lt_q2 le_q3 lt_q3 le_q4 lt_q4 le_q5 lt_q5 le_q6 lt_q6 le_q7 lt_q7 le_q8 lt_q8 le_q9 lt_q9 le_q10 lt_q10 le_q11 lt_q11 le_q12 lt_q12 le_q13 lt_q13 le_q14 lt_q14 le_q15 lt_q15 le_q16 lt_q16 le_q17 lt_q17 le_q18 lt_q18 le_q19 lt_q19 le_q20 lt_q20 le_q21 lt_q21 le_q22 lt_q22 le_q23 lt_q23 le_q24 lt_q24

theorem cut_ins {sb : List Sb} {lo hi pos : Int} {name : ByteArray} (hS : Subsc sb lo hi) (hk : isKey name = true) (hn : hasAt name sb = false) (h8 : sb.length < 8) (h0 : lo ≤ pos) (h1 : pos ≤ hi) :
    cutAt name (insS name pos sb) = cutAt name sb ∧ hasAt name (insS name pos sb) = true ∧ (insS name pos sb)[cutAt name sb]? = some ⟨name, pos⟩ := by
  have hI := subsc_ins hS hk hn h8 h0 h1
  have hc := cutAt_le name sb
  have hg : (insS name pos sb)[cutAt name sb]? = some ⟨name, pos⟩ := by
    unfold insS
    rw [List.getElem?_append_right (by rw [List.length_take]; omega), List.length_take, Nat.min_eq_left hc, Nat.sub_self]
    rfl
  have hlt : cutAt name sb < (insS name pos sb).length := by rw [insS_length]; omega
  have he : (insS name pos sb)[cutAt name sb] = ⟨name, pos⟩ := by
    rw [List.getElem?_eq_getElem hlt] at hg
    exact Option.some.inj hg
  have := cut_at (p := name) (subsc_less hI) hlt (by rw [he])
  exact ⟨this.1, this.2, hg⟩

theorem del_ins {sb : List Sb} {pos : Int} {name : ByteArray} : (insS name pos sb).take (cutAt name sb) ++ (insS name pos sb).drop (cutAt name sb + 1) = sb := by
  have hc := cutAt_le name sb
  have h1 : (sb.take (cutAt name sb)).length = cutAt name sb := by rw [List.length_take]; omega
  unfold insS
  rw [List.take_append_of_le_length (by omega), List.take_of_length_le (by omega), List.drop_append, List.drop_of_length_le (by omega), h1, Nat.add_sub_cancel_left]
  simp

set_option maxHeartbeats 4000000 in
set_option maxRecDepth 20000 in
theorem feedOpens_great (v : Value) (f : Fd) (name : ByteArray) (pos : Int) (w : World) (h : LstF w v f) (hL : ¬ (LightF f ∧ name.size ≤ 200)) :
    Calls Try.prog 7 #[v, .string name, .int .i64 pos] w fun e w' => e = .returned (.bool true) ∧ Adds w w' := by
  have kL := fun w' (hA : Adds w w') => light_any v f w' (h.adds hA)
  have kA := fun w' => awake_any w'
  obtain ⟨s, t, rfl, hs, ht⟩ := h
  by_cases hf : LightF f
  · have h2 : (200 : Int) < (name.size : Int) := by
      have : ¬ name.size ≤ 200 := fun h => hL ⟨hf, h⟩
      omega
    rw [decide_eq_true hf] at kL
    clear hL hf hs ht
    go_enter Try.func7, Try.ntmps7
    go_wp2_with (first
      | (go_at_call 8; refine (kL _ (by repeat (first | with_reducible exact Adds.refl _ | with_reducible refine Adds.alloc ?_ _ | with_reducible refine Adds.more ?_ _ _ | with_reducible refine Adds.drew ?_ | with_reducible refine Adds.drewN ?_ _))).mono ?_; rintro e w1 ⟨rfl, os1, n1, rfl⟩)
      | (go_at_call 10; refine (kA _).mono ?_; rintro e w2 ⟨rfl, os2, n2, rfl⟩))
    go_ret
    exact ⟨rfl, (by repeat (first | with_reducible exact Adds.refl _ | with_reducible refine Adds.alloc ?_ _ | with_reducible refine Adds.more ?_ _ _ | with_reducible refine Adds.drew ?_ | with_reducible refine Adds.drewN ?_ _))⟩
  · rw [decide_eq_false hf] at kL
    clear hL hf hs ht
    go_enter Try.func7, Try.ntmps7
    go_wp2_with (first
      | (go_at_call 8; refine (kL _ (by repeat (first | with_reducible exact Adds.refl _ | with_reducible refine Adds.alloc ?_ _ | with_reducible refine Adds.more ?_ _ _ | with_reducible refine Adds.drew ?_ | with_reducible refine Adds.drewN ?_ _))).mono ?_; rintro e w1 ⟨rfl, os1, n1, rfl⟩)
      | (go_at_call 10; refine (kA _).mono ?_; rintro e w2 ⟨rfl, os2, n2, rfl⟩))
    go_ret
    exact ⟨rfl, (by repeat (first | with_reducible exact Adds.refl _ | with_reducible refine Adds.alloc ?_ _ | with_reducible refine Adds.more ?_ _ _ | with_reducible refine Adds.drew ?_ | with_reducible refine Adds.drewN ?_ _))⟩

set_option maxHeartbeats 4000000 in
set_option maxRecDepth 20000 in
theorem feedOpens_err (v : Value) (f : Fd) (name : ByteArray) (pos : Int) (w : World) (h : LstF w v f) (hL : LightF f) (h2 : name.size ≤ 200) (g : Fd) (n m : Nat) (c : Int) (hc : c ≠ 0) (kO : TellsG 18 #[v, .string name, .int .i64 pos] g n m c w) :
    Calls Try.prog 7 #[v, .string name, .int .i64 pos] w fun e w' => e = .returned (.bool true) ∧ Adds w w' := by
  have kL := fun w' (hA : Adds w w') => light_any v f w' (h.adds hA)
  rw [decide_eq_true hL] at kL
  have kA := fun w' => awake_any w'
  unfold TellsG at kO
  obtain ⟨s, t, rfl, hs, ht⟩ := h
  have h2' : ¬ (200 : Int) < (name.size : Int) := by omega
  have hc' : (c != 0) = true := by simpa using hc
  clear hL hs ht h2 hc
  go_enter Try.func7, Try.ntmps7
  go_wp2_with (first
    | (go_at_call 8; refine (kL _ (by repeat (first | with_reducible exact Adds.refl _ | with_reducible refine Adds.alloc ?_ _ | with_reducible refine Adds.more ?_ _ _ | with_reducible refine Adds.drew ?_ | with_reducible refine Adds.drewN ?_ _))).mono ?_; rintro e w1 ⟨rfl, os1, n1, rfl⟩)
    | (go_at_call 18; refine (kO _ (by repeat (first | with_reducible exact Adds.refl _ | with_reducible refine Adds.alloc ?_ _ | with_reducible refine Adds.more ?_ _ _ | with_reducible refine Adds.drew ?_ | with_reducible refine Adds.drewN ?_ _))).mono ?_; rintro e w3 ⟨⟨v3, x3, u3, y3, rfl, H3⟩, os3, n3, rfl⟩)
    | (go_at_call 10; refine (kA _).mono ?_; rintro e w2 ⟨rfl, os2, n2, rfl⟩))
  go_ret
  exact ⟨rfl, (by repeat (first | with_reducible exact Adds.refl _ | with_reducible refine Adds.alloc ?_ _ | with_reducible refine Adds.more ?_ _ _ | with_reducible refine Adds.drew ?_ | with_reducible refine Adds.drewN ?_ _))⟩

set_option maxHeartbeats 4000000 in
set_option maxRecDepth 20000 in
theorem feedOpens_walk (v : Value) (f : Fd) (name : ByteArray) (pos : Int) (w : World) (h : LstF w v f) (hL : LightF f) (h2 : name.size ≤ 200) (g : Fd) (n m : Nat) (kO : TellsG 18 #[v, .string name, .int .i64 pos] g n m 0 w)
    (k2 : ∀ v W, LstF W v g → Calls Try.prog 18 #[v, .string name, .int .i64 pos] W fun e w' => (∃ a b p vo q vc uo r uc, e = .returned (.tuple #[.agg #[.int .i64 a, .int .i64 b, .slice vo q vc, .slice uo r uc], .int .i64 p]) ∧ p = 11) ∧ Adds W w')
    (q : Nat) (k3 : ∀ v W, LstF W v g → Calls Try.prog 20 #[v, .string name] W fun e w' => (∃ vo vc uo uc, e = .returned (.tuple #[.agg #[.int .i64 f.base, .int .i64 f.total, .slice vo f.ch.length vc, .slice uo q uc], .int .i64 0]) ∧ Hid (LstF w' (.agg #[.int .i64 f.base, .int .i64 f.total, .slice vo f.ch.length vc, .slice uo q uc]) f)) ∧ Adds W w')
    (L : Nat) (k4 : ∀ v W, LstF W v g → Calls Try.prog 26 #[v, .string name, .int .i64 16] W fun e w' => (∃ vo vc, e = .returned (.tuple #[.slice vo L vc, .int .i64 pos, .int .i64 0])) ∧ Adds W w')
    (k5 : ∀ W v', Adds w W → LstF W v' f → Calls Try.prog 17 #[v', v] W fun e w' => e = .returned (.bool true) ∧ Adds W w')
    (hp0 : 0 ≤ f.total) (hp1 : f.total ≤ 2147483647) (hp2 : 0 ≤ pos) (hp3 : pos ≤ f.total) (hl1 : (L : Int) ≤ f.total - pos) (hl2 : (L : Int) = f.total - pos ∨ L = 16) :
    Calls Try.prog 7 #[v, .string name, .int .i64 pos] w fun e w' => e = .returned (.bool true) ∧ Adds w w' := by
  have kL := fun w' (hA : Adds w w') => light_any v f w' (h.adds hA)
  rw [decide_eq_true hL] at kL
  have kA := fun w' => awake_any w'
  unfold TellsG at kO
  obtain ⟨s, t, rfl, hs, ht⟩ := h
  obtain ⟨base, total, ch, sb⟩ := f
  simp only at *
  have h2' : ¬ (200 : Int) < (name.size : Int) := by omega
  have hw : IntKind.i64.wrap (total - pos) = total - pos := by rw [IntKind.wrap_i64]; omega
  clear hL hs ht h2
  by_cases hE : (L : Int) = total - pos
  · have hE' : ((L : Int) == total - pos) = true := by simpa using hE
    have HE : Hid _ := hE
    clear hl2 hE
    go_enter Try.func7, Try.ntmps7
    go_wp2_with (first
      | (go_at_call 8; refine (kL _ (by repeat (first | with_reducible exact Adds.refl _ | with_reducible refine Adds.alloc ?_ _ | with_reducible refine Adds.more ?_ _ _ | with_reducible refine Adds.drew ?_ | with_reducible refine Adds.drewN ?_ _))).mono ?_; rintro e w1 ⟨rfl, os1, n1, rfl⟩; clear kL)
      | (go_at_call 18; refine (kO _ (by repeat (first | with_reducible exact Adds.refl _ | with_reducible refine Adds.alloc ?_ _ | with_reducible refine Adds.more ?_ _ _ | with_reducible refine Adds.drew ?_ | with_reducible refine Adds.drewN ?_ _))).mono ?_; rintro e w3 ⟨⟨v3, x3, u3, y3, rfl, H3⟩, os3, n3, rfl⟩; clear kO)
      | (go_at_call 18; refine (k2 _ _ (LstF.adds H3.out (by repeat (first | with_reducible exact Adds.refl _ | with_reducible refine Adds.alloc ?_ _ | with_reducible refine Adds.more ?_ _ _ | with_reducible refine Adds.drew ?_ | with_reducible refine Adds.drewN ?_ _)))).mono ?_; rintro e w4 ⟨⟨a4, b4, c4, v4, q4, x4, u4, r4, y4, rfl, rfl⟩, os4, n4, rfl⟩; clear k2)
      | (go_at_call 20; refine (k3 _ _ (LstF.adds H3.out (by repeat (first | with_reducible exact Adds.refl _ | with_reducible refine Adds.alloc ?_ _ | with_reducible refine Adds.more ?_ _ _ | with_reducible refine Adds.drew ?_ | with_reducible refine Adds.drewN ?_ _)))).mono ?_; rintro e w5 ⟨⟨v5, x5, u5, y5, rfl, H5⟩, os5, n5, rfl⟩)
      | (go_at_call 26; refine (k4 _ _ (LstF.adds H3.out (by repeat (first | with_reducible exact Adds.refl _ | with_reducible refine Adds.alloc ?_ _ | with_reducible refine Adds.more ?_ _ _ | with_reducible refine Adds.drew ?_ | with_reducible refine Adds.drewN ?_ _)))).mono ?_; rintro e w6 ⟨⟨v6, x6, rfl⟩, os6, n6, rfl⟩)
      | (go_at_call 17; refine (k5 _ _ (by repeat (first | with_reducible exact Adds.refl _ | with_reducible refine Adds.alloc ?_ _ | with_reducible refine Adds.more ?_ _ _ | with_reducible refine Adds.drew ?_ | with_reducible refine Adds.drewN ?_ _)) (LstF.adds H5.out (by repeat (first | with_reducible exact Adds.refl _ | with_reducible refine Adds.alloc ?_ _ | with_reducible refine Adds.more ?_ _ _ | with_reducible refine Adds.drew ?_ | with_reducible refine Adds.drewN ?_ _)))).mono ?_; rintro e w7 ⟨rfl, os7, n7, rfl⟩)
      | (go_at_call 10; refine (kA _).mono ?_; rintro e w2 ⟨rfl, os2, n2, rfl⟩))
    go_ret
    exact ⟨rfl, (by repeat (first | with_reducible exact Adds.refl _ | with_reducible refine Adds.alloc ?_ _ | with_reducible refine Adds.more ?_ _ _ | with_reducible refine Adds.drew ?_ | with_reducible refine Adds.drewN ?_ _))⟩
  · have hL6 : L = 16 := by
      rcases hl2 with h | h
      · exact absurd h hE
      · exact h
    subst hL6
    have hE' : ((16 : Int) == total - pos) = false := by simpa using hE
    clear hl2
    go_enter Try.func7, Try.ntmps7
    go_wp2_with (first
      | (go_at_call 8; refine (kL _ (by repeat (first | with_reducible exact Adds.refl _ | with_reducible refine Adds.alloc ?_ _ | with_reducible refine Adds.more ?_ _ _ | with_reducible refine Adds.drew ?_ | with_reducible refine Adds.drewN ?_ _))).mono ?_; rintro e w1 ⟨rfl, os1, n1, rfl⟩; clear kL)
      | (go_at_call 18; refine (kO _ (by repeat (first | with_reducible exact Adds.refl _ | with_reducible refine Adds.alloc ?_ _ | with_reducible refine Adds.more ?_ _ _ | with_reducible refine Adds.drew ?_ | with_reducible refine Adds.drewN ?_ _))).mono ?_; rintro e w3 ⟨⟨v3, x3, u3, y3, rfl, H3⟩, os3, n3, rfl⟩; clear kO)
      | (go_at_call 18; refine (k2 _ _ (LstF.adds H3.out (by repeat (first | with_reducible exact Adds.refl _ | with_reducible refine Adds.alloc ?_ _ | with_reducible refine Adds.more ?_ _ _ | with_reducible refine Adds.drew ?_ | with_reducible refine Adds.drewN ?_ _)))).mono ?_; rintro e w4 ⟨⟨a4, b4, c4, v4, q4, x4, u4, r4, y4, rfl, rfl⟩, os4, n4, rfl⟩; clear k2)
      | (go_at_call 20; refine (k3 _ _ (LstF.adds H3.out (by repeat (first | with_reducible exact Adds.refl _ | with_reducible refine Adds.alloc ?_ _ | with_reducible refine Adds.more ?_ _ _ | with_reducible refine Adds.drew ?_ | with_reducible refine Adds.drewN ?_ _)))).mono ?_; rintro e w5 ⟨⟨v5, x5, u5, y5, rfl, H5⟩, os5, n5, rfl⟩)
      | (go_at_call 26; refine (k4 _ _ (LstF.adds H3.out (by repeat (first | with_reducible exact Adds.refl _ | with_reducible refine Adds.alloc ?_ _ | with_reducible refine Adds.more ?_ _ _ | with_reducible refine Adds.drew ?_ | with_reducible refine Adds.drewN ?_ _)))).mono ?_; rintro e w6 ⟨⟨v6, x6, rfl⟩, os6, n6, rfl⟩)
      | (go_at_call 17; refine (k5 _ _ (by repeat (first | with_reducible exact Adds.refl _ | with_reducible refine Adds.alloc ?_ _ | with_reducible refine Adds.more ?_ _ _ | with_reducible refine Adds.drew ?_ | with_reducible refine Adds.drewN ?_ _)) (LstF.adds H5.out (by repeat (first | with_reducible exact Adds.refl _ | with_reducible refine Adds.alloc ?_ _ | with_reducible refine Adds.more ?_ _ _ | with_reducible refine Adds.drew ?_ | with_reducible refine Adds.drewN ?_ _)))).mono ?_; rintro e w7 ⟨rfl, os7, n7, rfl⟩)
      | (go_at_call 10; refine (kA _).mono ?_; rintro e w2 ⟨rfl, os2, n2, rfl⟩))
    go_ret
    exact ⟨rfl, (by repeat (first | with_reducible exact Adds.refl _ | with_reducible refine Adds.alloc ?_ _ | with_reducible refine Adds.more ?_ _ _ | with_reducible refine Adds.drew ?_ | with_reducible refine Adds.drewN ?_ _))⟩

end Go.Proofs.Ytpjhohmbifpogaa

namespace Go.Proofs.Ytpjhohmbifpogaa
open Go.RowKit
attribute [local go_sem] cell?_more frozen?_more setCell_more size_more tape_more drew_more drewN_more more_drew more_drewN one_out plus_out plus_end lt_one le_p2 le_p3 le_p4 le_p5 le_p6 le_p7 le_p8 le_p9 le_p10 le_p11 le_p12 le_p13 le_p14 le_p15 le_p16 le_p17 le_p18 le_p19 le_p20 le_p21 le_p22 le_p23 le_p24 le_q0 le_q1 lt_q1 le_q2 lt_q2 le_q3 lt_q3 le_q4 lt_q4 le_q5 lt_q5 le_q6 lt_q6 le_q7 lt_q7 le_q8 lt_q8 le_q9 lt_q9 le_q10 lt_q10 le_q11 lt_q11 le_q12 lt_q12 le_q13 lt_q13 le_q14 lt_q14 le_q15 lt_q15 le_q16 lt_q16 le_q17 lt_q17 le_q18 lt_q18 le_q19 lt_q19 le_q20 lt_q20 le_q21 lt_q21 le_q22 lt_q22 le_q23 lt_q23 le_q24 lt_q24

theorem feedOpens_any (v : Value) (f : Fd) (name : ByteArray) (pos : Int) (w : World) (h : LstF w v f) :
    Calls Try.prog 7 #[v, .string name, .int .i64 pos] w fun e w' => e = .returned (.bool true) ∧ Adds w w' := by
  by_cases hL : LightF f ∧ name.size ≤ 200
  rotate_left
  · exact feedOpens_great v f name pos w h hL
  obtain ⟨hL, h2⟩ := hL
  have hc : f.ch.length ≤ 1000 := Nat.le_trans hL.1.1 (by omega)
  have hd := lightC_doc hL.1
  by_cases hM : MayF f
  rotate_left
  · refine feedOpens_err v f name pos w h hL h2 ⟨0, 0, [], []⟩ 0 0 1 (by decide) ?_
    intro W hA
    refine (open_bad v f name pos W (h.adds hA) hc hM).mono ?_
    rintro e w' ⟨rfl, hA'⟩
    exact ⟨⟨none, 0, none, 0, rfl, lstF_zero w'⟩, hA'⟩
  obtain ⟨g, n, m, c, ⟨kO, _, Mg, lg, dg⟩, hz⟩ := opens_both v f name pos w h hM hc hd
  by_cases hc0 : c = 0
  rotate_left
  · exact feedOpens_err v f name pos w h hL h2 g n m c hc0 kO
  subst hc0
  obtain ⟨hk, hp0, hp1, hn, rfl⟩ := hz rfl
  have hb0 : 0 ≤ f.base := hM.1
  have hS := hM.2.2.2.2.2
  have h8 : f.sb.length < 8 := by
    have h9 : (insS name pos f.sb).length ≤ 8 := Mg.2.2.2.2.2.1
    rw [insS_length] at h9
    omega
  obtain ⟨i1, i2, i3⟩ := cut_ins hS hk hn h8 hp0 hp1
  have hlt : cutAt name f.sb < (insS name pos f.sb).length := by rw [insS_length]; have := cutAt_le name f.sb; omega
  have i4 : (insS name pos f.sb)[cutAt name f.sb] = ⟨name, pos⟩ := by
    rw [List.getElem?_eq_getElem hlt] at i3
    exact Option.some.inj i3
  obtain ⟨k, hkp⟩ : ∃ k : Nat, pos - f.base = (k : Int) := ⟨(pos - f.base).toNat, by omega⟩
  have hcl : (f.ch.length : Int) = f.total - f.base := hM.2.2.2.1
  have hLn : (cutC f.ch k 16).length = min 16 (f.ch.length - k) := by simp [cutC]
  refine feedOpens_walk v f name pos w h hL h2 ⟨f.base, f.total, f.ch, insS name pos f.sb⟩ n m kO ?_ ((insS name pos f.sb).length - 1) ?_ (cutC f.ch k 16).length ?_ ?_ (Int.le_trans hM.1 hM.2.1) hM.2.2.1 (by omega) hp1 (by rw [hLn]; omega) (by rw [hLn]; omega)
  · intro v' W hv'
    refine (open_same v' _ name pos W hv' Mg lg dg hk (by omega) hp1 i2).mono ?_
    rintro e w' ⟨⟨vo, vc, uo, uc, rfl, _⟩, hA⟩
    exact ⟨⟨_, _, _, _, _, _, _, _, _, rfl, rfl⟩, hA⟩
  · intro v' W hv'
    refine (close_ok v' _ name W hv' Mg lg dg i2 (cutAt name f.sb) i1 hlt).mono ?_
    rintro e w' ⟨⟨vo, vc, uo, uc, rfl, H⟩, hA⟩
    refine ⟨⟨vo, vc, uo, uc, rfl, ⟨_, _, rfl, H.out.1, ?_⟩⟩, hA⟩
    have h9 := H.out.2
    simp only at h9
    rw [del_ins] at h9
    exact h9
  · intro v' W hv'
    have hr := read_at v' ⟨f.base, f.total, f.ch, insS name pos f.sb⟩ name 16 W hv' lg dg Mg (cutAt name f.sb) i1 hlt i2 (by omega) (by omega) k (by rw [i4]; exact hkp)
    refine hr.mono ?_
    rintro e w' ⟨⟨vo, vc, rs, he, _⟩, hA⟩
    rw [i4] at he
    exact ⟨⟨vo, vc, he⟩, hA⟩
  · intro W v' hA hv'
    exact rSame_alike v' v f W hv' (h.adds hA) hc hd (by omega)

end Go.Proofs.Ytpjhohmbifpogaa
