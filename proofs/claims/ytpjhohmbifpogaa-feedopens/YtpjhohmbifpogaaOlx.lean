/-
  The law of what is opened twice: FeedOpens returns true, whatever the input.
-/
import Derived.Test.YtpjhohmbifpogaaOlw
namespace Go.Proofs.Ytpjhohmbifpogaa
open Go.RowKit
attribute [local go_sem] cell?_more frozen?_more setCell_more size_more tape_more drew_more drewN_more more_drew more_drewN one_out plus_out plus_end lt_one le_p2 le_p3 le_p4 le_p5 le_p6 le_p7 le_p8 le_p9 le_p10 le_p11 le_p12 le_p13 le_p14 le_p15 le_p16 le_p17 le_p18 le_p19 le_p20 le_p21 le_p22 le_p23 le_p24 le_q0 le_q1 lt_q1 le_q2 lt_q2 le_q3 lt_q3 le_q4 lt_q4 le_q5 lt_q5 le_q6 lt_q6 le_q7 lt_q7 le_q8 lt_q8 le_q9 lt_q9 le_q10 lt_q10 le_q11 lt_q11 le_q12 lt_q12 le_q13 lt_q13 le_q14 lt_q14 le_q15 lt_q15 le_q16 lt_q16 le_q17 lt_q17 le_q18 lt_q18 le_q19 lt_q19 le_q20 lt_q20 le_q21 lt_q21 le_q22 lt_q22 le_q23 lt_q23 le_q24 lt_q24

theorem feedOpens_any (v : Value) (f : Fd) (name : ByteArray) (pos : Int) (w : World) (h : LstF w v f) :
    Calls Try.prog 7 #[v, .string name, .int .i64 pos] w fun e w' => e = .returned (.bool true) ∧ Adds w w' := by
  by_cases hL : LightF f ∧ name.size ≤ 200
  rotate_left
  · exact feedOpens_great v f name pos w h hL
  obtain ⟨hL, h2⟩ := hL
  have hc : f.ch.length ≤ 1000 := Nat.le_trans hL.1.1 (by omega)
  have hd := lightC_doc hL.1
  by_cases hM : MayF f
  rotate_left
  · refine feedOpens_err v f name pos w h hL h2 ⟨0, 0, [], []⟩ 0 0 1 (by decide) ?_
    intro W hA
    refine (open_bad v f name pos W (h.adds hA) hc hM).mono ?_
    rintro e w' ⟨rfl, hA'⟩
    exact ⟨⟨none, 0, none, 0, rfl, lstF_zero w'⟩, hA'⟩
  obtain ⟨g, n, m, c, ⟨kO, _, Mg, lg, dg⟩, hz⟩ := opens_both v f name pos w h hM hc hd
  by_cases hc0 : c = 0
  rotate_left
  · exact feedOpens_err v f name pos w h hL h2 g n m c hc0 kO
  subst hc0
  obtain ⟨hk, hp0, hp1, hn, rfl⟩ := hz rfl
  have hb0 : 0 ≤ f.base := hM.1
  have hS := hM.2.2.2.2.2
  have h8 : f.sb.length < 8 := by
    have h9 : (insS name pos f.sb).length ≤ 8 := Mg.2.2.2.2.2.1
    rw [insS_length] at h9
    omega
  obtain ⟨i1, i2, i3⟩ := cut_ins hS hk hn h8 hp0 hp1
  have hlt : cutAt name f.sb < (insS name pos f.sb).length := by rw [insS_length]; have := cutAt_le name f.sb; omega
  have i4 : (insS name pos f.sb)[cutAt name f.sb] = ⟨name, pos⟩ := by
    rw [List.getElem?_eq_getElem hlt] at i3
    exact Option.some.inj i3
  obtain ⟨k, hkp⟩ : ∃ k : Nat, pos - f.base = (k : Int) := ⟨(pos - f.base).toNat, by omega⟩
  have hcl : (f.ch.length : Int) = f.total - f.base := hM.2.2.2.1
  have hLn : (cutC f.ch k 16).length = min 16 (f.ch.length - k) := by simp [cutC]
  refine feedOpens_walk v f name pos w h hL h2 ⟨f.base, f.total, f.ch, insS name pos f.sb⟩ n m kO ?_ ((insS name pos f.sb).length - 1) ?_ (cutC f.ch k 16).length ?_ ?_ (Int.le_trans hM.1 hM.2.1) hM.2.2.1 (by omega) hp1 (by rw [hLn]; omega) (by rw [hLn]; omega)
  · intro v' W hv'
    refine (open_same v' _ name pos W hv' Mg lg dg hk (by omega) hp1 i2).mono ?_
    rintro e w' ⟨⟨vo, vc, uo, uc, rfl, _⟩, hA⟩
    exact ⟨⟨_, _, _, _, _, _, _, _, _, rfl, rfl⟩, hA⟩
  · intro v' W hv'
    refine (close_ok v' _ name W hv' Mg lg dg i2 (cutAt name f.sb) i1 hlt).mono ?_
    rintro e w' ⟨⟨vo, vc, uo, uc, rfl, H⟩, hA⟩
    refine ⟨⟨vo, vc, uo, uc, rfl, ⟨_, _, rfl, H.out.1, ?_⟩⟩, hA⟩
    have h9 := H.out.2
    simp only at h9
    rw [del_ins] at h9
    exact h9
  · intro v' W hv'
    have hr := read_at v' ⟨f.base, f.total, f.ch, insS name pos f.sb⟩ name 16 W hv' lg dg Mg (cutAt name f.sb) i1 hlt i2 (by omega) (by omega) k (by rw [i4]; exact hkp)
    refine hr.mono ?_
    rintro e w' ⟨⟨vo, vc, rs, he, _⟩, hA⟩
    rw [i4] at he
    exact ⟨⟨vo, vc, he⟩, hA⟩
  · intro W v' hA hv'
    exact rSame_alike v' v f W hv' (h.adds hA) hc hd (by omega)

end Go.Proofs.Ytpjhohmbifpogaa
