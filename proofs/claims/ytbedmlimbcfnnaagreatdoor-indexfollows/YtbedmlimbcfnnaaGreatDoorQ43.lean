/-
  The law IndexFollows, by contract.
  The law IndexFollows, by contract: documents and changes that are not too many.
-/
import Derived.Test.YtbedmlimbcfnnaaGreatDoorQ42
import Derived.Test.YtbedmlimbcfnnaaGreatDoorQ39
namespace Go.Proofs.YtbedmlimbcfnnaaGreatDoor
open Go.RowKit
attribute [local go_sem] cell?_more frozen?_more setCell_more size_more tape_more drew_more drewN_more more_drew more_drewN one_out plus_out plus_end lt_one le_p2 le_p3 le_p4 le_p5 le_p6 le_p7 le_p8 le_p9 le_p10 le_p11 le_p12 le_p13 le_p14 le_p15 le_p16 le_p17 le_p18 le_p19 le_p20 le_p21 le_p22 le_p23 le_p24 le_q0 le_q1 lt_q1 le_q2 lt_q2 le_q3 lt_q3 le_q4 lt_q4 le_q5 lt_q5 le_q6 lt_q6 le_q7 lt_q7 le_q8 lt_q8 le_q9 lt_q9 le_q10 lt_q10 le_q11 lt_q11 le_q12 lt_q12 le_q13 lt_q13 le_q14 lt_q14 le_q15 lt_q15 le_q16 lt_q16 le_q17 lt_q17 le_q18 lt_q18 le_q19 lt_q19 le_q20 lt_q20 le_q21 lt_q21 le_q22 lt_q22 le_q23 lt_q23 le_q24 lt_q24

/-- A change. -/
structure Ch where
  key : ByteArray
  has : Bool
  doc : List F

def LiesC (w : World) (b off : Nat) (cs : List Ch) : Prop := ∀ j (h : j < cs.length), ∃ (pos : Int) (dv : Value),
  w.cell? ⟨b, off + j * 4, none⟩ = some (.int .i64 pos) ∧ w.cell? ⟨b, off + j * 4 + 1, none⟩ = some (.string cs[j].key) ∧ w.cell? ⟨b, off + j * 4 + 2, none⟩ = some (.bool cs[j].has) ∧ w.cell? ⟨b, off + j * 4 + 3, none⟩ = some dv ∧ Lst w dv cs[j].doc

def LstC (w : World) (s : Value) (cs : List Ch) : Prop :=
  ∃ ao cap, s = .slice ao cs.length cap ∧ cs.length ≤ cap ∧ (cs = [] ∨ ∃ b off, ao = some ⟨b, off, none⟩ ∧ b < w.heap.size ∧ LiesC w b off cs)

theorem LiesC.adds {w w' : World} {b off : Nat} {cs : List Ch} (h : LiesC w b off cs) (hA : Adds w w') (hb : b < w.heap.size) : LiesC w' b off cs := by
  intro j hj
  obtain ⟨pos, dv, h0, h1, h2, h3, h4⟩ := h j hj
  exact ⟨pos, dv, (hA.below.cell (by exact hb)).trans h0, (hA.below.cell (by exact hb)).trans h1, (hA.below.cell (by exact hb)).trans h2, (hA.below.cell (by exact hb)).trans h3, h4.adds hA⟩

instance : Nonempty Ch := ⟨⟨⟨#[]⟩, false, []⟩⟩

open Go.ChangeShapes Go.WideShapes Go.ChangeAt Go.RowKit Go.Joins Go.ChangeMaps in
set_option maxRecDepth 20000 in
theorem open_changes {H : Type} {enc : TypeId × Value → H} {w : World} {b0 : Nat} {r : Reach} {v : Value} {d : DataW H} {ps : List MemPlace}
    (hv : Value.okWide Tryz.prog w r b0 40 v) (h : DataW.Trod enc Tryz.prog w 0 (fun _ => true) true 40 v d ps) : ∃ cs, LstC w v cs := by
  obtain ⟨a0, len, cap, rfl⟩ := okWide_slice Tryz.underlying40 hv
  obtain ⟨fuel, hf⟩ := h
  obtain ⟨l, ao, cap, e, hle, h⟩ := open_gen (α := Ch) (R := fun c cs => ∃ (pos : Int) (dv : Value), cs = [.int .i64 pos, .string c.key, .bool c.has, dv] ∧ Lst w dv c.doc) Tryz.underlying40 Tryz.cells35 (by omega) (fun n cs y h hlen => by
    obtain ⟨pos, key, has, dv, doc, e, hd⟩ := trod_change hlen h
    exact ⟨⟨key, has, doc⟩, pos, dv, e, hd⟩) hf
  refine ⟨l, ao, cap, e, hle, ?_⟩
  rcases h with h | ⟨b, off, rfl, hb, hh⟩
  · exact .inl h
  · refine .inr ⟨b, off, rfl, hb, fun j hj => ?_⟩
    obtain ⟨cs, ⟨pos, dv, rfl, hd⟩, _, hc⟩ := hh j hj
    exact ⟨pos, dv, hc 0 (by simp), hc 1 (by simp), hc 2 (by simp), hc 3 (by simp), hd⟩

theorem buildA_of {s : List UInt8} {ds : List Dn} {xs : List E} (hx : parseA s = .ok xs) (h : MayD ds) : buildA s ds = .ok (Sh.sortE (ents xs ds)) := by
  unfold buildA
  rw [hx]
  simp only [if_pos h]

theorem buildA_ok {s : List UInt8} {ds : List Dn} {l : List Sh.F} (h : buildA s ds = .ok l) : ∃ xs, parseA s = .ok xs ∧ MayD ds ∧ l = Sh.sortE (ents xs ds) := by
  unfold buildA at h
  split at h
  · cases h
  · rename_i xs hx
    split at h
    · rename_i hM
      cases h
      exact ⟨xs, hx, hM, rfl⟩
    · cases h

theorem updA_follows {s : List UInt8} {ds : List Dn} {xs : List E} (hx : parseA s = .ok xs) (h : MayD ds) {key : ByteArray} {has : Bool} {doc : List F} (hc : MayC key has doc) :
    updA s (Sh.sortE (ents xs ds)) key has doc = .ok (Sh.sortE (ents xs (foldD ds key has doc))) := by
  rw [updA_of hx (build_may h) hc, follows_one h hc]

theorem updA_not {s : List UInt8} {es : List Sh.F} {xs : List E} (hx : parseA s = .ok xs) {key : ByteArray} {has : Bool} {doc : List F} (hc : ¬ MayC key has doc) : updA s es key has doc = .error 1 := by
  unfold updA
  rw [hx]
  simp only [if_neg (fun h : Sh.May es ∧ MayC key has doc => hc h.2)]

set_option maxHeartbeats 4000000 in
set_option maxRecDepth 20000 in
theorem follows_great (s : ByteArray) (dv : Value) (ds : List Dn) (cv : Value) (cs : List Ch) (w : World) (hd : LstD w dv ds) (hc : LstC w cv cs) (hg : ¬ (s.size ≤ 1100 ∧ LightD ds ∧ cs.length ≤ 40)) :
    Calls Tryz.prog 5 #[.string s, dv, cv] w fun e w' => e = .returned (.bool true) ∧ Adds w w' := by
  have kA := awake_any
  have kL := fun w' hA => light_any dv ds w' (hd.adds hA)
  obtain ⟨ao, cap, rfl, _, _⟩ := hd
  obtain ⟨vo, vc, rfl, _, _⟩ := hc
  generalize ds.length = n at *
  by_cases h1 : s.size ≤ 1100
  · have h1' : ¬ (1100 : Int) < (s.size : Int) := by omega
    by_cases h2 : LightD ds
    · have h3 : (40 : Int) < (cs.length : Int) := by
        have : ¬ cs.length ≤ 40 := fun h => hg ⟨h1, h2, h⟩
        omega
      rw [decide_eq_true h2] at kL
      clear hg h1 h2
      generalize cs.length = nd at *
      go_enter Tryz.func5, Tryz.ntmps5
      go_wp2_with (first
        | (go_at_call 8; refine (kL _ (by repeat (first | with_reducible exact Adds.refl _ | with_reducible refine Adds.alloc ?_ _ | with_reducible refine Adds.more ?_ _ _ | with_reducible refine Adds.drew ?_ | with_reducible refine Adds.drewN ?_ _))).mono ?_; rintro e w1 ⟨rfl, hw⟩; subst w1)
        | (go_at_call 9; refine (kA _).mono ?_; rintro e w5 ⟨rfl, os5, n5, rfl⟩))
      go_ret
      exact ⟨rfl, (by repeat (first | with_reducible exact Adds.refl _ | with_reducible refine Adds.alloc ?_ _ | with_reducible refine Adds.more ?_ _ _ | with_reducible refine Adds.drew ?_ | with_reducible refine Adds.drewN ?_ _))⟩
    · rw [decide_eq_false h2] at kL
      clear hg h1 h2
      generalize cs.length = nd at *
      go_enter Tryz.func5, Tryz.ntmps5
      go_wp2_with (first
        | (go_at_call 8; refine (kL _ (by repeat (first | with_reducible exact Adds.refl _ | with_reducible refine Adds.alloc ?_ _ | with_reducible refine Adds.more ?_ _ _ | with_reducible refine Adds.drew ?_ | with_reducible refine Adds.drewN ?_ _))).mono ?_; rintro e w1 ⟨rfl, hw⟩; subst w1)
        | (go_at_call 9; refine (kA _).mono ?_; rintro e w5 ⟨rfl, os5, n5, rfl⟩))
      go_ret
      exact ⟨rfl, (by repeat (first | with_reducible exact Adds.refl _ | with_reducible refine Adds.alloc ?_ _ | with_reducible refine Adds.more ?_ _ _ | with_reducible refine Adds.drew ?_ | with_reducible refine Adds.drewN ?_ _))⟩
  · have h1' : (1100 : Int) < (s.size : Int) := by omega
    clear hg h1
    generalize cs.length = nd at *
    go_enter Tryz.func5, Tryz.ntmps5
    go_wp2_with (go_at_call 9; refine (kA _).mono ?_; rintro e w5 ⟨rfl, os5, n5, rfl⟩)
    go_ret
    exact ⟨rfl, (by repeat (first | with_reducible exact Adds.refl _ | with_reducible refine Adds.alloc ?_ _ | with_reducible refine Adds.more ?_ _ _ | with_reducible refine Adds.drew ?_ | with_reducible refine Adds.drewN ?_ _))⟩

end Go.Proofs.YtbedmlimbcfnnaaGreatDoor

namespace Go.Proofs.YtbedmlimbcfnnaaGreatDoor
open Go.RowKit
attribute [local go_sem] cell?_more frozen?_more setCell_more size_more tape_more drew_more drewN_more more_drew more_drewN one_out plus_out plus_end lt_one le_p2 le_p3 le_p4 le_p5 le_p6 le_p7 le_p8 le_p9 le_p10 le_p11 le_p12 le_p13 le_p14 le_p15 le_p16 le_p17 le_p18 le_p19 le_p20 le_p21 le_p22 le_p23 le_p24 le_q0 le_q1 lt_q1 le_q2 lt_q2 le_q3 lt_q3 le_q4 lt_q4 le_q5 lt_q5 le_q6 lt_q6 le_q7 lt_q7 le_q8 lt_q8 le_q9 lt_q9 le_q10 lt_q10 le_q11 lt_q11 le_q12 lt_q12 le_q13 lt_q13 le_q14 lt_q14 le_q15 lt_q15 le_q16 lt_q16 le_q17 lt_q17 le_q18 lt_q18 le_q19 lt_q19 le_q20 lt_q20 le_q21 lt_q21 le_q22 lt_q22 le_q23 lt_q23 le_q24 lt_q24

set_option maxHeartbeats 8000000 in
set_option maxRecDepth 20000 in
theorem follows_light (s : ByteArray) (dv : Value) (ds : List Dn) (cv : Value) (cs : List Ch) (w : World) (hd : LstD w dv ds) (hc : LstC w cv cs) (h1 : s.size ≤ 1100) (h2 : LightD ds) (h3 : cs.length ≤ 40) :
    Calls Tryz.prog 5 #[.string s, dv, cv] w fun e w' => e = .returned (.bool true) ∧ Adds w w' := by
  have kA := awake_any
  have kL := fun w' hA => light_any dv ds w' (hd.adds hA)
  rw [decide_eq_true h2] at kL
  have hl60 := h2.2
  have kB := fun w' hA => build_any s dv ds w' (by omega) (hd.adds hA) (by omega)
  have HD : Hid (LstD w dv ds) := hd
  obtain ⟨ao, cap, rfl, _, _⟩ := hd
  obtain ⟨vo, vc, rfl, _, hlo⟩ := hc
  have h1' : ¬ (1100 : Int) < (s.size : Int) := by omega
  have h3' : ¬ (40 : Int) < (cs.length : Int) := by omega
  have HS : Hid (s.size ≤ 1100) := h1
  have H60 : Hid (ds.length ≤ 60) := hl60
  have H40 : Hid (cs.length ≤ 40) := h3
  clear h1 h2 h3 hl60
  go_enter Tryz.func5, Tryz.ntmps5
  go_wp2_with (first
    | (go_at_call 8; refine (kL _ (by repeat (first | with_reducible exact Adds.refl _ | with_reducible refine Adds.alloc ?_ _ | with_reducible refine Adds.more ?_ _ _ | with_reducible refine Adds.drew ?_ | with_reducible refine Adds.drewN ?_ _))).mono ?_; rintro e w1 ⟨rfl, hw⟩; subst w1))
  go_loopw [7] (fun i wr => ∃ k : Nat, k ≤ cs.length ∧ i = .int .i64 k ∧ wr = w) (fun i _ => cs.length - (intOf i).toNat)
  case atStart => exact ⟨0, Nat.zero_le _, rfl, rfl⟩
  case round =>
    obtain ⟨k, hk, rfl, hwr⟩ := hrel
    subst wr
    by_cases hlt : k < cs.length
    · rcases hlo with rfl | ⟨b, off, rfl, hb, hl⟩
      · simp at hlt
      obtain ⟨pos, dv, c0, c1, c2, c3, uo, uc, rfl, _, _⟩ := hl k hlt
      have hlt' : (k : Int) < (cs.length : Int) := by omega
      have hor : (20 : Int) < (cs[k].doc.length : Int) ∨ ¬ (20 : Int) < (cs[k].doc.length : Int) := by omega
      generalize cs[k].doc.length = nd at *
      rcases hor with h20 | h20
      · go_wp2_with (go_at_call 9; refine (kA _).mono ?_; rintro e w5 ⟨rfl, os5, n5, rfl⟩)
        go_ret
        exact ⟨rfl, (by repeat (first | with_reducible exact Adds.refl _ | with_reducible refine Adds.alloc ?_ _ | with_reducible refine Adds.more ?_ _ _ | with_reducible refine Adds.drew ?_ | with_reducible refine Adds.drewN ?_ _))⟩
      · go_wp2
        go_roundw
        case rel => exact ⟨k + 1, by omega, by go_num, by first | rfl | trivial⟩
        case measure => simp [intOf]; omega
    · have hlt' : ¬ (k : Int) < (cs.length : Int) := by omega
      cases hB : buildA s.toList ds with
      | error c =>
        rw [hB] at kB
        simp only [GaveB] at kB
        have hcn := buildA_err hB
        have hcb : (c != 0) = true := by simpa using hcn
        have hcb' : (c == 0) = false := by simpa using hcn
        clear hB hcn
        go_wp2_with (first
          | (go_at_call 10; refine (kB _ (by repeat (first | with_reducible exact Adds.refl _ | with_reducible refine Adds.alloc ?_ _ | with_reducible refine Adds.more ?_ _ _ | with_reducible refine Adds.drew ?_ | with_reducible refine Adds.drewN ?_ _))).mono ?_; rintro e w2 ⟨rfl, os2, n2, rfl⟩)
          | (go_at_call 9; refine (kA _).mono ?_; rintro e w5 ⟨rfl, os5, n5, rfl⟩))
        go_ret
        exact ⟨rfl, (by repeat (first | with_reducible exact Adds.refl _ | with_reducible refine Adds.alloc ?_ _ | with_reducible refine Adds.more ?_ _ _ | with_reducible refine Adds.drew ?_ | with_reducible refine Adds.drewN ?_ _))⟩
      | ok l =>
        rw [hB] at kB
        simp only [GaveB] at kB
        obtain ⟨xs, hx, hM, rfl⟩ := buildA_ok hB
        have HX : Hid (parseA s.toList = .ok xs) := hx
        have HM : Hid (MayD ds) := hM
        clear hB hx hM
        go_wp2_with (go_at_call 10; refine (kB _ (by repeat (first | with_reducible exact Adds.refl _ | with_reducible refine Adds.alloc ?_ _ | with_reducible refine Adds.more ?_ _ _ | with_reducible refine Adds.drew ?_ | with_reducible refine Adds.drewN ?_ _))).mono ?_; rintro e w2 ⟨⟨v2, rfl, hL2⟩, hA2⟩; have HL2 : Hid _ := hL2; have HA2 : Hid (Adds w w2) := hA2; clear hL2 hA2)
        clear kB kL
        go_loopw [1, 8, 10] (fun dvv u i wr => ∃ (j : Nat) (es : List Dn), j ≤ cs.length ∧ i = .int .i64 j ∧ Hid (LstD wr dvv es) ∧ Hid (Sh.Lst wr u (Sh.sortE (ents xs es))) ∧ Hid (MayD es) ∧ Hid (es.length ≤ 60 + j) ∧ Hid (Adds w wr)) (fun _ _ i _ => cs.length - (intOf i).toNat)
        case atStart => exact ⟨0, ds, Nat.zero_le _, rfl, HD.out.adds HA2.out, HL2.out, HM, H60.out, HA2⟩
        case round =>
          clear HM HL2 HA2 HD
          obtain ⟨j, es, hj, rfl, HD, HL, HM, HN, HA⟩ := hrel
          have hel : es.length ≤ 100 := by
            have := HN.out
            have := H40.out
            omega
          have hsl : (Sh.sortE (ents xs es)).length ≤ 100 := by
            rw [Sh.sortE_length]
            have := ents_le xs es es.length
            rw [List.take_length] at this
            omega
          have hs2 : s.size ≤ 2000 := Nat.le_trans HS.out (by omega)
          by_cases hjl : j < cs.length
          · rcases hlo with rfl | ⟨b, off, rfl, hb, hl⟩
            · simp at hjl
            obtain ⟨pos, dv, c0, c1, c2, c3, hdoc⟩ := hl.adds HA.out hb j hjl
            have hbl : b < wr.heap.size := Nat.lt_of_lt_of_le hb HA.out.below.size
            have hjl' : (j : Int) < (cs.length : Int) := by omega
            have kU := fun W (hAd : Adds wr W) => update_any s _ _ pos cs[j].key cs[j].has dv cs[j].doc W hs2 (Sh.Lst.adds HL.out hAd) (by omega) (hdoc.adds hAd)
            have kF := fun W (hAd : Adds wr W) => fold_any _ es pos cs[j].key cs[j].has dv cs[j].doc W (LstD.adds HD.out hAd) (hdoc.adds hAd) (by omega)
            obtain ⟨uo, uc, rfl, _, _⟩ := hdoc
            by_cases hC : MayC cs[j].key cs[j].has cs[j].doc
            · rw [updA_follows HX.out HM.out hC] at kU
              simp only [GaveB] at kU
              have HM2 : Hid (MayD (foldD es cs[j].key cs[j].has cs[j].doc)) := foldD_may HM.out hC
              have HN2 : Hid ((foldD es cs[j].key cs[j].has cs[j].doc).length ≤ 60 + (j + 1)) := by
                have h1 := foldD_length es cs[j].key cs[j].has cs[j].doc
                have h2 := HN.out
                show _ ≤ _
                omega
              clear hC hel hsl hs2
              generalize foldD es cs[j].key cs[j].has cs[j].doc = fs at *
              generalize cs[j].key = key at *
              generalize cs[j].has = has at *
              generalize cs[j].doc.length = nd at *
              go_wp2_with (first
                | (go_at_call 15; refine (kU _ (by repeat (first | with_reducible exact Adds.refl _ | with_reducible refine Adds.alloc ?_ _ | with_reducible refine Adds.more ?_ _ _ | with_reducible refine Adds.drew ?_ | with_reducible refine Adds.drewN ?_ _))).mono ?_; rintro e w3 ⟨⟨v3, rfl, hL3⟩, os3, n3, rfl⟩; have HL3 : Hid _ := hL3; clear hL3)
                | (go_at_call 19; refine (kF _ (by repeat (first | with_reducible exact Adds.refl _ | with_reducible refine Adds.alloc ?_ _ | with_reducible refine Adds.more ?_ _ _ | with_reducible refine Adds.drew ?_ | with_reducible refine Adds.drewN ?_ _))).mono ?_; rintro e w4 ⟨⟨v4, rfl, hL4⟩, os4, n4, rfl⟩; have HL4 : Hid _ := hL4; clear hL4))
              go_roundw
              case rel => exact ⟨j + 1, fs, by omega, by go_num, HL4, Sh.Lst.adds HL3.out (by repeat (first | with_reducible exact Adds.refl _ | with_reducible refine Adds.alloc ?_ _ | with_reducible refine Adds.more ?_ _ _ | with_reducible refine Adds.drew ?_ | with_reducible refine Adds.drewN ?_ _)), HM2, HN2, HA.out.trans (by repeat (first | with_reducible exact Adds.refl _ | with_reducible refine Adds.alloc ?_ _ | with_reducible refine Adds.more ?_ _ _ | with_reducible refine Adds.drew ?_ | with_reducible refine Adds.drewN ?_ _))⟩
              case measure => simp [intOf]; omega
            · rw [updA_not HX.out hC] at kU
              simp only [GaveB] at kU
              clear hC hel hsl hs2 kF
              generalize cs[j].key = key at *
              generalize cs[j].has = has at *
              generalize cs[j].doc.length = nd at *
              go_wp2_with (first
                | (go_at_call 15; refine (kU _ (by repeat (first | with_reducible exact Adds.refl _ | with_reducible refine Adds.alloc ?_ _ | with_reducible refine Adds.more ?_ _ _ | with_reducible refine Adds.drew ?_ | with_reducible refine Adds.drewN ?_ _))).mono ?_; rintro e w3 ⟨rfl, os3, n3, rfl⟩))
              go_roundw
              case rel => exact ⟨j + 1, es, by omega, by go_num, LstD.adds HD.out (by repeat (first | with_reducible exact Adds.refl _ | with_reducible refine Adds.alloc ?_ _ | with_reducible refine Adds.more ?_ _ _ | with_reducible refine Adds.drew ?_ | with_reducible refine Adds.drewN ?_ _)), Sh.Lst.adds HL.out (by repeat (first | with_reducible exact Adds.refl _ | with_reducible refine Adds.alloc ?_ _ | with_reducible refine Adds.more ?_ _ _ | with_reducible refine Adds.drew ?_ | with_reducible refine Adds.drewN ?_ _)), HM, (by have := HN.out; show _ ≤ _; omega), HA.out.trans (by repeat (first | with_reducible exact Adds.refl _ | with_reducible refine Adds.alloc ?_ _ | with_reducible refine Adds.more ?_ _ _ | with_reducible refine Adds.drew ?_ | with_reducible refine Adds.drewN ?_ _))⟩
              case measure => simp [intOf]; omega
          · have hjl' : ¬ (j : Int) < (cs.length : Int) := by omega
            have kB := fun W (hAd : Adds wr W) => build_any s _ es W hs2 (LstD.adds HD.out hAd) (by omega)
            rw [buildA_of HX.out HM.out] at kB
            simp only [GaveB] at kB
            have kS := fun W v u hx hy => Sh.refSame_any v u (Sh.sortE (ents xs es)) (Sh.sortE (ents xs es)) W hx hy (by omega) (by omega)
            simp only [decide_true] at kS
            clear hel hsl hs2
            go_wp2_with (first
              | (go_at_call 10; refine (kB _ (by repeat (first | with_reducible exact Adds.refl _ | with_reducible refine Adds.alloc ?_ _ | with_reducible refine Adds.more ?_ _ _ | with_reducible refine Adds.drew ?_ | with_reducible refine Adds.drewN ?_ _))).mono ?_; rintro e w3 ⟨⟨v3, rfl, hL3⟩, os3, n3, rfl⟩; have HL3 : Hid _ := hL3; clear hL3)
              | (go_at_call 12; refine (kS _ _ _ (Sh.Lst.adds HL.out (by repeat (first | with_reducible exact Adds.refl _ | with_reducible refine Adds.alloc ?_ _ | with_reducible refine Adds.more ?_ _ _ | with_reducible refine Adds.drew ?_ | with_reducible refine Adds.drewN ?_ _))) (Sh.Lst.adds HL3.out (by repeat (first | with_reducible exact Adds.refl _ | with_reducible refine Adds.alloc ?_ _ | with_reducible refine Adds.more ?_ _ _ | with_reducible refine Adds.drew ?_ | with_reducible refine Adds.drewN ?_ _)))).mono ?_; rintro e w4 ⟨rfl, os4, n4, rfl⟩)
              | (go_at_call 9; refine (kA _).mono ?_; rintro e w5 ⟨rfl, os5, n5, rfl⟩))
            go_ret
            exact ⟨rfl, HA.out.trans (by repeat (first | with_reducible exact Adds.refl _ | with_reducible refine Adds.alloc ?_ _ | with_reducible refine Adds.more ?_ _ _ | with_reducible refine Adds.drew ?_ | with_reducible refine Adds.drewN ?_ _))⟩

theorem follows_any (s : ByteArray) (dv : Value) (ds : List Dn) (cv : Value) (cs : List Ch) (w : World) (hd : LstD w dv ds) (hc : LstC w cv cs) :
    Calls Tryz.prog 5 #[.string s, dv, cv] w fun e w' => e = .returned (.bool true) ∧ Adds w w' := by
  by_cases hg : s.size ≤ 1100 ∧ LightD ds ∧ cs.length ≤ 40
  · exact follows_light s dv ds cv cs w hd hc hg.1 hg.2.1 hg.2.2
  · exact follows_great s dv ds cv cs w hd hc hg

end Go.Proofs.YtbedmlimbcfnnaaGreatDoor
