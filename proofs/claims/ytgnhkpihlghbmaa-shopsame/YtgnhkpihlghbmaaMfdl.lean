/-
  Fold of package shop, by contract. Fold of package shop, by contract: the walk.
-/
import Derived.Test.YtgnhkpihlghbmaaMcat
import Derived.Test.YtgnhkpihlghbmaaMcpn
import Derived.BigQuiet
namespace Go.Proofs.Ytgnhkpihlghbmaa
open Go.RowKit
attribute [local go_sem] cell?_more frozen?_more setCell_more size_more tape_more drew_more drewN_more more_drew more_drewN one_out plus_out plus_end lt_one le_p2 le_p3 le_p4 le_p5 le_p6 le_p7 le_p8 le_p9 le_p10 le_p11 le_p12 le_p13 le_p14 le_p15 le_p16 le_p17 le_p18 le_p19 le_p20 le_p21 le_p22 le_p23 le_p24 le_q0 le_q1 lt_q1 le_q2 lt_q2 le_q3 lt_q3 le_q4 lt_q4 le_q5 lt_q5 le_q6 lt_q6 le_q7 lt_q7 le_q8 lt_q8 le_q9 lt_q9 le_q10 lt_q10 le_q11 lt_q11 le_q12 lt_q12 le_q13 lt_q13 le_q14 lt_q14 le_q15 lt_q15 le_q16 lt_q16 le_q17 lt_q17 le_q18 lt_q18 le_q19 lt_q19 le_q20 lt_q20 le_q21 lt_q21 le_q22 lt_q22 le_q23 lt_q23 le_q24 lt_q24

theorem LstR.adds {w w' : World} {s : Value} {rs : List Rn} (h : LstR w s rs) (hA : Adds w w') : LstR w' s rs := by
  obtain ⟨⟨ao, cap, rfl, hc, hx⟩, hd⟩ := h
  refine ⟨⟨ao, cap, rfl, hc, ?_⟩, fun r hr => (hd r hr).adds hA⟩
  rcases hx with h | ⟨b, off, rfl, hb, hl⟩
  · exact .inl h
  · exact .inr ⟨b, off, rfl, Nat.lt_of_lt_of_le hb hA.below.size, hl.below hA.below hb⟩

theorem LstR.take {w : World} {ao : Option Addr} {n cap c : Nat} {rs : List Rn} (h : LstR w (.slice ao n cap) rs) (hc : c ≤ n) : LstR w (.slice ao c cap) (rs.take c) := by
  obtain ⟨⟨ao', cap', he, hcap, hx⟩, hd⟩ := h
  simp only [Value.slice.injEq] at he
  obtain ⟨rfl, rfl, rfl⟩ := he
  refine ⟨⟨ao, cap, by simp; omega, by simp; omega, ?_⟩, fun r hr => hd r (List.mem_of_mem_take hr)⟩
  rcases hx with rfl | ⟨b, off, rfl, hb, hl⟩
  · exact .inl (by simp)
  · refine .inr ⟨b, off, rfl, hb, fun j hj => ?_⟩
    have hj' : j < rs.length := by simp at hj; omega
    simpa using hl j hj'

theorem LstR.drop {w : World} {ao : Option Addr} {n cap c : Nat} {rs : List Rn} (h : LstR w (.slice ao n cap) rs) (hc : c ≤ n) : LstR w (.slice (if cap = c then ao else ao.map (fun a => a.add (c * 2))) (n - c) (cap - c)) (rs.drop c) := by
  obtain ⟨⟨ao', cap', he, hcap, hx⟩, hd⟩ := h
  simp only [Value.slice.injEq] at he
  obtain ⟨rfl, rfl, rfl⟩ := he
  refine ⟨⟨_, cap - c, by simp; rfl, by simp; omega, ?_⟩, fun r hr => hd r (List.mem_of_mem_drop hr)⟩
  by_cases he : rs.length = c
  · exact .inl (by simp; omega)
  · rcases hx with rfl | ⟨b, off, rfl, hb, hl⟩
    · exact .inl (by simp)
    · refine .inr ⟨b, off + c * 2, by rw [if_neg (by omega)]; simp [Addr.add_lit], hb, fun j hj => ?_⟩
      have hj' : c + j < rs.length := by simp at hj; omega
      have := hl (c + j) hj'
      rw [show off + (c + j) * 2 = off + c * 2 + j * 2 by omega] at this
      simpa using this

theorem LstR.one {w : World} {k : Nat} {key : ByteArray} {v : Value} {doc : List F} (hk : k = w.heap.size) (hd : Lst w v doc) : LstR (w.alloc (.cells #[.string key, v] 48)) (.slice (some ⟨k, 0, none⟩) 1 1) [((⟨key, doc⟩, v) : Rn)] := by
  subst hk
  refine ⟨⟨_, 1, rfl, Nat.le_refl _, .inr ⟨w.heap.size, 0, rfl, by simp, ?_⟩⟩, ?_⟩
  · intro j hj
    have : j = 0 := by simpa using hj
    subst this
    simp
  · intro r hr
    have := List.mem_singleton.1 hr
    subst this
    exact hd.adds ((Adds.refl _).alloc _)

theorem LstR.none (w : World) : LstR w (.slice Option.none 0 0) [] := ⟨⟨Option.none, 0, rfl, Nat.le_refl _, .inl rfl⟩, fun r h => by cases h⟩

theorem pile3 {w : World} {k : Nat} {T : TypeId} {s1 s2 s3 : Value} {r1 r2 r3 : List Rn} (hk : k = w.heap.size) (h1 : LstR w s1 r1) (h2 : LstR w s2 r2) (h3 : LstR w s3 r3) : Pile (w.alloc (.cells #[s1, s2, s3] T)) k [(s1, r1), (s2, r2), (s3, r3)] := by
  subst hk
  have hA : Adds w (w.alloc (.cells #[s1, s2, s3] T)) := (Adds.refl _).alloc _
  refine ⟨by simp, fun i hi => ?_⟩
  match i, hi with
  | 0, _ => exact ⟨by simp, h1.adds hA⟩
  | 1, _ => exact ⟨by simp, h2.adds hA⟩
  | 2, _ => exact ⟨by simp, h3.adds hA⟩

/-- Documents behind a change, as Fold makes them. -/
def foldS (ds : List Dn) (key : ByteArray) (has : Bool) (doc : List F) : List Dn := ds.take (cutAt key ds) ++ ((if has then [⟨key, doc⟩] else []) ++ ds.drop (cutAt key ds + if hasAt key ds then 1 else 0))

theorem ownC_far {B : Nat} {v : Value} {rs : List Rn} {W0 w w' : World} (h : OwnC B v rs W0 w) (hf : Far B w w') : LstD w' v (rs.map (·.1)) :=
  OwnC.lstD (B := B) (W0 := w') ⟨row_far h.1 hf, Below.refl _ _, Nat.le_trans h.2.2.1 hf.1, fun r hr => row_far (h.2.2.2 r hr) hf⟩

/-- Concat and the copy of what it makes. -/
theorem cat_copy {W : World} {k : Nat} {T : TypeId} {s1 s2 s3 : Value} {r1 r2 r3 : List Rn} (hk : k = W.heap.size) (h1 : LstR W s1 r1) (h2 : LstR W s2 r2) (h3 : LstR W s3 r3) (hlen : (r1 ++ (r2 ++ r3)).length ≤ 1000) (hd6 : ∀ r ∈ r1 ++ (r2 ++ r3), r.1.doc.length ≤ 1000) :
    Calls Try.prog 25 #[.slice (some ⟨k, 0, none⟩) 3 3] (W.alloc (.cells #[s1, s2, s3] T)) fun e w' => (∃ vo vc, e = .returned (.slice vo (r1 ++ (r2 ++ r3)).length vc) ∧ Hid (∀ w2, Adds w' w2 → Calls Try.prog 22 #[.slice vo (r1 ++ (r2 ++ r3)).length vc] w2 fun e w3 => (∃ v, e = .returned v ∧ Hid (∀ w4, Far w2.heap.size w3 w4 → LstD w4 v ((r1 ++ (r2 ++ r3)).map (·.1)))) ∧ Adds w2 w3)) ∧ Adds (W.alloc (.cells #[s1, s2, s3] T)) w' := by
  have hj : joined [(s1, r1), (s2, r2), (s3, r3)] = r1 ++ (r2 ++ r3) := by simp [joined]
  refine (concat_any k 3 [(s1, r1), (s2, r2), (s3, r3)] _ (pile3 hk h1 h2 h3) (by simp) (by rw [hj]; exact hlen)).mono ?_
  rintro e w' ⟨v, rfl, ho⟩
  rw [hj] at ho
  have hL := ho.lstD
  have hL' := hL
  obtain ⟨ao, cap, rfl, _, _⟩ := hL'
  refine ⟨⟨ao, cap, by simp, fun w2 hA => ?_⟩, Adds.of ho.2.1⟩
  have := copyOf_any _ _ w2 (hL.adds hA) (by simpa using hlen) (fun d hd => by obtain ⟨r, hr, rfl⟩ := List.mem_map.1 hd; exact hd6 r hr)
  rw [List.length_map] at this
  refine this.mono ?_
  rintro e w3 ⟨v, rfl, rs, hO, hm⟩
  refine ⟨⟨v, rfl, fun w4 hf => ?_⟩, Adds.of hO.2.1⟩
  rw [← hm]
  exact ownC_far hO hf

end Go.Proofs.Ytgnhkpihlghbmaa

namespace Go.Proofs.Ytgnhkpihlghbmaa
open Go.RowKit
attribute [local go_sem] cell?_more frozen?_more setCell_more size_more tape_more drew_more drewN_more more_drew more_drewN one_out plus_out plus_end lt_one le_p2 le_p3 le_p4 le_p5 le_p6 le_p7 le_p8 le_p9 le_p10 le_p11 le_p12 le_p13 le_p14 le_p15 le_p16 le_p17 le_p18 le_p19 le_p20 le_p21 le_p22 le_p23 le_p24 le_q0 le_q1 lt_q1 le_q2 lt_q2 le_q3 lt_q3 le_q4 lt_q4 le_q5 lt_q5 le_q6 lt_q6 le_q7 lt_q7 le_q8 lt_q8 le_q9 lt_q9 le_q10 lt_q10 le_q11 lt_q11 le_q12 lt_q12 le_q13 lt_q13 le_q14 lt_q14 le_q15 lt_q15 le_q16 lt_q16 le_q17 lt_q17 le_q18 lt_q18 le_q19 lt_q19 le_q20 lt_q20 le_q21 lt_q21 le_q22 lt_q22 le_q23 lt_q23 le_q24 lt_q24

theorem LstR.dropL {w : World} {b off cap c : Nat} {rs : List Rn} (h : LstR w (.slice (some ⟨b, off, Option.none⟩) rs.length cap) rs) (hc : c ≤ rs.length) (hcap : ¬ cap = c) : LstR w (.slice (some ⟨b, off + c * 2, Option.none⟩) (rs.length - c) (cap - c)) (rs.drop c) := by
  have := h.drop hc
  rw [if_neg hcap] at this
  simpa [Addr.add_lit] using this

set_option maxHeartbeats 4000000 in
set_option maxRecDepth 20000 in
theorem fold_has (b off cap c : Nat) (rs : List Rn) (pos : Int) (key : ByteArray) (has : Bool) (vo : Option Addr) (vc : Nat) (doc : List F) (w : World) (hR : LstR w (.slice (some ⟨b, off, Option.none⟩) rs.length cap) rs) (hcap : rs.length ≤ cap) (hc : c < rs.length) (hd : Lst w (.slice vo doc.length vc) doc) (hle : rs.length ≤ 500) (hd6 : ∀ r ∈ rs, r.1.doc.length ≤ 1000) (hdd : doc.length ≤ 1000)
    (k : ∀ W, Adds w W → Calls Try.prog 24 #[.slice (some ⟨b, off, Option.none⟩) rs.length cap, .string key] W fun e w' => e = .returned (.tuple #[.int .i64 c, .bool true]) ∧ Adds W w') :
    Calls Try.prog 13 #[.slice (some ⟨b, off, Option.none⟩) rs.length cap, .agg #[.int .i64 pos, .string key, .bool has, .slice vo doc.length vc]] w fun e w' => (∃ v, e = .returned v ∧ Hid (∀ w4, Far w.heap.size w' w4 → LstD w4 v ((rs.take c).map (·.1) ++ ((if has then [⟨key, doc⟩] else []) ++ (rs.drop (c + 1)).map (·.1))))) ∧ Adds w w' := by
  have h1 : (0 : Int) ≤ (c : Int) := by omega
  have h2 : (c : Int) ≤ (rs.length : Int) := by omega
  have h3 : (c : Int) ≤ (cap : Int) := by omega
  have h4 : (rs.length : Int) ≤ (cap : Int) := by omega
  have hne : ¬ cap = c := by omega
  have hT := hR.take (c := c) (by omega)
  have hD := (hR.dropL (c := c) (by omega) hne)
  have hD1 := hD.drop (c := 1) (by omega)
  rw [List.drop_drop] at hD1
  have hDf : LstR w (.slice (if cap - c = 1 then some ⟨b, off + c * 2, Option.none⟩ else some ⟨b, off + c * 2 + 2, Option.none⟩) (rs.length - c - 1) (cap - c - 1)) (rs.drop (c + 1)) := by
    simpa [Addr.add_lit] using hD1
  have hX : Hid (∀ S, S = Value.slice (if cap - c = 1 then some ⟨b, off + c * 2, Option.none⟩ else some ⟨b, off + c * 2 + 2, Option.none⟩) (rs.length - c - 1) (cap - c - 1) → LstR w S (rs.drop (c + 1))) := fun S hS => by rw [hS]; exact hDf
  have hdr : ∀ r ∈ rs.take c, r.1.doc.length ≤ 1000 := fun r hr => hd6 r (List.mem_of_mem_take hr)
  have hds : ∀ r ∈ rs.drop (c + 1), r.1.doc.length ≤ 1000 := fun r hr => hd6 r (List.mem_of_mem_drop hr)
  cases has with
  | false =>
    have kC := fun W k T S (hA : Adds w W) hk hS => cat_copy (W := W) (k := k) (T := T) (s3 := S) hk (hT.adds hA) (LstR.none W) ((hX.out S hS).adds hA) (by simp; omega) (by
      intro r hr
      rcases List.mem_append.1 hr with hr | hr
      · exact hdr r hr
      · rw [List.nil_append] at hr
        exact hds r hr)
    have HM : Hid ((rs.take c ++ ([] ++ rs.drop (c + 1))).map (fun r : Rn => r.1) = (rs.take c).map (·.1) ++ ((if false then [⟨key, doc⟩] else []) ++ (rs.drop (c + 1)).map (·.1))) := by show _ = _; simp
    clear hT hD hD1 hR hd6 hd hDf hdr hds hX
    generalize hJ : rs.take c ++ ([] ++ rs.drop (c + 1)) = J at *
    clear hJ
    generalize (rs.take c).map (·.1) ++ ((if false then [⟨key, doc⟩] else []) ++ (rs.drop (c + 1)).map (·.1)) = Z at *
    go_enter Try.func13, Try.ntmps13
    go_wp2_with (go_at_call 24; refine (k _ (by repeat (first | with_reducible exact Adds.refl _ | with_reducible refine Adds.alloc ?_ _ | with_reducible refine Adds.more ?_ _ _ | with_reducible refine Adds.drew ?_ | with_reducible refine Adds.drewN ?_ _))).mono ?_; rintro e w1 ⟨rfl, os1, n1, rfl⟩)
    go_quiet (fail)
    go_wp2_with (first
      | (go_at_call 25; refine (kC _ _ _ _ (by repeat (first | with_reducible exact Adds.refl _ | with_reducible refine Adds.alloc ?_ _ | with_reducible refine Adds.more ?_ _ _ | with_reducible refine Adds.drew ?_ | with_reducible refine Adds.drewN ?_ _)) (by simp [go_sem]) (by first | rfl | simp [*])).mono ?_; rintro e w2 ⟨⟨uo, uc, rfl, HC⟩, os2, n2, rfl⟩)
      | (go_at_call 22; refine (HC.out _ (by repeat (first | with_reducible exact Adds.refl _ | with_reducible refine Adds.alloc ?_ _ | with_reducible refine Adds.more ?_ _ _ | with_reducible refine Adds.drew ?_ | with_reducible refine Adds.drewN ?_ _))).mono ?_; rintro e w3 ⟨⟨v3, rfl, hv3⟩, os3, n3, rfl⟩))
    all_goals
      go_ret
      exact ⟨⟨v3, rfl, by show ∀ w4, _; rw [← HM.out]; have hz := hv3.out; first | exact fun w4 hf => hz w4 (by refine Far.mono hf ?_; (first | omega | (simp only [size_more, World.size_alloc]; omega) | (simp [go_sem] <;> omega))) | (simp only [*] at hz ⊢; exact fun w4 hf => hz w4 (by refine Far.mono hf ?_; (first | omega | (simp only [size_more, World.size_alloc]; omega) | (simp [go_sem] <;> omega)))) | (simp [*] at hz ⊢; exact fun w4 hf => hz w4 (by refine Far.mono hf ?_; (first | omega | (simp only [size_more, World.size_alloc]; omega) | (simp [go_sem] <;> omega))))⟩, (by repeat (first | with_reducible exact Adds.refl _ | with_reducible refine Adds.alloc ?_ _ | with_reducible refine Adds.more ?_ _ _ | with_reducible refine Adds.drew ?_ | with_reducible refine Adds.drewN ?_ _))⟩
  | true =>
    have kC := fun W k T k' S (hA : Adds w W) (hk' : k' = W.heap.size) hk hS => cat_copy (W := W.alloc (.cells #[.string key, .slice vo doc.length vc] 48)) (k := k) (T := T) (s3 := S) hk (hT.adds (hA.alloc _)) (LstR.one hk' (hd.adds hA)) ((hX.out S hS).adds (hA.alloc _)) (by simp; omega) (by
      intro r hr
      rcases List.mem_append.1 hr with hr | hr
      · exact hdr r hr
      · rcases List.mem_append.1 hr with hr | hr
        · have := List.mem_singleton.1 hr
          subst this
          exact hdd
        · exact hds r hr)
    have HM : Hid ((rs.take c ++ ([((⟨key, doc⟩, .slice vo doc.length vc) : Rn)] ++ rs.drop (c + 1))).map (fun r : Rn => r.1) = (rs.take c).map (·.1) ++ ((if true then [⟨key, doc⟩] else []) ++ (rs.drop (c + 1)).map (·.1))) := by show _ = _; simp
    clear hT hD hD1 hR hd6 hd hDf hdr hds hX
    generalize hJ : rs.take c ++ ([((⟨key, doc⟩, .slice vo doc.length vc) : Rn)] ++ rs.drop (c + 1)) = J at *
    clear hJ
    generalize (rs.take c).map (·.1) ++ ((if true then [⟨key, doc⟩] else []) ++ (rs.drop (c + 1)).map (·.1)) = Z at *
    go_enter Try.func13, Try.ntmps13
    go_wp2_with (go_at_call 24; refine (k _ (by repeat (first | with_reducible exact Adds.refl _ | with_reducible refine Adds.alloc ?_ _ | with_reducible refine Adds.more ?_ _ _ | with_reducible refine Adds.drew ?_ | with_reducible refine Adds.drewN ?_ _))).mono ?_; rintro e w1 ⟨rfl, os1, n1, rfl⟩)
    go_quiet (fail)
    go_wp2_with (first
      | (go_at_call 25; refine (kC _ _ _ _ _ (by repeat (first | with_reducible exact Adds.refl _ | with_reducible refine Adds.alloc ?_ _ | with_reducible refine Adds.more ?_ _ _ | with_reducible refine Adds.drew ?_ | with_reducible refine Adds.drewN ?_ _)) (by simp [go_sem]) (by simp [go_sem]) (by first | rfl | simp [*])).mono ?_; rintro e w2 ⟨⟨uo, uc, rfl, HC⟩, os2, n2, rfl⟩)
      | (go_at_call 22; refine (HC.out _ (by repeat (first | with_reducible exact Adds.refl _ | with_reducible refine Adds.alloc ?_ _ | with_reducible refine Adds.more ?_ _ _ | with_reducible refine Adds.drew ?_ | with_reducible refine Adds.drewN ?_ _))).mono ?_; rintro e w3 ⟨⟨v3, rfl, hv3⟩, os3, n3, rfl⟩))
    all_goals
      go_ret
      exact ⟨⟨v3, rfl, by show ∀ w4, _; rw [← HM.out]; have hz := hv3.out; first | exact fun w4 hf => hz w4 (by refine Far.mono hf ?_; (first | omega | (simp only [size_more, World.size_alloc]; omega) | (simp [go_sem] <;> omega))) | (simp only [*] at hz ⊢; exact fun w4 hf => hz w4 (by refine Far.mono hf ?_; (first | omega | (simp only [size_more, World.size_alloc]; omega) | (simp [go_sem] <;> omega)))) | (simp [*] at hz ⊢; exact fun w4 hf => hz w4 (by refine Far.mono hf ?_; (first | omega | (simp only [size_more, World.size_alloc]; omega) | (simp [go_sem] <;> omega))))⟩, (by repeat (first | with_reducible exact Adds.refl _ | with_reducible refine Adds.alloc ?_ _ | with_reducible refine Adds.more ?_ _ _ | with_reducible refine Adds.drew ?_ | with_reducible refine Adds.drewN ?_ _))⟩

end Go.Proofs.Ytgnhkpihlghbmaa
