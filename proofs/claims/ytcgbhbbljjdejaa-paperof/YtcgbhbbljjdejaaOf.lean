/-
  Documents' cells as trees: how many lists they have, and that the document is read off them; the function Of of package paper, by a contract.
-/
import Derived.Test.YtcgbhbbljjdejaaCellSame
import Derived.Test.YtcgbhbbljjdejaaRead
import Derived.Test.YtcgbhbbljjdejaaCells
namespace Go.Proofs.Ytcgbhbbljjdejaa
open Go.RowKit
attribute [local go_sem] cell?_more frozen?_more setCell_more size_more tape_more drew_more drewN_more more_drew more_drewN one_out plus_out plus_end lt_one le_p2 le_p3 le_p4 le_p5 le_p6 le_p7 le_p8 le_p9 le_p10 le_p11 le_p12 le_p13 le_p14 le_p15 le_p16 le_p17 le_p18 le_p19 le_p20 le_p21 le_p22 le_p23 le_p24 le_q0 le_q1 lt_q1 le_q2 lt_q2 le_q3 lt_q3 le_q4 lt_q4 le_q5 lt_q5 le_q6 lt_q6 le_q7 lt_q7 le_q8 lt_q8 le_q9 lt_q9 le_q10 lt_q10 le_q11 lt_q11 le_q12 lt_q12 le_q13 lt_q13 le_q14 lt_q14 le_q15 lt_q15 le_q16 lt_q16 le_q17 lt_q17 le_q18 lt_q18 le_q19 lt_q19 le_q20 lt_q20 le_q21 lt_q21 le_q22 lt_q22 le_q23 lt_q23 le_q24 lt_q24

theorem valT_slim (v : V) : Slim 1 (valT v) := by
  unfold valT
  split
  · exact ⟨by simp [tNum, T.list], by simp [tNum, T.list]⟩
  · split
    · exact ⟨by simp [tText, T.list], by simp [tText, T.list]⟩
    · refine ⟨by simp [tList, T.list], ?_⟩
      intro x hx
      simp only [tList, T.list, List.mem_cons, List.mem_nil_iff, or_false] at hx
      rcases hx with rfl | rfl <;> rfl

theorem fieldT_slim (f : F) : Slim 2 (fieldT f) := by
  refine ⟨by simp [fieldT, tList, T.list], ?_⟩
  intro x hx
  simp only [fieldT, tList, T.list, List.mem_cons, List.mem_nil_iff, or_false] at hx
  rcases hx with rfl | rfl
  · exact ⟨by simp [tText, T.list], by simp [tText, T.list]⟩
  · exact valT_slim _

theorem docT_slim {fs : List F} (h : fs.length ≤ 16) : Slim 4 (tList [docT fs]) := by
  refine ⟨by simp [tList, T.list], ?_⟩
  intro x hx
  simp only [tList, T.list, List.mem_singleton] at hx
  subst hx
  refine ⟨by simp [docT, tList, T.list]; omega, ?_⟩
  intro y hy
  simp only [docT, tList, T.list, List.mem_map] at hy
  obtain ⟨f, _, rfl⟩ := hy
  exact fieldT_slim f

theorem valT_cnt (v : V) : (if (valT v).list.isEmpty then 0 else cntL 1 (valT v).list) ≤ 1 := by
  unfold valT
  split
  · simp [tNum, T.list]
  · split
    · simp [tText, T.list]
    · simp [tList, tNum, T.list, cntL]

theorem fieldT_cnt (f : F) : cntL 2 (fieldT f).list ≤ 2 := by
  have := valT_cnt f.val
  simp only [fieldT, tList, T.list, cntL, List.map_cons, List.map_nil, List.sum_cons, List.sum_nil, tText, List.isEmpty_nil, if_true] at *
  omega

theorem docT_cnt {fs : List F} (h : fs.length ≤ 16) : cntL 4 [docT fs] ≤ 4000 := by
  have hs : ∀ l : List F, ((l.map fieldT).map (fun t => if t.list.isEmpty then 0 else cntL 2 t.list)).sum ≤ 2 * l.length := by
    intro l
    induction l with
    | nil => simp
    | cons f r ih =>
      have := fieldT_cnt f
      simp only [List.map_cons, List.sum_cons, List.length_cons]
      split <;> omega
  have h2 := hs fs
  have h3 : cntL 3 (docT fs).list ≤ 33 := by
    have e : (docT fs).list = fs.map fieldT := rfl
    have e2 : cntL 3 (fs.map fieldT) = 1 + ((fs.map fieldT).map (fun t => if t.list.isEmpty then 0 else cntL 2 t.list)).sum := by rw [cntL]
    rw [e, e2]
    omega
  show 1 + _ ≤ 4000
  simp only [List.map_cons, List.map_nil, List.sum_cons, List.sum_nil]
  split <;> omega

theorem valOf_valT {v : V} (h : v.check = 0) : valOf (valT v) = v := by
  obtain ⟨kind, num, text, re, im⟩ := v
  have hf : V.fits ⟨kind, num, text, re, im⟩ = true := by
    unfold V.check at h
    split at h
    · cases h
    · split at h
      · assumption
      · cases h
  unfold V.fits at hf
  by_cases h1 : kind = 1
  · subst h1
    simp at hf
    have ht : text = ⟨#[]⟩ := toList_inj (by rw [hf.1, ByteArray.toList_eq])
    simp [valT, valOf, tNum, T.kind, T.num, ht, hf.2.1, hf.2.2.1]
  · by_cases h2 : kind = 2
    · subst h2
      simp at hf
      simp [valT, valOf, tText, T.kind, T.text, hf.1, hf.2.1, hf.2.2]
    · by_cases h3 : kind = 3
      · subst h3
        simp at hf
        have ht : text = ⟨#[]⟩ := toList_inj (by rw [hf.2.1, ByteArray.toList_eq])
        simp [valT, valOf, tList, tNum, T.kind, T.num, T.list, ht, hf.1]
      · simp [h1, h2, h3] at hf

theorem rd_doc {fs : List F} (hv : ∀ f ∈ fs, f.val.check = 0) : ∀ n, n + fs.length ≤ 16 → rd n (fs.map fieldT) = fs := by
  induction fs with
  | nil => intro n _; rfl
  | cons f r ih =>
    intro n hn
    simp only [List.length_cons] at hn
    rw [List.map_cons, rd_next (p := tText f.path) (q := valT f.val) rfl (by omega), ih (fun g hg => hv g (by simp [hg])) (n + 1) (by omega)]
    congr 1
    have hp : (tText f.path).text.size ≤ 9223372036854775807 := f.fits
    unfold fOf
    rw [dif_pos hp]
    obtain ⟨p, v, hf⟩ := f
    have := hv ⟨p, v, hf⟩ (by simp)
    simp only [F.mk.injEq]
    exact ⟨rfl, valOf_valT this⟩

/-- What Of tells. -/
def OfTold (c : T) (w : World) (v : Value) (x : Int) : Prop :=
  (May (rd 0 c.list) ∧ docT (rd 0 c.list) = c → x = 0 ∧ Lst w v (rd 0 c.list)) ∧ (¬ (May (rd 0 c.list) ∧ docT (rd 0 c.list) = c) → v = .slice none 0 0 ∧ x = 5)

set_option maxHeartbeats 700000 in
theorem of_any {ok : Nat → Prop} {d : Nat} (c : T) (s : Value) (w : World) (h : Tr ok (d + 2) w s c.list) (hlen : c.list.length ≤ 1000) (hx : c.text.size ≤ 9223372036854775807) :
    Calls Try.prog 28 #[cellV c s] w fun e w' => ∃ v x, e = .returned (.tuple #[v, .int .i64 x]) ∧ OfTold c w' v x ∧ Adds w w' := by
  have kR := fun W (hA : Adds w W) => read_any c s W (h.adds hA) hlen
  obtain ⟨ao, cap, hs⟩ := h.shape
  obtain ⟨R, hR⟩ : ∃ R, R = rd 0 c.list := ⟨_, rfl⟩
  unfold OfTold
  rw [← hR]
  simp only [← hR] at kR
  by_cases hM : May R
  · have kC := fun W v (hl : Lst W v R) => cell_ok v R W hl hM
    have kS := fun W r (hr : Tr (fun _ => True) 3 W r (docT R).list) (hA : Adds w W) => same_tree (docT R) c r s W hr (h.adds hA) (docT_slim hM.1) (Nat.zero_le _) hx (docT_cnt hM.1)
    subst hs
    simp only [cellV, show (docT R).kind = 3 from rfl, show (docT R).num = 0 from rfl, show (docT R).text = ⟨#[]⟩ from rfl] at kR kC kS ⊢
    clear h hR
    generalize docT R = D at *
    generalize hDl : D.list = DL at *
    clear hDl
    generalize c.kind = ck at *
    generalize c.num = cn at *
    generalize c.text = cx at *
    generalize c.list.length = cl at *
    go_enter Try.func28, Try.ntmps28
    go_wp2_with (first
      | (go_at_call 41; refine (kR _ (by repeat (first | with_reducible exact Adds.refl _ | with_reducible refine Adds.alloc ?_ _ | with_reducible refine Adds.more ?_ _ _ | with_reducible refine Adds.drew ?_ | with_reducible refine Adds.drewN ?_ _))).mono ?_; rintro e w1 ⟨r1, rfl, l1, os1, n1, rfl⟩)
      | (go_at_call 26; refine (kC _ _ (l1.adds (by repeat (first | with_reducible exact Adds.refl _ | with_reducible refine Adds.alloc ?_ _ | with_reducible refine Adds.more ?_ _ _ | with_reducible refine Adds.drew ?_ | with_reducible refine Adds.drewN ?_ _)))).mono ?_; rintro e w2 ⟨r2, rfl, t2, os2, n2, rfl⟩; obtain ⟨ra, rc, hrs⟩ := t2.shape; subst hrs)
      | (go_at_call 42; refine (kS _ (.slice ra DL.length rc) (t2.adds (by repeat (first | with_reducible exact Adds.refl _ | with_reducible refine Adds.alloc ?_ _ | with_reducible refine Adds.more ?_ _ _ | with_reducible refine Adds.drew ?_ | with_reducible refine Adds.drewN ?_ _))) (by repeat (first | with_reducible exact Adds.refl _ | with_reducible refine Adds.alloc ?_ _ | with_reducible refine Adds.more ?_ _ _ | with_reducible refine Adds.drew ?_ | with_reducible refine Adds.drewN ?_ _))).mono ?_; rintro e w3 ⟨q3, rfl, hq3, os3, n3, rfl⟩))
    · have hf : q3 = false := by
        rename_i h
        simpa using h
      have hne : ¬ (May R ∧ D = c) := fun h => by
        have := hq3.2 h.2
        rw [hf] at this
        cases this
      go_ret2
      refine ⟨_, _, rfl, ⟨fun h => absurd h hne, fun _ => ⟨rfl, rfl⟩⟩, ?_⟩
      repeat (first | with_reducible exact Adds.refl _ | with_reducible refine Adds.alloc ?_ _ | with_reducible refine Adds.more ?_ _ _ | with_reducible refine Adds.drew ?_ | with_reducible refine Adds.drewN ?_ _)
    · have hf : q3 = true := by
        rename_i h
        simpa using h
      have heq : D = c := hq3.1 hf
      go_ret2
      refine ⟨_, _, rfl, ⟨fun _ => ⟨rfl, l1.adds (by repeat (first | with_reducible exact Adds.refl _ | with_reducible refine Adds.alloc ?_ _ | with_reducible refine Adds.more ?_ _ _ | with_reducible refine Adds.drew ?_ | with_reducible refine Adds.drewN ?_ _))⟩, fun h => absurd ⟨hM, heq⟩ h⟩, ?_⟩
      repeat (first | with_reducible exact Adds.refl _ | with_reducible refine Adds.alloc ?_ _ | with_reducible refine Adds.more ?_ _ _ | with_reducible refine Adds.drew ?_ | with_reducible refine Adds.drewN ?_ _)
  · have kC := fun W v (hl : Lst W v R) => cell_bad v R W hl hM
    subst hs
    simp only [cellV] at kR ⊢
    clear h
    generalize c.kind = ck at *
    generalize c.num = cn at *
    generalize c.text = cx at *
    generalize c.list.length = cl at *
    go_enter Try.func28, Try.ntmps28
    go_wp2_with (first
      | (go_at_call 41; refine (kR _ (by repeat (first | with_reducible exact Adds.refl _ | with_reducible refine Adds.alloc ?_ _ | with_reducible refine Adds.more ?_ _ _ | with_reducible refine Adds.drew ?_ | with_reducible refine Adds.drewN ?_ _))).mono ?_; rintro e w1 ⟨r1, rfl, l1, os1, n1, rfl⟩)
      | (go_at_call 26; refine (kC _ _ (l1.adds (by repeat (first | with_reducible exact Adds.refl _ | with_reducible refine Adds.alloc ?_ _ | with_reducible refine Adds.more ?_ _ _ | with_reducible refine Adds.drew ?_ | with_reducible refine Adds.drewN ?_ _)))).mono ?_; rintro e w2 ⟨rfl, os2, n2, rfl⟩))
    go_ret2
    refine ⟨_, _, rfl, ⟨fun h => absurd h.1 hM, fun _ => ⟨rfl, rfl⟩⟩, ?_⟩
    repeat (first | with_reducible exact Adds.refl _ | with_reducible refine Adds.alloc ?_ _ | with_reducible refine Adds.more ?_ _ _ | with_reducible refine Adds.drew ?_ | with_reducible refine Adds.drewN ?_ _)

end Go.Proofs.Ytcgbhbbljjdejaa
