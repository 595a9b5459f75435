/-
  The function valueOf, by a contract.
-/
import Derived.Test.YtiacnmcdfpmcfaaGreatDoorQ08
import Derived.Test.YtiacnmcdfpmcfaaGreatDoorCalled
import Derived.Test.YtiacnmcdfpmcfaaGreatDoorQ07
namespace Go.Proofs.YtiacnmcdfpmcfaaGreatDoor
open Go.RowKit
attribute [local go_sem] cell?_more frozen?_more setCell_more size_more tape_more drew_more drewN_more more_drew more_drewN one_out plus_out plus_end lt_one le_p2 le_p3 le_p4 le_p5 le_p6 le_p7 le_p8 le_p9 le_p10 le_p11 le_p12 le_p13 le_p14 le_p15 le_p16 le_p17 le_p18 le_p19 le_p20 le_p21 le_p22 le_p23 le_p24 le_q0 le_q1 lt_q1 le_q2 lt_q2 le_q3 lt_q3 le_q4 lt_q4 le_q5 lt_q5 le_q6 lt_q6 le_q7 lt_q7 le_q8 lt_q8 le_q9 lt_q9 le_q10 lt_q10 le_q11 lt_q11 le_q12 lt_q12 le_q13 lt_q13 le_q14 lt_q14 le_q15 lt_q15 le_q16 lt_q16 le_q17 lt_q17 le_q18 lt_q18 le_q19 lt_q19 le_q20 lt_q20 le_q21 lt_q21 le_q22 lt_q22 le_q23 lt_q23 le_q24 lt_q24


def valE (fs : List F) : E → Option V
  | .path t => if firstAt (toB t) fs < fs.length then some (got (toB t) fs) else none
  | .num n => some (V.mkNum n)
  | .sum a b => (valE fs a).bind fun x => (valE fs b).bind fun y => sumO x y
  | .mul a b => (valE fs a).bind fun x => (valE fs b).bind fun y => mulO x y
  | .call f a => (valE fs a).bind fun x => callO f x

theorem fitO_ok {v x : V} (h : fitO v = some x) : x.check = 0 := by
  unfold fitO at h
  split at h
  · cases h; assumption
  · cases h
theorem ptO_ok {a b : Int} {x : V} (h : ptO a b = some x) : x.check = 0 := by
  unfold ptO at h
  split at h
  · cases h; exact mkPoint_ok (by assumption)
  · cases h
theorem sumO_ok {a b x : V} (h : sumO a b = some x) : x.check = 0 := by
  unfold sumO at h
  split at h
  · cases h
  split at h
  · exact fitO_ok h
  split at h
  · exact fitO_ok h
  · exact ptO_ok h
theorem mulO_ok {a b x : V} (h : mulO a b = some x) : x.check = 0 := by
  unfold mulO at h
  split at h
  · cases h
  split at h
  · unfold timesO at h
    split at h
    · rename_i hc
      cases h
      exact mkNum_ok hc.1 hc.2
    · cases h
  split at h
  · exact ptO_ok h
  · cases h
theorem lowB_size (s : ByteArray) : (lowB s).size = s.size := by
  unfold lowB
  rw [toB_size, List.length_map, toList_length]
theorem callO_ok {f : List UInt8} {a x : V} (ha : a.check = 0) (h : callO f a = some x) : x.check = 0 := by
  rcases V.cases ha with ⟨n, rfl, a1, a2⟩ | ⟨s, rfl, hs⟩ | ⟨u, v, rfl, hm⟩
  · simp [callO, V.mkNum] at h
  · simp only [callO, V.mkText, show ((2 : Int) = 3) = False by simp, if_false, if_true] at h
    split at h
    · cases h
      exact mkText_ok (by rw [lowB_size]; exact hs)
    split at h
    · cases h
      refine mkText_ok ?_
      rw [← toList_length, extract_L]
      simp
      omega
    · cases h
  · simp only [callO, V.mkPoint, if_true] at h
    split at h
    · cases h
      obtain ⟨⟨m1, m2⟩, ⟨m3, m4⟩, _⟩ := Gs.may_mul hm hm
      exact mkNum_ok (by omega) (by omega)
    split at h
    · cases h
      refine mkPoint_ok ?_
      unfold Gs.May at *
      omega
    split at h
    · cases h
      exact mkPoint_ok (Gs.may_quarter hm)
    · cases h

theorem got_ok {fs : List F} (hm : May fs) {p : ByteArray} (h : firstAt p fs < fs.length) : (got p fs).check = 0 := by
  simp only [got, h, dif_pos]
  exact (hm.2 _ h).2.1

theorem valE_ok {fs : List F} (hm : May fs) : ∀ {e : E} {v : V}, e.ok → valE fs e = some v → v.check = 0 := by
  intro e
  induction e with
  | path t =>
    intro v _ h
    simp only [valE] at h
    split at h
    · cases h
      exact got_ok hm (by assumption)
    · cases h
  | num n =>
    intro v ho h
    cases h
    have : n < 1000000000000000 := ho
    exact mkNum_ok (by omega) (by omega)
  | sum a b _ _ =>
    intro v _ h
    simp only [valE, Option.bind_eq_some_iff] at h
    obtain ⟨x, _, y, _, h⟩ := h
    exact sumO_ok h
  | mul a b _ _ =>
    intro v _ h
    simp only [valE, Option.bind_eq_some_iff] at h
    obtain ⟨x, _, y, _, h⟩ := h
    exact mulO_ok h
  | call f a ih =>
    intro v ho h
    simp only [valE, Option.bind_eq_some_iff] at h
    obtain ⟨x, hx, h⟩ := h
    exact callO_ok (ih ho.2 hx) h

theorem got_opt (p : ByteArray) (fs : List F) : optV (if firstAt p fs < fs.length then some (got p fs) else none) = .tuple #[(got p fs).val, .bool (decide (firstAt p fs < fs.length))] := by
  by_cases h : firstAt p fs < fs.length
  · simp [optV, h]
  · have e : got p fs = vZ := by simp [got, h, vZ]
    simp [optV, h, e]

def two (a b : E) (k : Int) : N := .mk k ⟨#[]⟩ 0 [a.toN, b.toN]

set_option maxHeartbeats 4000000 in
theorem value_two {ok : Nat → Prop} {d : Nat} (kd : Int) (hkd : kd = 3 ∨ kd = 4) (a b : E) (fs : List F) (dv : Value) (w : World) (sn : Value) (hT : Tn ok d w sn [a.toN, b.toN]) (hm : May fs) (ha : a.ok) (hb : b.ok)
    (ihA : ∀ (e : Nat) (s : Value) (W : World), Adds w W → Tn ok e W s a.toN.args → Calls Tryz.prog 153 #[nodeV a.toN s, dv] W fun x w' => x = .returned (optV (valE fs a)) ∧ Adds W w')
    (ihB : ∀ (e : Nat) (s : Value) (W : World), Adds w W → Tn ok e W s b.toN.args → Calls Tryz.prog 153 #[nodeV b.toN s, dv] W fun x w' => x = .returned (optV (valE fs b)) ∧ Adds W w') :
    Calls Tryz.prog 153 #[.agg #[.int .i64 kd, .string ⟨#[]⟩, .int .i64 0, sn], dv] w fun x w' => x = .returned (optV ((valE fs a).bind fun x => (valE fs b).bind fun y => if kd = 3 then sumO x y else mulO x y)) ∧ Adds w w' := by
  obtain ⟨ao, cap, rfl⟩ := hT.shape
  have hcap : 2 ≤ cap := by
    cases d with
    | zero => exact absurd hT.1 (by simp)
    | succ d =>
      obtain ⟨_, c, h, hc, _⟩ := hT
      simp at h hc
      omega
  obtain ⟨e1, b1, o1, x1, _, rfl, hb1, ⟨c0, c1, c2, c3⟩, _, t1⟩ := hT.elem (k := 0) (by simp)
  obtain ⟨e2, b2, o2, x2, _, h2, hb2, ⟨d0, d1, d2, d3⟩, _, t2⟩ := hT.elem (k := 1) (by simp)
  simp only [Option.some.injEq, Addr.mk.injEq] at h2
  obtain ⟨rfl, rfl, _⟩ := h2
  simp only [List.getElem_cons_zero, List.getElem_cons_succ, Nat.zero_mul, Nat.add_zero, Nat.one_mul] at c0 c1 c2 c3 d0 d1 d2 d3 t1 t2
  have kA := fun W hA => ihA e1 x1 W hA (t1.adds hA)
  have kB := fun W hA => ihB e2 x2 W hA (t2.adds hA)
  obtain ⟨y1, z1, hx1⟩ := t1.shape
  obtain ⟨y2, z2, hx2⟩ := t2.shape
  rw [hx1] at c3 kA
  rw [hx2] at d3 kB
  have HA : Hid (∀ v, valE fs a = some v → v.check = 0) := fun v h => valE_ok hm ha h
  have HB : Hid (∀ v, valE fs b = some v → v.check = 0) := fun v h => valE_ok hm hb h
  clear t1 t2 hx1 hx2 hT ihA ihB ha hb hm
  have hl : ([a.toN, b.toN] : List N).length = 2 := rfl
  simp only [hl, nodeV] at *
  generalize a.toN.args.length = la at *
  generalize b.toN.args.length = lb at *
  generalize a.toN.kind = ka at *
  generalize a.toN.text = ta at *
  generalize a.toN.num = na at *
  generalize b.toN.kind = kb at *
  generalize b.toN.text = tb at *
  generalize b.toN.num = nb at *
  generalize valE fs a = oa at *
  generalize valE fs b = ob at *
  cases oa with
  | none =>
    simp only [optV, Option.getD_none, Option.isSome_none, Option.bind_none, vZ, V.val] at *
    clear kB
    rcases hkd with rfl | rfl
    all_goals
      go_enter Tryz.func153, Tryz.ntmps153
      go_wp2_with (first
        | (go_at_call 153; refine (kA _ (by repeat (first | with_reducible exact Adds.refl _ | with_reducible refine Adds.alloc ?_ _ | with_reducible refine Adds.more ?_ _ _ | with_reducible refine Adds.drew ?_ | with_reducible refine Adds.drewN ?_ _))).mono ?_; rintro e w1 ⟨rfl, os1, n1, rfl⟩))
      exact bodyPost_ret (v := .tuple #[.agg #[.int .i64 0, .int .i64 0, .string ⟨#[]⟩, .int .i64 0, .int .i64 0], .bool false]) (by simp [results, Tryz.results153, go_sem]) rfl ⟨rfl, by repeat (first | with_reducible exact Adds.refl _ | with_reducible refine Adds.alloc ?_ _ | with_reducible refine Adds.more ?_ _ _ | with_reducible refine Adds.drew ?_ | with_reducible refine Adds.drewN ?_ _)⟩
  | some va =>
    have hva := HA.out va rfl
    cases ob with
    | none =>
      obtain ⟨vk, vn, vt, vr, vi⟩ := va
      simp only [optV, Option.getD_none, Option.isSome_none, Option.bind_none, Option.getD_some, Option.isSome_some, Option.bind_some, vZ, V.val] at *
      clear hva HA HB
      have kA' := fun W hA => kA W hA
      rcases hkd with rfl | rfl
      all_goals
        go_enter Tryz.func153, Tryz.ntmps153
        go_wp2_with (first
          | (go_at_call 153; (with_reducible refine (kA _ (by repeat (first | with_reducible exact Adds.refl _ | with_reducible refine Adds.alloc ?_ _ | with_reducible refine Adds.more ?_ _ _ | with_reducible refine Adds.drew ?_ | with_reducible refine Adds.drewN ?_ _))).mono ?_); clear kA; rintro e w1 ⟨rfl, os1, n1, rfl⟩)
          | (go_at_call 153; (with_reducible refine (kB _ (by repeat (first | with_reducible exact Adds.refl _ | with_reducible refine Adds.alloc ?_ _ | with_reducible refine Adds.more ?_ _ _ | with_reducible refine Adds.drew ?_ | with_reducible refine Adds.drewN ?_ _))).mono ?_); rintro e w2 ⟨rfl, os2, n2, rfl⟩))
        exact bodyPost_ret (v := .tuple #[.agg #[.int .i64 0, .int .i64 0, .string ⟨#[]⟩, .int .i64 0, .int .i64 0], .bool false]) (by simp [results, Tryz.results153, go_sem]) rfl ⟨rfl, by repeat (first | with_reducible exact Adds.refl _ | with_reducible refine Adds.alloc ?_ _ | with_reducible refine Adds.more ?_ _ _ | with_reducible refine Adds.drew ?_ | with_reducible refine Adds.drewN ?_ _)⟩
    | some vb =>
      have hvb := HB.out vb rfl
      have kS := sum_any va vb hva hvb
      have kP := prod_any va vb hva hvb
      simp only [Option.bind_some]
      clear hva hvb HA HB
      rcases hkd with rfl | rfl
      · rw [if_pos rfl]
        generalize sumO va vb = o at *
        obtain ⟨⟨k, n, t, re, im⟩, hq⟩ : ∃ q, o.getD vZ = q := ⟨_, rfl⟩
        obtain ⟨vk, vn, vt, vr, vi⟩ := va
        obtain ⟨uk, un, ut, ur, ui⟩ := vb
        simp only [optV, hq, Option.getD_some, Option.isSome_some, V.val] at *
        generalize o.isSome = q2 at *
        clear hq kP
        go_enter Tryz.func153, Tryz.ntmps153
        go_wp2_with (first
          | (go_at_call 153; (with_reducible refine (kA _ (by repeat (first | with_reducible exact Adds.refl _ | with_reducible refine Adds.alloc ?_ _ | with_reducible refine Adds.more ?_ _ _ | with_reducible refine Adds.drew ?_ | with_reducible refine Adds.drewN ?_ _))).mono ?_); clear kA; rintro e w1 ⟨rfl, os1, n1, rfl⟩)
          | (go_at_call 153; (with_reducible refine (kB _ (by repeat (first | with_reducible exact Adds.refl _ | with_reducible refine Adds.alloc ?_ _ | with_reducible refine Adds.more ?_ _ _ | with_reducible refine Adds.drew ?_ | with_reducible refine Adds.drewN ?_ _))).mono ?_); rintro e w2 ⟨rfl, os2, n2, rfl⟩)
          | (go_at_call 172; refine (kS _).mono ?_; rintro e w3 ⟨rfl, os3, n3, rfl⟩))
        exact bodyPost_ret (v := .tuple #[.agg #[.int .i64 k, .int .i64 n, .string t, .int .i64 re, .int .i64 im], .bool q2]) (by simp [results, Tryz.results153, go_sem]) rfl ⟨rfl, by repeat (first | with_reducible exact Adds.refl _ | with_reducible refine Adds.alloc ?_ _ | with_reducible refine Adds.more ?_ _ _ | with_reducible refine Adds.drew ?_ | with_reducible refine Adds.drewN ?_ _)⟩
      · rw [if_neg (by decide)]
        generalize mulO va vb = o at *
        obtain ⟨⟨k, n, t, re, im⟩, hq⟩ : ∃ q, o.getD vZ = q := ⟨_, rfl⟩
        obtain ⟨vk, vn, vt, vr, vi⟩ := va
        obtain ⟨uk, un, ut, ur, ui⟩ := vb
        simp only [optV, hq, Option.getD_some, Option.isSome_some, V.val] at *
        generalize o.isSome = q2 at *
        clear hq kS
        go_enter Tryz.func153, Tryz.ntmps153
        go_wp2_with (first
          | (go_at_call 153; (with_reducible refine (kA _ (by repeat (first | with_reducible exact Adds.refl _ | with_reducible refine Adds.alloc ?_ _ | with_reducible refine Adds.more ?_ _ _ | with_reducible refine Adds.drew ?_ | with_reducible refine Adds.drewN ?_ _))).mono ?_); clear kA; rintro e w1 ⟨rfl, os1, n1, rfl⟩)
          | (go_at_call 153; (with_reducible refine (kB _ (by repeat (first | with_reducible exact Adds.refl _ | with_reducible refine Adds.alloc ?_ _ | with_reducible refine Adds.more ?_ _ _ | with_reducible refine Adds.drew ?_ | with_reducible refine Adds.drewN ?_ _))).mono ?_); rintro e w2 ⟨rfl, os2, n2, rfl⟩)
          | (go_at_call 173; refine (kP _).mono ?_; rintro e w3 ⟨rfl, os3, n3, rfl⟩))
        exact bodyPost_ret (v := .tuple #[.agg #[.int .i64 k, .int .i64 n, .string t, .int .i64 re, .int .i64 im], .bool q2]) (by simp [results, Tryz.results153, go_sem]) rfl ⟨rfl, by repeat (first | with_reducible exact Adds.refl _ | with_reducible refine Adds.alloc ?_ _ | with_reducible refine Adds.more ?_ _ _ | with_reducible refine Adds.drew ?_ | with_reducible refine Adds.drewN ?_ _)⟩

set_option maxHeartbeats 4000000 in
theorem value_any {ok : Nat → Prop} (fs : List F) (hm : May fs) (dv : Value) (e : E) : ∀ (d : Nat) (sn : Value) (w : World), e.ok → Lst w dv fs → Tn ok d w sn e.toN.args →
    Calls Tryz.prog 153 #[nodeV e.toN sn, dv] w fun x w' => x = .returned (optV (valE fs e)) ∧ Adds w w' := by
  induction e with
  | path t =>
    intro d sn w _ hL hT
    have kG := fun W hA => get_any dv fs (toB t) W (hL.adds hA) (by have := hm.1; omega)
    obtain ⟨ao, cap, rfl⟩ := hT.shape
    simp only [valE, got_opt]
    obtain ⟨⟨k, n, tt, re, im⟩, hq⟩ : ∃ q, got (toB t) fs = q := ⟨_, rfl⟩
    rw [hq] at kG ⊢
    clear hq
    generalize decide (firstAt (toB t) fs < fs.length) = q2 at *
    simp only [nodeV, E.toN, N.kind, N.text, N.num, N.args, V.val, List.length_nil] at *
    clear hT
    go_enter Tryz.func153, Tryz.ntmps153
    go_wp2_with (go_at_call 170; refine (kG _ (by repeat (first | with_reducible exact Adds.refl _ | with_reducible refine Adds.alloc ?_ _ | with_reducible refine Adds.more ?_ _ _ | with_reducible refine Adds.drew ?_ | with_reducible refine Adds.drewN ?_ _))).mono ?_; rintro e w1 ⟨rfl, os1, n1, rfl⟩)
    exact bodyPost_ret (v := .tuple #[.agg #[.int .i64 k, .int .i64 n, .string tt, .int .i64 re, .int .i64 im], .bool q2]) (by simp [results, Tryz.results153, go_sem]) rfl ⟨rfl, by repeat (first | with_reducible exact Adds.refl _ | with_reducible refine Adds.alloc ?_ _ | with_reducible refine Adds.more ?_ _ _ | with_reducible refine Adds.drew ?_ | with_reducible refine Adds.drewN ?_ _)⟩
  | num n =>
    intro d sn w _ hL hT
    have kN := num_any (n : Int)
    obtain ⟨ao, cap, rfl⟩ := hT.shape
    simp only [valE, optV, Option.getD_some, Option.isSome_some, V.val, V.mkNum, nodeV, E.toN, N.kind, N.text, N.num, N.args, List.length_nil] at *
    clear hT hL
    go_enter Tryz.func153, Tryz.ntmps153
    go_wp2_with (go_at_call 166; refine (kN _).mono ?_; rintro e w1 ⟨rfl, os1, n1, rfl⟩)
    exact bodyPost_ret (v := .tuple #[.agg #[.int .i64 1, .int .i64 n, .string ⟨#[]⟩, .int .i64 0, .int .i64 0], .bool true]) (by simp [results, Tryz.results153, go_sem]) rfl ⟨rfl, by repeat (first | with_reducible exact Adds.refl _ | with_reducible refine Adds.alloc ?_ _ | with_reducible refine Adds.more ?_ _ _ | with_reducible refine Adds.drew ?_ | with_reducible refine Adds.drewN ?_ _)⟩
  | sum a b iha ihb =>
    intro d sn w ho hL hT
    have := value_two 3 (.inl rfl) a b fs dv w sn hT hm ho.1 ho.2 (fun e s W hA ht => iha e s W ho.1 (hL.adds hA) ht) (fun e s W hA ht => ihb e s W ho.2 (hL.adds hA) ht)
    simp only [if_true] at this
    exact this
  | mul a b iha ihb =>
    intro d sn w ho hL hT
    have := value_two 4 (.inr rfl) a b fs dv w sn hT hm ho.1 ho.2 (fun e s W hA ht => iha e s W ho.1 (hL.adds hA) ht) (fun e s W hA ht => ihb e s W ho.2 (hL.adds hA) ht)
    simp only [show ((4 : Int) = 3) = False by simp, if_false] at this
    exact this
  | call f a iha =>
    intro d sn w ho hL hT
    have hT : Tn ok d w sn [a.toN] := hT
    obtain ⟨ao, cap, rfl⟩ := hT.shape
    have hcap : 1 ≤ cap := by
      cases d with
      | zero => exact absurd hT.1 (by simp)
      | succ d =>
        obtain ⟨_, c, h, hc, _⟩ := hT
        simp at h hc
        omega
    obtain ⟨e1, b1, o1, x1, _, rfl, hb1, ⟨c0, c1, c2, c3⟩, _, t1⟩ := hT.elem (k := 0) (by simp)
    simp only [List.getElem_cons_zero, Nat.zero_mul, Nat.add_zero] at c0 c1 c2 c3 t1
    have kA := fun W hA => iha e1 x1 W ho.2 (hL.adds hA) (t1.adds hA)
    obtain ⟨y1, z1, hx1⟩ := t1.shape
    rw [hx1] at c3 kA
    have HA : Hid (∀ v, valE fs a = some v → v.check = 0) := fun v h => valE_ok hm ho.2 h
    have hf : (toB f).toList = f := toB_toList f
    have hE : valE fs (.call f a) = (valE fs a).bind fun x => callO f x := rfl
    rw [hE]
    clear t1 hx1 hT iha ho hm hL hE
    have kC := fun v hv => called_any (toB f) v hv
    rw [hf] at kC
    clear hf
    have hl : ([a.toN] : List N).length = 1 := rfl
    have hgoal : nodeV (E.call f a).toN (.slice (some ⟨b1, o1, none⟩) [a.toN].length cap) = .agg #[.int .i64 5, .string (toB f), .int .i64 0, .slice (some ⟨b1, o1, none⟩) 1 cap] := rfl
    rw [hgoal]
    clear hgoal hl
    simp only [nodeV] at *
    generalize a.toN.args.length = la at *
    generalize valE fs a = oa at *
    generalize a.toN.kind = ka at *
    generalize a.toN.text = ta at *
    generalize a.toN.num = na at *
    generalize toB f = tf at *
    cases oa with
    | none =>
      simp only [optV, Option.getD_none, Option.isSome_none, Option.bind_none, vZ, V.val] at *
      clear kC HA
      go_enter Tryz.func153, Tryz.ntmps153
      go_wp2_with (first
        | (go_at_call 153; refine (kA _ (by repeat (first | with_reducible exact Adds.refl _ | with_reducible refine Adds.alloc ?_ _ | with_reducible refine Adds.more ?_ _ _ | with_reducible refine Adds.drew ?_ | with_reducible refine Adds.drewN ?_ _))).mono ?_; rintro e w1 ⟨rfl, os1, n1, rfl⟩))
      exact bodyPost_ret (v := .tuple #[.agg #[.int .i64 0, .int .i64 0, .string ⟨#[]⟩, .int .i64 0, .int .i64 0], .bool false]) (by simp [results, Tryz.results153, go_sem]) rfl ⟨rfl, by repeat (first | with_reducible exact Adds.refl _ | with_reducible refine Adds.alloc ?_ _ | with_reducible refine Adds.more ?_ _ _ | with_reducible refine Adds.drew ?_ | with_reducible refine Adds.drewN ?_ _)⟩
    | some va =>
      have kC' := kC va (HA.out va rfl)
      simp only [Option.bind_some]
      generalize callO f va = o at *
      obtain ⟨⟨k, n, t, re, im⟩, hq⟩ : ∃ q, o.getD vZ = q := ⟨_, rfl⟩
      obtain ⟨vk, vn, vt, vr, vi⟩ := va
      clear kC HA
      simp only [optV, hq, Option.getD_some, Option.isSome_some, V.val] at *
      generalize o.isSome = q2 at *
      clear hq
      go_enter Tryz.func153, Tryz.ntmps153
      go_wp2_with (first
        | (go_at_call 153; refine (kA _ (by repeat (first | with_reducible exact Adds.refl _ | with_reducible refine Adds.alloc ?_ _ | with_reducible refine Adds.more ?_ _ _ | with_reducible refine Adds.drew ?_ | with_reducible refine Adds.drewN ?_ _))).mono ?_; rintro e w1 ⟨rfl, os1, n1, rfl⟩)
        | (go_at_call 171; refine (kC' _).mono ?_; rintro e w2 ⟨rfl, os2, n2, rfl⟩))
      exact bodyPost_ret (v := .tuple #[.agg #[.int .i64 k, .int .i64 n, .string t, .int .i64 re, .int .i64 im], .bool q2]) (by simp [results, Tryz.results153, go_sem]) rfl ⟨rfl, by repeat (first | with_reducible exact Adds.refl _ | with_reducible refine Adds.alloc ?_ _ | with_reducible refine Adds.more ?_ _ _ | with_reducible refine Adds.drew ?_ | with_reducible refine Adds.drewN ?_ _)⟩

end Go.Proofs.YtiacnmcdfpmcfaaGreatDoor
