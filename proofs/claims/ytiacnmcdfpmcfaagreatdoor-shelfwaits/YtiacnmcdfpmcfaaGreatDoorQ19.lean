/-
  Products, by a contract.
  The function valueOf, by a contract.
  The function below, of trees that are new: no list is passed by.
-/
import Derived.Test.YtiacnmcdfpmcfaaGreatDoorQ16
import Derived.Test.YtiacnmcdfpmcfaaGreatDoorQ18
import Derived.Test.YtiacnmcdfpmcfaaGreatDoorV12
import Derived.Test.YtiacnmcdfpmcfaaGreatDoorQ13
import Derived.Carry
namespace Go.Proofs.YtiacnmcdfpmcfaaGreatDoor
open Go.RowKit
attribute [local go_sem] cell?_more frozen?_more setCell_more size_more tape_more drew_more drewN_more more_drew more_drewN one_out plus_out plus_end lt_one le_p2 le_p3 le_p4 le_p5 le_p6 le_p7 le_p8 le_p9 le_p10 le_p11 le_p12 le_p13 le_p14 le_p15 le_p16 le_p17 le_p18 le_p19 le_p20 le_p21 le_p22 le_p23 le_p24 le_q0 le_q1 lt_q1 le_q2 lt_q2 le_q3 lt_q3 le_q4 lt_q4 le_q5 lt_q5 le_q6 lt_q6 le_q7 lt_q7 le_q8 lt_q8 le_q9 lt_q9 le_q10 lt_q10 le_q11 lt_q11 le_q12 lt_q12 le_q13 lt_q13 le_q14 lt_q14 le_q15 lt_q15 le_q16 lt_q16 le_q17 lt_q17 le_q18 lt_q18 le_q19 lt_q19 le_q20 lt_q20 le_q21 lt_q21 le_q22 lt_q22 le_q23 lt_q23 le_q24 lt_q24


set_option maxHeartbeats 4000000 in
theorem prod_points (u v : V) (h : ¬ (u.kind = 2 ∨ v.kind = 2)) (h1 : ¬ (u.kind = 1 ∧ v.kind = 1)) (w : World) :
    Calls Tryz.prog 173 #[u.val, v.val] w fun e w' => e = .returned (optV (prodP (asRe u) (asIm u) (asRe v) (asIm v))) ∧ Adds w w' := by
  have kU := asPoint_any u
  have kV := asPoint_any v
  have kM := mulP_any (asRe u) (asIm u) (asRe v) (asIm v)
  generalize asRe u = a at *
  generalize asIm u = b at *
  generalize asRe v = c at *
  generalize asIm v = d at *
  have hO : ∃ o, prodP a b c d = o := ⟨_, rfl⟩
  obtain ⟨o, hO⟩ := hO
  rw [hO] at kM ⊢
  clear hO
  have hp := fun x y q => pointOr_any x y q
  obtain ⟨k, n, t, re, im⟩ := u
  obtain ⟨k', n', t', re', im'⟩ := v
  have hk2 : (k == 2) = false := by simpa using fun e => h (.inl e)
  have hk2' : (k' == 2) = false := by simpa using fun e => h (.inr e)
  obtain ⟨⟨ok, on, ot, ore, oim⟩, hq⟩ : ∃ q, o.getD vZ = q := ⟨_, rfl⟩
  have HQ0 : Hid (o.getD vZ = ⟨ok, on, ot, ore, oim⟩) := hq
  simp only [optV, hq, V.val] at kU kV ⊢
  have kM' : ∀ w, Calls Tryz.prog 182 #[Gs.pt a b, Gs.pt c d] w fun e w' => (∃ x y q, e = .returned (.tuple #[Gs.pt x y, .int .i64 q]) ∧ ∀ w, Calls Tryz.prog 179 #[Gs.pt x y, .int .i64 q] w fun e w' => e = .returned (.tuple #[.agg #[.int .i64 ok, .int .i64 on, .string ot, .int .i64 ore, .int .i64 oim], .bool o.isSome]) ∧ Adds w w') ∧ Adds w w' := by
    intro w
    refine (kM w).mono ?_
    rintro e w' ⟨⟨x, y, q, rfl, ho⟩, hA⟩
    refine ⟨⟨x, y, q, rfl, fun w => ?_⟩, hA⟩
    have := hp x y q w
    rw [← ho] at this
    simp only [optV, HQ0.out, V.val] at this
    exact this
  generalize o.isSome = q2 at *
  clear kM hp hq h HQ0
  by_cases hk1 : k = 1
  · have hk1' : (k' == 1) = false := by simpa using fun e => h1 ⟨hk1, e⟩
    subst hk1
    clear h1
    go_enter Tryz.func173, Tryz.ntmps173
    go_wp2
    go_region_with (first
      | (go_at_call 183; (with_reducible refine (kU _).mono ?_); rintro e w1 ⟨rfl, os1, n1, rfl⟩)
      | (go_at_call 183; (with_reducible refine (kV _).mono ?_); rintro e w2 ⟨rfl, os2, n2, rfl⟩)
      | (go_at_call 182; refine (kM' _).mono ?_; rintro e w3 ⟨⟨x, y, q, rfl, hp⟩, os3, n3, rfl⟩)
      | (go_at_call 179; refine (hp _).mono ?_; rintro e w4 ⟨rfl, os4, n4, rfl⟩))
    all_goals
      go_wp2
      exact bodyPost_ret (v := .tuple #[.agg #[.int .i64 ok, .int .i64 on, .string ot, .int .i64 ore, .int .i64 oim], .bool q2]) (by simp [results, Tryz.results173, go_sem]) rfl ⟨rfl, by repeat (first | with_reducible exact Adds.refl _ | with_reducible refine Adds.alloc ?_ _ | with_reducible refine Adds.more ?_ _ _ | with_reducible refine Adds.drew ?_ | with_reducible refine Adds.drewN ?_ _)⟩
  · have hk1' : (k == 1) = false := by simpa using hk1
    clear h1 hk1
    go_enter Tryz.func173, Tryz.ntmps173
    go_wp2
    go_region_with (first
      | (go_at_call 183; (with_reducible refine (kU _).mono ?_); rintro e w1 ⟨rfl, os1, n1, rfl⟩)
      | (go_at_call 183; (with_reducible refine (kV _).mono ?_); rintro e w2 ⟨rfl, os2, n2, rfl⟩)
      | (go_at_call 182; refine (kM' _).mono ?_; rintro e w3 ⟨⟨x, y, q, rfl, hp⟩, os3, n3, rfl⟩)
      | (go_at_call 179; refine (hp _).mono ?_; rintro e w4 ⟨rfl, os4, n4, rfl⟩))
    all_goals
      go_wp2
      exact bodyPost_ret (v := .tuple #[.agg #[.int .i64 ok, .int .i64 on, .string ot, .int .i64 ore, .int .i64 oim], .bool q2]) (by simp [results, Tryz.results173, go_sem]) rfl ⟨rfl, by repeat (first | with_reducible exact Adds.refl _ | with_reducible refine Adds.alloc ?_ _ | with_reducible refine Adds.more ?_ _ _ | with_reducible refine Adds.drew ?_ | with_reducible refine Adds.drewN ?_ _)⟩

theorem prod_any (u v : V) (hu : u.check = 0) (hv : v.check = 0) (w : World) :
    Calls Tryz.prog 173 #[u.val, v.val] w fun e w' => e = .returned (optV (mulO u v)) ∧ Adds w w' := by
  unfold mulO
  by_cases h : u.kind = 2 ∨ v.kind = 2
  · rw [if_pos h]
    exact prod_text u v h w
  · rw [if_neg h]
    by_cases h1 : u.kind = 1 ∧ v.kind = 1
    · rw [if_pos h1]
      rcases V.cases hu with ⟨a, rfl, a1, a2⟩ | ⟨s, rfl, hs⟩ | ⟨x, y, rfl, hxy⟩
      · rcases V.cases hv with ⟨b, rfl, b1, b2⟩ | ⟨s, rfl, hs⟩ | ⟨x, y, rfl, hxy⟩
        · exact prod_nums a b a1 a2 b1 b2 w
        · exact absurd h1.2 (by simp [V.mkText])
        · exact absurd h1.2 (by simp [V.mkPoint])
      · exact absurd h1.1 (by simp [V.mkText])
      · exact absurd h1.1 (by simp [V.mkPoint])
    · rw [if_neg h1]
      exact prod_points u v h h1 w

end Go.Proofs.YtiacnmcdfpmcfaaGreatDoor

namespace Go.Proofs.YtiacnmcdfpmcfaaGreatDoor
open Go.RowKit
attribute [local go_sem] cell?_more frozen?_more setCell_more size_more tape_more drew_more drewN_more more_drew more_drewN one_out plus_out plus_end lt_one le_p2 le_p3 le_p4 le_p5 le_p6 le_p7 le_p8 le_p9 le_p10 le_p11 le_p12 le_p13 le_p14 le_p15 le_p16 le_p17 le_p18 le_p19 le_p20 le_p21 le_p22 le_p23 le_p24 le_q0 le_q1 lt_q1 le_q2 lt_q2 le_q3 lt_q3 le_q4 lt_q4 le_q5 lt_q5 le_q6 lt_q6 le_q7 lt_q7 le_q8 lt_q8 le_q9 lt_q9 le_q10 lt_q10 le_q11 lt_q11 le_q12 lt_q12 le_q13 lt_q13 le_q14 lt_q14 le_q15 lt_q15 le_q16 lt_q16 le_q17 lt_q17 le_q18 lt_q18 le_q19 lt_q19 le_q20 lt_q20 le_q21 lt_q21 le_q22 lt_q22 le_q23 lt_q23 le_q24 lt_q24


def valE (fs : List F) : E → Option V
  | .path t => if firstAt (toB t) fs < fs.length then some (got (toB t) fs) else none
  | .num n => some (V.mkNum n)
  | .sum a b => (valE fs a).bind fun x => (valE fs b).bind fun y => sumO x y
  | .mul a b => (valE fs a).bind fun x => (valE fs b).bind fun y => mulO x y
  | .call f a => (valE fs a).bind fun x => callO f x

theorem fitO_ok {v x : V} (h : fitO v = some x) : x.check = 0 := by
  unfold fitO at h
  split at h
  · cases h; assumption
  · cases h
theorem ptO_ok {a b : Int} {x : V} (h : ptO a b = some x) : x.check = 0 := by
  unfold ptO at h
  split at h
  · cases h; exact mkPoint_ok (by assumption)
  · cases h
theorem sumO_ok {a b x : V} (h : sumO a b = some x) : x.check = 0 := by
  unfold sumO at h
  split at h
  · cases h
  split at h
  · exact fitO_ok h
  split at h
  · exact fitO_ok h
  · exact ptO_ok h
theorem mulO_ok {a b x : V} (h : mulO a b = some x) : x.check = 0 := by
  unfold mulO at h
  split at h
  · cases h
  split at h
  · unfold timesO at h
    split at h
    · rename_i hc
      cases h
      exact mkNum_ok hc.1 hc.2
    · cases h
  split at h
  · exact ptO_ok h
  · cases h
theorem lowB_size (s : ByteArray) : (lowB s).size = s.size := by
  unfold lowB
  rw [toB_size, List.length_map, toList_length]
theorem callO_ok {f : List UInt8} {a x : V} (ha : a.check = 0) (h : callO f a = some x) : x.check = 0 := by
  rcases V.cases ha with ⟨n, rfl, a1, a2⟩ | ⟨s, rfl, hs⟩ | ⟨u, v, rfl, hm⟩
  · simp [callO, V.mkNum] at h
  · simp only [callO, V.mkText, show ((2 : Int) = 3) = False by simp, if_false, if_true] at h
    split at h
    · cases h
      exact mkText_ok (by rw [lowB_size]; exact hs)
    split at h
    · cases h
      refine mkText_ok ?_
      rw [← toList_length, extract_L]
      simp
      omega
    · cases h
  · simp only [callO, V.mkPoint, if_true] at h
    split at h
    · cases h
      obtain ⟨⟨m1, m2⟩, ⟨m3, m4⟩, _⟩ := Gs.may_mul hm hm
      exact mkNum_ok (by omega) (by omega)
    split at h
    · cases h
      refine mkPoint_ok ?_
      unfold Gs.May at *
      omega
    split at h
    · cases h
      exact mkPoint_ok (Gs.may_quarter hm)
    · cases h

theorem got_ok {fs : List F} (hm : May fs) {p : ByteArray} (h : firstAt p fs < fs.length) : (got p fs).check = 0 := by
  simp only [got, h, dif_pos]
  exact (hm.2 _ h).2.1

theorem valE_ok {fs : List F} (hm : May fs) : ∀ {e : E} {v : V}, e.ok → valE fs e = some v → v.check = 0 := by
  intro e
  induction e with
  | path t =>
    intro v _ h
    simp only [valE] at h
    split at h
    · cases h
      exact got_ok hm (by assumption)
    · cases h
  | num n =>
    intro v ho h
    cases h
    have : n < 1000000000000000 := ho
    exact mkNum_ok (by omega) (by omega)
  | sum a b _ _ =>
    intro v _ h
    simp only [valE, Option.bind_eq_some_iff] at h
    obtain ⟨x, _, y, _, h⟩ := h
    exact sumO_ok h
  | mul a b _ _ =>
    intro v _ h
    simp only [valE, Option.bind_eq_some_iff] at h
    obtain ⟨x, _, y, _, h⟩ := h
    exact mulO_ok h
  | call f a ih =>
    intro v ho h
    simp only [valE, Option.bind_eq_some_iff] at h
    obtain ⟨x, hx, h⟩ := h
    exact callO_ok (ih ho.2 hx) h

theorem got_opt (p : ByteArray) (fs : List F) : optV (if firstAt p fs < fs.length then some (got p fs) else none) = .tuple #[(got p fs).val, .bool (decide (firstAt p fs < fs.length))] := by
  by_cases h : firstAt p fs < fs.length
  · simp [optV, h]
  · have e : got p fs = vZ := by simp [got, h, vZ]
    simp [optV, h, e]

def two (a b : E) (k : Int) : N := .mk k ⟨#[]⟩ 0 [a.toN, b.toN]

set_option maxHeartbeats 4000000 in
theorem value_two {ok : Nat → Prop} {d : Nat} (kd : Int) (hkd : kd = 3 ∨ kd = 4) (a b : E) (fs : List F) (dv : Value) (w : World) (sn : Value) (hT : Tn ok d w sn [a.toN, b.toN]) (hm : May fs) (ha : a.ok) (hb : b.ok)
    (ihA : ∀ (e : Nat) (s : Value) (W : World), Adds w W → Tn ok e W s a.toN.args → Calls Tryz.prog 153 #[nodeV a.toN s, dv] W fun x w' => x = .returned (optV (valE fs a)) ∧ Adds W w')
    (ihB : ∀ (e : Nat) (s : Value) (W : World), Adds w W → Tn ok e W s b.toN.args → Calls Tryz.prog 153 #[nodeV b.toN s, dv] W fun x w' => x = .returned (optV (valE fs b)) ∧ Adds W w') :
    Calls Tryz.prog 153 #[.agg #[.int .i64 kd, .string ⟨#[]⟩, .int .i64 0, sn], dv] w fun x w' => x = .returned (optV ((valE fs a).bind fun x => (valE fs b).bind fun y => if kd = 3 then sumO x y else mulO x y)) ∧ Adds w w' := by
  obtain ⟨ao, cap, rfl⟩ := hT.shape
  have hcap : 2 ≤ cap := by
    cases d with
    | zero => exact absurd hT.1 (by simp)
    | succ d =>
      obtain ⟨_, c, h, hc, _⟩ := hT
      simp at h hc
      omega
  obtain ⟨e1, b1, o1, x1, _, rfl, hb1, ⟨c0, c1, c2, c3⟩, _, t1⟩ := hT.elem (k := 0) (by simp)
  obtain ⟨e2, b2, o2, x2, _, h2, hb2, ⟨d0, d1, d2, d3⟩, _, t2⟩ := hT.elem (k := 1) (by simp)
  simp only [Option.some.injEq, Addr.mk.injEq] at h2
  obtain ⟨rfl, rfl, _⟩ := h2
  simp only [List.getElem_cons_zero, List.getElem_cons_succ, Nat.zero_mul, Nat.add_zero, Nat.one_mul] at c0 c1 c2 c3 d0 d1 d2 d3 t1 t2
  have kA := fun W hA => ihA e1 x1 W hA (t1.adds hA)
  have kB := fun W hA => ihB e2 x2 W hA (t2.adds hA)
  obtain ⟨y1, z1, hx1⟩ := t1.shape
  obtain ⟨y2, z2, hx2⟩ := t2.shape
  rw [hx1] at c3 kA
  rw [hx2] at d3 kB
  have HA : Hid (∀ v, valE fs a = some v → v.check = 0) := fun v h => valE_ok hm ha h
  have HB : Hid (∀ v, valE fs b = some v → v.check = 0) := fun v h => valE_ok hm hb h
  clear t1 t2 hx1 hx2 hT ihA ihB ha hb hm
  have hl : ([a.toN, b.toN] : List N).length = 2 := rfl
  simp only [hl, nodeV] at *
  generalize a.toN.args.length = la at *
  generalize b.toN.args.length = lb at *
  generalize a.toN.kind = ka at *
  generalize a.toN.text = ta at *
  generalize a.toN.num = na at *
  generalize b.toN.kind = kb at *
  generalize b.toN.text = tb at *
  generalize b.toN.num = nb at *
  generalize valE fs a = oa at *
  generalize valE fs b = ob at *
  cases oa with
  | none =>
    simp only [optV, Option.getD_none, Option.isSome_none, Option.bind_none, vZ, V.val] at *
    clear kB
    rcases hkd with rfl | rfl
    all_goals
      go_enter Tryz.func153, Tryz.ntmps153
      go_wp2_with (first
        | (go_at_call 153; refine (kA _ (by repeat (first | with_reducible exact Adds.refl _ | with_reducible refine Adds.alloc ?_ _ | with_reducible refine Adds.more ?_ _ _ | with_reducible refine Adds.drew ?_ | with_reducible refine Adds.drewN ?_ _))).mono ?_; rintro e w1 ⟨rfl, os1, n1, rfl⟩))
      exact bodyPost_ret (v := .tuple #[.agg #[.int .i64 0, .int .i64 0, .string ⟨#[]⟩, .int .i64 0, .int .i64 0], .bool false]) (by simp [results, Tryz.results153, go_sem]) rfl ⟨rfl, by repeat (first | with_reducible exact Adds.refl _ | with_reducible refine Adds.alloc ?_ _ | with_reducible refine Adds.more ?_ _ _ | with_reducible refine Adds.drew ?_ | with_reducible refine Adds.drewN ?_ _)⟩
  | some va =>
    have hva := HA.out va rfl
    cases ob with
    | none =>
      obtain ⟨vk, vn, vt, vr, vi⟩ := va
      simp only [optV, Option.getD_none, Option.isSome_none, Option.bind_none, Option.getD_some, Option.isSome_some, Option.bind_some, vZ, V.val] at *
      clear hva HA HB
      have kA' := fun W hA => kA W hA
      rcases hkd with rfl | rfl
      all_goals
        go_enter Tryz.func153, Tryz.ntmps153
        go_wp2_with (first
          | (go_at_call 153; (with_reducible refine (kA _ (by repeat (first | with_reducible exact Adds.refl _ | with_reducible refine Adds.alloc ?_ _ | with_reducible refine Adds.more ?_ _ _ | with_reducible refine Adds.drew ?_ | with_reducible refine Adds.drewN ?_ _))).mono ?_); clear kA; rintro e w1 ⟨rfl, os1, n1, rfl⟩)
          | (go_at_call 153; (with_reducible refine (kB _ (by repeat (first | with_reducible exact Adds.refl _ | with_reducible refine Adds.alloc ?_ _ | with_reducible refine Adds.more ?_ _ _ | with_reducible refine Adds.drew ?_ | with_reducible refine Adds.drewN ?_ _))).mono ?_); rintro e w2 ⟨rfl, os2, n2, rfl⟩))
        exact bodyPost_ret (v := .tuple #[.agg #[.int .i64 0, .int .i64 0, .string ⟨#[]⟩, .int .i64 0, .int .i64 0], .bool false]) (by simp [results, Tryz.results153, go_sem]) rfl ⟨rfl, by repeat (first | with_reducible exact Adds.refl _ | with_reducible refine Adds.alloc ?_ _ | with_reducible refine Adds.more ?_ _ _ | with_reducible refine Adds.drew ?_ | with_reducible refine Adds.drewN ?_ _)⟩
    | some vb =>
      have hvb := HB.out vb rfl
      have kS := sum_any va vb hva hvb
      have kP := prod_any va vb hva hvb
      simp only [Option.bind_some]
      clear hva hvb HA HB
      rcases hkd with rfl | rfl
      · rw [if_pos rfl]
        generalize sumO va vb = o at *
        obtain ⟨⟨k, n, t, re, im⟩, hq⟩ : ∃ q, o.getD vZ = q := ⟨_, rfl⟩
        obtain ⟨vk, vn, vt, vr, vi⟩ := va
        obtain ⟨uk, un, ut, ur, ui⟩ := vb
        simp only [optV, hq, Option.getD_some, Option.isSome_some, V.val] at *
        generalize o.isSome = q2 at *
        clear hq kP
        go_enter Tryz.func153, Tryz.ntmps153
        go_wp2_with (first
          | (go_at_call 153; (with_reducible refine (kA _ (by repeat (first | with_reducible exact Adds.refl _ | with_reducible refine Adds.alloc ?_ _ | with_reducible refine Adds.more ?_ _ _ | with_reducible refine Adds.drew ?_ | with_reducible refine Adds.drewN ?_ _))).mono ?_); clear kA; rintro e w1 ⟨rfl, os1, n1, rfl⟩)
          | (go_at_call 153; (with_reducible refine (kB _ (by repeat (first | with_reducible exact Adds.refl _ | with_reducible refine Adds.alloc ?_ _ | with_reducible refine Adds.more ?_ _ _ | with_reducible refine Adds.drew ?_ | with_reducible refine Adds.drewN ?_ _))).mono ?_); rintro e w2 ⟨rfl, os2, n2, rfl⟩)
          | (go_at_call 172; refine (kS _).mono ?_; rintro e w3 ⟨rfl, os3, n3, rfl⟩))
        exact bodyPost_ret (v := .tuple #[.agg #[.int .i64 k, .int .i64 n, .string t, .int .i64 re, .int .i64 im], .bool q2]) (by simp [results, Tryz.results153, go_sem]) rfl ⟨rfl, by repeat (first | with_reducible exact Adds.refl _ | with_reducible refine Adds.alloc ?_ _ | with_reducible refine Adds.more ?_ _ _ | with_reducible refine Adds.drew ?_ | with_reducible refine Adds.drewN ?_ _)⟩
      · rw [if_neg (by decide)]
        generalize mulO va vb = o at *
        obtain ⟨⟨k, n, t, re, im⟩, hq⟩ : ∃ q, o.getD vZ = q := ⟨_, rfl⟩
        obtain ⟨vk, vn, vt, vr, vi⟩ := va
        obtain ⟨uk, un, ut, ur, ui⟩ := vb
        simp only [optV, hq, Option.getD_some, Option.isSome_some, V.val] at *
        generalize o.isSome = q2 at *
        clear hq kS
        go_enter Tryz.func153, Tryz.ntmps153
        go_wp2_with (first
          | (go_at_call 153; (with_reducible refine (kA _ (by repeat (first | with_reducible exact Adds.refl _ | with_reducible refine Adds.alloc ?_ _ | with_reducible refine Adds.more ?_ _ _ | with_reducible refine Adds.drew ?_ | with_reducible refine Adds.drewN ?_ _))).mono ?_); clear kA; rintro e w1 ⟨rfl, os1, n1, rfl⟩)
          | (go_at_call 153; (with_reducible refine (kB _ (by repeat (first | with_reducible exact Adds.refl _ | with_reducible refine Adds.alloc ?_ _ | with_reducible refine Adds.more ?_ _ _ | with_reducible refine Adds.drew ?_ | with_reducible refine Adds.drewN ?_ _))).mono ?_); rintro e w2 ⟨rfl, os2, n2, rfl⟩)
          | (go_at_call 173; refine (kP _).mono ?_; rintro e w3 ⟨rfl, os3, n3, rfl⟩))
        exact bodyPost_ret (v := .tuple #[.agg #[.int .i64 k, .int .i64 n, .string t, .int .i64 re, .int .i64 im], .bool q2]) (by simp [results, Tryz.results153, go_sem]) rfl ⟨rfl, by repeat (first | with_reducible exact Adds.refl _ | with_reducible refine Adds.alloc ?_ _ | with_reducible refine Adds.more ?_ _ _ | with_reducible refine Adds.drew ?_ | with_reducible refine Adds.drewN ?_ _)⟩

set_option maxHeartbeats 4000000 in
theorem value_any {ok : Nat → Prop} (fs : List F) (hm : May fs) (dv : Value) (e : E) : ∀ (d : Nat) (sn : Value) (w : World), e.ok → Lst w dv fs → Tn ok d w sn e.toN.args →
    Calls Tryz.prog 153 #[nodeV e.toN sn, dv] w fun x w' => x = .returned (optV (valE fs e)) ∧ Adds w w' := by
  induction e with
  | path t =>
    intro d sn w _ hL hT
    have kG := fun W hA => get_any dv fs (toB t) W (hL.adds hA) (by have := hm.1; omega)
    obtain ⟨ao, cap, rfl⟩ := hT.shape
    simp only [valE, got_opt]
    obtain ⟨⟨k, n, tt, re, im⟩, hq⟩ : ∃ q, got (toB t) fs = q := ⟨_, rfl⟩
    rw [hq] at kG ⊢
    clear hq
    generalize decide (firstAt (toB t) fs < fs.length) = q2 at *
    simp only [nodeV, E.toN, N.kind, N.text, N.num, N.args, V.val, List.length_nil] at *
    clear hT
    go_enter Tryz.func153, Tryz.ntmps153
    go_wp2_with (go_at_call 170; refine (kG _ (by repeat (first | with_reducible exact Adds.refl _ | with_reducible refine Adds.alloc ?_ _ | with_reducible refine Adds.more ?_ _ _ | with_reducible refine Adds.drew ?_ | with_reducible refine Adds.drewN ?_ _))).mono ?_; rintro e w1 ⟨rfl, os1, n1, rfl⟩)
    exact bodyPost_ret (v := .tuple #[.agg #[.int .i64 k, .int .i64 n, .string tt, .int .i64 re, .int .i64 im], .bool q2]) (by simp [results, Tryz.results153, go_sem]) rfl ⟨rfl, by repeat (first | with_reducible exact Adds.refl _ | with_reducible refine Adds.alloc ?_ _ | with_reducible refine Adds.more ?_ _ _ | with_reducible refine Adds.drew ?_ | with_reducible refine Adds.drewN ?_ _)⟩
  | num n =>
    intro d sn w _ hL hT
    have kN := num_any (n : Int)
    obtain ⟨ao, cap, rfl⟩ := hT.shape
    simp only [valE, optV, Option.getD_some, Option.isSome_some, V.val, V.mkNum, nodeV, E.toN, N.kind, N.text, N.num, N.args, List.length_nil] at *
    clear hT hL
    go_enter Tryz.func153, Tryz.ntmps153
    go_wp2_with (go_at_call 166; refine (kN _).mono ?_; rintro e w1 ⟨rfl, os1, n1, rfl⟩)
    exact bodyPost_ret (v := .tuple #[.agg #[.int .i64 1, .int .i64 n, .string ⟨#[]⟩, .int .i64 0, .int .i64 0], .bool true]) (by simp [results, Tryz.results153, go_sem]) rfl ⟨rfl, by repeat (first | with_reducible exact Adds.refl _ | with_reducible refine Adds.alloc ?_ _ | with_reducible refine Adds.more ?_ _ _ | with_reducible refine Adds.drew ?_ | with_reducible refine Adds.drewN ?_ _)⟩
  | sum a b iha ihb =>
    intro d sn w ho hL hT
    have := value_two 3 (.inl rfl) a b fs dv w sn hT hm ho.1 ho.2 (fun e s W hA ht => iha e s W ho.1 (hL.adds hA) ht) (fun e s W hA ht => ihb e s W ho.2 (hL.adds hA) ht)
    simp only [if_true] at this
    exact this
  | mul a b iha ihb =>
    intro d sn w ho hL hT
    have := value_two 4 (.inr rfl) a b fs dv w sn hT hm ho.1 ho.2 (fun e s W hA ht => iha e s W ho.1 (hL.adds hA) ht) (fun e s W hA ht => ihb e s W ho.2 (hL.adds hA) ht)
    simp only [show ((4 : Int) = 3) = False by simp, if_false] at this
    exact this
  | call f a iha =>
    intro d sn w ho hL hT
    have hT : Tn ok d w sn [a.toN] := hT
    obtain ⟨ao, cap, rfl⟩ := hT.shape
    have hcap : 1 ≤ cap := by
      cases d with
      | zero => exact absurd hT.1 (by simp)
      | succ d =>
        obtain ⟨_, c, h, hc, _⟩ := hT
        simp at h hc
        omega
    obtain ⟨e1, b1, o1, x1, _, rfl, hb1, ⟨c0, c1, c2, c3⟩, _, t1⟩ := hT.elem (k := 0) (by simp)
    simp only [List.getElem_cons_zero, Nat.zero_mul, Nat.add_zero] at c0 c1 c2 c3 t1
    have kA := fun W hA => iha e1 x1 W ho.2 (hL.adds hA) (t1.adds hA)
    obtain ⟨y1, z1, hx1⟩ := t1.shape
    rw [hx1] at c3 kA
    have HA : Hid (∀ v, valE fs a = some v → v.check = 0) := fun v h => valE_ok hm ho.2 h
    have hf : (toB f).toList = f := toB_toList f
    have hE : valE fs (.call f a) = (valE fs a).bind fun x => callO f x := rfl
    rw [hE]
    clear t1 hx1 hT iha ho hm hL hE
    have kC := fun v hv => called_any (toB f) v hv
    rw [hf] at kC
    clear hf
    have hl : ([a.toN] : List N).length = 1 := rfl
    have hgoal : nodeV (E.call f a).toN (.slice (some ⟨b1, o1, none⟩) [a.toN].length cap) = .agg #[.int .i64 5, .string (toB f), .int .i64 0, .slice (some ⟨b1, o1, none⟩) 1 cap] := rfl
    rw [hgoal]
    clear hgoal hl
    simp only [nodeV] at *
    generalize a.toN.args.length = la at *
    generalize valE fs a = oa at *
    generalize a.toN.kind = ka at *
    generalize a.toN.text = ta at *
    generalize a.toN.num = na at *
    generalize toB f = tf at *
    cases oa with
    | none =>
      simp only [optV, Option.getD_none, Option.isSome_none, Option.bind_none, vZ, V.val] at *
      clear kC HA
      go_enter Tryz.func153, Tryz.ntmps153
      go_wp2_with (first
        | (go_at_call 153; refine (kA _ (by repeat (first | with_reducible exact Adds.refl _ | with_reducible refine Adds.alloc ?_ _ | with_reducible refine Adds.more ?_ _ _ | with_reducible refine Adds.drew ?_ | with_reducible refine Adds.drewN ?_ _))).mono ?_; rintro e w1 ⟨rfl, os1, n1, rfl⟩))
      exact bodyPost_ret (v := .tuple #[.agg #[.int .i64 0, .int .i64 0, .string ⟨#[]⟩, .int .i64 0, .int .i64 0], .bool false]) (by simp [results, Tryz.results153, go_sem]) rfl ⟨rfl, by repeat (first | with_reducible exact Adds.refl _ | with_reducible refine Adds.alloc ?_ _ | with_reducible refine Adds.more ?_ _ _ | with_reducible refine Adds.drew ?_ | with_reducible refine Adds.drewN ?_ _)⟩
    | some va =>
      have kC' := kC va (HA.out va rfl)
      simp only [Option.bind_some]
      generalize callO f va = o at *
      obtain ⟨⟨k, n, t, re, im⟩, hq⟩ : ∃ q, o.getD vZ = q := ⟨_, rfl⟩
      obtain ⟨vk, vn, vt, vr, vi⟩ := va
      clear kC HA
      simp only [optV, hq, Option.getD_some, Option.isSome_some, V.val] at *
      generalize o.isSome = q2 at *
      clear hq
      go_enter Tryz.func153, Tryz.ntmps153
      go_wp2_with (first
        | (go_at_call 153; refine (kA _ (by repeat (first | with_reducible exact Adds.refl _ | with_reducible refine Adds.alloc ?_ _ | with_reducible refine Adds.more ?_ _ _ | with_reducible refine Adds.drew ?_ | with_reducible refine Adds.drewN ?_ _))).mono ?_; rintro e w1 ⟨rfl, os1, n1, rfl⟩)
        | (go_at_call 171; refine (kC' _).mono ?_; rintro e w2 ⟨rfl, os2, n2, rfl⟩))
      exact bodyPost_ret (v := .tuple #[.agg #[.int .i64 k, .int .i64 n, .string t, .int .i64 re, .int .i64 im], .bool q2]) (by simp [results, Tryz.results153, go_sem]) rfl ⟨rfl, by repeat (first | with_reducible exact Adds.refl _ | with_reducible refine Adds.alloc ?_ _ | with_reducible refine Adds.more ?_ _ _ | with_reducible refine Adds.drew ?_ | with_reducible refine Adds.drewN ?_ _)⟩

end Go.Proofs.YtiacnmcdfpmcfaaGreatDoor

namespace Go.Proofs.YtiacnmcdfpmcfaaGreatDoor
open Go.RowKit
attribute [local go_sem] cell?_more frozen?_more setCell_more size_more tape_more drew_more drewN_more more_drew more_drewN one_out plus_out plus_end lt_one le_p2 le_p3 le_p4 le_p5 le_p6 le_p7 le_p8 le_p9 le_p10 le_p11 le_p12 le_p13 le_p14 le_p15 le_p16 le_p17 le_p18 le_p19 le_p20 le_p21 le_p22 le_p23 le_p24 le_q0 le_q1 lt_q1 le_q2 lt_q2 le_q3 lt_q3 le_q4 lt_q4 le_q5 lt_q5 le_q6 lt_q6 le_q7 lt_q7 le_q8 lt_q8 le_q9 lt_q9 le_q10 lt_q10 le_q11 lt_q11 le_q12 lt_q12 le_q13 lt_q13 le_q14 lt_q14 le_q15 lt_q15 le_q16 lt_q16 le_q17 lt_q17 le_q18 lt_q18 le_q19 lt_q19 le_q20 lt_q20 le_q21 lt_q21 le_q22 lt_q22 le_q23 lt_q23 le_q24 lt_q24


/-- A block that is not the first one, and below B. -/
def okx (B : Nat) : Nat → Prop := fun b => 0 < b ∧ b < B

/-- The place of a list. -/
def placeV : Value × List N → Value
  | (.slice (some a) _ _, ts) => .agg #[.pointer (some a), .int .i64 ts.length]
  | _ => .int .i64 0

/-- The lists below are among ys. -/
def CovL (ts : List N) (ys : List (Value × List N)) : Prop := ∀ t ∈ ts, t.args ≠ [] → ∃ y ∈ ys, y.2 = t.args
def Cov (xs ys : List (Value × List N)) : Prop := ∀ x ∈ xs, CovL x.2 ys

theorem cov_next {xs ys : List (Value × List N)} {k : Nat} (hk : k < xs.length) (h1 : Cov (xs.take k) ys) (h2 : CovL xs[k].2 ys) : Cov (xs.take (k + 1)) ys := by
  intro x hx
  rw [List.take_succ_eq_append_getElem hk] at hx
  rcases List.mem_append.1 hx with hx | hx
  · exact h1 x hx
  · rw [List.mem_singleton.1 hx]
    exact h2
theorem covl_next {ts : List N} {ys : List (Value × List N)} {k : Nat} (hk : k < ts.length) (h1 : CovL (ts.take k) ys) (h2 : ts[k].args ≠ [] → ∃ y ∈ ys, y.2 = ts[k].args) : CovL (ts.take (k + 1)) ys := by
  intro x hx
  rw [List.take_succ_eq_append_getElem hk] at hx
  rcases List.mem_append.1 hx with hx | hx
  · exact h1 x hx
  · rw [List.mem_singleton.1 hx]
    exact h2
theorem covl_more {ts : List N} {ys zs : List (Value × List N)} (h : CovL ts ys) : CovL ts (ys ++ zs) := fun t ht hne => by
  obtain ⟨y, hy, e⟩ := h t ht hne
  exact ⟨y, List.mem_append_left _ hy, e⟩
theorem cov_more {xs ys zs : List (Value × List N)} (h : Cov xs ys) : Cov xs (ys ++ zs) := fun x hx => covl_more (h x hx)

theorem Tn.inj {ok ok' : Nat → Prop} {w : World} : ∀ (d : Nat) {ao : Option Addr} {n c c' : Nat} {ts ts' : List N}, Tn ok d w (.slice ao n c) ts → Tn ok' d w (.slice ao n c') ts' → ts = ts' := by
  intro d
  induction d with
  | zero => intro ao n c c' ts ts' h h'; rw [h.1, h'.1]
  | succ d ih =>
    intro ao n c c' ts ts' h h'
    obtain ⟨ao1, cap1, e1, _⟩ := id h
    obtain ⟨ao2, cap2, e2, _⟩ := id h'
    simp only [Value.slice.injEq] at e1 e2
    have hl : ts.length = ts'.length := by omega
    refine List.ext_getElem hl (fun j h1 h2 => ?_)
    obtain ⟨d1, b1, o1, x, hd1, ha, hb, ⟨c0, c1, c2, c3⟩, _, hx⟩ := h.elem h1
    obtain ⟨d2, b2, o2, y, hd2, ha', _, ⟨c0', c1', c2', c3'⟩, _, hy⟩ := h'.elem h2
    rw [ha] at ha'
    simp only [Option.some.injEq, Addr.mk.injEq] at ha'
    obtain ⟨rfl, rfl, _⟩ := ha'
    obtain rfl : d1 = d := by omega
    obtain rfl : d2 = d1 := by omega
    rw [c0] at c0'
    rw [c1] at c1'
    rw [c2] at c2'
    rw [c3] at c3'
    simp only [Option.some.injEq, Value.int.injEq, true_and, Value.string.injEq] at c0' c1' c2' c3'
    subst c3'
    obtain ⟨xo, xc, rfl⟩ := hx.shape
    have ha := ih hx hy
    generalize ts[j] = p at *
    generalize ts'[j] = q at *
    obtain ⟨k1, t1, m1, a1⟩ := p
    obtain ⟨k2, t2, m2, a2⟩ := q
    simp only [N.kind, N.text, N.num, N.args] at *
    rw [c0', c1', c2', ha]

theorem Tn.px {B d : Nat} {w : World} {s : Value} {ts : List N} (h : Tn (okx B) d w s ts) (hne : ts ≠ []) : ∃ b off cap, s = .slice (some ⟨b, off, none⟩) ts.length cap ∧ ts.length ≤ cap ∧ PX B w (.agg #[.pointer (some ⟨b, off, none⟩), .int .i64 ts.length]) := by
  cases d with
  | zero => exact absurd h.1 hne
  | succ d =>
    obtain ⟨ao, cap, rfl, hc, h | ⟨b, off, rfl, hlt, hb, hz, hx⟩⟩ := h
    · exact absurd h hne
    · obtain ⟨x, ⟨c0, _⟩, _⟩ := hx 0 (List.length_pos_iff.2 hne)
      have hcell : ∃ cs t fr, w.heap[b]? = some (.cells cs t fr) := by
        simp only [World.cell?] at c0
        split at c0
        · rename_i heq
          exact ⟨_, _, _, heq⟩
        · cases c0
      obtain ⟨cs, t, fr, hh⟩ := hcell
      exact ⟨b, off, cap, rfl, hc, b, off, _, cs, t, fr, rfl, hh, hz.2 (fun h0 => absurd h0.1 (Nat.lt_irrefl 0)), hb.2⟩

theorem found_x {B d : Nat} {w : World} {ys : List (Value × List N)} {b off c : Nat} {ts : List N} (ht : ∀ y ∈ ys, Tn (okx B) d w y.1 y.2 ∧ y.2 ≠ []) (h : Tn (okx B) d w (.slice (some ⟨b, off, none⟩) ts.length c) ts) (hm : (.agg #[.pointer (some ⟨b, off, none⟩), .int .i64 ts.length] : Value) ∈ ys.map placeV) : ∃ y ∈ ys, y.2 = ts := by
  obtain ⟨⟨v, zs⟩, hy, e⟩ := List.mem_map.1 hm
  obtain ⟨hT, hne⟩ := ht _ hy
  simp only at hT hne
  obtain ⟨b1, o1, c1, rfl, _, _⟩ := hT.px hne
  simp only [placeV, Value.agg.injEq] at e
  simp at e
  obtain ⟨⟨rfl, rfl⟩, e3⟩ := e
  refine ⟨_, hy, ?_⟩
  simp only at hT ⊢
  rw [show zs.length = ts.length by omega] at hT
  exact Tn.inj d hT h

/-- What is made of the lists so far: the row of them, in v. -/
structure Outx (B r d : Nat) (w wr : World) (v : Value) (ys : List (Value × List N)) : Prop where
  own : wr.ownsRow (B + 1) 51 1 v ys.length (ys.map Prod.fst)
  seen : SeenX B r wr (ys.map placeV)
  bel : Below B w wr
  trees : ∀ y ∈ ys, Tn (okx B) d w y.1 y.2 ∧ y.2 ≠ []
  size : B < wr.heap.size

theorem Outx.adds {B r d : Nat} {w wr X : World} {v : Value} {ys : List (Value × List N)} (h : Outx B r d w wr v ys) (hA : Adds wr X) : Outx B r d w X v ys := by
  have hb := hA.below
  have hg : wr.grownBy X none := ⟨hb.os, hb.tape, hb.output, hb.size, fun k hk _ => hb.block k hk⟩
  refine ⟨h.own.kept hg ?_, ?_, h.bel.trans (hb.mono (Nat.le_of_lt h.size)), h.trees, Nat.lt_of_lt_of_le h.size hb.size⟩
  · cases v.ownBlock with
    | none => exact .inl rfl
    | some k => exact .inr (by simp)
  · obtain ⟨es, clock, hm, hks, hes⟩ := h.seen
    exact ⟨es, clock, by rw [hb.block r (lt_of_some hm)]; exact hm, hks, fun e he => ⟨(hes e he).1.keep (fun b _ _ _ _ hb' => hb.block b (lt_of_some hb')), (hes e he).2⟩⟩

theorem Outx.pk {B r d : Nat} {w wr : World} {v : Value} {ys : List (Value × List N)} (h : Outx B r d w wr v ys) {k : Value} (hk : PX B w k) : PX B wr k :=
  hk.keep (fun b _ _ _ hlt _ => h.bel.block b hlt)

theorem Outx.push {B r d : Nat} {w wr X w1 : World} {v v' : Value} {ys : List (Value × List N)} {y : Value × List N} (h : Outx B r d w wr v ys) (hs : SeenX B r X (ys.map placeV ++ [placeV y])) (hg : wr.grownBy X (some r)) (hsz : X.heap.size = wr.heap.size) (hr : r = B) {o : Obj}
    (ho : w1.ownsRow (B + 1) 51 1 v' (ys ++ [y]).length ((ys ++ [y]).map Prod.fst)) (hg1 : (X.alloc o).grownBy w1 v.ownBlock) (hy : Tn (okx B) d w y.1 y.2 ∧ y.2 ≠ []) : Outx B r d w w1 v' (ys ++ [y]) := by
  have hvB : ∀ k, v.ownBlock = some k → B + 1 ≤ k := by
    intro k hk
    rcases h.own.2 with ⟨rfl, _⟩ | ⟨g, cap, cur, rfl, hb, _⟩
    · cases hk
    · simp only [Value.ownBlock, Option.some.injEq] at hk
      omega
  have hX : Below B w X := by
    refine ⟨hg.os.trans h.bel.os, hg.tape.trans h.bel.tape, hg.output.trans h.bel.output, Nat.le_trans h.bel.size hg.size, fun k hk => ?_⟩
    rw [hg.block k (Nat.lt_trans hk h.size) (by simp; omega)]
    exact h.bel.block k hk
  have h1 : ∀ k, k < X.heap.size → k < B + 1 → w1.heap[k]? = X.heap[k]? := by
    intro k hk hkB
    rw [hg1.block k (by simp; omega) (fun e => by have := hvB k e.symm; omega)]
    exact Below.heap_alloc _ _ _ hk
  have hBX : B < X.heap.size := by rw [hsz]; exact h.size
  refine ⟨ho, ?_, ?_, ?_, ?_⟩
  · obtain ⟨es, clock, hm, hks, hes⟩ := hs
    exact ⟨es, clock, by rw [h1 r (lt_of_some hm) (by omega)]; exact hm, by rw [hks]; simp, fun e he => ⟨(hes e he).1.keep (fun b _ _ _ hlt hb' => h1 b (lt_of_some hb') (by omega)), (hes e he).2⟩⟩
  · refine ⟨hg1.os.trans hX.os, hg1.tape.trans hX.tape, hg1.output.trans hX.output, ?_, fun k hk => ?_⟩
    · have := hg1.size
      simp at this
      have := hX.size
      omega
    · rw [h1 k (by omega) (by omega)]
      exact hX.block k hk
  · intro z hz
    rcases List.mem_append.1 hz with hz | hz
    · exact h.trees z hz
    · simp only [List.mem_singleton] at hz
      rw [hz]
      exact hy
  · have := hg1.size
    simp at this
    omega

theorem Outx.lv {B r d : Nat} {w wr : World} {v : Value} {ys : List (Value × List N)} (h : Outx B r d w wr v ys) (hB : B = w.heap.size) : Lvs (fun b => 0 < b) d wr v ys ∧ Adds w wr := by
  have hA : Adds w wr := Adds.of (by rw [← hB]; exact h.bel)
  have hT : ∀ x ∈ ys, Tn (fun b => 0 < b) d wr x.1 x.2 := fun x hx => ((h.trees x hx).1.adds hA).weak (fun _ h _ => h.1)
  refine ⟨?_, hA⟩
  have hc := fun g => h.own.cells (g := g)
  rcases h.own.2 with ⟨rfl, h0⟩ | ⟨g, cap, cur, rfl, hb, hg, hnc, hcm, hcs, htk⟩
  · have : ys = [] := List.length_eq_zero_iff.1 h0
    subst this
    exact ⟨none, 0, rfl, Nat.le_refl _, hT, .inl rfl⟩
  · refine ⟨_, cap, rfl, hnc, hT, .inr ⟨g, 0, rfl, lt_of_some hg, fun j hj => ?_⟩⟩
    have := hc g rfl j ys[j].1 (by simp [hj])
    rwa [Addr.add_lit] at this

theorem Outx.own5 {B r d : Nat} {w X w5 : World} {v : Value} {ys : List (Value × List N)} (h : Outx B r d w X v ys) (hg : X.grownBy w5 (some r)) (hr : r = B) (o : Obj) : (w5.alloc o).ownsRow (B + 1) 51 1 v (ys.map Prod.fst).length (ys.map Prod.fst) ∧ B + 1 ≤ (w5.alloc o).heap.size := by
  have h1 := h.own.kept hg (by
    cases hv : v.ownBlock with
    | none => exact .inl rfl
    | some k =>
      right
      rcases h.own.2 with ⟨rfl, _⟩ | ⟨g, cap, cur, rfl, hb, _⟩
      · cases hv
      · simp only [Value.ownBlock, Option.some.injEq] at hv
        simp only [ne_eq, Option.some.injEq]
        omega)
  have hb := ((Adds.refl w5).alloc o).below
  have h2 := h1.kept (w' := w5.alloc o) (row := none) ⟨hb.os, hb.tape, hb.output, hb.size, fun k hk _ => hb.block k hk⟩ (by
    cases v.ownBlock with
    | none => exact .inl rfl
    | some k => exact .inr (by simp))
  refine ⟨by rw [List.length_map]; exact h2, ?_⟩
  have := hg.size
  have := h.size
  simp
  omega

set_option maxHeartbeats 8000000 in
set_option maxRecDepth 20000 in
theorem below_x {d : Nat} (v : Value) (xs : List (Value × List N)) (w : World) (h : Lvs (fun b => 0 < b) (d + 1) w v xs) (hw : wt (d + 1) xs ≤ 10000) (hxl : xs.length ≤ 10000) :
    Calls Tryz.prog 123 #[v] w fun e w' => ∃ v' ys, e = .returned v' ∧ Lvs (fun b => 0 < b) d w' v' ys ∧ wt d ys ≤ wt (d + 1) xs ∧ ys.length ≤ wt d ys ∧ Adds w w' ∧ Cov xs ys := by
  obtain ⟨ao, cap, rfl, hcap, hT, ho⟩ := h
  have HT : Hid (∀ x ∈ xs, Tn (okx w.heap.size) (d + 1) w x.1 x.2) := fun x hx => (hT x hx).weak (fun _ h0 h => ⟨h0, h⟩)
  have HWL : Hid (wts d xs ≤ wt (d + 1) xs) := wts_le d xs
  have h0 : Hid (Outx w.heap.size w.heap.size d w (w.alloc (.map #[] 0)) (.slice none 0 0) []) := by
    refine ⟨World.ownsRow_nil _ _ _ _, ⟨#[], 0, new_block _ _, rfl, fun e he => by simp at he⟩, ((Adds.refl w).alloc _).below, fun y hy => by simp at hy, by simp⟩
  clear hT
  have HW : Hid (wt (d + 1) xs ≤ 10000) := hw
  clear hw
  have hmm := @run_makeMap Tryz.prog
  go_enter Tryz.func123, Tryz.ntmps123
  go_wp2
  go_loopw [3, 15] (fun ov iv wr => ∃ (k : Nat) (ys : List (Value × List N)), k ≤ xs.length ∧ iv = .int .i64 k ∧ Hid (Outx w.heap.size w.heap.size d w wr ov ys) ∧ Hid (wt d ys ≤ wts d (xs.take k)) ∧ Hid (Cov (xs.take k) ys)) (fun _ iv _ => xs.length - (intOf iv).toNat)
  case atStart => exact ⟨0, [], Nat.zero_le _, rfl, h0, Nat.le_refl _, fun x hx => by simp at hx⟩
  case round =>
    obtain ⟨k, ys, hk, rfl, hO, hWt, hCv⟩ := hrel
    clear h0
    by_cases hlt : k < xs.length
    · rcases ho with rfl | ⟨b, off, rfl, hb, hcs⟩
      · simp at hlt
      have cx := hcs k hlt
      have cx' : wr.cell? ⟨b, off + k, none⟩ = some xs[k].1 := (hO.out.bel.cell (p := ⟨b, off + k, none⟩) hb).trans cx
      have hTk := HT.out xs[k] (List.getElem_mem hlt)
      have htl : xs[k].2.length ≤ 10000 := by
        have h1 := cntN_len (d + 1) xs[k].2
        have h2 := wt_mem (d := d + 1) (List.getElem_mem hlt)
        have h3 := HW.out
        omega
      have HNX : Hid (wts d (xs.take (k + 1)) = wts d (xs.take k) + sumA d xs[k].2) := wts_take d xs hlt
      have HLE : Hid (wts d (xs.take (k + 1)) ≤ wts d xs) := wts_take_le d xs (k + 1)
      have hbr : b < wr.heap.size := Nat.lt_trans hb hO.out.size
      obtain ⟨ao1, cap1, hs1⟩ := hTk.shape
      have HTK : Hid (Tn (okx w.heap.size) (d + 1) w xs[k].1 xs[k].2) := hTk
      clear hTk cx hcs
      rw [hs1] at cx' HTK
      clear hs1
      have HCX : Hid (∀ zs, Cov (xs.take k) zs → CovL xs[k].2 zs → Cov (xs.take (k + 1)) zs) := fun zs h1 h2 => cov_next hlt h1 h2
      generalize xs[k].2 = ts at *
      go_wp2
      go_loopw [3, 21] (fun ov iv wr => ∃ (i : Nat) (zs : List (Value × List N)), i ≤ ts.length ∧ iv = .int .i64 i ∧ Hid (Outx w.heap.size w.heap.size d w wr ov zs) ∧ Hid (wt d zs ≤ wts d (xs.take k) + sumA d (ts.take i)) ∧ Hid (Cov (xs.take k) zs) ∧ Hid (CovL (ts.take i) zs)) (fun _ iv _ => ts.length - (intOf iv).toNat)
      case atStart => exact ⟨0, ys, Nat.zero_le _, rfl, hO, by simpa [sumA] using hWt, hCv, fun t ht => by simp at ht⟩
      case round =>
        clear hO hWt cx' hCv ys
        obtain ⟨i, zs, hi, rfl, hO, hWt, hCv, hCl⟩ := hrel
        have hlen : zs.length ≤ 100000 := by
          have h1 := wt_len (d := d) (fun y hy => (hO.out.trees y hy).2)
          have h2 := hWt.out
          have h3 := sumA_take_le d ts i
          have h4 := HNX.out
          have h5 := HLE.out
          have h6 := HWL.out
          have h7 := HW.out
          omega
        obtain ⟨vo, vc, hvs⟩ : ∃ vo vc, u3 = .slice vo zs.length vc := by
          rcases hO.out.own.2 with ⟨rfl, h0⟩ | ⟨g, cap, cur, rfl, _⟩
          · exact ⟨none, 0, by rw [h0]⟩
          · exact ⟨_, _, rfl⟩
        subst hvs
        by_cases hlt2 : i < ts.length
        · obtain ⟨b1, o1, c1, x, hsl, hcap1, hb1, ⟨c0, c1', c2, c3⟩, hTx⟩ := HTK.out.args hlt2
          simp only [Value.slice.injEq] at hsl
          obtain ⟨rfl, _, rfl⟩ := hsl
          have hbel := hO.out.bel
          have e0 := (hbel.cell (p := ⟨b1, o1 + i * 4, none⟩) hb1).trans c0
          have e1 := (hbel.cell (p := ⟨b1, o1 + i * 4 + 1, none⟩) hb1).trans c1'
          have e2 := (hbel.cell (p := ⟨b1, o1 + i * 4 + 2, none⟩) hb1).trans c2
          have e3 := (hbel.cell (p := ⟨b1, o1 + i * 4 + 3, none⟩) hb1).trans c3
          have hb1r : b1 < wr.heap.size := Nat.lt_trans hb1 hO.out.size
          have HCI : Hid (∀ zs, CovL (ts.take i) zs → (ts[i].args ≠ [] → ∃ y ∈ zs, y.2 = ts[i].args) → CovL (ts.take (i + 1)) zs) := fun zs h1 h2 => covl_next hlt2 h1 h2
          have HSI : Hid (sumA d (ts.take (i + 1)) = sumA d (ts.take i) + cntN d ts[i].args) := sumA_take d ts hlt2
          obtain ⟨xo, xc, hxs⟩ := hTx.shape
          rw [hxs] at e3 hTx
          have HTX : Hid (Tn (okx w.heap.size) d w (.slice xo ts[i].args.length xc) ts[i].args) := hTx
          clear c0 c1' c2 c3 hxs hbel hTx
          by_cases hz : ts[i].args = []
          · have hz' : ts[i].args.length = 0 := by rw [hz]; rfl
            rw [hz'] at e3
            have HCN : Hid (CovL (ts.take (i + 1)) zs) := HCI.out zs hCl.out (fun h => absurd hz h)
            clear hz
            generalize ts[i].kind = nk at *
            generalize ts[i].text = nt at *
            generalize ts[i].num = nn at *
            have HC0 : Hid (0 ≤ cntN d ts[i].args) := Nat.zero_le _
            go_wp2
            go_roundw
            case rel =>
              exact ⟨i + 1, zs, by omega, by go_num, hO.out.adds (by repeat (first | with_reducible exact Adds.refl _ | with_reducible refine Adds.alloc ?_ _ | with_reducible refine Adds.more ?_ _ _ | with_reducible refine Adds.drew ?_ | with_reducible refine Adds.drewN ?_ _)), by show _ ≤ _; rw [HSI.out]; have := hWt.out; omega, hCv, HCN⟩
            case measure => simp [intOf]; omega
          · obtain ⟨b2, o2, c2, hx2, hc2, hpk⟩ := HTX.out.px hz
            simp only [Value.slice.injEq] at hx2
            obtain ⟨rfl, _, rfl⟩ := hx2
            have hpos : 0 < ts[i].args.length := List.length_pos_iff.2 hz
            have hne0 : (((ts[i].args.length : Nat) : Int) == 0) = false := by simp; omega
            have kP := placeOf_any b2 o2 ts[i].args.length xc hpos
            have HZ : Hid (ts[i].args ≠ []) := hz
            have HPK : Hid (PX w.heap.size w (.agg #[.pointer (some ⟨b2, o2, none⟩), .int .i64 (ts[i].args.length : Int)])) := hpk
            clear hz hpk
            generalize ts[i].kind = nk at *
            generalize ts[i].text = nt at *
            generalize ts[i].num = nn at *
            generalize ts[i].args = ars at *
            have HO : Hid (Outx w.heap.size w.heap.size d w wr (.slice vo zs.length vc) zs) := hO
            have hBr := hO.out.size
            clear hO
            go_wp2_with (first
              | (go_at_call 145; refine (kP _).mono ?_; rintro e w2 ⟨rfl, os2, n2, rfl⟩)
              | (at_lookup; refine placex_look rfl (.tmp 33) (.tmp 34) rfl rfl (Outx.seen (Outx.adds HO.out (by repeat (first | with_reducible exact Adds.refl _ | with_reducible refine Adds.alloc ?_ _ | with_reducible refine Adds.more ?_ _ _ | with_reducible refine Adds.drew ?_ | with_reducible refine Adds.drewN ?_ _)))) rfl (Outx.pk (Outx.adds HO.out (by repeat (first | with_reducible exact Adds.refl _ | with_reducible refine Adds.alloc ?_ _ | with_reducible refine Adds.more ?_ _ _ | with_reducible refine Adds.drew ?_ | with_reducible refine Adds.drewN ?_ _))) HPK.out) ?_; intro z1 q1 hq1; have HQ1 : Hid _ := hq1; clear hq1; cases q1)
              | (at_mapUpdate; refine placex_set rfl (.tmp 40) (.tmp 41) (.tmp 43) rfl rfl (Outx.seen (Outx.adds HO.out (by repeat (first | with_reducible exact Adds.refl _ | with_reducible refine Adds.alloc ?_ _ | with_reducible refine Adds.more ?_ _ _ | with_reducible refine Adds.drew ?_ | with_reducible refine Adds.drewN ?_ _)))) rfl (Outx.pk (Outx.adds HO.out (by repeat (first | with_reducible exact Adds.refl _ | with_reducible refine Adds.alloc ?_ _ | with_reducible refine Adds.more ?_ _ _ | with_reducible refine Adds.drew ?_ | with_reducible refine Adds.drewN ?_ _))) HPK.out) (fun hm => by have := HQ1.out.2 hm; cases this) rfl ?_; intro w5 hs5 hg5 hz5; have hq5 := box3 (k := wr.heap.size) (x := .slice (some ⟨b2, o2, none⟩) ars.length xc) hg5 (by simp [size_more]; omega) (by omega) (by simp [go_sem]); have hz6 : wr.heap.size < w5.heap.size := (by rw [hz5]; simp [size_more]; omega); have HZ5 : Hid _ := hz5; clear hz5)
              | (at_builtin; refine list_app rfl (.tmp 44) (.tmp 47) rfl (xs := zs.map Prod.fst) (Outx.own5 (Outx.adds HO.out (by repeat (first | with_reducible exact Adds.refl _ | with_reducible refine Adds.alloc ?_ _ | with_reducible refine Adds.more ?_ _ _ | with_reducible refine Adds.drew ?_ | with_reducible refine Adds.drewN ?_ _))) hg5 rfl _).1 (Outx.own5 (Outx.adds HO.out (by repeat (first | with_reducible exact Adds.refl _ | with_reducible refine Adds.alloc ?_ _ | with_reducible refine Adds.more ?_ _ _ | with_reducible refine Adds.drew ?_ | with_reducible refine Adds.drewN ?_ _))) hg5 rfl _).2 rfl (u := .slice (some ⟨b2, o2, none⟩) ars.length xc) rfl rfl (by simp) (by simpa using hlen) ?_; intro v6 w6 ho6 hg6))
            · go_roundw
              case rel =>
                refine ⟨i + 1, zs ++ [(.slice (some ⟨b2, o2, none⟩) ars.length xc, ars)], by omega, by go_num, Outx.push (Outx.adds HO.out (by repeat (first | with_reducible exact Adds.refl _ | with_reducible refine Adds.alloc ?_ _ | with_reducible refine Adds.more ?_ _ _ | with_reducible refine Adds.drew ?_ | with_reducible refine Adds.drewN ?_ _))) hs5 hg5 HZ5.out rfl (by simpa using ho6) hg6 ⟨HTX.out, HZ.out⟩, ?_, cov_more hCv.out, HCI.out _ (covl_more hCl.out) (fun _ => ⟨_, List.mem_append_right _ (List.mem_singleton.2 rfl), rfl⟩)⟩
                show _ ≤ _
                rw [wt_append, HSI.out]
                have h1 := hWt.out
                have h2 : wt d [((.slice (some ⟨b2, o2, none⟩) ars.length xc : Value), ars)] = cntN d ars := by simp [wt]
                omega
              case measure => simp [intOf]; omega
            · go_roundw
              case rel =>
                refine ⟨i + 1, zs, by omega, by go_num, Outx.adds HO.out (by repeat (first | with_reducible exact Adds.refl _ | with_reducible refine Adds.alloc ?_ _ | with_reducible refine Adds.more ?_ _ _ | with_reducible refine Adds.drew ?_ | with_reducible refine Adds.drewN ?_ _)), ?_, hCv, HCI.out _ hCl.out (fun _ => found_x HO.out.trees HTX.out (HQ1.out.1 rfl))⟩
                show _ ≤ _
                rw [HSI.out]
                have h1 := hWt.out
                omega
              case measure => simp [intOf]; omega
        · have hi' : i = ts.length := by omega
          subst hi'
          have hfin : Hid (wt d zs ≤ wts d (xs.take (k + 1))) := by
            show _ ≤ _
            rw [HNX.out]
            have := hWt.out
            rw [List.take_length] at this
            exact this
          have hcf : Hid (Cov (xs.take (k + 1)) zs) := HCX.out zs hCv.out (by have := hCl.out; rw [List.take_length] at this; exact this)
          clear hWt hCv hCl
          go_wp2
          go_roundw
          case rel => exact ⟨k + 1, zs, by omega, by go_num, hO, hfin, hcf⟩
          case measure => simp [intOf]; omega
    · have hk' : k = xs.length := by omega
      subst hk'
      obtain ⟨z1, z2⟩ := hO.out.lv rfl
      have z3 : wt d ys ≤ wt (d + 1) xs := by
        have h1 := hWt.out
        have h2 := HWL.out
        rw [List.take_length] at h1
        omega
      have HZ1 : Hid (Lvs (fun b => 0 < b) d wr u3 ys) := z1
      have z4 := wt_len (d := d) (fun y hy => (hO.out.trees y hy).2)
      have HCF : Hid (Cov xs ys) := by
        have := hCv.out
        rw [List.take_length] at this
        exact this
      clear hWt hO z1 hCv
      go_wp2
      go_ret
      exact ⟨u3, ys, rfl, HZ1.out, z3, z4, z2, HCF.out⟩


end Go.Proofs.YtiacnmcdfpmcfaaGreatDoor
