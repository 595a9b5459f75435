/-
  The functions Parse, Eval and awake, by contracts.
  A row of nodes that grows.
-/
import Derived.Test.YtbedmlimbcfnnaaGreatDoorM27
import Derived.Test.YtbedmlimbcfnnaaGreatDoorValo
import Derived.Test.YtbedmlimbcfnnaaGreatDoorM28
import Derived.Test.YtbedmlimbcfnnaaGreatDoorM26
namespace Go.Proofs.YtbedmlimbcfnnaaGreatDoor
open Go.RowKit
attribute [local go_sem] cell?_more frozen?_more setCell_more size_more tape_more drew_more drewN_more more_drew more_drewN one_out plus_out plus_end lt_one le_p2 le_p3 le_p4 le_p5 le_p6 le_p7 le_p8 le_p9 le_p10 le_p11 le_p12 le_p13 le_p14 le_p15 le_p16 le_p17 le_p18 le_p19 le_p20 le_p21 le_p22 le_p23 le_p24 le_q0 le_q1 lt_q1 le_q2 lt_q2 le_q3 lt_q3 le_q4 lt_q4 le_q5 lt_q5 le_q6 lt_q6 le_q7 lt_q7 le_q8 lt_q8 le_q9 lt_q9 le_q10 lt_q10 le_q11 lt_q11 le_q12 lt_q12 le_q13 lt_q13 le_q14 lt_q14 le_q15 lt_q15 le_q16 lt_q16 le_q17 lt_q17 le_q18 lt_q18 le_q19 lt_q19 le_q20 lt_q20 le_q21 lt_q21 le_q22 lt_q22 le_q23 lt_q23 le_q24 lt_q24


/-- What Eval tells: of nodes that may be and documents that may be the value. -/
def evalN (fs : List F) (n : N) (o : Option V) : Prop := (fitsN 8 n = true → May fs → ∃ e : E, n = e.toN ∧ e.ok ∧ o = valE fs e) ∧ (¬ (fitsN 8 n = true ∧ May fs) → o = none)

set_option maxHeartbeats 2000000 in
theorem eval_any {D : Nat} (n : N) (s dv : Value) (fs : List F) (w : World) (hT : Tn (fun _ => True) D w s n.args) (hx : n.text.size ≤ 9223372036854775807) (hc : ∀ d, cntN d [n] ≤ 10000) (hL : Lst w dv fs) :
    Calls Tryz.prog 67 #[nodeV n s, dv] w fun e w' => (∃ o, e = .returned (optV o) ∧ evalN fs n o) ∧ Adds w w' := by
  have kC := fun W hA => checkE_any (D := D) n s W (hT.adds hA) hx hc
  have kD := fun W hA => check_doc dv fs W (hL.adds hA)
  by_cases hf : fitsN 8 n = true
  · by_cases hm : May fs
    · obtain ⟨x, rfl, hok⟩ := fits_E 8 n hf
      have kV := fun W hA => value_any (ok := fun _ => True) fs hm dv x D s W hok (hL.adds hA) (hT.adds hA)
      have HE : Hid (evalN fs x.toN (valE fs x)) := ⟨fun _ _ => ⟨x, rfl, hok, rfl⟩, fun h => absurd ⟨hf, hm⟩ h⟩
      obtain ⟨ao, cap, rfl⟩ := hT.shape
      have kC' : ∀ W, Adds w W → Calls Tryz.prog 66 #[nodeV x.toN (.slice ao x.toN.args.length cap)] W fun e w' => e = .returned (.int .i64 0) ∧ Adds W w' := fun W hA => (kC W hA).mono (by rintro e w' ⟨⟨y, rfl, hy⟩, hA'⟩; exact ⟨by rw [hy.2 hf], hA'⟩)
      have kD' : ∀ W, Adds w W → Calls Tryz.prog 30 #[dv] W fun e w' => e = .returned (.int .i64 0) ∧ Adds W w' := fun W hA => (kD W hA).mono (by rintro e w' ⟨rfl, hA'⟩; exact ⟨congrArg (fun z => Ending.returned (.int .i64 z)) (err_ok hm 1), hA'⟩)
      obtain ⟨⟨k, n', t, re, im⟩, hq⟩ : ∃ q, (valE fs x).getD vZ = q := ⟨_, rfl⟩
      have HQ : Hid ((valE fs x).getD vZ = ⟨k, n', t, re, im⟩) := hq
      obtain ⟨q2, hq2⟩ : ∃ q2, (valE fs x).isSome = q2 := ⟨_, rfl⟩
      have HQ2 : Hid ((valE fs x).isSome = q2) := hq2
      simp only [optV, hq, hq2, nodeV, V.val] at kV kC' ⊢
      clear hq hq2 kC kD hT hL hx hc hf hm hok
      generalize x.toN.args.length = la at *
      generalize x.toN.kind = xk at *
      generalize x.toN.text = xt at *
      generalize x.toN.num = xn at *
      go_enter Tryz.func67, Tryz.ntmps67
      go_wp2_with (first
        | (go_at_call 66; refine (kC' _ (by repeat (first | with_reducible exact Adds.refl _ | with_reducible refine Adds.alloc ?_ _ | with_reducible refine Adds.more ?_ _ _ | with_reducible refine Adds.drew ?_ | with_reducible refine Adds.drewN ?_ _))).mono ?_; rintro e w1 ⟨rfl, os1, n1, rfl⟩)
        | (go_at_call 30; refine (kD' _ (by repeat (first | with_reducible exact Adds.refl _ | with_reducible refine Adds.alloc ?_ _ | with_reducible refine Adds.more ?_ _ _ | with_reducible refine Adds.drew ?_ | with_reducible refine Adds.drewN ?_ _))).mono ?_; rintro e w2 ⟨rfl, os2, n2, rfl⟩)
        | (go_at_call 99; refine (kV _ (by repeat (first | with_reducible exact Adds.refl _ | with_reducible refine Adds.alloc ?_ _ | with_reducible refine Adds.more ?_ _ _ | with_reducible refine Adds.drew ?_ | with_reducible refine Adds.drewN ?_ _))).mono ?_; rintro e w3 ⟨rfl, os3, n3, rfl⟩))
      exact bodyPost_ret (v := .tuple #[.agg #[.int .i64 k, .int .i64 n', .string t, .int .i64 re, .int .i64 im], .bool q2]) (by simp [results, Tryz.results67, go_sem]) rfl ⟨⟨valE fs x, by rw [HQ.out, HQ2.out], HE.out⟩, by repeat (first | with_reducible exact Adds.refl _ | with_reducible refine Adds.alloc ?_ _ | with_reducible refine Adds.more ?_ _ _ | with_reducible refine Adds.drew ?_ | with_reducible refine Adds.drewN ?_ _)⟩
    · have HE : Hid (evalN fs n none) := ⟨fun _ h => absurd h hm, fun _ => rfl⟩
      obtain ⟨ao, cap, rfl⟩ := hT.shape
      have kC' : ∀ W, Adds w W → Calls Tryz.prog 66 #[nodeV n (.slice ao n.args.length cap)] W fun e w' => e = .returned (.int .i64 0) ∧ Adds W w' := fun W hA => (kC W hA).mono (by rintro e w' ⟨⟨y, rfl, hy⟩, hA'⟩; exact ⟨by rw [hy.2 hf], hA'⟩)
      have kD' : ∀ W, Adds w W → Calls Tryz.prog 30 #[dv] W fun e w' => e = .returned (.int .i64 1) ∧ Adds W w' := fun W hA => (kD W hA).mono (by rintro e w' ⟨rfl, hA'⟩; exact ⟨congrArg (fun z => Ending.returned (.int .i64 z)) (err_bad hm 1), hA'⟩)
      simp only [nodeV] at kC' ⊢
      clear kC kD hT hL hx hc hf hm
      generalize n.args.length = la at *
      generalize n.kind = xk at *
      generalize n.text = xt at *
      generalize n.num = xn at *
      go_enter Tryz.func67, Tryz.ntmps67
      go_wp2_with (first
        | (go_at_call 66; refine (kC' _ (by repeat (first | with_reducible exact Adds.refl _ | with_reducible refine Adds.alloc ?_ _ | with_reducible refine Adds.more ?_ _ _ | with_reducible refine Adds.drew ?_ | with_reducible refine Adds.drewN ?_ _))).mono ?_; rintro e w1 ⟨rfl, os1, n1, rfl⟩)
        | (go_at_call 30; refine (kD' _ (by repeat (first | with_reducible exact Adds.refl _ | with_reducible refine Adds.alloc ?_ _ | with_reducible refine Adds.more ?_ _ _ | with_reducible refine Adds.drew ?_ | with_reducible refine Adds.drewN ?_ _))).mono ?_; rintro e w2 ⟨rfl, os2, n2, rfl⟩))
      exact bodyPost_ret (v := .tuple #[.agg #[.int .i64 0, .int .i64 0, .string ⟨#[]⟩, .int .i64 0, .int .i64 0], .bool false]) (by simp [results, Tryz.results67, go_sem]) rfl ⟨⟨none, rfl, HE.out⟩, by repeat (first | with_reducible exact Adds.refl _ | with_reducible refine Adds.alloc ?_ _ | with_reducible refine Adds.more ?_ _ _ | with_reducible refine Adds.drew ?_ | with_reducible refine Adds.drewN ?_ _)⟩
  · have HE : Hid (evalN fs n none) := ⟨fun h _ => absurd h hf, fun _ => rfl⟩
    obtain ⟨ao, cap, rfl⟩ := hT.shape
    have kC' : ∀ W, Adds w W → Calls Tryz.prog 66 #[nodeV n (.slice ao n.args.length cap)] W fun e w' => (∃ y : Int, e = .returned (.int .i64 y) ∧ (y != 0) = true) ∧ Adds W w' := fun W hA => (kC W hA).mono (by rintro e w' ⟨⟨y, rfl, hy⟩, hA'⟩; exact ⟨⟨y, rfl, by simpa using fun h => hf (hy.1 h)⟩, hA'⟩)
    simp only [nodeV] at kC' ⊢
    clear kC kD hT hL hx hc hf
    generalize n.args.length = la at *
    generalize n.kind = xk at *
    generalize n.text = xt at *
    generalize n.num = xn at *
    go_enter Tryz.func67, Tryz.ntmps67
    go_wp2_with (first
      | (go_at_call 66; refine (kC' _ (by repeat (first | with_reducible exact Adds.refl _ | with_reducible refine Adds.alloc ?_ _ | with_reducible refine Adds.more ?_ _ _ | with_reducible refine Adds.drew ?_ | with_reducible refine Adds.drewN ?_ _))).mono ?_; rintro e w1 ⟨⟨y, rfl, hy⟩, os1, n1, rfl⟩))
    exact bodyPost_ret (v := .tuple #[.agg #[.int .i64 0, .int .i64 0, .string ⟨#[]⟩, .int .i64 0, .int .i64 0], .bool false]) (by simp [results, Tryz.results67, go_sem]) rfl ⟨⟨none, rfl, HE.out⟩, by repeat (first | with_reducible exact Adds.refl _ | with_reducible refine Adds.alloc ?_ _ | with_reducible refine Adds.more ?_ _ _ | with_reducible refine Adds.drew ?_ | with_reducible refine Adds.drewN ?_ _)⟩

theorem Tn.box {w : World} {o o' : Obj} {os : Array Obj} {k d : Nat} {s : Value} {ts : List N} (h : Tn (fun b => (w.alloc o).heap.size ≤ b) d (more (w.alloc o) os k) s ts) : Tn (fun b => w.heap.size + 1 ≤ b) d (more (w.alloc o') os k) s ts := by
  refine h.frame (by simp [size_more]) (fun b hb _ => ?_)
  have hb' : w.heap.size + 1 ≤ b := by simpa using hb
  refine ⟨?_, hb'⟩
  show ((w.heap.push o') ++ os)[b]? = ((w.heap.push o) ++ os)[b]?
  rw [Array.getElem?_append_right (by simpa using hb'), Array.getElem?_append_right (by simpa using hb')]
  simp

set_option maxHeartbeats 2000000 in
theorem parse_ok (s0 : ByteArray) (hs : s0.size ≤ 256) (x : E) (hM : M s0.toList [] Fr.none none = some x) (hf : fitsN 8 x.toN = true) (hok : x.ok) (hc : ∀ d, cntN d [x.toN] ≤ 10000) (w : World) :
    Calls Tryz.prog 41 #[.string s0] w fun e w' => (∃ sr D, e = .returned (.tuple #[nodeV x.toN sr, .int .i64 0]) ∧ Tn (fun b => w.heap.size + 1 ≤ b) D w' sr x.toN.args) ∧ Adds w w' := by
  have kR := fun W => read_any s0 hs W
  have kR' : ∀ W, Calls Tryz.prog 65 #[.string s0] W fun e w' => (∃ ao cap D, e = .returned (.tuple #[nodeV x.toN (.slice ao x.toN.args.length cap), .bool true]) ∧ Hid (Tn (fun b => W.heap.size ≤ b) D w' (.slice ao x.toN.args.length cap) x.toN.args)) ∧ Adds W w' := by
    intro W
    refine (kR W).mono ?_
    rintro e w' (⟨y, sr, D, h1, rfl, hT, hA⟩ | ⟨h1, _⟩)
    · rw [hM] at h1
      cases h1
      obtain ⟨ao, cap, rfl⟩ := hT.shape
      exact ⟨⟨ao, cap, D, rfl, hT⟩, hA⟩
    · rw [hM] at h1
      cases h1
  have kC : ∀ W ao cap D, Tn (fun _ => True) D W (.slice ao x.toN.args.length cap) x.toN.args → Calls Tryz.prog 66 #[nodeV x.toN (.slice ao x.toN.args.length cap)] W fun e w' => e = .returned (.int .i64 0) ∧ Adds W w' := fun W ao cap D hT => (checkE_any (D := D) x.toN _ W hT (ok_size hok) hc).mono (by rintro e w' ⟨⟨y, rfl, hy⟩, hA'⟩; exact ⟨by rw [hy.2 hf], hA'⟩)
  have hs' : ¬ (256 : Int) < (s0.size : Int) := by omega
  simp only [nodeV] at kR' kC ⊢
  clear kR hM hf hok hc
  generalize x.toN.args = xa at *
  generalize x.toN.kind = xk at *
  generalize x.toN.text = xt at *
  generalize x.toN.num = xn at *
  go_enter Tryz.func41, Tryz.ntmps41
  go_wp2_with (first
    | (go_at_call 65; refine (kR' _).mono ?_; rintro e w1 ⟨⟨ao, cap, D, rfl, hT⟩, os1, n1, rfl⟩)
    | (go_at_call 66; refine (kC _ _ _ D ((Tn.adds hT.out (by repeat (first | with_reducible exact Adds.refl _ | with_reducible refine Adds.alloc ?_ _ | with_reducible refine Adds.more ?_ _ _ | with_reducible refine Adds.drew ?_ | with_reducible refine Adds.drewN ?_ _))).weak (fun _ _ _ => trivial))).mono ?_; rintro e w2 ⟨rfl, os2, n2, rfl⟩))
  refine bodyPost_ret (v := .tuple #[.agg #[.int .i64 xk, .string xt, .int .i64 xn, .slice ao xa.length cap], .int .i64 0]) (by simp [results, Tryz.results41, go_sem]) rfl ⟨⟨_, D, rfl, ?_⟩, by repeat (first | with_reducible exact Adds.refl _ | with_reducible refine Adds.alloc ?_ _ | with_reducible refine Adds.more ?_ _ _ | with_reducible refine Adds.drew ?_ | with_reducible refine Adds.drewN ?_ _)⟩
  exact Tn.adds (Tn.box hT.out) (by repeat (first | with_reducible exact Adds.refl _ | with_reducible refine Adds.alloc ?_ _ | with_reducible refine Adds.more ?_ _ _ | with_reducible refine Adds.drew ?_ | with_reducible refine Adds.drewN ?_ _))

def eAwake : E := .sum (.call nNorm (.mul (.path [112]) (.path [112]))) (.num 1)

theorem gAwake : G .sum [110, 111, 114, 109, 40, 112, 42, 112, 41, 43, 49] eAwake := by
  have hp : G .part [112] (.path [112]) := .leaf rfl
  have hm : G .mul [112, 42, 112] (.mul (.path [112]) (.path [112])) := .mul (a := [112]) (b := [112]) (.up1 hp) hp
  have hc : G .part [110, 111, 114, 109, 40, 112, 42, 112, 41] (.call nNorm (.mul (.path [112]) (.path [112]))) := .call (f := nNorm) (a := [112, 42, 112]) (by decide) (.up2 hm)
  exact .add (a := [110, 111, 114, 109, 40, 112, 42, 112, 41]) (b := [49]) (.up2 (.up1 hc)) (.up1 (.leaf rfl))

theorem toB_inj {a b : List UInt8} (h : toB a = toB b) : a = b := by rw [← toB_toList a, h, toB_toList]

theorem E.toN_inj : ∀ {a b : E}, a.toN = b.toN → a = b := by
  intro a
  induction a with
  | path t => intro b h; cases b <;> simp [E.toN] at h; rw [toB_inj h]
  | num n => intro b h; cases b <;> simp [E.toN] at h; congr 1; omega
  | sum x y ihx ihy => intro b h; cases b <;> simp [E.toN] at h; rw [ihx h.1, ihy h.2]
  | mul x y ihx ihy => intro b h; cases b <;> simp [E.toN] at h; rw [ihx h.1, ihy h.2]
  | call f x ih => intro b h; cases b <;> simp [E.toN] at h; rw [toB_inj h.1, ih h.2]

theorem cnt_small (n : N) (m : Nat) : (∀ d, cntN d n.args ≤ m) → ∀ d, cntN d [n] ≤ m + 1 := by
  intro h d
  cases d with
  | zero => simp [cntN]
  | succ d =>
    have := h d
    simp [cntN]
    omega
theorem cnt_cons (n : N) (r : List N) (d : Nat) : cntN d (n :: r) = cntN d [n] + cntN d r := by
  cases d with
  | zero => simp [cntN]; omega
  | succ d => simp [cntN]; omega
theorem cnt_nil (d : Nat) : cntN d [] = 0 := by cases d <;> simp [cntN]

/-- How many nodes an expression has. -/
def E.nodes : E → Nat
  | .path _ => 1
  | .num _ => 1
  | .sum a b => a.nodes + b.nodes + 1
  | .mul a b => a.nodes + b.nodes + 1
  | .call _ a => a.nodes + 1

theorem cnt_E (e : E) : ∀ d, cntN d [e.toN] ≤ e.nodes := by
  induction e with
  | path t => exact cnt_small _ 0 (fun d => by simp [E.toN, N.args, cnt_nil])
  | num n => exact cnt_small _ 0 (fun d => by simp [E.toN, N.args, cnt_nil])
  | sum a b iha ihb => exact cnt_small _ _ (fun d => by have := iha d; have := ihb d; simp only [E.toN, N.args]; rw [cnt_cons]; omega)
  | mul a b iha ihb => exact cnt_small _ _ (fun d => by have := iha d; have := ihb d; simp only [E.toN, N.args]; rw [cnt_cons]; omega)
  | call f a iha => exact cnt_small _ _ (fun d => by have := iha d; simp only [E.toN, N.args]; omega)

def fAw : F := ⟨⟨#[112]⟩, V.mkPoint 1 2, by decide⟩

theorem p_list : (⟨#[112]⟩ : ByteArray).toList = [112] := by rw [ByteArray.toList_eq]

theorem fAw_may : May [fAw] := by
  refine ⟨by decide, fun k hk => ?_⟩
  have : k = 0 := by simpa using hk
  subst this
  refine ⟨?_, mkPoint_ok (by decide), fun h => absurd h (by decide)⟩
  show isPath ⟨#[112]⟩ = true
  rw [isPath_L, p_list]
  decide

theorem vAwake : valE [fAw] eAwake = some (V.mkNum 26) := by
  have h0 : valE [fAw] (.path [112]) = some (V.mkPoint 1 2) := by
    have e : firstAt (toB [112]) [fAw] = 0 := by
      simp only [firstAt]
      rw [if_pos (by rw [toB_toList]; exact p_list)]
    simp only [valE, got, e]
    rfl
  have h1 : mulO (V.mkPoint 1 2) (V.mkPoint 1 2) = some (V.mkPoint (-3) 4) := rfl
  have h2 : callO nNorm (V.mkPoint (-3) 4) = some (V.mkNum 25) := rfl
  have h3 : sumO (V.mkNum 25) (V.mkNum 1) = some (V.mkNum 26) := by
    have e : sumO (V.mkNum 25) (V.mkNum 1) = fitO (V.mkNum 26) := rfl
    rw [e, fitO, if_pos (mkNum_ok (by decide) (by decide))]
  show ((valE [fAw] (.call nNorm (.mul (.path [112]) (.path [112])))).bind fun x => (valE [fAw] (.num 1)).bind fun y => sumO x y) = _
  have h4 : valE [fAw] (.call nNorm (.mul (.path [112]) (.path [112]))) = some (V.mkNum 25) := by
    show (((valE [fAw] (.path [112])).bind fun x => (valE [fAw] (.path [112])).bind fun y => mulO x y)).bind (fun x => callO nNorm x) = _
    rw [h0]
    simp only [Option.bind_some]
    rw [h1]
    exact h2
  rw [h4]
  exact h3

theorem run_eql37 (ak an : Int) (ax : ByteArray) (ar ai bk bn : Int) (bx : ByteArray) (br bi : Int) (w : World) :
    (binOp .eql 75 (.agg #[.int .i64 ak, .int .i64 an, .string ax, .int .i64 ar, .int .i64 ai]) (.agg #[.int .i64 bk, .int .i64 bn, .string bx, .int .i64 br, .int .i64 bi])).run Tryz.prog w
      = .ok (.bool (V.eqv ⟨ak, an, ax, ar, ai⟩ ⟨bk, bn, bx, br, bi⟩)) w := by
  go_simp
  simp only [V.eqv]
  by_cases h1 : ak = bk <;> by_cases h2 : an = bn <;> by_cases h3 : ax.toList = bx.toList <;> by_cases h4 : ar = br <;> by_cases h5 : ai = bi <;> simp [h1, h2, h3, h4, h5]

theorem lst_aw {X : World} {k : Nat} (hk : k = X.heap.size) : Lst (X.alloc (.cells #[.string ⟨#[112]⟩, .int .i64 3, .int .i64 0, .string ⟨#[]⟩, .int .i64 1, .int .i64 2] 77)) (.slice (some ⟨k, 0, none⟩) 1 1) [fAw] := by
  refine ⟨_, 1, rfl, Nat.le_refl _, .inr ⟨k, 0, rfl, by rw [World.size_alloc]; omega, fun j hj => ?_⟩⟩
  have hj0 : j = 0 := by simpa using hj
  subst hj0
  exact ⟨cell_new hk rfl, cell_new hk rfl, cell_new hk rfl, cell_new hk rfl, cell_new hk rfl, cell_new hk rfl⟩

end Go.Proofs.YtbedmlimbcfnnaaGreatDoor

namespace Go.Proofs.YtbedmlimbcfnnaaGreatDoor
open Go.RowKit
attribute [local go_sem] cell?_more frozen?_more setCell_more size_more tape_more drew_more drewN_more more_drew more_drewN one_out plus_out plus_end lt_one le_p2 le_p3 le_p4 le_p5 le_p6 le_p7 le_p8 le_p9 le_p10 le_p11 le_p12 le_p13 le_p14 le_p15 le_p16 le_p17 le_p18 le_p19 le_p20 le_p21 le_p22 le_p23 le_p24 le_q0 le_q1 lt_q1 le_q2 lt_q2 le_q3 lt_q3 le_q4 lt_q4 le_q5 lt_q5 le_q6 lt_q6 le_q7 lt_q7 le_q8 lt_q8 le_q9 lt_q9 le_q10 lt_q10 le_q11 lt_q11 le_q12 lt_q12 le_q13 lt_q13 le_q14 lt_q14 le_q15 lt_q15 le_q16 lt_q16 le_q17 lt_q17 le_q18 lt_q18 le_q19 lt_q19 le_q20 lt_q20 le_q21 lt_q21 le_q22 lt_q22 le_q23 lt_q23 le_q24 lt_q24


/-- A node as it lies in a row. -/
structure NV where
  k : Int
  t : ByteArray
  m : Int
  s : Value

def NV.cells (n : NV) : List Value := [.int .i64 n.k, .string n.t, .int .i64 n.m, n.s]
def cellsN (l : List NV) : List Value := l.flatMap NV.cells
theorem cellsN_length (l : List NV) : (cellsN l).length = l.length * 4 := by
  induction l with
  | nil => rfl
  | cons f r ih =>
    simp only [cellsN, List.flatMap_cons, List.length_append, List.length_cons] at *
    rw [ih]
    simp [NV.cells]
    omega
theorem cellsN_append (l t : List NV) : cellsN (l ++ t) = cellsN l ++ cellsN t := by simp [cellsN]

theorem cellsN_at : ∀ (l : List NV) (j i : Nat) (hj : j < l.length), i < 4 → (cellsN l)[j * 4 + i]? = (l[j].cells)[i]? := by
  intro l
  induction l with
  | nil => intro j i hj; simp at hj
  | cons f r ih =>
    intro j i hj hi
    have e : cellsN (f :: r) = f.cells ++ cellsN r := by simp [cellsN]
    have hl : f.cells.length = 4 := rfl
    rw [e]
    cases j with
    | zero => rw [List.getElem?_append_left (by omega)]; simp
    | succ j =>
      rw [List.getElem?_append_right (by omega), show (j + 1) * 4 + i - f.cells.length = j * 4 + i by omega, ih j i (by simpa using hj) hi]
      simp

theorem infoNode : (Tryz.prog.info? 82).map (fun i => (i.zero, i.size, i.bytes)) = some (some (.agg #[.int .i64 0, .string ⟨#[]⟩, .int .i64 0, .slice none 0 0]), 4, 56) := by kernel_rfl

/-- append of one node, that lies in a block of its own. -/
theorem node_app {ops : Array Oper} {rest : List Oper} {o : Oper} {a : Act} {X : World} {Q : Exit → Act → World → Prop} (hgd : o.guard = none) (s x : Operand) (ho : o.op = .call { callee := .builtin .append, args := #[s, x], argTypes := #[53, 53] })
    {B : Nat} {W : World} {v : Value} {vs : List NV} {k m : Int} {t : ByteArray} {ao : Option Addr} {sn sc : Nat} (h : W.ownsRow B 82 4 v vs.length (cellsN vs)) (hA : Adds W X) (hB : B ≤ W.heap.size) (hs : a.eval s = v) {kk c : Nat} (hkk : kk = X.heap.size) (hx : a.eval x = .slice (some ⟨kk, 0, none⟩) 1 c) (hlen : vs.length ≤ 10000)
    (hk : ∀ v' w', w'.ownsRow B 82 4 v' (vs ++ [(⟨k, t, m, .slice ao sn sc⟩ : NV)]).length (cellsN (vs ++ [(⟨k, t, m, .slice ao sn sc⟩ : NV)])) → (X.alloc (.cells #[.int .i64 k, .string t, .int .i64 m, .slice ao sn sc] 82)).grownBy w' v.ownBlock → (v'.ownBlock = v.ownBlock ∨ v'.ownBlock = some (X.heap.size + 1)) → wpList Tryz.prog ops Q rest (a.put o.dst v') w') :
    wpList Tryz.prog ops Q (o :: rest) a (X.alloc (.cells #[.int .i64 k, .string t, .int .i64 m, .slice ao sn sc] 82)) := by
  obtain ⟨i0, hi, hz0, hz1, hz2⟩ := info_parts infoNode
  have h' := own_adds h (hA.alloc (.cells #[.int .i64 k, .string t, .int .i64 m, .slice ao sn sc] 82))
  have hnews : ∀ j y, (NV.cells ⟨k, t, m, .slice ao sn sc⟩)[j]? = some y → (X.alloc (.cells #[.int .i64 k, .string t, .int .i64 m, .slice ao sn sc] 82)).cell? ((⟨kk, 0, none⟩ : Addr).add j) = some y := by
    intro j y hj
    rw [Addr.add_lit, Nat.zero_add]
    exact cell_new hkk hj
  have hone : ∀ u ∈ NV.cells ⟨k, t, m, .slice ao sn sc⟩, u.oneCell' = true := by
    intro u hu
    simp only [NV.cells, List.mem_cons, List.mem_nil_iff, or_false] at hu
    rcases hu with rfl | rfl | rfl | rfl <;> rfl
  have hB' : B ≤ (X.alloc (.cells #[.int .i64 k, .string t, .int .i64 m, .slice ao sn sc] 82)).heap.size := by
    have := hA.below.size
    simp
    omega
  have hXs : (X.alloc (.cells #[.int .i64 k, .string t, .int .i64 m, .slice ao sn sc] 82)).heap.size = X.heap.size + 1 := by simp
  generalize X.alloc (.cells #[.int .i64 k, .string t, .int .i64 m, .slice ao sn sc] 82) = Y at *
  obtain ⟨v', w', h1, h2, h3, _⟩ := run_append_own (P := Tryz.prog) Y B 53 o.type 82 i0 _ 4 56 Tryz.underlying53 hi hz0 hz1 hz2 rfl (by decide) v vs.length (cellsN vs) h' ⟨kk, 0, none⟩ 1 c (NV.cells ⟨k, t, m, .slice ao sn sc⟩) rfl hnews hone (by unfold maxLen; omega) (by omega) hB'
  have hdet : ∀ v1 w1, (Builtin.append_ #[53, 53] o.type #[v, .slice (some ⟨kk, 0, none⟩) 1 c]).run Tryz.prog Y = .ok v1 w1 → v' = v1 := by
    intro v1 w1 h
    rw [h1] at h
    simp only [Result.ok.injEq] at h
    exact h.1
  have hlen2 : (cellsN vs).length = vs.length * i0.size := by rw [cellsN_length, hz1]
  have hl2 : (NV.cells ⟨k, t, m, .slice ao sn sc⟩).length = 1 * i0.size := by rw [hz1]; rfl
  have hvb : v'.ownBlock = v.ownBlock ∨ v'.ownBlock = some (X.heap.size + 1) := by
    rw [← hXs]
    rcases h'.2 with ⟨rfl, hn⟩ | ⟨g, cap, cur, rfl, hbg, hg, hnc, hcm, hcs, htake⟩
    · have := hdet _ _ (run_append_nil (P := Tryz.prog) Y 53 o.type 82 i0 _ Tryz.underlying53 hi hz0 ⟨kk, 0, none⟩ 1 c _ hl2 hnews (by decide) (by decide) (by rw [hz2]; decide))
      rw [this]
      exact .inr rfl
    · by_cases hroom : vs.length + 1 ≤ cap
      · have := hdet _ _ (run_append_room (P := Tryz.prog) Y 53 o.type 82 i0 Tryz.underlying53 hi g vs.length cap cur hg ⟨kk, 0, none⟩ 1 c _ hl2 hnews hone hroom (by rw [hz1, hcs]; have : (NV.cells ⟨k, t, m, .slice ao sn sc⟩).length = 4 := rfl; omega))
        rw [this]
        exact .inl rfl
      · have := hdet _ _ (run_append_grow (P := Tryz.prog) Y 53 o.type 82 i0 _ Tryz.underlying53 hi hz0 ⟨g, 0, none⟩ vs.length cap (cellsN vs) hlen2 (h'.cells (g := g) rfl) ⟨kk, 0, none⟩ 1 c _ hl2 hnews (by omega) (by omega) (by rw [hz2]; exact growslice_fits (by omega) (by omega)))
        rw [this]
        exact .inr rfl
  refine Lib.wpList_append_run _ hgd s x 53 53 ho v _ hs hx v' w' h1 (hk v' w' ?_ h3 hvb)
  rw [cellsN_append, List.length_append]
  have e1 : cellsN [(⟨k, t, m, .slice ao sn sc⟩ : NV)] = NV.cells ⟨k, t, m, .slice ao sn sc⟩ := by simp [cellsN]
  rw [e1]
  exact h2

/-- A row that reads as expressions. -/
def Nrx (D : Nat) (wr : World) (v : Value) (ns : List NV) (xs : List E) : Prop :=
  ns.length = xs.length ∧ ∀ j (h : j < xs.length) (h' : j < ns.length), ns[j].k = xs[j].toN.kind ∧ ns[j].t = xs[j].toN.text ∧ ns[j].m = xs[j].toN.num ∧ Tn (fun b => some b ≠ v.ownBlock) D wr ns[j].s xs[j].toN.args

structure Nr (w1 wr : World) (v : Value) (xs : List E) (ns : List NV) (D : Nat) : Prop where
  own : wr.ownsRow w1.heap.size 82 4 v ns.length (cellsN ns)
  rx : Nrx D wr v ns xs
  adds : Adds w1 wr

theorem nr_nil (w1 : World) : Nr w1 w1 (.slice none 0 0) [] [] 0 := ⟨World.ownsRow_nil _ _ _ _, ⟨rfl, fun j h => by simp at h⟩, Adds.refl _⟩

theorem nr_empty {X : World} {k : Nat} (hk : k = X.heap.size) : Nr X (X.alloc (.cells #[] 82)) (.slice (some ⟨k, 0, none⟩) 0 0) [] [] 0 := by
  subst hk
  exact ⟨⟨rfl, .inr ⟨X.heap.size, 0, #[], rfl, Nat.le_refl _, new_block _ _, Nat.le_refl _, by unfold maxLen; omega, rfl, rfl⟩⟩, ⟨rfl, fun j h => by simp at h⟩, (Adds.refl _).alloc _⟩

theorem Nr.addsN {w1 wr X : World} {v : Value} {xs : List E} {ns : List NV} {D : Nat} (h : Nr w1 wr v xs ns D) (hA : Adds wr X) : Nr w1 X v xs ns D :=
  ⟨own_adds h.own hA, ⟨h.rx.1, fun j hj hj' => by obtain ⟨a, b, c, d⟩ := h.rx.2 j hj hj'; exact ⟨a, b, c, d.adds hA⟩⟩, h.adds.trans hA⟩

theorem Nr.lt {w1 wr : World} {v : Value} {xs : List E} {ns : List NV} {D : Nat} (h : Nr w1 wr v xs ns D) : ∀ k, v.ownBlock = some k → w1.heap.size ≤ k ∧ k < wr.heap.size := h.own.lt

theorem Nr.push {w1 wr X w6 : World} {v v' : Value} {xs : List E} {ns : List NV} {D D' : Nat} {x : E} {ao : Option Addr} {sn sc : Nat} (h : Nr w1 wr v xs ns D) (hA : Adds wr X) (hT : Tn (fun b => wr.heap.size ≤ b) D' X (.slice ao sn sc) x.toN.args)
    (ho : w6.ownsRow w1.heap.size 82 4 v' (ns ++ [(⟨x.toN.kind, x.toN.text, x.toN.num, .slice ao sn sc⟩ : NV)]).length (cellsN (ns ++ [(⟨x.toN.kind, x.toN.text, x.toN.num, .slice ao sn sc⟩ : NV)]))) (hg : (X.alloc (.cells #[.int .i64 x.toN.kind, .string x.toN.text, .int .i64 x.toN.num, .slice ao sn sc] 82)).grownBy w6 v.ownBlock) (hv : v'.ownBlock = v.ownBlock ∨ v'.ownBlock = some (X.heap.size + 1)) :
    Nr w1 w6 v' (xs ++ [x]) (ns ++ [(⟨x.toN.kind, x.toN.text, x.toN.num, .slice ao sn sc⟩ : NV)]) (max D D') := by
  have hblk : ∀ b, b < X.heap.size → some b ≠ v.ownBlock → w6.heap[b]? = X.heap[b]? ∧ some b ≠ v'.ownBlock := by
    intro b hb hne
    refine ⟨?_, ?_⟩
    · rw [hg.block b (by simp; omega) hne]
      exact Below.heap_alloc _ _ _ hb
    · rcases hv with hv | hv
      · rw [hv]; exact hne
      · rw [hv]; simp; omega
  have hsz : X.heap.size ≤ w6.heap.size := by
    have := hg.size
    simp at this
    omega
  refine ⟨ho, ⟨by simp [h.rx.1], fun j hj hj' => ?_⟩, grown_adds ((h.adds.trans hA).alloc _) hg (fun k hk => (h.own.lt k hk).1)⟩
  by_cases hjl : j < xs.length
  · have hjn : j < ns.length := by rw [h.rx.1]; exact hjl
    obtain ⟨a, b, c, d⟩ := h.rx.2 j hjl hjn
    rw [List.getElem_append_left hjn, List.getElem_append_left hjl]
    exact ⟨a, b, c, ((d.adds hA).frame hsz (fun b hb hlt => hblk b hlt hb)).up (Nat.le_max_left _ _)⟩
  · have hje : j = xs.length := by simp at hj; omega
    have hjn : j = ns.length := by rw [h.rx.1]; exact hje
    subst hje
    have e1 : (ns ++ [(⟨x.toN.kind, x.toN.text, x.toN.num, .slice ao sn sc⟩ : NV)])[xs.length] = ⟨x.toN.kind, x.toN.text, x.toN.num, .slice ao sn sc⟩ := by
      rw [List.getElem_append_right (by omega)]
      simp
    have e2 : (xs ++ [x])[xs.length] = x := by simp
    rw [e1, e2]
    refine ⟨rfl, rfl, rfl, (hT.frame hsz (fun b hb hlt => hblk b hlt (fun e => ?_))).up (Nat.le_max_right _ _)⟩
    have := (h.lt b e.symm).2
    omega

/-- The row read as a list of nodes. -/
theorem Nr.tn {w1 wr : World} {v : Value} {xs : List E} {ns : List NV} {D : Nat} (h : Nr w1 wr v xs ns D) (hok : ∀ x ∈ xs, x.ok) : Tn (fun _ => True) (D + 1) wr v (xs.map E.toN) := by
  have hl := h.rx.1
  rcases h.own.2 with ⟨rfl, h0⟩ | ⟨g, cap, cur, rfl, hb, hg, hnc, hcm, hcs, htk⟩
  · have : xs = [] := List.length_eq_zero_iff.1 (by omega)
    subst this
    exact ⟨none, 0, rfl, Nat.le_refl _, .inl rfl⟩
  · refine ⟨some ⟨g, 0, none⟩, cap, by simp [hl], by simp; omega, ?_⟩
    by_cases hx : xs = []
    · exact .inl (by simp [hx])
    · refine .inr ⟨g, 0, rfl, lt_of_some hg, trivial, ⟨?_, fun h0 => absurd trivial h0⟩, fun j hj => ?_⟩
      · simp only [World.frozen?, hg]
        simp
      · have hjx : j < xs.length := by simpa using hj
        have hjn : j < ns.length := by omega
        obtain ⟨a, b, c, d⟩ := h.rx.2 j hjx hjn
        have hc0 := World.ownsRow.cells h.own (g := g) rfl (j * 4 + 0) (.int .i64 ns[j].k) (by rw [cellsN_at ns j 0 hjn (by omega)]; rfl)
        have hc1 := World.ownsRow.cells h.own (g := g) rfl (j * 4 + 1) (.string ns[j].t) (by rw [cellsN_at ns j 1 hjn (by omega)]; rfl)
        have hc2 := World.ownsRow.cells h.own (g := g) rfl (j * 4 + 2) (.int .i64 ns[j].m) (by rw [cellsN_at ns j 2 hjn (by omega)]; rfl)
        have hc3 := World.ownsRow.cells h.own (g := g) rfl (j * 4 + 3) ns[j].s (by rw [cellsN_at ns j 3 hjn (by omega)]; rfl)
        rw [Addr.add_lit] at hc0 hc1 hc2 hc3
        simp only [List.getElem_map]
        rw [← a, ← b, ← c]
        refine ⟨ns[j].s, ⟨by simpa using hc0, by simpa [Nat.add_assoc] using hc1, by simpa [Nat.add_assoc] using hc2, by simpa [Nat.add_assoc] using hc3⟩, ?_, d.weak (fun _ _ _ => trivial)⟩
        rw [b]
        exact ok_size (hok _ (List.getElem_mem hjx))

end Go.Proofs.YtbedmlimbcfnnaaGreatDoor
