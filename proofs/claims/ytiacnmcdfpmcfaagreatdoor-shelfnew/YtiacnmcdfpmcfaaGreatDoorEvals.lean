/-
  The functions Parse, Eval and awake, by contracts.
-/
import Derived.Test.YtiacnmcdfpmcfaaGreatDoorCheck
import Derived.Test.YtiacnmcdfpmcfaaGreatDoorValo
import Derived.Test.YtiacnmcdfpmcfaaGreatDoorRead
import Derived.Test.YtiacnmcdfpmcfaaGreatDoorMays
namespace Go.Proofs.YtiacnmcdfpmcfaaGreatDoor
open Go.RowKit
attribute [local go_sem] cell?_more frozen?_more setCell_more size_more tape_more drew_more drewN_more more_drew more_drewN one_out plus_out plus_end lt_one le_p2 le_p3 le_p4 le_p5 le_p6 le_p7 le_p8 le_p9 le_p10 le_p11 le_p12 le_p13 le_p14 le_p15 le_p16 le_p17 le_p18 le_p19 le_p20 le_p21 le_p22 le_p23 le_p24 le_q0 le_q1 lt_q1 le_q2 lt_q2 le_q3 lt_q3 le_q4 lt_q4 le_q5 lt_q5 le_q6 lt_q6 le_q7 lt_q7 le_q8 lt_q8 le_q9 lt_q9 le_q10 lt_q10 le_q11 lt_q11 le_q12 lt_q12 le_q13 lt_q13 le_q14 lt_q14 le_q15 lt_q15 le_q16 lt_q16 le_q17 lt_q17 le_q18 lt_q18 le_q19 lt_q19 le_q20 lt_q20 le_q21 lt_q21 le_q22 lt_q22 le_q23 lt_q23 le_q24 lt_q24


/-- What Eval tells: of nodes that may be and documents that may be the value. -/
def evalN (fs : List F) (n : N) (o : Option V) : Prop := (fitsN 8 n = true → May fs → ∃ e : E, n = e.toN ∧ e.ok ∧ o = valE fs e) ∧ (¬ (fitsN 8 n = true ∧ May fs) → o = none)

set_option maxHeartbeats 2000000 in
theorem eval_any {D : Nat} (n : N) (s dv : Value) (fs : List F) (w : World) (hT : Tn (fun _ => True) D w s n.args) (hx : n.text.size ≤ 9223372036854775807) (hc : ∀ d, cntN d [n] ≤ 10000) (hL : Lst w dv fs) :
    Calls Tryz.prog 128 #[nodeV n s, dv] w fun e w' => (∃ o, e = .returned (optV o) ∧ evalN fs n o) ∧ Adds w w' := by
  have kC := fun W hA => checkE_any (D := D) n s W (hT.adds hA) hx hc
  have kD := fun W hA => check_doc dv fs W (hL.adds hA)
  by_cases hf : fitsN 8 n = true
  · by_cases hm : May fs
    · obtain ⟨x, rfl, hok⟩ := fits_E 8 n hf
      have kV := fun W hA => value_any (ok := fun _ => True) fs hm dv x D s W hok (hL.adds hA) (hT.adds hA)
      have HE : Hid (evalN fs x.toN (valE fs x)) := ⟨fun _ _ => ⟨x, rfl, hok, rfl⟩, fun h => absurd ⟨hf, hm⟩ h⟩
      obtain ⟨ao, cap, rfl⟩ := hT.shape
      have kC' : ∀ W, Adds w W → Calls Tryz.prog 66 #[nodeV x.toN (.slice ao x.toN.args.length cap)] W fun e w' => e = .returned (.int .i64 0) ∧ Adds W w' := fun W hA => (kC W hA).mono (by rintro e w' ⟨⟨y, rfl, hy⟩, hA'⟩; exact ⟨by rw [hy.2 hf], hA'⟩)
      have kD' : ∀ W, Adds w W → Calls Tryz.prog 104 #[dv] W fun e w' => e = .returned (.int .i64 0) ∧ Adds W w' := fun W hA => (kD W hA).mono (by rintro e w' ⟨rfl, hA'⟩; exact ⟨congrArg (fun z => Ending.returned (.int .i64 z)) (err_ok hm 1), hA'⟩)
      obtain ⟨⟨k, n', t, re, im⟩, hq⟩ : ∃ q, (valE fs x).getD vZ = q := ⟨_, rfl⟩
      have HQ : Hid ((valE fs x).getD vZ = ⟨k, n', t, re, im⟩) := hq
      obtain ⟨q2, hq2⟩ : ∃ q2, (valE fs x).isSome = q2 := ⟨_, rfl⟩
      have HQ2 : Hid ((valE fs x).isSome = q2) := hq2
      simp only [optV, hq, hq2, nodeV, V.val] at kV kC' ⊢
      clear hq hq2 kC kD hT hL hx hc hf hm hok
      generalize x.toN.args.length = la at *
      generalize x.toN.kind = xk at *
      generalize x.toN.text = xt at *
      generalize x.toN.num = xn at *
      go_enter Tryz.func128, Tryz.ntmps128
      go_wp2_with (first
        | (go_at_call 66; refine (kC' _ (by repeat (first | with_reducible exact Adds.refl _ | with_reducible refine Adds.alloc ?_ _ | with_reducible refine Adds.more ?_ _ _ | with_reducible refine Adds.drew ?_ | with_reducible refine Adds.drewN ?_ _))).mono ?_; rintro e w1 ⟨rfl, os1, n1, rfl⟩)
        | (go_at_call 104; refine (kD' _ (by repeat (first | with_reducible exact Adds.refl _ | with_reducible refine Adds.alloc ?_ _ | with_reducible refine Adds.more ?_ _ _ | with_reducible refine Adds.drew ?_ | with_reducible refine Adds.drewN ?_ _))).mono ?_; rintro e w2 ⟨rfl, os2, n2, rfl⟩)
        | (go_at_call 153; refine (kV _ (by repeat (first | with_reducible exact Adds.refl _ | with_reducible refine Adds.alloc ?_ _ | with_reducible refine Adds.more ?_ _ _ | with_reducible refine Adds.drew ?_ | with_reducible refine Adds.drewN ?_ _))).mono ?_; rintro e w3 ⟨rfl, os3, n3, rfl⟩))
      exact bodyPost_ret (v := .tuple #[.agg #[.int .i64 k, .int .i64 n', .string t, .int .i64 re, .int .i64 im], .bool q2]) (by simp [results, Tryz.results128, go_sem]) rfl ⟨⟨valE fs x, by rw [HQ.out, HQ2.out], HE.out⟩, by repeat (first | with_reducible exact Adds.refl _ | with_reducible refine Adds.alloc ?_ _ | with_reducible refine Adds.more ?_ _ _ | with_reducible refine Adds.drew ?_ | with_reducible refine Adds.drewN ?_ _)⟩
    · have HE : Hid (evalN fs n none) := ⟨fun _ h => absurd h hm, fun _ => rfl⟩
      obtain ⟨ao, cap, rfl⟩ := hT.shape
      have kC' : ∀ W, Adds w W → Calls Tryz.prog 66 #[nodeV n (.slice ao n.args.length cap)] W fun e w' => e = .returned (.int .i64 0) ∧ Adds W w' := fun W hA => (kC W hA).mono (by rintro e w' ⟨⟨y, rfl, hy⟩, hA'⟩; exact ⟨by rw [hy.2 hf], hA'⟩)
      have kD' : ∀ W, Adds w W → Calls Tryz.prog 104 #[dv] W fun e w' => e = .returned (.int .i64 1) ∧ Adds W w' := fun W hA => (kD W hA).mono (by rintro e w' ⟨rfl, hA'⟩; exact ⟨congrArg (fun z => Ending.returned (.int .i64 z)) (err_bad hm 1), hA'⟩)
      simp only [nodeV] at kC' ⊢
      clear kC kD hT hL hx hc hf hm
      generalize n.args.length = la at *
      generalize n.kind = xk at *
      generalize n.text = xt at *
      generalize n.num = xn at *
      go_enter Tryz.func128, Tryz.ntmps128
      go_wp2_with (first
        | (go_at_call 66; refine (kC' _ (by repeat (first | with_reducible exact Adds.refl _ | with_reducible refine Adds.alloc ?_ _ | with_reducible refine Adds.more ?_ _ _ | with_reducible refine Adds.drew ?_ | with_reducible refine Adds.drewN ?_ _))).mono ?_; rintro e w1 ⟨rfl, os1, n1, rfl⟩)
        | (go_at_call 104; refine (kD' _ (by repeat (first | with_reducible exact Adds.refl _ | with_reducible refine Adds.alloc ?_ _ | with_reducible refine Adds.more ?_ _ _ | with_reducible refine Adds.drew ?_ | with_reducible refine Adds.drewN ?_ _))).mono ?_; rintro e w2 ⟨rfl, os2, n2, rfl⟩))
      exact bodyPost_ret (v := .tuple #[.agg #[.int .i64 0, .int .i64 0, .string ⟨#[]⟩, .int .i64 0, .int .i64 0], .bool false]) (by simp [results, Tryz.results128, go_sem]) rfl ⟨⟨none, rfl, HE.out⟩, by repeat (first | with_reducible exact Adds.refl _ | with_reducible refine Adds.alloc ?_ _ | with_reducible refine Adds.more ?_ _ _ | with_reducible refine Adds.drew ?_ | with_reducible refine Adds.drewN ?_ _)⟩
  · have HE : Hid (evalN fs n none) := ⟨fun h _ => absurd h hf, fun _ => rfl⟩
    obtain ⟨ao, cap, rfl⟩ := hT.shape
    have kC' : ∀ W, Adds w W → Calls Tryz.prog 66 #[nodeV n (.slice ao n.args.length cap)] W fun e w' => (∃ y : Int, e = .returned (.int .i64 y) ∧ (y != 0) = true) ∧ Adds W w' := fun W hA => (kC W hA).mono (by rintro e w' ⟨⟨y, rfl, hy⟩, hA'⟩; exact ⟨⟨y, rfl, by simpa using fun h => hf (hy.1 h)⟩, hA'⟩)
    simp only [nodeV] at kC' ⊢
    clear kC kD hT hL hx hc hf
    generalize n.args.length = la at *
    generalize n.kind = xk at *
    generalize n.text = xt at *
    generalize n.num = xn at *
    go_enter Tryz.func128, Tryz.ntmps128
    go_wp2_with (first
      | (go_at_call 66; refine (kC' _ (by repeat (first | with_reducible exact Adds.refl _ | with_reducible refine Adds.alloc ?_ _ | with_reducible refine Adds.more ?_ _ _ | with_reducible refine Adds.drew ?_ | with_reducible refine Adds.drewN ?_ _))).mono ?_; rintro e w1 ⟨⟨y, rfl, hy⟩, os1, n1, rfl⟩))
    exact bodyPost_ret (v := .tuple #[.agg #[.int .i64 0, .int .i64 0, .string ⟨#[]⟩, .int .i64 0, .int .i64 0], .bool false]) (by simp [results, Tryz.results128, go_sem]) rfl ⟨⟨none, rfl, HE.out⟩, by repeat (first | with_reducible exact Adds.refl _ | with_reducible refine Adds.alloc ?_ _ | with_reducible refine Adds.more ?_ _ _ | with_reducible refine Adds.drew ?_ | with_reducible refine Adds.drewN ?_ _)⟩

theorem Tn.box {w : World} {o o' : Obj} {os : Array Obj} {k d : Nat} {s : Value} {ts : List N} (h : Tn (fun b => (w.alloc o).heap.size ≤ b) d (more (w.alloc o) os k) s ts) : Tn (fun b => w.heap.size + 1 ≤ b) d (more (w.alloc o') os k) s ts := by
  refine h.frame (by simp [size_more]) (fun b hb _ => ?_)
  have hb' : w.heap.size + 1 ≤ b := by simpa using hb
  refine ⟨?_, hb'⟩
  show ((w.heap.push o') ++ os)[b]? = ((w.heap.push o) ++ os)[b]?
  rw [Array.getElem?_append_right (by simpa using hb'), Array.getElem?_append_right (by simpa using hb')]
  simp

set_option maxHeartbeats 2000000 in
theorem parse_ok (s0 : ByteArray) (hs : s0.size ≤ 256) (x : E) (hM : M s0.toList [] Fr.none none = some x) (hf : fitsN 8 x.toN = true) (hok : x.ok) (hc : ∀ d, cntN d [x.toN] ≤ 10000) (w : World) :
    Calls Tryz.prog 48 #[.string s0] w fun e w' => (∃ sr D, e = .returned (.tuple #[nodeV x.toN sr, .int .i64 0]) ∧ Tn (fun b => w.heap.size + 1 ≤ b) D w' sr x.toN.args) ∧ Adds w w' := by
  have kR := fun W => read_any s0 hs W
  have kR' : ∀ W, Calls Tryz.prog 65 #[.string s0] W fun e w' => (∃ ao cap D, e = .returned (.tuple #[nodeV x.toN (.slice ao x.toN.args.length cap), .bool true]) ∧ Hid (Tn (fun b => W.heap.size ≤ b) D w' (.slice ao x.toN.args.length cap) x.toN.args)) ∧ Adds W w' := by
    intro W
    refine (kR W).mono ?_
    rintro e w' (⟨y, sr, D, h1, rfl, hT, hA⟩ | ⟨h1, _⟩)
    · rw [hM] at h1
      cases h1
      obtain ⟨ao, cap, rfl⟩ := hT.shape
      exact ⟨⟨ao, cap, D, rfl, hT⟩, hA⟩
    · rw [hM] at h1
      cases h1
  have kC : ∀ W ao cap D, Tn (fun _ => True) D W (.slice ao x.toN.args.length cap) x.toN.args → Calls Tryz.prog 66 #[nodeV x.toN (.slice ao x.toN.args.length cap)] W fun e w' => e = .returned (.int .i64 0) ∧ Adds W w' := fun W ao cap D hT => (checkE_any (D := D) x.toN _ W hT (ok_size hok) hc).mono (by rintro e w' ⟨⟨y, rfl, hy⟩, hA'⟩; exact ⟨by rw [hy.2 hf], hA'⟩)
  have hs' : ¬ (256 : Int) < (s0.size : Int) := by omega
  simp only [nodeV] at kR' kC ⊢
  clear kR hM hf hok hc
  generalize x.toN.args = xa at *
  generalize x.toN.kind = xk at *
  generalize x.toN.text = xt at *
  generalize x.toN.num = xn at *
  go_enter Tryz.func48, Tryz.ntmps48
  go_wp2_with (first
    | (go_at_call 65; refine (kR' _).mono ?_; rintro e w1 ⟨⟨ao, cap, D, rfl, hT⟩, os1, n1, rfl⟩)
    | (go_at_call 66; refine (kC _ _ _ D ((Tn.adds hT.out (by repeat (first | with_reducible exact Adds.refl _ | with_reducible refine Adds.alloc ?_ _ | with_reducible refine Adds.more ?_ _ _ | with_reducible refine Adds.drew ?_ | with_reducible refine Adds.drewN ?_ _))).weak (fun _ _ _ => trivial))).mono ?_; rintro e w2 ⟨rfl, os2, n2, rfl⟩))
  refine bodyPost_ret (v := .tuple #[.agg #[.int .i64 xk, .string xt, .int .i64 xn, .slice ao xa.length cap], .int .i64 0]) (by simp [results, Tryz.results48, go_sem]) rfl ⟨⟨_, D, rfl, ?_⟩, by repeat (first | with_reducible exact Adds.refl _ | with_reducible refine Adds.alloc ?_ _ | with_reducible refine Adds.more ?_ _ _ | with_reducible refine Adds.drew ?_ | with_reducible refine Adds.drewN ?_ _)⟩
  exact Tn.adds (Tn.box hT.out) (by repeat (first | with_reducible exact Adds.refl _ | with_reducible refine Adds.alloc ?_ _ | with_reducible refine Adds.more ?_ _ _ | with_reducible refine Adds.drew ?_ | with_reducible refine Adds.drewN ?_ _))

def eAwake : E := .sum (.call nNorm (.mul (.path [112]) (.path [112]))) (.num 1)

theorem gAwake : G .sum [110, 111, 114, 109, 40, 112, 42, 112, 41, 43, 49] eAwake := by
  have hp : G .part [112] (.path [112]) := .leaf rfl
  have hm : G .mul [112, 42, 112] (.mul (.path [112]) (.path [112])) := .mul (a := [112]) (b := [112]) (.up1 hp) hp
  have hc : G .part [110, 111, 114, 109, 40, 112, 42, 112, 41] (.call nNorm (.mul (.path [112]) (.path [112]))) := .call (f := nNorm) (a := [112, 42, 112]) (by decide) (.up2 hm)
  exact .add (a := [110, 111, 114, 109, 40, 112, 42, 112, 41]) (b := [49]) (.up2 (.up1 hc)) (.up1 (.leaf rfl))

theorem toB_inj {a b : List UInt8} (h : toB a = toB b) : a = b := by rw [← toB_toList a, h, toB_toList]

theorem E.toN_inj : ∀ {a b : E}, a.toN = b.toN → a = b := by
  intro a
  induction a with
  | path t => intro b h; cases b <;> simp [E.toN] at h; rw [toB_inj h]
  | num n => intro b h; cases b <;> simp [E.toN] at h; congr 1; omega
  | sum x y ihx ihy => intro b h; cases b <;> simp [E.toN] at h; rw [ihx h.1, ihy h.2]
  | mul x y ihx ihy => intro b h; cases b <;> simp [E.toN] at h; rw [ihx h.1, ihy h.2]
  | call f x ih => intro b h; cases b <;> simp [E.toN] at h; rw [toB_inj h.1, ih h.2]

theorem cnt_small (n : N) (m : Nat) : (∀ d, cntN d n.args ≤ m) → ∀ d, cntN d [n] ≤ m + 1 := by
  intro h d
  cases d with
  | zero => simp [cntN]
  | succ d =>
    have := h d
    simp [cntN]
    omega
theorem cnt_cons (n : N) (r : List N) (d : Nat) : cntN d (n :: r) = cntN d [n] + cntN d r := by
  cases d with
  | zero => simp [cntN]; omega
  | succ d => simp [cntN]; omega
theorem cnt_nil (d : Nat) : cntN d [] = 0 := by cases d <;> simp [cntN]

/-- How many nodes an expression has. -/
def E.nodes : E → Nat
  | .path _ => 1
  | .num _ => 1
  | .sum a b => a.nodes + b.nodes + 1
  | .mul a b => a.nodes + b.nodes + 1
  | .call _ a => a.nodes + 1

theorem cnt_E (e : E) : ∀ d, cntN d [e.toN] ≤ e.nodes := by
  induction e with
  | path t => exact cnt_small _ 0 (fun d => by simp [E.toN, N.args, cnt_nil])
  | num n => exact cnt_small _ 0 (fun d => by simp [E.toN, N.args, cnt_nil])
  | sum a b iha ihb => exact cnt_small _ _ (fun d => by have := iha d; have := ihb d; simp only [E.toN, N.args]; rw [cnt_cons]; omega)
  | mul a b iha ihb => exact cnt_small _ _ (fun d => by have := iha d; have := ihb d; simp only [E.toN, N.args]; rw [cnt_cons]; omega)
  | call f a iha => exact cnt_small _ _ (fun d => by have := iha d; simp only [E.toN, N.args]; omega)

def fAw : F := ⟨⟨#[112]⟩, V.mkPoint 1 2, by decide⟩

theorem p_list : (⟨#[112]⟩ : ByteArray).toList = [112] := by rw [ByteArray.toList_eq]

theorem fAw_may : May [fAw] := by
  refine ⟨by decide, fun k hk => ?_⟩
  have : k = 0 := by simpa using hk
  subst this
  refine ⟨?_, mkPoint_ok (by decide), fun h => absurd h (by decide)⟩
  show isPath ⟨#[112]⟩ = true
  rw [isPath_L, p_list]
  decide

theorem vAwake : valE [fAw] eAwake = some (V.mkNum 26) := by
  have h0 : valE [fAw] (.path [112]) = some (V.mkPoint 1 2) := by
    have e : firstAt (toB [112]) [fAw] = 0 := by
      simp only [firstAt]
      rw [if_pos (by rw [toB_toList]; exact p_list)]
    simp only [valE, got, e]
    rfl
  have h1 : mulO (V.mkPoint 1 2) (V.mkPoint 1 2) = some (V.mkPoint (-3) 4) := rfl
  have h2 : callO nNorm (V.mkPoint (-3) 4) = some (V.mkNum 25) := rfl
  have h3 : sumO (V.mkNum 25) (V.mkNum 1) = some (V.mkNum 26) := by
    have e : sumO (V.mkNum 25) (V.mkNum 1) = fitO (V.mkNum 26) := rfl
    rw [e, fitO, if_pos (mkNum_ok (by decide) (by decide))]
  show ((valE [fAw] (.call nNorm (.mul (.path [112]) (.path [112])))).bind fun x => (valE [fAw] (.num 1)).bind fun y => sumO x y) = _
  have h4 : valE [fAw] (.call nNorm (.mul (.path [112]) (.path [112]))) = some (V.mkNum 25) := by
    show (((valE [fAw] (.path [112])).bind fun x => (valE [fAw] (.path [112])).bind fun y => mulO x y)).bind (fun x => callO nNorm x) = _
    rw [h0]
    simp only [Option.bind_some]
    rw [h1]
    exact h2
  rw [h4]
  exact h3

theorem run_eql37 (ak an : Int) (ax : ByteArray) (ar ai bk bn : Int) (bx : ByteArray) (br bi : Int) (w : World) :
    (binOp .eql 87 (.agg #[.int .i64 ak, .int .i64 an, .string ax, .int .i64 ar, .int .i64 ai]) (.agg #[.int .i64 bk, .int .i64 bn, .string bx, .int .i64 br, .int .i64 bi])).run Tryz.prog w
      = .ok (.bool (V.eqv ⟨ak, an, ax, ar, ai⟩ ⟨bk, bn, bx, br, bi⟩)) w := by
  go_simp
  simp only [V.eqv]
  by_cases h1 : ak = bk <;> by_cases h2 : an = bn <;> by_cases h3 : ax.toList = bx.toList <;> by_cases h4 : ar = br <;> by_cases h5 : ai = bi <;> simp [h1, h2, h3, h4, h5]

theorem lst_aw {X : World} {k : Nat} (hk : k = X.heap.size) : Lst (X.alloc (.cells #[.string ⟨#[112]⟩, .int .i64 3, .int .i64 0, .string ⟨#[]⟩, .int .i64 1, .int .i64 2] 89)) (.slice (some ⟨k, 0, none⟩) 1 1) [fAw] := by
  refine ⟨_, 1, rfl, Nat.le_refl _, .inr ⟨k, 0, rfl, by rw [World.size_alloc]; omega, fun j hj => ?_⟩⟩
  have hj0 : j = 0 := by simpa using hj
  subst hj0
  exact ⟨cell_new hk rfl, cell_new hk rfl, cell_new hk rfl, cell_new hk rfl, cell_new hk rfl, cell_new hk rfl⟩

end Go.Proofs.YtiacnmcdfpmcfaaGreatDoor
