/-
  The functions multiplied, added and closed of the reader, by contracts.
-/
import Derived.Test.YtiacnmcdfpmcfaaGreatDoorQ09
namespace Go.Proofs.YtiacnmcdfpmcfaaGreatDoor
open Go.RowKit
attribute [local go_sem] cell?_more frozen?_more setCell_more size_more tape_more drew_more drewN_more more_drew more_drewN one_out plus_out plus_end lt_one le_p2 le_p3 le_p4 le_p5 le_p6 le_p7 le_p8 le_p9 le_p10 le_p11 le_p12 le_p13 le_p14 le_p15 le_p16 le_p17 le_p18 le_p19 le_p20 le_p21 le_p22 le_p23 le_p24 le_q0 le_q1 lt_q1 le_q2 lt_q2 le_q3 lt_q3 le_q4 lt_q4 le_q5 lt_q5 le_q6 lt_q6 le_q7 lt_q7 le_q8 lt_q8 le_q9 lt_q9 le_q10 lt_q10 le_q11 lt_q11 le_q12 lt_q12 le_q13 lt_q13 le_q14 lt_q14 le_q15 lt_q15 le_q16 lt_q16 le_q17 lt_q17 le_q18 lt_q18 le_q19 lt_q19 le_q20 lt_q20 le_q21 lt_q21 le_q22 lt_q22 le_q23 lt_q23 le_q24 lt_q24


def mulN (m n : N) : N := if m.kind = 0 then n else .mk 4 ⟨#[]⟩ 0 [m, n]
def addN (m n : N) : N := if m.kind = 0 then n else .mk 3 ⟨#[]⟩ 0 [m, n]
def closeN (f : ByteArray) (n : N) : N := if f.toList = [] then n else .mk 5 f 0 [n]

abbrev nilV : Value := .slice none 0 0

theorem two_end {ok : Nat → Prop} {d : Nat} {W1 X : World} {a b : N} {sa sb : Value} {k : Nat} (ta : Tn ok d W1 sa a.args) (tb : Tn ok d W1 sb b.args) (hA : Adds W1 X) (hk : k = X.heap.size) (hok : ok k) (h1 : a.text.size ≤ 9223372036854775807) (h2 : b.text.size ≤ 9223372036854775807) :
    Tn ok (d + 1) (X.alloc (.cells #[.int .i64 a.kind, .string a.text, .int .i64 a.num, sa, .int .i64 b.kind, .string b.text, .int .i64 b.num, sb] 81)) (.slice (some ⟨k, 0, none⟩) 2 2) [a, b] := by
  subst hk
  exact tn_two (by simp) hok (fun o => by simp) (ta.adds (hA.alloc _)) (tb.adds (hA.alloc _)) h1 h2 ⟨by simp, by simp, by simp, by simp⟩ ⟨by simp, by simp, by simp, by simp⟩

theorem one_end {ok : Nat → Prop} {d : Nat} {W1 X : World} {a : N} {sa : Value} {k : Nat} (ta : Tn ok d W1 sa a.args) (hA : Adds W1 X) (hk : k = X.heap.size) (hok : ok k) (h1 : a.text.size ≤ 9223372036854775807) :
    Tn ok (d + 1) (X.alloc (.cells #[.int .i64 a.kind, .string a.text, .int .i64 a.num, sa] 81)) (.slice (some ⟨k, 0, none⟩) 1 1) [a] := by
  subst hk
  exact tn_one (by simp) hok (fun o => by simp) (ta.adds (hA.alloc _)) h1 ⟨by simp, by simp, by simp, by simp⟩

set_option maxHeartbeats 2000000 in
theorem multiplied_none {M B : Nat} {W : World} {s : ByteArray} {fs : List Fm} {f : Fm} {g cap : Nat} (h : Rdr M B W s (.slice (some ⟨g, 0, none⟩) (fs.length + 1) cap) (fs ++ [f])) (hl : fs.length ≤ 100000) (n : N) {sn : Value} {an : Option Addr} {nn nc : Nat} (hsn : sn = .slice an nn nc) (hk : f.mul.kind = 0) :
    Calls Tryz.prog 92 #[.pointer (some ⟨M, 0, none⟩), nodeV n sn] W fun e W' => e = .returned (nodeV n sn) ∧ Adds W W' := by
  subst hsn
  obtain ⟨g', cap', hv, hcap, hg, hBg, hgM, gf, t0, ⟨s0, s1, s2, s3⟩, m0, m1, m2, m3⟩ := h.top
  simp only [Value.slice.injEq, Option.some.injEq, Addr.mk.injEq] at hv
  obtain ⟨⟨rfl, _⟩, _, rfl⟩ := hv
  have kT := fun W' (hA : Adds W W') => top_any (h.adds hA) hl
  rw [hk] at m0
  clear h t0 s0 s1 s2 s3 m1 m2 m3 hk gf hcap hBg
  generalize fs.length = L at *
  obtain ⟨nk, nt, nm, na⟩ := n
  simp only [nodeV, N.kind, N.text, N.num]
  go_enter Tryz.func92, Tryz.ntmps92
  go_wp2_with (go_at_call 93; refine (kT _ (by repeat (first | with_reducible exact Adds.refl _ | with_reducible refine Adds.alloc ?_ _ | with_reducible refine Adds.more ?_ _ _ | with_reducible refine Adds.drew ?_ | with_reducible refine Adds.drewN ?_ _))).mono ?_; rintro e w1 ⟨rfl, q, rfl⟩)
  refine bodyPost_ret (v := .agg #[.int .i64 nk, .string nt, .int .i64 nm, .slice an nn nc]) (by simp [results, Tryz.results92, go_sem]) rfl ⟨rfl, ?_⟩
  repeat (first | with_reducible exact Adds.refl _ | with_reducible refine Adds.alloc ?_ _ | with_reducible refine Adds.more ?_ _ _ | with_reducible refine Adds.drew ?_ | with_reducible refine Adds.drewN ?_ _)

set_option maxHeartbeats 2000000 in
theorem multiplied_some {ok : Nat → Prop} {d M B : Nat} {W : World} {s : ByteArray} {fs : List Fm} {f : Fm} {g cap : Nat} (h : Rdr M B W s (.slice (some ⟨g, 0, none⟩) (fs.length + 1) cap) (fs ++ [f])) (hl : fs.length ≤ 100000) (n : N) (sn : Value) (hn : Tn ok d W sn n.args) (hm : Tn ok d W f.mv f.mul.args) (hk : f.mul.kind ≠ 0)
    (hok : ∀ k, W.heap.size ≤ k → ok k) (hog : ¬ ok g) (hx : n.text.size ≤ 9223372036854775807) (hx' : f.mul.text.size ≤ 9223372036854775807) :
    Calls Tryz.prog 92 #[.pointer (some ⟨M, 0, none⟩), nodeV n sn] W fun e W' => ∃ sr, e = .returned (.agg #[.int .i64 4, .string ⟨#[]⟩, .int .i64 0, sr]) ∧ Tn ok (d + 1) W' sr [f.mul, n] ∧
      Rdr M B W' s (.slice (some ⟨g, 0, none⟩) (fs.length + 1) cap) (fs ++ [{ f with mul := N.zero, mv := nilV }]) ∧ Mv (fun b => b = g) W W' := by
  obtain ⟨g', cap', hv, hcap, hg, hBg, hgM, gf, t0, ⟨s0, s1, s2, s3⟩, m0, m1, m2, m3⟩ := h.top
  simp only [Value.slice.injEq, Option.some.injEq, Addr.mk.injEq] at hv
  obtain ⟨⟨rfl, _⟩, _, rfl⟩ := hv
  have kT := fun W' (hA : Adds W W') => top_any (h.adds hA) hl
  obtain ⟨an, nc, hsn⟩ := hn.shape
  obtain ⟨am, mc, hsm⟩ := hm.shape
  have hset : Rdr M B ((((W.setCell ⟨g, fs.length * 9 + 5, none⟩ (.int .i64 0)).setCell ⟨g, fs.length * 9 + 6, none⟩ (.string ⟨#[]⟩)).setCell ⟨g, fs.length * 9 + 7, none⟩ (.int .i64 0)).setCell ⟨g, fs.length * 9 + 8, none⟩ nilV) s (.slice (some ⟨g, 0, none⟩) (fs.length + 1) cap) (fs ++ [{ f with mul := N.zero, mv := nilV }]) := by
    have r1 := h.set (f' := { f with mul := .mk 0 f.mul.text f.mul.num f.mul.args }) 5 (.int .i64 0) rfl
    have r2 := r1.set (f' := { f with mul := .mk 0 ⟨#[]⟩ f.mul.num f.mul.args }) 6 (.string ⟨#[]⟩) rfl
    have r3 := r2.set (f' := { f with mul := .mk 0 ⟨#[]⟩ 0 f.mul.args }) 7 (.int .i64 0) rfl
    exact r3.set (f' := { f with mul := N.zero, mv := nilV }) 8 nilV rfl
  have hmv : Mv (fun b => b = g) W ((((W.setCell ⟨g, fs.length * 9 + 5, none⟩ (.int .i64 0)).setCell ⟨g, fs.length * 9 + 6, none⟩ (.string ⟨#[]⟩)).setCell ⟨g, fs.length * 9 + 7, none⟩ (.int .i64 0)).setCell ⟨g, fs.length * 9 + 8, none⟩ nilV) :=
    (((Mv.set1 _ _ _ _).trans (Mv.set1 _ _ _ _)).trans (Mv.set1 _ _ _ _)).trans (Mv.set1 _ _ _ _)
  have hsz : ((((W.setCell ⟨g, fs.length * 9 + 5, none⟩ (.int .i64 0)).setCell ⟨g, fs.length * 9 + 6, none⟩ (.string ⟨#[]⟩)).setCell ⟨g, fs.length * 9 + 7, none⟩ (.int .i64 0)).setCell ⟨g, fs.length * 9 + 8, none⟩ nilV).heap.size = W.heap.size := by simp
  have hnot : ∀ b, b < W.heap.size → ok b → ¬ b = g := fun b _ hb e => hog (by rw [← e]; exact hb)
  have tn := hn.mv hmv hnot
  have tm := hm.mv hmv hnot
  have hk' : (f.mul.kind == 0) = false := by simpa using hk
  have gf5 := gf (fs.length * 9 + 5)
  have gf6 := gf (fs.length * 9 + 6)
  have gf7 := gf (fs.length * 9 + 7)
  have gf8 := gf (fs.length * 9 + 8)
  rw [hsm] at m3
  have HS : Hid _ := hset
  have HM : Hid _ := hmv
  have HZ : Hid _ := hsz
  have HTN : Hid _ := tn
  have HTM : Hid _ := tm
  rw [hsn] at HTN ⊢
  rw [hsm] at HTM
  clear hset hmv hsz tn tm h t0 s0 s1 s2 s3 gf hcap hBg hn hm hsn hsm hk hnot hog
  obtain ⟨name, fsum, fsv, fm, fmv⟩ := f
  obtain ⟨fk, ft, fn, fa⟩ := fm
  obtain ⟨nk, nt, nm, na⟩ := n
  simp only [nodeV, N.kind, N.text, N.num, N.args] at *
  generalize fs.length = L at *
  go_enter Tryz.func92, Tryz.ntmps92
  go_wp2_with (go_at_call 93; refine (kT _ (by repeat (first | with_reducible exact Adds.refl _ | with_reducible refine Adds.alloc ?_ _ | with_reducible refine Adds.more ?_ _ _ | with_reducible refine Adds.drew ?_ | with_reducible refine Adds.drewN ?_ _))).mono ?_; rintro e w1 ⟨rfl, q, rfl⟩)
  go_region
  all_goals go_wp2
  refine bodyPost_ret (v := .agg #[.int .i64 4, .string ⟨#[]⟩, .int .i64 0, .slice (some ⟨W.heap.size + 2, 0, none⟩) 2 2]) (by simp [results, Tryz.results92, go_sem]) rfl ⟨_, rfl, ?_, ?_, ?_⟩
  · exact two_end (a := .mk fk ft fn fa) (b := .mk nk nt nm na) HTM.out HTN.out (by repeat (first | with_reducible exact Adds.refl _ | with_reducible refine Adds.alloc ?_ _ | with_reducible refine Adds.more ?_ _ _ | with_reducible refine Adds.drew ?_ | with_reducible refine Adds.drewN ?_ _)) (by simp [size_more]) (hok _ (by omega)) hx' hx
  · exact Rdr.adds HS.out (by repeat (first | with_reducible exact Adds.refl _ | with_reducible refine Adds.alloc ?_ _ | with_reducible refine Adds.more ?_ _ _ | with_reducible refine Adds.drew ?_ | with_reducible refine Adds.drewN ?_ _))
  · exact Mv.trans HM.out (Adds.mv (by repeat (first | with_reducible exact Adds.refl _ | with_reducible refine Adds.alloc ?_ _ | with_reducible refine Adds.more ?_ _ _ | with_reducible refine Adds.drew ?_ | with_reducible refine Adds.drewN ?_ _)))

theorem added_none {M B : Nat} {W : World} {s : ByteArray} {fs : List Fm} {f : Fm} {g cap : Nat} (h : Rdr M B W s (.slice (some ⟨g, 0, none⟩) (fs.length + 1) cap) (fs ++ [f])) (hl : fs.length ≤ 100000) (n : N) {sn : Value} {an : Option Addr} {nn nc : Nat} (hsn : sn = .slice an nn nc) {fo : Option Addr} {fl fc : Nat} (hfs : f.sv = .slice fo fl fc) (hk : f.sum.kind = 0) :
    Calls Tryz.prog 94 #[.pointer (some ⟨M, 0, none⟩), nodeV n sn] W fun e W' => e = .returned (nodeV n sn) ∧ Adds W W' := by
  subst hsn
  obtain ⟨g', cap', hv, hcap, hg, hBg, hgM, gf, t0, ⟨s0, s1, s2, s3⟩, m0, m1, m2, m3⟩ := h.top
  simp only [Value.slice.injEq, Option.some.injEq, Addr.mk.injEq] at hv
  obtain ⟨⟨rfl, _⟩, _, rfl⟩ := hv
  have kT := fun W' (hA : Adds W W') => top_any (h.adds hA) hl
  rw [hk] at s0
  rw [hfs] at s3
  clear h t0 m0 m1 m2 m3 hk hfs gf hcap hBg
  generalize fs.length = L at *
  generalize f.sum.text = ft at *
  generalize f.sum.num = fn at *
  obtain ⟨nk, nt, nm, na⟩ := n
  simp only [nodeV, N.kind, N.text, N.num]
  go_enter Tryz.func94, Tryz.ntmps94
  go_wp2_with (go_at_call 93; refine (kT _ (by repeat (first | with_reducible exact Adds.refl _ | with_reducible refine Adds.alloc ?_ _ | with_reducible refine Adds.more ?_ _ _ | with_reducible refine Adds.drew ?_ | with_reducible refine Adds.drewN ?_ _))).mono ?_; rintro e w1 ⟨rfl, q, rfl⟩)
  refine bodyPost_ret (v := .agg #[.int .i64 nk, .string nt, .int .i64 nm, .slice an nn nc]) (by simp [results, Tryz.results94, go_sem]) rfl ⟨rfl, ?_⟩
  repeat (first | with_reducible exact Adds.refl _ | with_reducible refine Adds.alloc ?_ _ | with_reducible refine Adds.more ?_ _ _ | with_reducible refine Adds.drew ?_ | with_reducible refine Adds.drewN ?_ _)

set_option maxHeartbeats 2000000 in
theorem added_some {ok : Nat → Prop} {d M B : Nat} {W : World} {s : ByteArray} {fs : List Fm} {f : Fm} {g cap : Nat} (h : Rdr M B W s (.slice (some ⟨g, 0, none⟩) (fs.length + 1) cap) (fs ++ [f])) (hl : fs.length ≤ 100000) (n : N) (sn : Value) (hn : Tn ok d W sn n.args) (hm : Tn ok d W f.sv f.sum.args) (hk : f.sum.kind ≠ 0)
    (hok : ∀ k, W.heap.size ≤ k → ok k) (hx : n.text.size ≤ 9223372036854775807) (hx' : f.sum.text.size ≤ 9223372036854775807) :
    Calls Tryz.prog 94 #[.pointer (some ⟨M, 0, none⟩), nodeV n sn] W fun e W' => ∃ sr, e = .returned (.agg #[.int .i64 3, .string ⟨#[]⟩, .int .i64 0, sr]) ∧ Tn ok (d + 1) W' sr [f.sum, n] ∧ Adds W W' := by
  obtain ⟨g', cap', hv, hcap, hg, hBg, hgM, gf, t0, ⟨s0, s1, s2, s3⟩, m0, m1, m2, m3⟩ := h.top
  simp only [Value.slice.injEq, Option.some.injEq, Addr.mk.injEq] at hv
  obtain ⟨⟨rfl, _⟩, _, rfl⟩ := hv
  have kT := fun W' (hA : Adds W W') => top_any (h.adds hA) hl
  obtain ⟨an, nc, hsn⟩ := hn.shape
  obtain ⟨am, mc, hsm⟩ := hm.shape
  have hk' : (f.sum.kind == 0) = false := by simpa using hk
  rw [hsm] at s3 hm
  rw [hsn] at hn ⊢
  have HTN : Hid _ := hn
  have HTM : Hid _ := hm
  clear h t0 m0 m1 m2 m3 gf hcap hBg hn hm hsn hsm hk
  obtain ⟨name, fm, fmv, fmul, fmulv⟩ := f
  obtain ⟨fk, ft, fn, fa⟩ := fm
  obtain ⟨nk, nt, nm, na⟩ := n
  simp only [nodeV, N.kind, N.text, N.num, N.args] at *
  generalize fs.length = L at *
  go_enter Tryz.func94, Tryz.ntmps94
  go_wp2_with (go_at_call 93; refine (kT _ (by repeat (first | with_reducible exact Adds.refl _ | with_reducible refine Adds.alloc ?_ _ | with_reducible refine Adds.more ?_ _ _ | with_reducible refine Adds.drew ?_ | with_reducible refine Adds.drewN ?_ _))).mono ?_; rintro e w1 ⟨rfl, q, rfl⟩)
  refine bodyPost_ret (v := .agg #[.int .i64 3, .string ⟨#[]⟩, .int .i64 0, .slice (some ⟨W.heap.size + 3, 0, none⟩) 2 2]) (by simp [results, Tryz.results94, go_sem]) rfl ⟨_, rfl, ?_, ?_⟩
  · exact two_end (a := .mk fk ft fn fa) (b := .mk nk nt nm na) HTM.out HTN.out (by repeat (first | with_reducible exact Adds.refl _ | with_reducible refine Adds.alloc ?_ _ | with_reducible refine Adds.more ?_ _ _ | with_reducible refine Adds.drew ?_ | with_reducible refine Adds.drewN ?_ _)) (by simp [size_more]) (hok _ (by omega)) hx' hx
  · repeat (first | with_reducible exact Adds.refl _ | with_reducible refine Adds.alloc ?_ _ | with_reducible refine Adds.more ?_ _ _ | with_reducible refine Adds.drew ?_ | with_reducible refine Adds.drewN ?_ _)

set_option maxHeartbeats 2000000 in
theorem closed_none {M B : Nat} {W : World} {s : ByteArray} {fs : List Fm} {f : Fm} {g cap : Nat} (h : Rdr M B W s (.slice (some ⟨g, 0, none⟩) (fs.length + 1) cap) (fs ++ [f])) (hl : fs.length ≤ 100000) (n : N) {sn : Value} {an : Option Addr} {nn nc : Nat} (hsn : sn = .slice an nn nc) (hf : f.name.toList = []) :
    Calls Tryz.prog 95 #[.pointer (some ⟨M, 0, none⟩), nodeV n sn] W fun e W' => e = .returned (nodeV n sn) ∧ Rdr M B W' s (.slice (some ⟨g, 0, none⟩) fs.length cap) fs ∧ Mv (fun b => b = M) W W' := by
  subst hsn
  have HP : Hid (Rdr M B (W.setCell ⟨M, 1, none⟩ (.slice (some ⟨g, 0, none⟩) fs.length cap)) s (.slice (some ⟨g, 0, none⟩) fs.length cap) fs) := h.pop
  have HM : Hid _ := Mv.set1 W M 1 (.slice (some ⟨g, 0, none⟩) fs.length cap)
  obtain ⟨c0, c1, cf, hM⟩ := h.cells
  have cf1 := cf 1
  obtain ⟨g', cap', hv, hcap, hg, hBg, hgM, gf, t0, _, _⟩ := h.top
  simp only [Value.slice.injEq, Option.some.injEq, Addr.mk.injEq] at hv
  obtain ⟨⟨rfl, _⟩, _, rfl⟩ := hv
  have kT := fun W' (hA : Adds W W') => top_any (h.adds hA) hl
  have hw : IntKind.i64.wrap (fs.length : Int) = (fs.length : Int) := by rw [IntKind.wrap_i64]; omega
  have hnn : ((fs.length + 1 : Nat) : Int) = (fs.length : Int) + 1 := by omega
  have hf' : (f.name.toList == []) = true := by simp [hf]
  clear h gf cf hBg hf
  generalize f.name = name at *
  obtain ⟨nk, nt, nm, na⟩ := n
  have hcap' : fs.length ≤ cap := by omega
  simp only [nodeV, N.kind, N.text, N.num]
  generalize hL : fs.length = L at *
  clear hL
  go_enter Tryz.func95, Tryz.ntmps95
  go_wp2_with (go_at_call 93; refine (kT _ (by repeat (first | with_reducible exact Adds.refl _ | with_reducible refine Adds.alloc ?_ _ | with_reducible refine Adds.more ?_ _ _ | with_reducible refine Adds.drew ?_ | with_reducible refine Adds.drewN ?_ _))).mono ?_; rintro e w1 ⟨rfl, q, rfl⟩)
  go_region
  all_goals go_wp2
  refine bodyPost_ret (v := .agg #[.int .i64 nk, .string nt, .int .i64 nm, .slice an nn nc]) (by simp [results, Tryz.results95, go_sem]) rfl ⟨rfl, ?_, ?_⟩
  · exact Rdr.adds HP.out (by repeat (first | with_reducible exact Adds.refl _ | with_reducible refine Adds.alloc ?_ _ | with_reducible refine Adds.more ?_ _ _ | with_reducible refine Adds.drew ?_ | with_reducible refine Adds.drewN ?_ _))
  · exact Mv.trans HM.out (Adds.mv (by repeat (first | with_reducible exact Adds.refl _ | with_reducible refine Adds.alloc ?_ _ | with_reducible refine Adds.more ?_ _ _ | with_reducible refine Adds.drew ?_ | with_reducible refine Adds.drewN ?_ _)))

set_option maxHeartbeats 2000000 in
theorem closed_some {ok : Nat → Prop} {d M B : Nat} {W : World} {s : ByteArray} {fs : List Fm} {f : Fm} {g cap : Nat} (h : Rdr M B W s (.slice (some ⟨g, 0, none⟩) (fs.length + 1) cap) (fs ++ [f])) (hl : fs.length ≤ 100000) (n : N) (sn : Value) (hn : Tn ok d W sn n.args) (hf : f.name.toList ≠ [])
    (hok : ∀ k, W.heap.size ≤ k → ok k) (hoM : ¬ ok M) (hx : n.text.size ≤ 9223372036854775807) :
    Calls Tryz.prog 95 #[.pointer (some ⟨M, 0, none⟩), nodeV n sn] W fun e W' => ∃ sr, e = .returned (.agg #[.int .i64 5, .string f.name, .int .i64 0, sr]) ∧ Tn ok (d + 1) W' sr [n] ∧ Rdr M B W' s (.slice (some ⟨g, 0, none⟩) fs.length cap) fs ∧ Mv (fun b => b = M) W W' := by
  have HP : Hid (Rdr M B (W.setCell ⟨M, 1, none⟩ (.slice (some ⟨g, 0, none⟩) fs.length cap)) s (.slice (some ⟨g, 0, none⟩) fs.length cap) fs) := h.pop
  have hmv := Mv.set1 W M 1 (.slice (some ⟨g, 0, none⟩) fs.length cap)
  have tn := hn.mv hmv (fun b _ hb e => hoM (by rw [← e]; exact hb))
  have HM : Hid _ := hmv
  obtain ⟨an, nc, hsn⟩ := hn.shape
  rw [hsn] at tn ⊢
  have HTN : Hid _ := tn
  obtain ⟨c0, c1, cf, hM⟩ := h.cells
  have cf1 := cf 1
  obtain ⟨g', cap', hv, hcap, hg, hBg, hgM, gf, t0, _, _⟩ := h.top
  simp only [Value.slice.injEq, Option.some.injEq, Addr.mk.injEq] at hv
  obtain ⟨⟨rfl, _⟩, _, rfl⟩ := hv
  have kT := fun W' (hA : Adds W W') => top_any (h.adds hA) hl
  have hw : IntKind.i64.wrap (fs.length : Int) = (fs.length : Int) := by rw [IntKind.wrap_i64]; omega
  have hnn : ((fs.length + 1 : Nat) : Int) = (fs.length : Int) + 1 := by omega
  have hf' : (f.name.toList == []) = false := by simpa using hf
  have hcap' : fs.length ≤ cap := by omega
  clear h gf cf hBg hf hmv tn hn hsn hoM
  generalize f.name = name at *
  obtain ⟨nk, nt, nm, na⟩ := n
  simp only [nodeV, N.kind, N.text, N.num, N.args] at *
  generalize hL : fs.length = L at *
  clear hL
  go_enter Tryz.func95, Tryz.ntmps95
  go_wp2_with (go_at_call 93; refine (kT _ (by repeat (first | with_reducible exact Adds.refl _ | with_reducible refine Adds.alloc ?_ _ | with_reducible refine Adds.more ?_ _ _ | with_reducible refine Adds.drew ?_ | with_reducible refine Adds.drewN ?_ _))).mono ?_; rintro e w1 ⟨rfl, q, rfl⟩)
  go_region
  all_goals go_wp2
  refine bodyPost_ret (v := .agg #[.int .i64 5, .string name, .int .i64 0, .slice (some ⟨W.heap.size + 2, 0, none⟩) 1 1]) (by simp [results, Tryz.results95, go_sem]) rfl ⟨_, rfl, ?_, ?_, ?_⟩
  · exact one_end (a := .mk nk nt nm na) HTN.out (by repeat (first | with_reducible exact Adds.refl _ | with_reducible refine Adds.alloc ?_ _ | with_reducible refine Adds.more ?_ _ _ | with_reducible refine Adds.drew ?_ | with_reducible refine Adds.drewN ?_ _)) (by simp [size_more]) (hok _ (by omega)) hx
  · exact Rdr.adds HP.out (by repeat (first | with_reducible exact Adds.refl _ | with_reducible refine Adds.alloc ?_ _ | with_reducible refine Adds.more ?_ _ _ | with_reducible refine Adds.drew ?_ | with_reducible refine Adds.drewN ?_ _))
  · exact Mv.trans HM.out (Adds.mv (by repeat (first | with_reducible exact Adds.refl _ | with_reducible refine Adds.alloc ?_ _ | with_reducible refine Adds.more ?_ _ _ | with_reducible refine Adds.drew ?_ | with_reducible refine Adds.drewN ?_ _)))

end Go.Proofs.YtiacnmcdfpmcfaaGreatDoor
