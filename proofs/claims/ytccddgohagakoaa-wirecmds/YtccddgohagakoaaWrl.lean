/-
  What of package wire reads a command: cmd, by contract.
-/
import Derived.Test.YtccddgohagakoaaWrk
import Derived.Test.YtccddgohagakoaaWrc
namespace Go.Proofs.Ytccddgohagakoaa
open Go.RowKit
attribute [local go_sem] cell?_more frozen?_more setCell_more size_more tape_more drew_more drewN_more more_drew more_drewN one_out plus_out plus_end lt_one le_p2 le_p3 le_p4 le_p5 le_p6 le_p7 le_p8 le_p9 le_p10 le_p11 le_p12 le_p13 le_p14 le_p15 le_p16 le_p17 le_p18 le_p19 le_p20 le_p21 le_p22 le_p23 le_p24 le_q0 le_q1 lt_q1 le_q2 lt_q2 le_q3 lt_q3 le_q4 lt_q4 le_q5 lt_q5 le_q6 lt_q6 le_q7 lt_q7 le_q8 lt_q8 le_q9 lt_q9 le_q10 lt_q10 le_q11 lt_q11 le_q12 lt_q12 le_q13 lt_q13 le_q14 lt_q14 le_q15 lt_q15 le_q16 lt_q16 le_q17 lt_q17 le_q18 lt_q18 le_q19 lt_q19 le_q20 lt_q20 le_q21 lt_q21 le_q22 lt_q22 le_q23 lt_q23 le_q24 lt_q24

theorem at_two {X : World} {o1 : Obj} {xs : Array Value} {t : TypeId} {os : Array Obj} {n g : Nat} (h : X.heap.size = g) : (more ((X.alloc o1).alloc (.cells xs t)) os n).heap[g + 1]? = some (.cells xs t (0, 0)) := by
  subst h
  have hA : Adds ((X.alloc o1).alloc (.cells xs t)) (more ((X.alloc o1).alloc (.cells xs t)) os n) := ⟨os, n, rfl⟩
  rw [hA.below.block _ (by simp)]
  have := new_block (X.alloc o1) (.cells xs t)
  simpa using this

theorem lst_oth {w w' W0 : World} {v : Value} {xs : List Value} {g B : Nat} {e : TypeId} (h : OwnV B e v xs W0 w) (hg : g < B) (ho : Oth g w w') : LstV w' v xs := by
  have hc := fun g => h.1.cells (g := g)
  have hlt := h.1.lt
  rcases h.1.2 with ⟨rfl, hn⟩ | ⟨b, cap, cur, rfl, hb, hg2, hnc, hcm, hcs, htk⟩
  · have : xs = [] := List.eq_nil_of_length_eq_zero hn
    subst this
    exact ⟨none, 0, rfl, Nat.le_refl _, .inl rfl⟩
  · refine ⟨_, cap, rfl, hnc, .inr ⟨b, 0, rfl, by rw [ho.1]; exact (hlt b rfl).2, fun j hj => ?_⟩⟩
    have := liesV_of (hc b rfl) j hj
    rw [← this]
    exact World.cell?_of_block (w := w) (a := ⟨b, 0 + j, none⟩) (ho.2 b (by omega))

theorem own_from {w W0 : World} {a : Option Addr} {n k : Nat} {xs : List Value} {B : Nat} {e : TypeId} (h : OwnV B e (.slice a n k) xs W0 w) : ∀ b off, a = some ⟨b, off, none⟩ → B ≤ b := by
  intro b off he
  subst he
  have hlt := h.1.lt
  exact (hlt b rfl).1

theorem cmdP_end {w W5 Y F : World} {r B : Nat} {v v0 v1 v2 v3 v4 v5 : Value} {ns : List Int} (h : OwnV B 3 v (intsV ns) W5 Y) (hB : r < B) (hr : w.heap.size ≤ r) (hA : Adds w Y)
    (hF : F = (((((Y.setCell ⟨r, 0, none⟩ v0).setCell ⟨r, 1, none⟩ v1).setCell ⟨r, 2, none⟩ v2).setCell ⟨r, 3, none⟩ v3).setCell ⟨r, 4, none⟩ v4).setCell ⟨r, 5, none⟩ v5) : LstI F v ns ∧ Adds w F := by
  subst hF
  exact ⟨lst_oth h hB ((((((Oth.set _ _ _ _).trans (Oth.set _ _ _ _)).trans (Oth.set _ _ _ _)).trans (Oth.set _ _ _ _)).trans (Oth.set _ _ _ _)).trans (Oth.set _ _ _ _)),
    adds_out (r := none) (grown_set (grown_set (grown_set (grown_set (grown_set (grown_set (grown_by hA _) hr) hr) hr) hr) hr) hr) (fun k h => by cases h)⟩

theorem tr_flat {ok : Nat → Prop} {d : Nat} {w : World} {s : Value} {ts : List T} (h : Tr ok (d + 1) w s ts) (hf : ∀ t ∈ ts, t.list = []) : Tr ok 1 w s ts := by
  obtain ⟨ao, cap, rfl, hc, h | ⟨b, off, rfl, hlt, hb, hx⟩⟩ := h
  · exact ⟨ao, cap, rfl, hc, .inl h⟩
  · refine ⟨_, cap, rfl, hc, .inr ⟨b, off, rfl, hlt, hb, fun j hj => ?_⟩⟩
    obtain ⟨x, h0, h4, h5⟩ := hx j hj
    have e := hf ts[j] (List.getElem_mem hj)
    rw [e] at h5
    obtain ⟨y, z, rfl⟩ := h5.shape
    exact ⟨_, h0, h4, e, y, z, rfl⟩

theorem cmd_cells {d : Nat} {ok : Nat → Prop} {w : World} {s : Value} {c : Cm} (h : Tr ok (d + 2) w s (cmdT c).list) : ∃ b off cap, s = .slice (some ⟨b, off, none⟩) 6 cap ∧ 6 ≤ cap ∧ b < w.heap.size ∧
    (w.cell? ⟨b, off, none⟩ = some (.int .i64 1) ∧ w.cell? ⟨b, off + 1, none⟩ = some (.int .i64 c.kind) ∧ w.cell? ⟨b, off + 2, none⟩ = some (.string ⟨#[]⟩) ∧ ∃ y z, w.cell? ⟨b, off + 3, none⟩ = some (.slice y 0 z)) ∧
    (w.cell? ⟨b, off + 4, none⟩ = some (.int .i64 1) ∧ w.cell? ⟨b, off + 5, none⟩ = some (.int .i64 c.chain) ∧ w.cell? ⟨b, off + 6, none⟩ = some (.string ⟨#[]⟩) ∧ ∃ y z, w.cell? ⟨b, off + 7, none⟩ = some (.slice y 0 z)) ∧
    (w.cell? ⟨b, off + 8, none⟩ = some (.int .i64 1) ∧ w.cell? ⟨b, off + 9, none⟩ = some (.int .i64 c.epoch) ∧ w.cell? ⟨b, off + 10, none⟩ = some (.string ⟨#[]⟩) ∧ ∃ y z, w.cell? ⟨b, off + 11, none⟩ = some (.slice y 0 z)) ∧
    (w.cell? ⟨b, off + 12, none⟩ = some (.int .i64 1) ∧ w.cell? ⟨b, off + 13, none⟩ = some (.int .i64 c.node) ∧ w.cell? ⟨b, off + 14, none⟩ = some (.string ⟨#[]⟩) ∧ ∃ y z, w.cell? ⟨b, off + 15, none⟩ = some (.slice y 0 z)) ∧
    (w.cell? ⟨b, off + 16, none⟩ = some (.int .i64 2) ∧ w.cell? ⟨b, off + 17, none⟩ = some (.int .i64 0) ∧ w.cell? ⟨b, off + 18, none⟩ = some (.string c.df) ∧ ∃ y z, w.cell? ⟨b, off + 19, none⟩ = some (.slice y 0 z)) ∧
    (w.cell? ⟨b, off + 20, none⟩ = some (.int .i64 3) ∧ w.cell? ⟨b, off + 21, none⟩ = some (.int .i64 0) ∧ w.cell? ⟨b, off + 22, none⟩ = some (.string ⟨#[]⟩) ∧ ∃ y z, w.cell? ⟨b, off + 23, none⟩ = some (.slice y c.ns.length z) ∧ Tr ok 1 w (.slice y c.ns.length z) (c.ns.map tNum)) := by
  obtain ⟨ao, cap, rfl, hc, h | ⟨b, off, rfl, hb, _, hx⟩⟩ := h
  · simp [cmdT, tList, T.list] at h
  refine ⟨b, off, cap, rfl, hc, hb, ?_⟩
  obtain ⟨x0, ⟨a0, a1, a2, a3⟩, _, y0, z0, rfl, _, _⟩ := hx 0 (by simp [cmdT, tList, T.list])
  obtain ⟨x1, ⟨b0, b1, b2, b3⟩, _, y1, z1, rfl, _, _⟩ := hx 1 (by simp [cmdT, tList, T.list])
  obtain ⟨x2, ⟨c0, c1, c2, c3⟩, _, y2, z2, rfl, _, _⟩ := hx 2 (by simp [cmdT, tList, T.list])
  obtain ⟨x3, ⟨d0, d1, d2, d3⟩, _, y3, z3, rfl, _, _⟩ := hx 3 (by simp [cmdT, tList, T.list])
  obtain ⟨x4, ⟨e0, e1, e2, e3⟩, _, y4, z4, rfl, _, _⟩ := hx 4 (by simp [cmdT, tList, T.list])
  obtain ⟨x5, ⟨f0, f1, f2, f3⟩, _, hT⟩ := hx 5 (by simp [cmdT, tList, T.list])
  obtain ⟨y5, z5, rfl⟩ := hT.shape
  have e5 : ((cmdT c).list[5]'(by simp [cmdT, tList, T.list])).list = c.ns.map tNum := rfl
  rw [e5] at f3 hT
  replace hT := tr_flat hT (fun t ht => by obtain ⟨n, _, rfl⟩ := List.mem_map.1 ht; rfl)
  rw [List.length_map] at f3 hT
  exact ⟨⟨a0, a1, a2, y0, z0, a3⟩, ⟨b0, b1, b2, y1, z1, b3⟩, ⟨c0, c1, c2, y2, z2, c3⟩, ⟨d0, d1, d2, y3, z3, d3⟩, ⟨e0, e1, e2, y4, z4, e3⟩, ⟨f0, f1, f2, y5, z5, f3, hT⟩⟩

set_option maxRecDepth 20000 in
set_option maxHeartbeats 4000000 in
theorem cmdP_any (d P : Nat) (fv : Value) (c : Cm) (s : Value) (ok : Nat → Prop) (w : World) (h : Rb P w fv) (hT : Tr ok (d + 2) w s (cmdT c).list) (h100 : c.ns.length ≤ 100) :
    Calls Try.prog 14 #[.pointer (some ⟨P, 0, none⟩), .agg #[.int .i64 3, .int .i64 0, .string ⟨#[]⟩, s]] w fun e w' => (∃ a cp, e = .returned (c.val (.slice a c.ns.length cp)) ∧ Hid (LstI w' (.slice a c.ns.length cp) c.ns ∧ ∀ b off, a = some ⟨b, off, none⟩ → w.heap.size ≤ b)) ∧ Adds w w' := by
  have kP := fun m x a n k W => partsP_any P x m a n k W
  have kN := fun (n : Int) (x : ByteArray) (a : Option Addr) (sn sc : Nat) W (hA : Adds w W) => rnumP_any P fv n x a sn sc W (h.adds hA)
  have kX := fun (n : Int) (x : ByteArray) (a : Option Addr) (sn sc : Nat) W (hA : Adds w W) => rtextP_any P fv n x a sn sc W (h.adds hA)
  obtain ⟨b, off, cap, rfl, hcap, hb, ⟨a0, a1, a2, y0, z0, a3⟩, ⟨b0, b1, b2, y1, z1, b3⟩, ⟨c0, c1, c2, y2, z2, c3⟩, ⟨d0, d1, d2, y3, z3, d3⟩, ⟨e0, e1, e2, y4, z4, e3⟩, ⟨f0, f1, f2, y5, z5, f3, hT5⟩⟩ := cmd_cells hT
  have kL := fun W (hA : Adds w W) => listP_any P fv c.ns (.slice y5 c.ns.length z5) ok W (h.adds hA) (hT5.adds hA) h100
  obtain ⟨kind, chain, epoch, node, df, ns⟩ := c
  simp only [Cm.val] at *
  clear h hT hT5
  go_enter Try.func14, Try.ntmps14
  go_wp2_with (go_at_call 30; refine (kP _ _ _ _ _ _).mono ?_; rintro e w2 ⟨rfl, os2, n2, rfl⟩)
  refine wp_named2 ?_
  intro X HX
  have hX := HX.out
  clear HX
  have hXA : Adds w X := by rw [hX]; repeat (first | with_reducible exact Adds.refl _ | with_reducible refine Adds.alloc ?_ _ | with_reducible refine Adds.more ?_ _ _ | with_reducible refine Adds.drew ?_ | with_reducible refine Adds.drewN ?_ _)
  have hq : ∀ i, X.cell? ⟨b, i, none⟩ = w.cell? ⟨b, i, none⟩ := fun i => hXA.below.cell (p := ⟨b, i, none⟩) hb
  have hbX : b < X.heap.size := Nat.lt_of_lt_of_le hb hXA.below.size
  replace a0 := (hq _).trans a0
  replace a1 := (hq _).trans a1
  replace a2 := (hq _).trans a2
  replace a3 := (hq _).trans a3
  replace b0 := (hq _).trans b0
  replace b1 := (hq _).trans b1
  replace b2 := (hq _).trans b2
  replace b3 := (hq _).trans b3
  replace c0 := (hq _).trans c0
  replace c1 := (hq _).trans c1
  replace c2 := (hq _).trans c2
  replace c3 := (hq _).trans c3
  replace d0 := (hq _).trans d0
  replace d1 := (hq _).trans d1
  replace d2 := (hq _).trans d2
  replace d3 := (hq _).trans d3
  replace e0 := (hq _).trans e0
  replace e1 := (hq _).trans e1
  replace e2 := (hq _).trans e2
  replace e3 := (hq _).trans e3
  replace f0 := (hq _).trans f0
  replace f1 := (hq _).trans f1
  replace f2 := (hq _).trans f2
  replace f3 := (hq _).trans f3
  have hrb : X.heap[w.heap.size + 1]? = some (.cells #[.int .i64 0, .int .i64 0, .int .i64 0, .int .i64 0, .string ⟨#[]⟩, .slice none 0 0] 24 (0, 0)) := by rw [hX]; exact at_two rfl
  obtain ⟨r, hr⟩ : ∃ r, r = w.heap.size + 1 := ⟨_, rfl⟩
  rw [← hr] at hrb ⊢
  have hrs : r < X.heap.size := (Array.getElem?_eq_some_iff.1 hrb).1
  have hrc : X.cell? ⟨r, 0, none⟩ = some (.int .i64 0) ∧ X.cell? ⟨r, 1, none⟩ = some (.int .i64 0) ∧ X.cell? ⟨r, 2, none⟩ = some (.int .i64 0) ∧ X.cell? ⟨r, 3, none⟩ = some (.int .i64 0) ∧ X.cell? ⟨r, 4, none⟩ = some (.string ⟨#[]⟩) ∧ X.cell? ⟨r, 5, none⟩ = some (.slice none 0 0) := by simp [World.cell?, hrb]
  have hrf : X.frozen? ⟨r, 0, none⟩ = false ∧ X.frozen? ⟨r, 1, none⟩ = false ∧ X.frozen? ⟨r, 2, none⟩ = false ∧ X.frozen? ⟨r, 3, none⟩ = false ∧ X.frozen? ⟨r, 4, none⟩ = false ∧ X.frozen? ⟨r, 5, none⟩ = false := by simp [World.frozen?, hrb]
  obtain ⟨x0, x1, x2, x3, x4, x5⟩ := hrc
  obtain ⟨u0, u1, u2, u3, u4, u5⟩ := hrf
  have HRW : Hid (w.heap.size ≤ r) := by show _ ≤ _; omega
  have hbr : ¬ b = r := by omega
  have hrb2 : ¬ r = b := by omega
  have HSX : Hid (w.heap.size ≤ X.heap.size) := hXA.below.size
  clear hr hrb
  have HXA : Hid (Adds w X) := hXA
  clear hX hXA hq
  go_region_held3 (fun w' => w'.cell? ⟨b, off, none⟩ = some (.int .i64 1) ∧ w'.cell? ⟨b, off + 1, none⟩ = some (.int .i64 kind) ∧ w'.cell? ⟨b, off + 2, none⟩ = some (.string ⟨#[]⟩) ∧ w'.cell? ⟨b, off + 3, none⟩ = some (.slice y0 0 z0) ∧ w'.cell? ⟨b, off + 4, none⟩ = some (.int .i64 1) ∧ w'.cell? ⟨b, off + 5, none⟩ = some (.int .i64 chain) ∧ w'.cell? ⟨b, off + 6, none⟩ = some (.string ⟨#[]⟩) ∧ w'.cell? ⟨b, off + 7, none⟩ = some (.slice y1 0 z1) ∧ w'.cell? ⟨b, off + 8, none⟩ = some (.int .i64 1) ∧ w'.cell? ⟨b, off + 9, none⟩ = some (.int .i64 epoch) ∧ w'.cell? ⟨b, off + 10, none⟩ = some (.string ⟨#[]⟩) ∧ w'.cell? ⟨b, off + 11, none⟩ = some (.slice y2 0 z2) ∧ w'.cell? ⟨b, off + 12, none⟩ = some (.int .i64 1) ∧ w'.cell? ⟨b, off + 13, none⟩ = some (.int .i64 node) ∧ w'.cell? ⟨b, off + 14, none⟩ = some (.string ⟨#[]⟩) ∧ w'.cell? ⟨b, off + 15, none⟩ = some (.slice y3 0 z3) ∧ w'.cell? ⟨b, off + 16, none⟩ = some (.int .i64 2) ∧ w'.cell? ⟨b, off + 17, none⟩ = some (.int .i64 0) ∧ w'.cell? ⟨b, off + 18, none⟩ = some (.string df) ∧ w'.cell? ⟨b, off + 19, none⟩ = some (.slice y4 0 z4) ∧ w'.cell? ⟨b, off + 20, none⟩ = some (.int .i64 3) ∧ w'.cell? ⟨b, off + 21, none⟩ = some (.int .i64 0) ∧ w'.cell? ⟨b, off + 22, none⟩ = some (.string ⟨#[]⟩) ∧ w'.cell? ⟨b, off + 23, none⟩ = some (.slice y5 ns.length z5)) (simp [go_sem, *]) (first
    | (go_at_call 31; refine (kN _ _ _ _ _ _ (HXA.out.trans (by repeat (first | with_reducible exact Adds.refl _ | with_reducible refine Adds.alloc ?_ _ | with_reducible refine Adds.more ?_ _ _ | with_reducible refine Adds.drew ?_ | with_reducible refine Adds.drewN ?_ _)))).mono ?_; rintro e w3 ⟨rfl, os3, n3, rfl⟩)
    | (go_at_call 32; refine (kX _ _ _ _ _ _ (HXA.out.trans (by repeat (first | with_reducible exact Adds.refl _ | with_reducible refine Adds.alloc ?_ _ | with_reducible refine Adds.more ?_ _ _ | with_reducible refine Adds.drew ?_ | with_reducible refine Adds.drewN ?_ _)))).mono ?_; rintro e w4 ⟨rfl, os4, n4, rfl⟩)
    | (go_at_call 33; refine (kL _ (HXA.out.trans (by repeat (first | with_reducible exact Adds.refl _ | with_reducible refine Adds.alloc ?_ _ | with_reducible refine Adds.more ?_ _ _ | with_reducible refine Adds.drew ?_ | with_reducible refine Adds.drewN ?_ _)))).mono ?_; rintro e w5 ⟨⟨a5, k5, rfl, hO⟩, hA5⟩; have HO : Hid _ := hO; obtain ⟨os5, n5, rfl⟩ := hA5; clear hO))
  go_wp2
  refine bodyPost_ret (v := .agg #[.int .i64 kind, .int .i64 chain, .int .i64 epoch, .int .i64 node, .string df, .slice a5 ns.length k5]) (by simp [results, Try.results14, go_sem, *]) rfl ?_
  have hE := fun F => cmdP_end (F := F) (v0 := .int .i64 kind) (v1 := .int .i64 chain) (v2 := .int .i64 epoch) (v3 := .int .i64 node) (v4 := .string df) (v5 := .slice a5 ns.length k5) HO.out (Nat.lt_of_lt_of_le hrs (size_of (by repeat (first | with_reducible exact Adds.refl _ | with_reducible refine Adds.alloc ?_ _ | with_reducible refine Adds.more ?_ _ _ | with_reducible refine Adds.drew ?_ | with_reducible refine Adds.drewN ?_ _)))) HRW.out (HXA.out.trans (by repeat (first | with_reducible exact Adds.refl _ | with_reducible refine Adds.alloc ?_ _ | with_reducible refine Adds.more ?_ _ _ | with_reducible refine Adds.drew ?_ | with_reducible refine Adds.drewN ?_ _)))
  refine ⟨⟨_, _, rfl, (hE _ ?_).1, fun b off h => Nat.le_trans (size_of (HXA.out.trans (by repeat (first | with_reducible exact Adds.refl _ | with_reducible refine Adds.alloc ?_ _ | with_reducible refine Adds.more ?_ _ _ | with_reducible refine Adds.drew ?_ | with_reducible refine Adds.drewN ?_ _)))) (own_from HO.out b off h)⟩, (hE _ ?_).2⟩
  all_goals simp [go_sem, hrs]

end Go.Proofs.Ytccddgohagakoaa
