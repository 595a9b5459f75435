/-
  A shelf in a box that is asked: entries, to be ready, what is nothing, by contracts.
  The copy of entries, by contract.
-/
import Derived.Test.YtiacnmcdfpmcfaaGreatDoorQ29
import Derived.Deep.RegionWith
import Derived.Test.YtiacnmcdfpmcfaaGreatDoorQ08
namespace Go.Proofs.YtiacnmcdfpmcfaaGreatDoor
open Go.RowKit
attribute [local go_sem] cell?_more frozen?_more setCell_more size_more tape_more drew_more drewN_more more_drew more_drewN one_out plus_out plus_end lt_one le_p2 le_p3 le_p4 le_p5 le_p6 le_p7 le_p8 le_p9 le_p10 le_p11 le_p12 le_p13 le_p14 le_p15 le_p16 le_p17 le_p18 le_p19 le_p20 le_p21 le_p22 le_p23 le_p24 le_q0 le_q1 lt_q1 le_q2 lt_q2 le_q3 lt_q3 le_q4 lt_q4 le_q5 lt_q5 le_q6 lt_q6 le_q7 lt_q7 le_q8 lt_q8 le_q9 lt_q9 le_q10 lt_q10 le_q11 lt_q11 le_q12 lt_q12 le_q13 lt_q13 le_q14 lt_q14 le_q15 lt_q15 le_q16 lt_q16 le_q17 lt_q17 le_q18 lt_q18 le_q19 lt_q19 le_q20 lt_q20 le_q21 lt_q21 le_q22 lt_q22 le_q23 lt_q23 le_q24 lt_q24

def ShlBox (w : World) (g : Nat) (s : Shl) (v : Value) : Prop := w.heap[g]? = some (.cells #[.string s.df, .bool s.rdy, .int .i64 s.mark, v] 24 (0, 0))

theorem ShlBox.cells {w : World} {g : Nat} {s : Shl} {v : Value} (h : ShlBox w g s v) : g < w.heap.size ∧ w.cell? ⟨g, 0, none⟩ = some (.string s.df) ∧ w.cell? ⟨g, 1, none⟩ = some (.bool s.rdy) ∧ w.cell? ⟨g, 2, none⟩ = some (.int .i64 s.mark) ∧ w.cell? ⟨g, 3, none⟩ = some v ∧ (∀ j, j < 4 → w.frozen? ⟨g, j, none⟩ = false) := by
  unfold ShlBox at h
  refine ⟨(Array.getElem?_eq_some_iff.1 h).1, by simp [World.cell?, h], by simp [World.cell?, h], by simp [World.cell?, h], by simp [World.cell?, h], fun j hj => by simp [World.frozen?, h]⟩

theorem ShlBox.adds {w w' : World} {g : Nat} {s : Shl} {v : Value} (h : ShlBox w g s v) (hA : Adds w w') : ShlBox w' g s v := by
  unfold ShlBox at h ⊢
  rw [hA.below.block g (Array.getElem?_eq_some_iff.1 h).1]
  exact h

theorem Oth.drew {g : Nat} {w w' : World} (h : Oth g w w') : Oth g w.drew w'.drew := h

theorem FindT.shape {W : World} {s : Shl} {o : Ov} {e : Ending} {w : World} (h : FindT W s o e w) : ∃ c m ko kn kc, e = .returned (ansV c m (.slice ko kn kc)) ∧ FindT W s o (.returned (ansV c m (.slice ko kn kc))) w := by
  rcases id h with ⟨_, rfl⟩ | ⟨_, _, rfl⟩ | ⟨_, _, kv, rfl, hk⟩
  · exact ⟨_, _, _, _, _, rfl, h⟩
  · exact ⟨_, _, _, _, _, rfl, h⟩
  · obtain ⟨ko, kc, rfl, _, _⟩ := hk.lst
    exact ⟨_, _, _, _, _, rfl, h⟩

theorem FindT.oth {W W0 : World} {s : Shl} {o : Ov} {e : Ending} {w w' : World} {g : Nat} (h : FindT W s o e w) (ho : Oth g w w') (hg : g < W.heap.size) (hs : W0.heap.size ≤ W.heap.size) : FindT W0 s o e w' := by
  rcases h with h | h | ⟨h1, h2, kv, h3, h4⟩
  · exact .inl h
  · exact .inr (.inl h)
  · exact .inr (.inr ⟨h1, h2, kv, h3, fresh_oth h4 ho hg hs⟩)

set_option maxRecDepth 20000 in
set_option maxHeartbeats 4000000 in
theorem ask_other (g : Nat) (o : Ov) (w : World) (ho : o.Sl) (h1 : o.kind ≠ 101) (h2 : o.kind ≠ 102) (h3 : o.kind ≠ 103) (h4 : o.kind ≠ 104) :
    Calls Tryz.prog 27 #[ptrS g, o.val] w fun e w' => e = .returned (ansV 1 0 (.slice none 0 0)) ∧ Adds w w' := by
  obtain ⟨kind, key, to, dv, wv, has, n, most, lv, sv, nv⟩ := o
  simp only [Ov.val, Ov.Sl, Slc] at *
  obtain ⟨⟨_, _, _, rfl⟩, ⟨_, _, _, rfl⟩, ⟨_, _, _, rfl⟩, ⟨_, _, _, rfl⟩, ⟨_, _, _, rfl⟩⟩ := ho
  have b1 : (kind == 101) = false := by simpa using h1
  have b2 : (kind == 102) = false := by simpa using h2
  have b3 : (kind == 103) = false := by simpa using h3
  have b4 : (kind == 104) = false := by simpa using h4
  clear h1 h2 h3 h4
  go_enter Tryz.func27, Tryz.ntmps27
  go_wp2
  refine bodyPost_ret (v := ansV 1 0 (.slice none 0 0)) (by simp [results, Tryz.results27, go_sem, ansV]) rfl ⟨rfl, (by repeat (first | with_reducible exact Adds.refl _ | with_reducible refine Adds.alloc ?_ _ | with_reducible refine Adds.more ?_ _ _ | with_reducible refine Adds.drew ?_ | with_reducible refine Adds.drewN ?_ _))⟩

set_option maxRecDepth 20000 in
set_option maxHeartbeats 4000000 in
theorem ask_ready (s : Shl) (v : Value) (g : Nat) (o : Ov) (w : World) (hb : ShlBox w g s v) (ho : o.Sl) (h1 : o.kind = 103) :
    Calls Tryz.prog 27 #[ptrS g, o.val] w fun e w' => e = .returned (ansV 0 0 (.slice none 0 0)) ∧ Adds (w.setCell ⟨g, 1, none⟩ (.bool true)) w' := by
  obtain ⟨hg, c0, c1, c2, c3, fz⟩ := hb.cells
  have f1 := fz 1 (by omega)
  obtain ⟨kind, key, to, dv, wv, has, n, most, lv, sv, nv⟩ := o
  simp only [Ov.val, Ov.Sl, Slc] at *
  obtain ⟨⟨_, _, _, rfl⟩, ⟨_, _, _, rfl⟩, ⟨_, _, _, rfl⟩, ⟨_, _, _, rfl⟩, ⟨_, _, _, rfl⟩⟩ := ho
  subst h1
  clear fz hb
  go_enter Tryz.func27, Tryz.ntmps27
  go_wp2
  refine bodyPost_ret (v := ansV 0 0 (.slice none 0 0)) (by simp [results, Tryz.results27, go_sem, ansV]) rfl ⟨rfl, (by repeat (first | with_reducible exact Adds.refl _ | with_reducible refine Adds.alloc ?_ _ | with_reducible refine Adds.more ?_ _ _ | with_reducible refine Adds.drew ?_ | with_reducible refine Adds.drewN ?_ _))⟩

set_option maxRecDepth 20000 in
set_option maxHeartbeats 4000000 in
theorem ask_find (s : Shl) (v : Value) (g : Nat) (o : Ov) (w : World) (hb : ShlBox w g s v) (ho : o.Sl) (h1 : o.kind = 104) (hv : Sh.Lst w v s.es) (he : s.es.length ≤ 900) (hm : Sh.May s.es) :
    Calls Tryz.prog 27 #[ptrS g, o.val] w fun e w' => FindT w s o e w' ∧ Adds w w' := by
  obtain ⟨hg, c0, c1, c2, c3, fz⟩ := hb.cells
  have kF : ∀ W, Adds w W → Calls Tryz.prog 45 #[s.val v, o.val] W fun e w' => (∃ (c m : Int) (ko : Option Addr) (kn kc : Nat), e = .returned (.agg #[.int .i64 c, .bool false, .slice none 0 0, .slice none 0 0, .slice none 0 0, .int .i64 m, .int .i64 0, .slice ko kn kc]) ∧ Hid (FindT W s o (.returned (ansV c m (.slice ko kn kc))) w')) ∧ Adds W w' := fun W hA =>
    (shFind_any s v o W ho (hv.adds hA) he hm).mono (by
      rintro e w' ⟨hF, hA⟩
      obtain ⟨c, m, ko, kn, kc, rfl, hF2⟩ := hF.shape
      exact ⟨⟨c, m, ko, kn, kc, rfl, hF2⟩, hA⟩)
  clear fz hb he hm
  obtain ⟨df, rdy, mk, es⟩ := s
  obtain ⟨kind, key, to, dv, wv, has, n, most, lv, sv, nv⟩ := o
  simp only [Ov.val, Ov.Sl, Slc, Shl.val] at *
  obtain ⟨⟨_, _, _, rfl⟩, ⟨_, _, _, rfl⟩, ⟨_, _, _, rfl⟩, ⟨_, _, _, rfl⟩, ⟨_, _, _, rfl⟩⟩ := ho
  obtain ⟨ao, cap, rfl, _, _⟩ := hv
  subst h1
  generalize es.length = l at *
  go_enter Tryz.func27, Tryz.ntmps27
  go_wp2
  go_region_with (go_at_call 45; refine (kF _ (by repeat (first | with_reducible exact Adds.refl _ | with_reducible refine Adds.alloc ?_ _ | with_reducible refine Adds.more ?_ _ _ | with_reducible refine Adds.drew ?_ | with_reducible refine Adds.drewN ?_ _))).mono ?_; rintro e w2 ⟨⟨c, m, ko, kn, kc, rfl, HF⟩, os2, n2, rfl⟩)
  all_goals
    go_wp2
    refine bodyPost_ret (v := ansV c m (.slice ko kn kc)) (by simp [results, Tryz.results27, go_sem, ansV]) rfl ⟨HF.out.oth (((Oth.box _ _ _ rfl).drew).more _ _) (by simp [go_sem]) (by simp [go_sem]), (by repeat (first | with_reducible exact Adds.refl _ | with_reducible refine Adds.alloc ?_ _ | with_reducible refine Adds.more ?_ _ _ | with_reducible refine Adds.drew ?_ | with_reducible refine Adds.drewN ?_ _))⟩

end Go.Proofs.YtiacnmcdfpmcfaaGreatDoor

namespace Go.Proofs.YtiacnmcdfpmcfaaGreatDoor
open Go.RowKit
attribute [local go_sem] cell?_more frozen?_more setCell_more size_more tape_more drew_more drewN_more more_drew more_drewN one_out plus_out plus_end lt_one le_p2 le_p3 le_p4 le_p5 le_p6 le_p7 le_p8 le_p9 le_p10 le_p11 le_p12 le_p13 le_p14 le_p15 le_p16 le_p17 le_p18 le_p19 le_p20 le_p21 le_p22 le_p23 le_p24 le_q0 le_q1 lt_q1 le_q2 lt_q2 le_q3 lt_q3 le_q4 lt_q4 le_q5 lt_q5 le_q6 lt_q6 le_q7 lt_q7 le_q8 lt_q8 le_q9 lt_q9 le_q10 lt_q10 le_q11 lt_q11 le_q12 lt_q12 le_q13 lt_q13 le_q14 lt_q14 le_q15 lt_q15 le_q16 lt_q16 le_q17 lt_q17 le_q18 lt_q18 le_q19 lt_q19 le_q20 lt_q20 le_q21 lt_q21 le_q22 lt_q22 le_q23 lt_q23 le_q24 lt_q24

theorem eqlP_none (n cap : Nat) (w : World) : (binOp .eql 22 (.slice none n cap) (.slice none 0 0)).run Tryz.prog w = .ok (.bool true) w := by kernel_rfl

theorem eqlP_some (a : Addr) (n cap : Nat) (w : World) : (binOp .eql 22 (.slice (some a) n cap) (.slice none 0 0)).run Tryz.prog w = .ok (.bool false) w := by kernel_rfl

set_option maxRecDepth 20000 in
theorem clonePairs_any (s : Value) (fs : List Sh.F) (w : World) (h : Sh.Lst w s fs) (hle : fs.length ≤ 1000) :
    Calls Tryz.prog 26 #[s] w fun e w' => (∃ ao cap, e = .returned (.slice ao fs.length cap) ∧ Hid (Sh.Fresh w (.slice ao fs.length cap) fs w')) ∧ Adds w w' := by
  have h0 := h
  obtain ⟨ao, cap, rfl, hc, hx⟩ := h
  cases ao with
  | none =>
    obtain rfl : fs = [] := by
      rcases hx with h | ⟨b, off, h, _⟩
      · exact h
      · cases h
    clear h0 hx
    have hb := fun n => eqlP_none n cap w
    have hb := hb ([] : List Sh.F).length
    go_enter Tryz.func26, Tryz.ntmps26
    go_wp2
    go_ret
    exact ⟨⟨none, 0, rfl, w.heap.size, w, Nat.le_refl _, Sh.Own.nil _ _ (Nat.le_refl _)⟩, Adds.refl _⟩
  | some a =>
    have hE := Sh.own_empty w
    have hL := h0.adds ((Adds.refl w).alloc (.cells #[] 70))
    clear h0 hx
    have hb := eqlP_some a fs.length cap w
    go_enter Tryz.func26, Tryz.ntmps26
    go_wp2_with (at_builtin; refine Sh.own_app rfl (.tmp 5) (.tmp 6) rfl hE rfl hL rfl (by simp; omega) ?_; intro v2 w2 hown2)
    go_ret
    rw [List.nil_append] at hown2
    obtain ⟨ao, cap, rfl, _, _⟩ := hown2.lst
    exact ⟨⟨ao, cap, rfl, w.heap.size, w, Nat.le_refl _, hown2⟩, Adds.of hown2.2.1⟩

end Go.Proofs.YtiacnmcdfpmcfaaGreatDoor
