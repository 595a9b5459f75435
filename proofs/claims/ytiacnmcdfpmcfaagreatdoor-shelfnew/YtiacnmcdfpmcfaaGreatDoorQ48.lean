/-
  Shelves that are asked for entries, or made ready, by contracts.
  A shelf in a box that is asked: entries, to be ready, what is nothing, by contracts.
  The order of entries is one.
  The copy of entries, by contract.
-/
import Derived.Test.YtiacnmcdfpmcfaaGreatDoorHfb
import Derived.Test.YtiacnmcdfpmcfaaGreatDoorIxe
import Derived.Deep.RegionWith
import Derived.Test.YtiacnmcdfpmcfaaGreatDoorQ44
namespace Go.Proofs.YtiacnmcdfpmcfaaGreatDoor
open Go.RowKit
attribute [local go_sem] cell?_more frozen?_more setCell_more size_more tape_more drew_more drewN_more more_drew more_drewN one_out plus_out plus_end lt_one le_p2 le_p3 le_p4 le_p5 le_p6 le_p7 le_p8 le_p9 le_p10 le_p11 le_p12 le_p13 le_p14 le_p15 le_p16 le_p17 le_p18 le_p19 le_p20 le_p21 le_p22 le_p23 le_p24 le_q0 le_q1 lt_q1 le_q2 lt_q2 le_q3 lt_q3 le_q4 lt_q4 le_q5 lt_q5 le_q6 lt_q6 le_q7 lt_q7 le_q8 lt_q8 le_q9 lt_q9 le_q10 lt_q10 le_q11 lt_q11 le_q12 lt_q12 le_q13 lt_q13 le_q14 lt_q14 le_q15 lt_q15 le_q16 lt_q16 le_q17 lt_q17 le_q18 lt_q18 le_q19 lt_q19 le_q20 lt_q20 le_q21 lt_q21 le_q22 lt_q22 le_q23 lt_q23 le_q24 lt_q24

attribute [local go_sem] cell?_addTo

abbrev ptrS (g : Nat) : Value := .pointer (some ⟨g, 0, none⟩)

/-- One that is asked, as it lies. -/
structure Ov where
  kind : Int
  key : ByteArray
  to : ByteArray
  dv : Value
  wv : Value
  has : Bool
  n : Int
  most : Int
  lv : Value
  sv : Value
  nv : Value

def Ov.val (o : Ov) : Value := .agg #[.int .i64 o.kind, .string o.key, .string o.to, o.dv, o.wv, .bool o.has, .int .i64 o.n, .int .i64 o.most, o.lv, o.sv, o.nv]

def Slc (v : Value) : Prop := ∃ a n c, v = .slice a n c
def Ov.Sl (o : Ov) : Prop := Slc o.dv ∧ Slc o.wv ∧ Slc o.lv ∧ Slc o.sv ∧ Slc o.nv

/-- Two worlds but for one block. -/
def Oth (g : Nat) (w w' : World) : Prop := w'.heap.size = w.heap.size ∧ ∀ k, k ≠ g → w'.heap[k]? = w.heap[k]?

theorem Oth.box (w : World) (o o' : Obj) {g : Nat} (hg : g = w.heap.size) : Oth g (w.alloc o) (w.alloc o') := by
  subst hg
  refine ⟨by simp, fun k hk => ?_⟩
  show (w.heap.push o')[k]? = (w.heap.push o)[k]?
  rw [Array.getElem?_push, Array.getElem?_push]
  simp [hk]

theorem Oth.more {g : Nat} {w w' : World} (h : Oth g w w') (os : Array Obj) (k : Nat) : Oth g (more w os k) (more w' os k) := by
  refine ⟨by simp [YtiacnmcdfpmcfaaGreatDoor.more, h.1], fun j hj => ?_⟩
  show (w'.heap ++ os)[j]? = (w.heap ++ os)[j]?
  rw [Array.getElem?_append, Array.getElem?_append, h.1, h.2 j hj]

theorem Oth.alloc {g : Nat} {w w' : World} (h : Oth g w w') (o : Obj) : Oth g (w.alloc o) (w'.alloc o) := by
  refine ⟨by simp [h.1], fun j hj => ?_⟩
  show (w'.heap.push o)[j]? = (w.heap.push o)[j]?
  rw [Array.getElem?_push, Array.getElem?_push, h.1, h.2 j hj]

/-- A row of the call's own stays where a block ahead of it turns. -/
theorem fresh_oth {W W0 w w' : World} {v : Value} {l : List Sh.F} {g : Nat} (h : Sh.Fresh W v l w) (ho : Oth g w w') (hg : g < W.heap.size) (hs : W0.heap.size ≤ W.heap.size) : Sh.Fresh W0 v l w' := by
  obtain ⟨B, W0, hB, h1, h2, h3⟩ := h
  have h4 : Sh.Own B v l w' w' := by
    refine ⟨⟨h1.1, ?_⟩, Below.refl _ _, by rw [ho.1]; exact h3⟩
    rcases h1.2 with h | ⟨k, cap, cur, e, hb, hk, r⟩
    · exact .inl h
    · exact .inr ⟨k, cap, cur, e, hb, by rw [ho.2 k (by omega)]; exact hk, r⟩
  exact ⟨B, w', by omega, h4⟩

/-- What is told of entries that are asked for. -/
def FindT (w : World) (s : Shl) (o : Ov) (e : Ending) (w' : World) : Prop :=
  (¬ (1 ≤ o.most ∧ o.most ≤ 24) ∧ e = .returned (ansV 1 0 (.slice none 0 0))) ∨
  ((1 ≤ o.most ∧ o.most ≤ 24) ∧ (s.rdy = false ∨ s.mark < o.n) ∧ e = .returned (ansV 9 0 (.slice none 0 0))) ∨
  ((1 ≤ o.most ∧ o.most ≤ 24) ∧ (s.rdy = true ∧ o.n ≤ s.mark) ∧ ∃ kv, e = .returned (ansV 0 s.mark kv) ∧ Sh.Fresh w kv ((s.es.filter (Sh.isIn o.key o.to)).take o.most.toNat) w')

theorem FindT.adds {W : World} {s : Shl} {o : Ov} {e : Ending} {w w' : World} (h : FindT W s o e w) (hA : Adds w w') : FindT W s o e w' := by
  rcases h with h | h | ⟨h1, h2, kv, h3, h4⟩
  · exact .inl h
  · exact .inr (.inl h)
  · exact .inr (.inr ⟨h1, h2, kv, h3, h4.adds hA⟩)

set_option maxRecDepth 20000 in
set_option maxHeartbeats 4000000 in
theorem shFind_any (s : Shl) (v : Value) (o : Ov) (w : World) (ho : o.Sl) (hv : Sh.Lst w v s.es) (he : s.es.length ≤ 900) (hm : Sh.May s.es) :
    Calls Tryz.prog 45 #[s.val v, o.val] w fun e w' => FindT w s o e w' ∧ Adds w w' := by
  have kF := fun W (hA : Adds w W) => Sh.scan_ok v s.es o.key o.to o.most.toNat W (hv.adds hA) (by omega) hm
  have H1 : Hid (¬ (1 ≤ o.most ∧ o.most ≤ 24) → ∀ W', FindT w s o (.returned (ansV 1 0 (.slice none 0 0))) W') := fun h W' => .inl ⟨h, rfl⟩
  have H9 : Hid ((1 ≤ o.most ∧ o.most ≤ 24) → (s.rdy = false ∨ s.mark < o.n) → ∀ W', FindT w s o (.returned (ansV 9 0 (.slice none 0 0))) W') := fun h h' W' => .inr (.inl ⟨h, h', rfl⟩)
  have H0 : Hid ((1 ≤ o.most ∧ o.most ≤ 24) → (s.rdy = true ∧ o.n ≤ s.mark) → ∀ kv W', Sh.Fresh w kv ((s.es.filter (Sh.isIn o.key o.to)).take o.most.toNat) W' → FindT w s o (.returned (ansV 0 s.mark kv)) W') := fun h h' kv W' hk => .inr (.inr ⟨h, h', kv, rfl, hk⟩)
  obtain ⟨df, rdy, mk, es⟩ := s
  obtain ⟨kind, key, to, dv, wv, has, n, most, lv, sv, nv⟩ := o
  simp only [Shl.val, Ov.val, Ov.Sl, Slc] at *
  obtain ⟨⟨_, _, _, rfl⟩, ⟨_, _, _, rfl⟩, ⟨_, _, _, rfl⟩, ⟨_, _, _, rfl⟩, ⟨_, _, _, rfl⟩⟩ := ho
  obtain ⟨ao, cap, rfl, _, _⟩ := hv
  clear hm
  by_cases h1 : 1 ≤ most
  · by_cases h2 : most ≤ 24
    · have h1' : ¬ most < 1 := by omega
      have h2' : ¬ 24 < most := by omega
      obtain ⟨m, rfl⟩ : ∃ m : Nat, most = m := ⟨most.toNat, by omega⟩
      simp only [Int.toNat_natCast] at kF
      cases rdy with
      | false =>
        have HF : Hid (∀ W', FindT _ _ _ _ W') := H9.out ⟨h1, h2⟩ (.inl rfl)
        clear kF H1 H9 H0
        generalize es.length = l at *
        go_enter Tryz.func45, Tryz.ntmps45
        go_wp2
        refine bodyPost_ret (v := ansV 9 0 (.slice none 0 0)) (by simp [results, Tryz.results45, go_sem, ansV]) rfl ⟨HF.out _, (by repeat (first | with_reducible exact Adds.refl _ | with_reducible refine Adds.alloc ?_ _ | with_reducible refine Adds.more ?_ _ _ | with_reducible refine Adds.drew ?_ | with_reducible refine Adds.drewN ?_ _))⟩
      | true =>
        by_cases h3 : mk < n
        · have HF : Hid (∀ W', FindT _ _ _ _ W') := H9.out ⟨h1, h2⟩ (.inr h3)
          clear kF H1 H9 H0
          generalize es.length = l at *
          go_enter Tryz.func45, Tryz.ntmps45
          go_wp2
          refine bodyPost_ret (v := ansV 9 0 (.slice none 0 0)) (by simp [results, Tryz.results45, go_sem, ansV]) rfl ⟨HF.out _, (by repeat (first | with_reducible exact Adds.refl _ | with_reducible refine Adds.alloc ?_ _ | with_reducible refine Adds.more ?_ _ _ | with_reducible refine Adds.drew ?_ | with_reducible refine Adds.drewN ?_ _))⟩
        · have h3' : n ≤ mk := by omega
          have HF : Hid (∀ kv W', Sh.Fresh _ kv _ W' → FindT _ _ _ _ W') := H0.out ⟨h1, h2⟩ ⟨rfl, h3'⟩
          simp only [Int.toNat_natCast] at HF
          clear H1 H9 H0
          generalize (es.filter (Sh.isIn key to)).take m = R at *
          generalize es.length = l at *
          go_enter Tryz.func45, Tryz.ntmps45
          go_wp2_with (go_at_call 60; refine (kF _ (by repeat (first | with_reducible exact Adds.refl _ | with_reducible refine Adds.alloc ?_ _ | with_reducible refine Adds.more ?_ _ _ | with_reducible refine Adds.drew ?_ | with_reducible refine Adds.drewN ?_ _))).mono ?_; rintro e w2 ⟨kv, rfl, hkv, os2, n2, rfl⟩; have HK := hkv.lst; obtain ⟨ko, kc, rfl, hk1, hk2⟩ := HK)
          refine bodyPost_ret (v := ansV 0 mk (.slice ko R.length kc)) (by simp [results, Tryz.results45, go_sem, ansV]) rfl ⟨HF.out _ _ (fresh_oth hkv ((Oth.box _ _ _ rfl).more _ _) (by simp) (by simp; omega)), (by repeat (first | with_reducible exact Adds.refl _ | with_reducible refine Adds.alloc ?_ _ | with_reducible refine Adds.more ?_ _ _ | with_reducible refine Adds.drew ?_ | with_reducible refine Adds.drewN ?_ _))⟩
    · have h2' : 24 < most := by omega
      have h1' : ¬ most < 1 := by omega
      have HF : Hid (∀ W', FindT _ _ _ _ W') := H1.out (fun h => h2 h.2)
      clear kF H1 H9 H0
      generalize es.length = l at *
      go_enter Tryz.func45, Tryz.ntmps45
      go_wp2
      refine bodyPost_ret (v := ansV 1 0 (.slice none 0 0)) (by simp [results, Tryz.results45, go_sem, ansV]) rfl ⟨HF.out _, (by repeat (first | with_reducible exact Adds.refl _ | with_reducible refine Adds.alloc ?_ _ | with_reducible refine Adds.more ?_ _ _ | with_reducible refine Adds.drew ?_ | with_reducible refine Adds.drewN ?_ _))⟩
  · have h1' : most < 1 := by omega
    have HF : Hid (∀ W', FindT _ _ _ _ W') := H1.out (fun h => h1 h.1)
    clear kF H1 H9 H0
    generalize es.length = l at *
    go_enter Tryz.func45, Tryz.ntmps45
    go_wp2
    refine bodyPost_ret (v := ansV 1 0 (.slice none 0 0)) (by simp [results, Tryz.results45, go_sem, ansV]) rfl ⟨HF.out _, (by repeat (first | with_reducible exact Adds.refl _ | with_reducible refine Adds.alloc ?_ _ | with_reducible refine Adds.more ?_ _ _ | with_reducible refine Adds.drew ?_ | with_reducible refine Adds.drewN ?_ _))⟩

end Go.Proofs.YtiacnmcdfpmcfaaGreatDoor

namespace Go.Proofs.YtiacnmcdfpmcfaaGreatDoor
open Go.RowKit
attribute [local go_sem] cell?_more frozen?_more setCell_more size_more tape_more drew_more drewN_more more_drew more_drewN one_out plus_out plus_end lt_one le_p2 le_p3 le_p4 le_p5 le_p6 le_p7 le_p8 le_p9 le_p10 le_p11 le_p12 le_p13 le_p14 le_p15 le_p16 le_p17 le_p18 le_p19 le_p20 le_p21 le_p22 le_p23 le_p24 le_q0 le_q1 lt_q1 le_q2 lt_q2 le_q3 lt_q3 le_q4 lt_q4 le_q5 lt_q5 le_q6 lt_q6 le_q7 lt_q7 le_q8 lt_q8 le_q9 lt_q9 le_q10 lt_q10 le_q11 lt_q11 le_q12 lt_q12 le_q13 lt_q13 le_q14 lt_q14 le_q15 lt_q15 le_q16 lt_q16 le_q17 lt_q17 le_q18 lt_q18 le_q19 lt_q19 le_q20 lt_q20 le_q21 lt_q21 le_q22 lt_q22 le_q23 lt_q23 le_q24 lt_q24

def ShlBox (w : World) (g : Nat) (s : Shl) (v : Value) : Prop := w.heap[g]? = some (.cells #[.string s.df, .bool s.rdy, .int .i64 s.mark, v] 24 (0, 0))

theorem ShlBox.cells {w : World} {g : Nat} {s : Shl} {v : Value} (h : ShlBox w g s v) : g < w.heap.size ∧ w.cell? ⟨g, 0, none⟩ = some (.string s.df) ∧ w.cell? ⟨g, 1, none⟩ = some (.bool s.rdy) ∧ w.cell? ⟨g, 2, none⟩ = some (.int .i64 s.mark) ∧ w.cell? ⟨g, 3, none⟩ = some v ∧ (∀ j, j < 4 → w.frozen? ⟨g, j, none⟩ = false) := by
  unfold ShlBox at h
  refine ⟨(Array.getElem?_eq_some_iff.1 h).1, by simp [World.cell?, h], by simp [World.cell?, h], by simp [World.cell?, h], by simp [World.cell?, h], fun j hj => by simp [World.frozen?, h]⟩

theorem ShlBox.adds {w w' : World} {g : Nat} {s : Shl} {v : Value} (h : ShlBox w g s v) (hA : Adds w w') : ShlBox w' g s v := by
  unfold ShlBox at h ⊢
  rw [hA.below.block g (Array.getElem?_eq_some_iff.1 h).1]
  exact h

theorem Oth.drew {g : Nat} {w w' : World} (h : Oth g w w') : Oth g w.drew w'.drew := h

theorem FindT.shape {W : World} {s : Shl} {o : Ov} {e : Ending} {w : World} (h : FindT W s o e w) : ∃ c m ko kn kc, e = .returned (ansV c m (.slice ko kn kc)) ∧ FindT W s o (.returned (ansV c m (.slice ko kn kc))) w := by
  rcases id h with ⟨_, rfl⟩ | ⟨_, _, rfl⟩ | ⟨_, _, kv, rfl, hk⟩
  · exact ⟨_, _, _, _, _, rfl, h⟩
  · exact ⟨_, _, _, _, _, rfl, h⟩
  · obtain ⟨ko, kc, rfl, _, _⟩ := hk.lst
    exact ⟨_, _, _, _, _, rfl, h⟩

theorem FindT.oth {W W0 : World} {s : Shl} {o : Ov} {e : Ending} {w w' : World} {g : Nat} (h : FindT W s o e w) (ho : Oth g w w') (hg : g < W.heap.size) (hs : W0.heap.size ≤ W.heap.size) : FindT W0 s o e w' := by
  rcases h with h | h | ⟨h1, h2, kv, h3, h4⟩
  · exact .inl h
  · exact .inr (.inl h)
  · exact .inr (.inr ⟨h1, h2, kv, h3, fresh_oth h4 ho hg hs⟩)

set_option maxRecDepth 20000 in
set_option maxHeartbeats 4000000 in
theorem ask_other (g : Nat) (o : Ov) (w : World) (ho : o.Sl) (h1 : o.kind ≠ 101) (h2 : o.kind ≠ 102) (h3 : o.kind ≠ 103) (h4 : o.kind ≠ 104) :
    Calls Tryz.prog 27 #[ptrS g, o.val] w fun e w' => e = .returned (ansV 1 0 (.slice none 0 0)) ∧ Adds w w' := by
  obtain ⟨kind, key, to, dv, wv, has, n, most, lv, sv, nv⟩ := o
  simp only [Ov.val, Ov.Sl, Slc] at *
  obtain ⟨⟨_, _, _, rfl⟩, ⟨_, _, _, rfl⟩, ⟨_, _, _, rfl⟩, ⟨_, _, _, rfl⟩, ⟨_, _, _, rfl⟩⟩ := ho
  have b1 : (kind == 101) = false := by simpa using h1
  have b2 : (kind == 102) = false := by simpa using h2
  have b3 : (kind == 103) = false := by simpa using h3
  have b4 : (kind == 104) = false := by simpa using h4
  clear h1 h2 h3 h4
  go_enter Tryz.func27, Tryz.ntmps27
  go_wp2
  refine bodyPost_ret (v := ansV 1 0 (.slice none 0 0)) (by simp [results, Tryz.results27, go_sem, ansV]) rfl ⟨rfl, (by repeat (first | with_reducible exact Adds.refl _ | with_reducible refine Adds.alloc ?_ _ | with_reducible refine Adds.more ?_ _ _ | with_reducible refine Adds.drew ?_ | with_reducible refine Adds.drewN ?_ _))⟩

set_option maxRecDepth 20000 in
set_option maxHeartbeats 4000000 in
theorem ask_ready (s : Shl) (v : Value) (g : Nat) (o : Ov) (w : World) (hb : ShlBox w g s v) (ho : o.Sl) (h1 : o.kind = 103) :
    Calls Tryz.prog 27 #[ptrS g, o.val] w fun e w' => e = .returned (ansV 0 0 (.slice none 0 0)) ∧ Adds (w.setCell ⟨g, 1, none⟩ (.bool true)) w' := by
  obtain ⟨hg, c0, c1, c2, c3, fz⟩ := hb.cells
  have f1 := fz 1 (by omega)
  obtain ⟨kind, key, to, dv, wv, has, n, most, lv, sv, nv⟩ := o
  simp only [Ov.val, Ov.Sl, Slc] at *
  obtain ⟨⟨_, _, _, rfl⟩, ⟨_, _, _, rfl⟩, ⟨_, _, _, rfl⟩, ⟨_, _, _, rfl⟩, ⟨_, _, _, rfl⟩⟩ := ho
  subst h1
  clear fz hb
  go_enter Tryz.func27, Tryz.ntmps27
  go_wp2
  refine bodyPost_ret (v := ansV 0 0 (.slice none 0 0)) (by simp [results, Tryz.results27, go_sem, ansV]) rfl ⟨rfl, (by repeat (first | with_reducible exact Adds.refl _ | with_reducible refine Adds.alloc ?_ _ | with_reducible refine Adds.more ?_ _ _ | with_reducible refine Adds.drew ?_ | with_reducible refine Adds.drewN ?_ _))⟩

set_option maxRecDepth 20000 in
set_option maxHeartbeats 4000000 in
theorem ask_find (s : Shl) (v : Value) (g : Nat) (o : Ov) (w : World) (hb : ShlBox w g s v) (ho : o.Sl) (h1 : o.kind = 104) (hv : Sh.Lst w v s.es) (he : s.es.length ≤ 900) (hm : Sh.May s.es) :
    Calls Tryz.prog 27 #[ptrS g, o.val] w fun e w' => FindT w s o e w' ∧ Adds w w' := by
  obtain ⟨hg, c0, c1, c2, c3, fz⟩ := hb.cells
  have kF : ∀ W, Adds w W → Calls Tryz.prog 45 #[s.val v, o.val] W fun e w' => (∃ (c m : Int) (ko : Option Addr) (kn kc : Nat), e = .returned (.agg #[.int .i64 c, .bool false, .slice none 0 0, .slice none 0 0, .slice none 0 0, .int .i64 m, .int .i64 0, .slice ko kn kc]) ∧ Hid (FindT W s o (.returned (ansV c m (.slice ko kn kc))) w')) ∧ Adds W w' := fun W hA =>
    (shFind_any s v o W ho (hv.adds hA) he hm).mono (by
      rintro e w' ⟨hF, hA⟩
      obtain ⟨c, m, ko, kn, kc, rfl, hF2⟩ := hF.shape
      exact ⟨⟨c, m, ko, kn, kc, rfl, hF2⟩, hA⟩)
  clear fz hb he hm
  obtain ⟨df, rdy, mk, es⟩ := s
  obtain ⟨kind, key, to, dv, wv, has, n, most, lv, sv, nv⟩ := o
  simp only [Ov.val, Ov.Sl, Slc, Shl.val] at *
  obtain ⟨⟨_, _, _, rfl⟩, ⟨_, _, _, rfl⟩, ⟨_, _, _, rfl⟩, ⟨_, _, _, rfl⟩, ⟨_, _, _, rfl⟩⟩ := ho
  obtain ⟨ao, cap, rfl, _, _⟩ := hv
  subst h1
  generalize es.length = l at *
  go_enter Tryz.func27, Tryz.ntmps27
  go_wp2
  go_region_with (go_at_call 45; refine (kF _ (by repeat (first | with_reducible exact Adds.refl _ | with_reducible refine Adds.alloc ?_ _ | with_reducible refine Adds.more ?_ _ _ | with_reducible refine Adds.drew ?_ | with_reducible refine Adds.drewN ?_ _))).mono ?_; rintro e w2 ⟨⟨c, m, ko, kn, kc, rfl, HF⟩, os2, n2, rfl⟩)
  all_goals
    go_wp2
    refine bodyPost_ret (v := ansV c m (.slice ko kn kc)) (by simp [results, Tryz.results27, go_sem, ansV]) rfl ⟨HF.out.oth (((Oth.box _ _ _ rfl).drew).more _ _) (by simp [go_sem]) (by simp [go_sem]), (by repeat (first | with_reducible exact Adds.refl _ | with_reducible refine Adds.alloc ?_ _ | with_reducible refine Adds.more ?_ _ _ | with_reducible refine Adds.drew ?_ | with_reducible refine Adds.drewN ?_ _))⟩

end Go.Proofs.YtiacnmcdfpmcfaaGreatDoor

namespace Go.Proofs.YtiacnmcdfpmcfaaGreatDoor.Sh
open Go.RowKit
attribute [local go_sem] cell?_more frozen?_more setCell_more size_more tape_more drew_more drewN_more more_drew more_drewN one_out plus_out plus_end lt_one le_p2 le_p3 le_p4 le_p5 le_p6 le_p7 le_p8 le_p9 le_p10 le_p11 le_p12 le_p13 le_p14 le_p15 le_p16 le_p17 le_p18 le_p19 le_p20 le_p21 le_p22 le_p23 le_p24 le_q0 le_q1 lt_q1 le_q2 lt_q2 le_q3 lt_q3 le_q4 lt_q4 le_q5 lt_q5 le_q6 lt_q6 le_q7 lt_q7 le_q8 lt_q8 le_q9 lt_q9 le_q10 lt_q10 le_q11 lt_q11 le_q12 lt_q12 le_q13 lt_q13 le_q14 lt_q14 le_q15 lt_q15 le_q16 lt_q16 le_q17 lt_q17 le_q18 lt_q18 le_q19 lt_q19 le_q20 lt_q20 le_q21 lt_q21 le_q22 lt_q22 le_q23 lt_q23 le_q24 lt_q24



theorem cmpE_is : IsCmp cmpE where
  range a b := by
    unfold cmpE cmpP
    split
    · exact cmpB_is.range _ _
    · exact cmpB_is.range _ _
  swap a b := by
    unfold cmpE cmpP
    have h1 := cmpB_is.swap a.path.toList b.path.toList
    have h2 := cmpB_is.swap a.val.toList b.val.toList
    rw [h1, h2]
    by_cases h : Lib.compareBytes a.path.toList b.path.toList = 0
    · rw [if_pos (by omega), if_pos h]
    · rw [if_neg (by omega), if_neg h]
  zero a b := by
    rw [F.eq_iff]
    unfold cmpE
    by_cases h : cmpP a.path b.path = 0
    · rw [if_pos h]
      exact ⟨fun h2 => ⟨(cmpP_zero _ _).1 h, (cmpP_zero _ _).1 h2⟩, fun h2 => (cmpP_zero _ _).2 h2.2⟩
    · rw [if_neg h]
      exact ⟨fun h2 => absurd h2 h, fun h2 => absurd ((cmpP_zero _ _).2 h2.1) h⟩
  trans a b d h k := by
    unfold cmpE at *
    have t1 : cmpP a.path b.path ≤ 0 → cmpP b.path d.path ≤ 0 → cmpP a.path d.path ≤ 0 := cmpB_is.trans _ _ _
    have t2 : cmpP a.val b.val ≤ 0 → cmpP b.val d.val ≤ 0 → cmpP a.val d.val ≤ 0 := cmpB_is.trans _ _ _
    have s1 : cmpP b.path a.path = - cmpP a.path b.path := cmpB_is.swap _ _
    have s2 : cmpP d.path b.path = - cmpP b.path d.path := cmpB_is.swap _ _
    have t3 : cmpP d.path b.path ≤ 0 → cmpP b.path a.path ≤ 0 → cmpP d.path a.path ≤ 0 := cmpB_is.trans _ _ _
    have s3 : cmpP d.path a.path = - cmpP a.path d.path := cmpB_is.swap _ _
    by_cases h1 : cmpP a.path b.path = 0
    · rw [if_pos h1] at h
      have e := (cmpP_zero _ _).1 h1
      have e1 : cmpP a.path d.path = cmpP b.path d.path := by unfold cmpP; rw [e]
      by_cases h2 : cmpP b.path d.path = 0
      · rw [if_pos h2] at k
        rw [if_pos (by omega)]
        exact t2 h k
      · rw [if_neg h2] at k
        rw [if_neg (by omega)]
        omega
    · rw [if_neg h1] at h
      by_cases h2 : cmpP b.path d.path = 0
      · have e := (cmpP_zero _ _).1 h2
        have e1 : cmpP a.path d.path = cmpP a.path b.path := by unfold cmpP; rw [e]
        rw [if_neg (by omega)]
        omega
      · rw [if_neg h2] at k
        by_cases h3 : cmpP a.path d.path = 0
        · have e := (cmpP_zero _ _).1 h3
          have e1 : cmpP b.path d.path = cmpP b.path a.path := by unfold cmpP; rw [e]
          omega
        · rw [if_neg h3]
          exact t1 h k

end Go.Proofs.YtiacnmcdfpmcfaaGreatDoor.Sh

namespace Go.Proofs.YtiacnmcdfpmcfaaGreatDoor
open Go.RowKit
attribute [local go_sem] cell?_more frozen?_more setCell_more size_more tape_more drew_more drewN_more more_drew more_drewN one_out plus_out plus_end lt_one le_p2 le_p3 le_p4 le_p5 le_p6 le_p7 le_p8 le_p9 le_p10 le_p11 le_p12 le_p13 le_p14 le_p15 le_p16 le_p17 le_p18 le_p19 le_p20 le_p21 le_p22 le_p23 le_p24 le_q0 le_q1 lt_q1 le_q2 lt_q2 le_q3 lt_q3 le_q4 lt_q4 le_q5 lt_q5 le_q6 lt_q6 le_q7 lt_q7 le_q8 lt_q8 le_q9 lt_q9 le_q10 lt_q10 le_q11 lt_q11 le_q12 lt_q12 le_q13 lt_q13 le_q14 lt_q14 le_q15 lt_q15 le_q16 lt_q16 le_q17 lt_q17 le_q18 lt_q18 le_q19 lt_q19 le_q20 lt_q20 le_q21 lt_q21 le_q22 lt_q22 le_q23 lt_q23 le_q24 lt_q24

theorem eqlP_none (n cap : Nat) (w : World) : (binOp .eql 22 (.slice none n cap) (.slice none 0 0)).run Tryz.prog w = .ok (.bool true) w := by kernel_rfl

theorem eqlP_some (a : Addr) (n cap : Nat) (w : World) : (binOp .eql 22 (.slice (some a) n cap) (.slice none 0 0)).run Tryz.prog w = .ok (.bool false) w := by kernel_rfl

set_option maxRecDepth 20000 in
theorem clonePairs_any (s : Value) (fs : List Sh.F) (w : World) (h : Sh.Lst w s fs) (hle : fs.length ≤ 1000) :
    Calls Tryz.prog 26 #[s] w fun e w' => (∃ ao cap, e = .returned (.slice ao fs.length cap) ∧ Hid (Sh.Fresh w (.slice ao fs.length cap) fs w')) ∧ Adds w w' := by
  have h0 := h
  obtain ⟨ao, cap, rfl, hc, hx⟩ := h
  cases ao with
  | none =>
    obtain rfl : fs = [] := by
      rcases hx with h | ⟨b, off, h, _⟩
      · exact h
      · cases h
    clear h0 hx
    have hb := fun n => eqlP_none n cap w
    have hb := hb ([] : List Sh.F).length
    go_enter Tryz.func26, Tryz.ntmps26
    go_wp2
    go_ret
    exact ⟨⟨none, 0, rfl, w.heap.size, w, Nat.le_refl _, Sh.Own.nil _ _ (Nat.le_refl _)⟩, Adds.refl _⟩
  | some a =>
    have hE := Sh.own_empty w
    have hL := h0.adds ((Adds.refl w).alloc (.cells #[] 70))
    clear h0 hx
    have hb := eqlP_some a fs.length cap w
    go_enter Tryz.func26, Tryz.ntmps26
    go_wp2_with (at_builtin; refine Sh.own_app rfl (.tmp 5) (.tmp 6) rfl hE rfl hL rfl (by simp; omega) ?_; intro v2 w2 hown2)
    go_ret
    rw [List.nil_append] at hown2
    obtain ⟨ao, cap, rfl, _, _⟩ := hown2.lst
    exact ⟨⟨ao, cap, rfl, w.heap.size, w, Nat.le_refl _, hown2⟩, Adds.of hown2.2.1⟩

end Go.Proofs.YtiacnmcdfpmcfaaGreatDoor
