/-
  Shelves that are asked for entries, or made ready, by contracts.
-/
import Derived.Test.YtiacnmcdfpmcfaaGreatDoorQ28
import Derived.Test.YtiacnmcdfpmcfaaGreatDoorQ09
namespace Go.Proofs.YtiacnmcdfpmcfaaGreatDoor
open Go.RowKit
attribute [local go_sem] cell?_more frozen?_more setCell_more size_more tape_more drew_more drewN_more more_drew more_drewN one_out plus_out plus_end lt_one le_p2 le_p3 le_p4 le_p5 le_p6 le_p7 le_p8 le_p9 le_p10 le_p11 le_p12 le_p13 le_p14 le_p15 le_p16 le_p17 le_p18 le_p19 le_p20 le_p21 le_p22 le_p23 le_p24 le_q0 le_q1 lt_q1 le_q2 lt_q2 le_q3 lt_q3 le_q4 lt_q4 le_q5 lt_q5 le_q6 lt_q6 le_q7 lt_q7 le_q8 lt_q8 le_q9 lt_q9 le_q10 lt_q10 le_q11 lt_q11 le_q12 lt_q12 le_q13 lt_q13 le_q14 lt_q14 le_q15 lt_q15 le_q16 lt_q16 le_q17 lt_q17 le_q18 lt_q18 le_q19 lt_q19 le_q20 lt_q20 le_q21 lt_q21 le_q22 lt_q22 le_q23 lt_q23 le_q24 lt_q24

attribute [local go_sem] cell?_addTo

abbrev ptrS (g : Nat) : Value := .pointer (some ⟨g, 0, none⟩)

/-- One that is asked, as it lies. -/
structure Ov where
  kind : Int
  key : ByteArray
  to : ByteArray
  dv : Value
  wv : Value
  has : Bool
  n : Int
  most : Int
  lv : Value
  sv : Value
  nv : Value

def Ov.val (o : Ov) : Value := .agg #[.int .i64 o.kind, .string o.key, .string o.to, o.dv, o.wv, .bool o.has, .int .i64 o.n, .int .i64 o.most, o.lv, o.sv, o.nv]

def Slc (v : Value) : Prop := ∃ a n c, v = .slice a n c
def Ov.Sl (o : Ov) : Prop := Slc o.dv ∧ Slc o.wv ∧ Slc o.lv ∧ Slc o.sv ∧ Slc o.nv

/-- Two worlds but for one block. -/
def Oth (g : Nat) (w w' : World) : Prop := w'.heap.size = w.heap.size ∧ ∀ k, k ≠ g → w'.heap[k]? = w.heap[k]?

theorem Oth.box (w : World) (o o' : Obj) {g : Nat} (hg : g = w.heap.size) : Oth g (w.alloc o) (w.alloc o') := by
  subst hg
  refine ⟨by simp, fun k hk => ?_⟩
  show (w.heap.push o')[k]? = (w.heap.push o)[k]?
  rw [Array.getElem?_push, Array.getElem?_push]
  simp [hk]

theorem Oth.more {g : Nat} {w w' : World} (h : Oth g w w') (os : Array Obj) (k : Nat) : Oth g (more w os k) (more w' os k) := by
  refine ⟨by simp [YtiacnmcdfpmcfaaGreatDoor.more, h.1], fun j hj => ?_⟩
  show (w'.heap ++ os)[j]? = (w.heap ++ os)[j]?
  rw [Array.getElem?_append, Array.getElem?_append, h.1, h.2 j hj]

theorem Oth.alloc {g : Nat} {w w' : World} (h : Oth g w w') (o : Obj) : Oth g (w.alloc o) (w'.alloc o) := by
  refine ⟨by simp [h.1], fun j hj => ?_⟩
  show (w'.heap.push o)[j]? = (w.heap.push o)[j]?
  rw [Array.getElem?_push, Array.getElem?_push, h.1, h.2 j hj]

/-- A row of the call's own stays where a block ahead of it turns. -/
theorem fresh_oth {W W0 w w' : World} {v : Value} {l : List Sh.F} {g : Nat} (h : Sh.Fresh W v l w) (ho : Oth g w w') (hg : g < W.heap.size) (hs : W0.heap.size ≤ W.heap.size) : Sh.Fresh W0 v l w' := by
  obtain ⟨B, W0, hB, h1, h2, h3⟩ := h
  have h4 : Sh.Own B v l w' w' := by
    refine ⟨⟨h1.1, ?_⟩, Below.refl _ _, by rw [ho.1]; exact h3⟩
    rcases h1.2 with h | ⟨k, cap, cur, e, hb, hk, r⟩
    · exact .inl h
    · exact .inr ⟨k, cap, cur, e, hb, by rw [ho.2 k (by omega)]; exact hk, r⟩
  exact ⟨B, w', by omega, h4⟩

/-- What is told of entries that are asked for. -/
def FindT (w : World) (s : Shl) (o : Ov) (e : Ending) (w' : World) : Prop :=
  (¬ (1 ≤ o.most ∧ o.most ≤ 24) ∧ e = .returned (ansV 1 0 (.slice none 0 0))) ∨
  ((1 ≤ o.most ∧ o.most ≤ 24) ∧ (s.rdy = false ∨ s.mark < o.n) ∧ e = .returned (ansV 9 0 (.slice none 0 0))) ∨
  ((1 ≤ o.most ∧ o.most ≤ 24) ∧ (s.rdy = true ∧ o.n ≤ s.mark) ∧ ∃ kv, e = .returned (ansV 0 s.mark kv) ∧ Sh.Fresh w kv ((s.es.filter (Sh.isIn o.key o.to)).take o.most.toNat) w')

theorem FindT.adds {W : World} {s : Shl} {o : Ov} {e : Ending} {w w' : World} (h : FindT W s o e w) (hA : Adds w w') : FindT W s o e w' := by
  rcases h with h | h | ⟨h1, h2, kv, h3, h4⟩
  · exact .inl h
  · exact .inr (.inl h)
  · exact .inr (.inr ⟨h1, h2, kv, h3, h4.adds hA⟩)

set_option maxRecDepth 20000 in
set_option maxHeartbeats 4000000 in
theorem shFind_any (s : Shl) (v : Value) (o : Ov) (w : World) (ho : o.Sl) (hv : Sh.Lst w v s.es) (he : s.es.length ≤ 900) (hm : Sh.May s.es) :
    Calls Tryz.prog 45 #[s.val v, o.val] w fun e w' => FindT w s o e w' ∧ Adds w w' := by
  have kF := fun W (hA : Adds w W) => Sh.scan_ok v s.es o.key o.to o.most.toNat W (hv.adds hA) (by omega) hm
  have H1 : Hid (¬ (1 ≤ o.most ∧ o.most ≤ 24) → ∀ W', FindT w s o (.returned (ansV 1 0 (.slice none 0 0))) W') := fun h W' => .inl ⟨h, rfl⟩
  have H9 : Hid ((1 ≤ o.most ∧ o.most ≤ 24) → (s.rdy = false ∨ s.mark < o.n) → ∀ W', FindT w s o (.returned (ansV 9 0 (.slice none 0 0))) W') := fun h h' W' => .inr (.inl ⟨h, h', rfl⟩)
  have H0 : Hid ((1 ≤ o.most ∧ o.most ≤ 24) → (s.rdy = true ∧ o.n ≤ s.mark) → ∀ kv W', Sh.Fresh w kv ((s.es.filter (Sh.isIn o.key o.to)).take o.most.toNat) W' → FindT w s o (.returned (ansV 0 s.mark kv)) W') := fun h h' kv W' hk => .inr (.inr ⟨h, h', kv, rfl, hk⟩)
  obtain ⟨df, rdy, mk, es⟩ := s
  obtain ⟨kind, key, to, dv, wv, has, n, most, lv, sv, nv⟩ := o
  simp only [Shl.val, Ov.val, Ov.Sl, Slc] at *
  obtain ⟨⟨_, _, _, rfl⟩, ⟨_, _, _, rfl⟩, ⟨_, _, _, rfl⟩, ⟨_, _, _, rfl⟩, ⟨_, _, _, rfl⟩⟩ := ho
  obtain ⟨ao, cap, rfl, _, _⟩ := hv
  clear hm
  by_cases h1 : 1 ≤ most
  · by_cases h2 : most ≤ 24
    · have h1' : ¬ most < 1 := by omega
      have h2' : ¬ 24 < most := by omega
      obtain ⟨m, rfl⟩ : ∃ m : Nat, most = m := ⟨most.toNat, by omega⟩
      simp only [Int.toNat_natCast] at kF
      cases rdy with
      | false =>
        have HF : Hid (∀ W', FindT _ _ _ _ W') := H9.out ⟨h1, h2⟩ (.inl rfl)
        clear kF H1 H9 H0
        generalize es.length = l at *
        go_enter Tryz.func45, Tryz.ntmps45
        go_wp2
        refine bodyPost_ret (v := ansV 9 0 (.slice none 0 0)) (by simp [results, Tryz.results45, go_sem, ansV]) rfl ⟨HF.out _, (by repeat (first | with_reducible exact Adds.refl _ | with_reducible refine Adds.alloc ?_ _ | with_reducible refine Adds.more ?_ _ _ | with_reducible refine Adds.drew ?_ | with_reducible refine Adds.drewN ?_ _))⟩
      | true =>
        by_cases h3 : mk < n
        · have HF : Hid (∀ W', FindT _ _ _ _ W') := H9.out ⟨h1, h2⟩ (.inr h3)
          clear kF H1 H9 H0
          generalize es.length = l at *
          go_enter Tryz.func45, Tryz.ntmps45
          go_wp2
          refine bodyPost_ret (v := ansV 9 0 (.slice none 0 0)) (by simp [results, Tryz.results45, go_sem, ansV]) rfl ⟨HF.out _, (by repeat (first | with_reducible exact Adds.refl _ | with_reducible refine Adds.alloc ?_ _ | with_reducible refine Adds.more ?_ _ _ | with_reducible refine Adds.drew ?_ | with_reducible refine Adds.drewN ?_ _))⟩
        · have h3' : n ≤ mk := by omega
          have HF : Hid (∀ kv W', Sh.Fresh _ kv _ W' → FindT _ _ _ _ W') := H0.out ⟨h1, h2⟩ ⟨rfl, h3'⟩
          simp only [Int.toNat_natCast] at HF
          clear H1 H9 H0
          generalize (es.filter (Sh.isIn key to)).take m = R at *
          generalize es.length = l at *
          go_enter Tryz.func45, Tryz.ntmps45
          go_wp2_with (go_at_call 60; refine (kF _ (by repeat (first | with_reducible exact Adds.refl _ | with_reducible refine Adds.alloc ?_ _ | with_reducible refine Adds.more ?_ _ _ | with_reducible refine Adds.drew ?_ | with_reducible refine Adds.drewN ?_ _))).mono ?_; rintro e w2 ⟨kv, rfl, hkv, os2, n2, rfl⟩; have HK := hkv.lst; obtain ⟨ko, kc, rfl, hk1, hk2⟩ := HK)
          refine bodyPost_ret (v := ansV 0 mk (.slice ko R.length kc)) (by simp [results, Tryz.results45, go_sem, ansV]) rfl ⟨HF.out _ _ (fresh_oth hkv ((Oth.box _ _ _ rfl).more _ _) (by simp) (by simp; omega)), (by repeat (first | with_reducible exact Adds.refl _ | with_reducible refine Adds.alloc ?_ _ | with_reducible refine Adds.more ?_ _ _ | with_reducible refine Adds.drew ?_ | with_reducible refine Adds.drewN ?_ _))⟩
    · have h2' : 24 < most := by omega
      have h1' : ¬ most < 1 := by omega
      have HF : Hid (∀ W', FindT _ _ _ _ W') := H1.out (fun h => h2 h.2)
      clear kF H1 H9 H0
      generalize es.length = l at *
      go_enter Tryz.func45, Tryz.ntmps45
      go_wp2
      refine bodyPost_ret (v := ansV 1 0 (.slice none 0 0)) (by simp [results, Tryz.results45, go_sem, ansV]) rfl ⟨HF.out _, (by repeat (first | with_reducible exact Adds.refl _ | with_reducible refine Adds.alloc ?_ _ | with_reducible refine Adds.more ?_ _ _ | with_reducible refine Adds.drew ?_ | with_reducible refine Adds.drewN ?_ _))⟩
  · have h1' : most < 1 := by omega
    have HF : Hid (∀ W', FindT _ _ _ _ W') := H1.out (fun h => h1 h.1)
    clear kF H1 H9 H0
    generalize es.length = l at *
    go_enter Tryz.func45, Tryz.ntmps45
    go_wp2
    refine bodyPost_ret (v := ansV 1 0 (.slice none 0 0)) (by simp [results, Tryz.results45, go_sem, ansV]) rfl ⟨HF.out _, (by repeat (first | with_reducible exact Adds.refl _ | with_reducible refine Adds.alloc ?_ _ | with_reducible refine Adds.more ?_ _ _ | with_reducible refine Adds.drew ?_ | with_reducible refine Adds.drewN ?_ _))⟩

end Go.Proofs.YtiacnmcdfpmcfaaGreatDoor
