/-
  What Apply of shelves tells where it is asked for entries, to be ready, or for nothing; the statements' example.
  The laws ShelfNew and ShelfWaits, by contract: the walks.
  A shelf's box: what turns it, and what lies elsewhere stays.
-/
import Derived.Test.YtiacnmcdfpmcfaaGreatDoorQ48
namespace Go.Proofs.YtiacnmcdfpmcfaaGreatDoor
open Go.RowKit
attribute [local go_sem] cell?_more frozen?_more setCell_more size_more tape_more drew_more drewN_more more_drew more_drewN one_out plus_out plus_end lt_one le_p2 le_p3 le_p4 le_p5 le_p6 le_p7 le_p8 le_p9 le_p10 le_p11 le_p12 le_p13 le_p14 le_p15 le_p16 le_p17 le_p18 le_p19 le_p20 le_p21 le_p22 le_p23 le_p24 le_q0 le_q1 lt_q1 le_q2 lt_q2 le_q3 lt_q3 le_q4 lt_q4 le_q5 lt_q5 le_q6 lt_q6 le_q7 lt_q7 le_q8 lt_q8 le_q9 lt_q9 le_q10 lt_q10 le_q11 lt_q11 le_q12 lt_q12 le_q13 lt_q13 le_q14 lt_q14 le_q15 lt_q15 le_q16 lt_q16 le_q17 lt_q17 le_q18 lt_q18 le_q19 lt_q19 le_q20 lt_q20 le_q21 lt_q21 le_q22 lt_q22 le_q23 lt_q23 le_q24 lt_q24

/-- What is told of a shelf, and the shelf then; where nothing is loaded or fed. -/
def StepT (w : World) (s : Shl) (o : Ov) (s' : Shl) (ans : Value) (w' : World) : Prop :=
  (o.kind = 104 ∧ s' = s ∧ FindT w s o (.returned ans) w') ∨ (o.kind = 103 ∧ s' = ⟨s.df, true, s.mark, s.es⟩ ∧ ans = ansV 0 0 (.slice none 0 0)) ∨
  (o.kind ≠ 101 ∧ o.kind ≠ 102 ∧ o.kind ≠ 103 ∧ o.kind ≠ 104 ∧ s' = s ∧ ans = ansV 1 0 (.slice none 0 0))

/-- Apply's contract where nothing is loaded or fed. -/
def ApplyOk : Prop := ∀ (s : Shl) (v : Value) (o : Ov) (w : World), s.df.size ≤ 1100 → s.es.length ≤ 300 → Sh.Lst w v s.es → o.Sl → MayS s → o.kind ≠ 101 → o.kind ≠ 102 →
  Calls Tryz.prog 10 #[s.val v, o.val] w fun e w' => (∃ s' v' ans, e = .returned (.tuple #[s'.val v', ans, .int .i64 0]) ∧ Sh.Lst w' v' s'.es ∧ StepT w s o s' ans w') ∧ Adds w w'

/-- The answer's parts. -/
abbrev ansA (c n : Int) (ko : Option Addr) (kn kc : Nat) : Value := .agg #[.int .i64 c, .bool false, .slice none 0 0, .slice none 0 0, .slice none 0 0, .int .i64 n, .int .i64 0, .slice ko kn kc]

/-- Apply that tells a code alone, the shelf as it was. -/
def Tells (c : Int) (s : Shl) (s' : Shl) (v : Value) (o : Ov) (w : World) : Prop := Calls Tryz.prog 10 #[s.val v, o.val] w fun e w' =>
  (∃ ao cap, e = .returned (.tuple #[.agg #[.string s'.df, .bool s'.rdy, .int .i64 s'.mark, .slice ao s'.es.length cap], ansA c 0 none 0 0, .int .i64 0]) ∧ Hid (Sh.Lst w' (.slice ao s'.es.length cap) s'.es)) ∧ Adds w w'

theorem ans_inj {c c' n n' : Int} {k k' : Value} (h : Ending.returned (ansV c n k) = Ending.returned (ansV c' n' k')) : c = c' ∧ n = n' ∧ k = k' := by
  simp only [ansV, Ending.returned.injEq, Value.agg.injEq] at h
  simp at h
  exact h

theorem tells_of {s s' : Shl} {v : Value} {o : Ov} {w : World} {c : Int} (hAp : ApplyOk) (h1 : s.df.size ≤ 1100) (h2 : s.es.length ≤ 300) (hv : Sh.Lst w v s.es) (ho : o.Sl) (hm : MayS s) (k1 : o.kind ≠ 101) (k2 : o.kind ≠ 102)
    (h : ∀ s2 ans w', StepT w s o s2 ans w' → s2 = s' ∧ ans = ansV c 0 (.slice none 0 0)) : Tells c s s' v o w :=
  (hAp s v o w h1 h2 hv ho hm k1 k2).mono (by
    rintro e w' ⟨⟨s2, v2, ans, rfl, hl, hs⟩, hA⟩
    obtain ⟨rfl, rfl⟩ := h _ _ _ hs
    obtain ⟨ao, cap, rfl, h3, h4⟩ := hl
    exact ⟨⟨ao, cap, rfl, ao, cap, rfl, h3, h4⟩, hA⟩)

theorem tells_ready {s : Shl} {v : Value} {o : Ov} {w : World} (hAp : ApplyOk) (h1 : s.df.size ≤ 1100) (h2 : s.es.length ≤ 300) (hv : Sh.Lst w v s.es) (ho : o.Sl) (hm : MayS s) (hk : o.kind = 103) : Tells 0 s ⟨s.df, true, s.mark, s.es⟩ v o w :=
  tells_of hAp h1 h2 hv ho hm (by omega) (by omega) (fun s2 ans w' hs => by
    rcases hs with ⟨h, _⟩ | ⟨_, h, h'⟩ | ⟨_, _, h, _⟩
    · omega
    · exact ⟨h, h'⟩
    · omega)

theorem tells_arg {s : Shl} {v : Value} {o : Ov} {w : World} (hAp : ApplyOk) (h1 : s.df.size ≤ 1100) (h2 : s.es.length ≤ 300) (hv : Sh.Lst w v s.es) (ho : o.Sl) (hm : MayS s) (hk : o.kind = 104) (hq : ¬ (1 ≤ o.most ∧ o.most ≤ 24)) : Tells 1 s s v o w :=
  tells_of hAp h1 h2 hv ho hm (by omega) (by omega) (fun s2 ans w' hs => by
    rcases hs with ⟨_, h, hf⟩ | ⟨h, _⟩ | ⟨_, _, _, h, _⟩
    · rcases hf with ⟨_, h'⟩ | ⟨h', _⟩ | ⟨h', _⟩
      · exact ⟨h, by simpa using h'⟩
      · exact absurd h' hq
      · exact absurd h' hq
    · omega
    · omega)

theorem tells_wait {s : Shl} {v : Value} {o : Ov} {w : World} (hAp : ApplyOk) (h1 : s.df.size ≤ 1100) (h2 : s.es.length ≤ 300) (hv : Sh.Lst w v s.es) (ho : o.Sl) (hm : MayS s) (hk : o.kind = 104) (hq : 1 ≤ o.most ∧ o.most ≤ 24) (hr : s.rdy = false ∨ s.mark < o.n) : Tells 9 s s v o w :=
  tells_of hAp h1 h2 hv ho hm (by omega) (by omega) (fun s2 ans w' hs => by
    rcases hs with ⟨_, h, hf⟩ | ⟨h, _⟩ | ⟨_, _, _, h, _⟩
    · rcases hf with ⟨h', _⟩ | ⟨_, _, h'⟩ | ⟨_, ⟨h', h''⟩, _⟩
      · exact absurd hq h'
      · exact ⟨h, by simpa using h'⟩
      · rcases hr with hr | hr
        · rw [hr] at h'; cases h'
        · omega
    · omega
    · omega)

/-- Apply that tells entries. -/
theorem tells_keys {s : Shl} {v : Value} {o : Ov} {w : World} (hAp : ApplyOk) (h1 : s.df.size ≤ 1100) (h2 : s.es.length ≤ 300) (hv : Sh.Lst w v s.es) (ho : o.Sl) (hm : MayS s) (hk : o.kind = 104) (hq : 1 ≤ o.most ∧ o.most ≤ 24) (hr : s.rdy = true) (hn : o.n ≤ s.mark) :
    Calls Tryz.prog 10 #[s.val v, o.val] w fun e w' =>
      (∃ ao cap ko kn kc, e = .returned (.tuple #[.agg #[.string s.df, .bool s.rdy, .int .i64 s.mark, .slice ao s.es.length cap], ansA 0 s.mark ko kn kc, .int .i64 0]) ∧ Hid (Sh.Lst w' (.slice ao s.es.length cap) s.es) ∧ Hid (Sh.Lst w' (.slice ko kn kc) ((s.es.filter (Sh.isIn o.key o.to)).take o.most.toNat))) ∧ Adds w w' :=
  (hAp s v o w h1 h2 hv ho hm (by omega) (by omega)).mono (by
    rintro e w' ⟨⟨s2, v2, ans, rfl, hl, hs⟩, hA⟩
    rcases hs with ⟨_, rfl, hf⟩ | ⟨h, _⟩ | ⟨_, _, _, h, _⟩
    · rcases hf with ⟨h', _⟩ | ⟨_, h', _⟩ | ⟨_, _, kv, h', h''⟩
      · exact absurd hq h'
      · rcases h' with h' | h'
        · rw [hr] at h'; cases h'
        · omega
      · obtain rfl : ans = ansV 0 s2.mark kv := by simpa using h'
        have h3 := h''.lst
        obtain ⟨ko, kc, rfl, h5, h6⟩ := id h3
        obtain ⟨ao, cap, rfl, h7, h8⟩ := id hl
        exact ⟨⟨ao, cap, ko, _, kc, rfl, hl, h3⟩, hA⟩
    · omega
    · omega)

def sA (r : Bool) : Shl := ⟨⟨#[97]⟩, r, 0, []⟩

theorem sA_may (r : Bool) : MayS (sA r) := ⟨by simp [sA, parse_a, isOk], fun k h => by simp [sA] at h, by simp [sA, countB]⟩

def oA (k m : Int) : Ov := ⟨k, ⟨#[]⟩, ⟨#[]⟩, .slice none 0 0, .slice none 0 0, false, 0, m, .slice none 0 0, .slice none 0 0, .slice none 0 0⟩

theorem oA_sl (k m : Int) : (oA k m).Sl := ⟨⟨_, _, _, rfl⟩, ⟨_, _, _, rfl⟩, ⟨_, _, _, rfl⟩, ⟨_, _, _, rfl⟩, ⟨_, _, _, rfl⟩⟩

set_option maxRecDepth 20000 in
set_option maxHeartbeats 4000000 in
theorem awakeS_any (hAp : ApplyOk) (w : World) : Calls Tryz.prog 9 #[] w fun e w' => e = .returned (.bool true) ∧ Adds w w' := by
  have k0 := fun W => new_any ⟨#[97]⟩ W (by decide)
  unfold GaveN at k0
  rw [a_list, parse_a] at k0
  have k1 := fun (W : World) (ao : Option Addr) (cap : Nat) (h : Sh.Lst W (.slice ao 0 cap) []) => tells_wait (s := sA false) (v := .slice ao 0 cap) (o := oA 104 5) (w := W) hAp (by decide) (by simp [sA]) h (oA_sl _ _) (sA_may _) rfl (by simp [oA]) (.inl rfl)
  have k2 := fun (W : World) (ao : Option Addr) (cap : Nat) (h : Sh.Lst W (.slice ao 0 cap) []) => tells_ready (s := sA false) (v := .slice ao 0 cap) (o := oA 103 0) (w := W) hAp (by decide) (by simp [sA]) h (oA_sl _ _) (sA_may _) rfl
  have k3 := fun (W : World) (ao : Option Addr) (cap : Nat) (h : Sh.Lst W (.slice ao 0 cap) []) => tells_keys (s := sA true) (v := .slice ao 0 cap) (o := oA 104 5) (w := W) hAp (by decide) (by simp [sA]) h (oA_sl _ _) (sA_may _) rfl (by simp [oA]) rfl (by simp [oA, sA])
  simp only [Tells, sA, oA, Shl.val, Ov.val, List.length_nil] at k1 k2 k3
  have hn : ∀ W : World, Sh.Lst W (.slice none 0 0) [] := fun W => ⟨none, 0, rfl, Nat.le_refl _, .inl rfl⟩
  have hx : ∀ (W W' : World) (ao : Option Addr) (cap : Nat), Sh.Lst W (.slice ao 0 cap) [] → Sh.Lst W' (.slice ao 0 cap) [] := fun W W' ao cap h => by
    obtain ⟨a, c, e, _, _⟩ := h
    exact ⟨a, c, e, Nat.zero_le _, .inl rfl⟩
  have HX : Hid _ := hx
  clear hx
  go_enter Tryz.func9, Tryz.ntmps9
  go_wp2_with (go_at_call 17; refine (k0 _).mono ?_; rintro e w1 ⟨rfl, os1, n1, rfl⟩)
  refine (k1 _ _ _ (hn _)).mono ?_
  rintro e w2 ⟨⟨ao2, cap2, rfl, h2⟩, os2, n2, rfl⟩
  clear k0 k1 hn
  go_wp2_with fail
  refine (k2 _ _ _ (HX.out _ _ _ _ h2.out)).mono ?_
  rintro e w3 ⟨⟨ao3, cap3, rfl, h3⟩, os3, n3, rfl⟩
  clear k2
  go_wp2_with fail
  refine (k3 _ _ _ (HX.out _ _ _ _ h3.out)).mono ?_
  rintro e w4 ⟨⟨ao4, cap4, ko, kn, kc, rfl, _, _⟩, os4, n4, rfl⟩
  clear k3
  go_wp2
  go_ret
  exact ⟨rfl, (by repeat (first | with_reducible exact Adds.refl _ | with_reducible refine Adds.alloc ?_ _ | with_reducible refine Adds.more ?_ _ _ | with_reducible refine Adds.drew ?_ | with_reducible refine Adds.drewN ?_ _))⟩

end Go.Proofs.YtiacnmcdfpmcfaaGreatDoor

namespace Go.Proofs.YtiacnmcdfpmcfaaGreatDoor
open Go.RowKit
attribute [local go_sem] cell?_more frozen?_more setCell_more size_more tape_more drew_more drewN_more more_drew more_drewN one_out plus_out plus_end lt_one le_p2 le_p3 le_p4 le_p5 le_p6 le_p7 le_p8 le_p9 le_p10 le_p11 le_p12 le_p13 le_p14 le_p15 le_p16 le_p17 le_p18 le_p19 le_p20 le_p21 le_p22 le_p23 le_p24 le_q0 le_q1 lt_q1 le_q2 lt_q2 le_q3 lt_q3 le_q4 lt_q4 le_q5 lt_q5 le_q6 lt_q6 le_q7 lt_q7 le_q8 lt_q8 le_q9 lt_q9 le_q10 lt_q10 le_q11 lt_q11 le_q12 lt_q12 le_q13 lt_q13 le_q14 lt_q14 le_q15 lt_q15 le_q16 lt_q16 le_q17 lt_q17 le_q18 lt_q18 le_q19 lt_q19 le_q20 lt_q20 le_q21 lt_q21 le_q22 lt_q22 le_q23 lt_q23 le_q24 lt_q24

set_option maxRecDepth 20000 in
set_option maxHeartbeats 4000000 in
theorem newLaw_any (hAp : ApplyOk) (s : ByteArray) (w : World) : Calls Tryz.prog 4 #[.string s] w fun e w' => e = .returned (.bool true) ∧ Adds w w' := by
  have kA := fun W => awakeS_any hAp W
  by_cases hs : s.size ≤ 1100
  rotate_left
  · have hs' : (1100 : Int) < (s.size : Int) := by omega
    clear hs
    go_enter Tryz.func4, Tryz.ntmps4
    go_wp2_with (go_at_call 9; refine (kA _).mono ?_; rintro e w1 ⟨rfl, os1, n1, rfl⟩)
    go_ret
    exact ⟨rfl, (by repeat (first | with_reducible exact Adds.refl _ | with_reducible refine Adds.alloc ?_ _ | with_reducible refine Adds.more ?_ _ _ | with_reducible refine Adds.drew ?_ | with_reducible refine Adds.drewN ?_ _))⟩
  have kN := fun W => new_any s W (by omega)
  have kP := fun W => rParseAll_any s (by omega) W
  have hnil : ∀ W : World, Sh.Lst W (.slice none 0 0) [] := fun W => ⟨none, 0, rfl, Nat.le_refl _, .inl rfl⟩
  have hs' : ¬ (1100 : Int) < (s.size : Int) := by omega
  unfold GaveN at kN
  cases hp : parseA s.toList with
  | error c =>
    have hc := parseA_err hp
    have hcb : (c != 0) = true := by simpa using hc
    have hcb' : (c == 0) = false := by simpa using hc
    rw [hp] at kP kN
    simp only [GaveR] at kP kN
    have kS := fun W => rSameS_any ⟨⟨#[]⟩, false, 0, []⟩ (.slice none 0 0) (.slice none 0 0) W (hnil W) (hnil W) (by simp)
    simp only [Shl.val] at kS
    clear hp hc hs hnil
    go_enter Tryz.func4, Tryz.ntmps4
    go_wp2_with (first
      | (go_at_call 17; refine (kN _).mono ?_; rintro e w1 ⟨rfl, os1, n1, rfl⟩)
      | (go_at_call 18; refine (kP _).mono ?_; rintro e w2 ⟨rfl, os2, n2, rfl⟩)
      | (go_at_call 13; refine (kS _).mono ?_; rintro e w3 ⟨rfl, os3, n3, rfl⟩)
      | (go_at_call 9; refine (kA _).mono ?_; rintro e w4 ⟨rfl, os4, n4, rfl⟩))
    go_ret
    exact ⟨rfl, (by repeat (first | with_reducible exact Adds.refl _ | with_reducible refine Adds.alloc ?_ _ | with_reducible refine Adds.more ?_ _ _ | with_reducible refine Adds.drew ?_ | with_reducible refine Adds.drewN ?_ _))⟩
  | ok xs =>
    rw [hp] at kP kN
    simp only [GaveR] at kP kN
    have kS := fun W => rSameS_any ⟨s, false, 0, []⟩ (.slice none 0 0) (.slice none 0 0) W (hnil W) (hnil W) (by simp)
    simp only [Shl.val] at kS
    clear hp hs hnil
    go_enter Tryz.func4, Tryz.ntmps4
    go_wp2_with (first
      | (go_at_call 17; refine (kN _).mono ?_; rintro e w1 ⟨rfl, os1, n1, rfl⟩)
      | (go_at_call 18; refine (kP _).mono ?_; rintro e w2 ⟨⟨pa, pc, D, rfl, _, _⟩, os2, n2, rfl⟩)
      | (go_at_call 13; refine (kS _).mono ?_; rintro e w3 ⟨rfl, os3, n3, rfl⟩)
      | (go_at_call 9; refine (kA _).mono ?_; rintro e w4 ⟨rfl, os4, n4, rfl⟩))
    go_ret
    exact ⟨rfl, (by repeat (first | with_reducible exact Adds.refl _ | with_reducible refine Adds.alloc ?_ _ | with_reducible refine Adds.more ?_ _ _ | with_reducible refine Adds.drew ?_ | with_reducible refine Adds.drewN ?_ _))⟩

end Go.Proofs.YtiacnmcdfpmcfaaGreatDoor

namespace Go.Proofs.YtiacnmcdfpmcfaaGreatDoor
open Go.RowKit
attribute [local go_sem] cell?_more frozen?_more setCell_more size_more tape_more drew_more drewN_more more_drew more_drewN one_out plus_out plus_end lt_one le_p2 le_p3 le_p4 le_p5 le_p6 le_p7 le_p8 le_p9 le_p10 le_p11 le_p12 le_p13 le_p14 le_p15 le_p16 le_p17 le_p18 le_p19 le_p20 le_p21 le_p22 le_p23 le_p24 le_q0 le_q1 lt_q1 le_q2 lt_q2 le_q3 lt_q3 le_q4 lt_q4 le_q5 lt_q5 le_q6 lt_q6 le_q7 lt_q7 le_q8 lt_q8 le_q9 lt_q9 le_q10 lt_q10 le_q11 lt_q11 le_q12 lt_q12 le_q13 lt_q13 le_q14 lt_q14 le_q15 lt_q15 le_q16 lt_q16 le_q17 lt_q17 le_q18 lt_q18 le_q19 lt_q19 le_q20 lt_q20 le_q21 lt_q21 le_q22 lt_q22 le_q23 lt_q23 le_q24 lt_q24

attribute [local go_sem] cell?_addTo

theorem addTo_adds (W : World) (p : Plus) : Adds W (addTo W p) := ⟨p.os, p.draws, rfl⟩

theorem Oth.set {g i : Nat} {x : Value} {w w' : World} (h : Oth g w w') : Oth g w (w'.setCell ⟨g, i, none⟩ x) :=
  ⟨by simpa using h.1, fun k hk => (Below.heap_setCell w' ⟨g, i, none⟩ x k hk).trans (h.2 k hk)⟩

theorem Oth.mores {g : Nat} {w w2 : World} (h : Oth g w w2) (os : Array Obj) (k k2 : Nat) : Oth g (YtiacnmcdfpmcfaaGreatDoor.more w os k) (YtiacnmcdfpmcfaaGreatDoor.more w2 os k2) := h.more os k

theorem Oth.refl (g : Nat) (w : World) : Oth g w w := ⟨rfl, fun _ _ => rfl⟩

/-- No list of entries lies in a shelf's box. -/
theorem box_apart {w w' : World} {g : Nat} {s : Shl} {v u : Value} {l : List Sh.F} (hu : Slc u) (hb : ShlBox w g s u) (h : Sh.Lst w v l) (ho : Oth g w w') : Sh.Lst w' v l := by
  obtain ⟨ao, cap, rfl, hc, h0 | ⟨b, off, rfl, hlt, hl⟩⟩ := h
  · exact ⟨ao, cap, rfl, hc, .inl h0⟩
  by_cases hn : l = []
  · exact ⟨_, cap, rfl, hc, .inl hn⟩
  have hlen : 0 < l.length := List.length_pos_iff.2 hn
  have hbg : b ≠ g := by
    rintro rfl
    have c1 := (hl 0 hlen).2
    obtain ⟨_, d0, d1, d2, d3, _⟩ := hb.cells
    unfold ShlBox at hb
    have hs : ∀ j, 4 ≤ j → w.cell? ⟨b, j, none⟩ = none := fun j hj => by
      simp only [World.cell?, hb]
      exact Array.getElem?_eq_none (by simpa using hj)
    have hj : off + 0 * 2 + 1 = 1 ∨ off + 0 * 2 + 1 = 2 ∨ off + 0 * 2 + 1 = 3 ∨ 4 ≤ off + 0 * 2 + 1 := by omega
    rcases hj with e | e | e | e
    · rw [e, d1] at c1; cases c1
    · rw [e, d2] at c1; cases c1
    · rw [e, d3] at c1
      obtain ⟨_, _, _, rfl⟩ := hu
      cases c1
    · rw [hs _ e] at c1; cases c1
  refine ⟨_, cap, rfl, hc, .inr ⟨b, off, rfl, by rw [ho.1]; exact hlt, fun j hj => ?_⟩⟩
  obtain ⟨c0, c1⟩ := hl j hj
  have hh := ho.2 b hbg
  exact ⟨by simpa only [World.cell?, hh] using c0, by simpa only [World.cell?, hh] using c1⟩

theorem set_heap {w : World} {g i : Nat} {x : Value} {cs : Array Value} {T : TypeId} (h : w.heap[g]? = some (.cells cs T (0, 0))) : (w.setCell ⟨g, i, none⟩ x).heap[g]? = some (.cells (cs.setIfInBounds i x) T (0, 0)) := by
  simp [World.setCell, Array.getElem?_modify, h]

theorem box_set {w : World} {g : Nat} {s : Shl} {v : Value} (h : ShlBox w g s v) (es' : List Sh.F) (v' : Value) (n : Int) : ShlBox ((w.setCell ⟨g, 3, none⟩ v').setCell ⟨g, 2, none⟩ (.int .i64 n)) g ⟨s.df, s.rdy, n, es'⟩ v' := by
  unfold ShlBox at h ⊢
  have h1 := set_heap (i := 3) (x := v') h
  have h2 := set_heap (i := 2) (x := .int .i64 n) h1
  simpa using h2

theorem grown_set {w X : World} {g i : Nat} {x : Value} (h : w.grownBy X (some g)) : w.grownBy (X.setCell ⟨g, i, none⟩ x) (some g) :=
  ⟨h.os, h.tape, h.output, by simpa using h.size, fun k hk hne => (Below.heap_setCell X ⟨g, i, none⟩ x k (fun e => hne (by rw [e]))).trans (h.block k hk hne)⟩

theorem grown_by {w X : World} (h : Adds w X) (r : Option Nat) : w.grownBy X r :=
  ⟨h.below.os, h.below.tape, h.below.output, h.below.size, fun k hk _ => h.below.block k hk⟩

theorem grown_of {w W' : World} {g i j : Nat} {x y : Value} (h : Adds ((w.setCell ⟨g, i, none⟩ x).setCell ⟨g, j, none⟩ y) W') : w.grownBy W' (some g) := by
  have h1 := grown_by h (some g)
  have h2 : w.grownBy ((w.setCell ⟨g, i, none⟩ x).setCell ⟨g, j, none⟩ y) (some g) := grown_set (grown_set (grown_by (Adds.refl w) _))
  exact ⟨h1.os.trans h2.os, h1.tape.trans h2.tape, h1.output.trans h2.output, Nat.le_trans h2.size h1.size, fun k hk hne => (h1.block k (Nat.lt_of_lt_of_le hk h2.size) hne).trans (h2.block k hk hne)⟩

theorem at_later {X W : World} {o : Obj} {k : Nat} (h : Adds (X.alloc o) W) (hk : k = X.heap.size) : W.heap[k]? = some o := by
  subst hk
  have h1 := Sh.new_block2 X o
  rw [h.below.block _ (by simp)]
  exact h1

theorem grown_trans {a b c : World} {r : Option Nat} (h : a.grownBy b r) (h' : b.grownBy c r) : a.grownBy c r :=
  ⟨h'.os.trans h.os, h'.tape.trans h.tape, h'.output.trans h.output, Nat.le_trans h.size h'.size, fun k hk hne => (h'.block k (Nat.lt_of_lt_of_le hk h.size) hne).trans (h.block k hk hne)⟩

end Go.Proofs.YtiacnmcdfpmcfaaGreatDoor
