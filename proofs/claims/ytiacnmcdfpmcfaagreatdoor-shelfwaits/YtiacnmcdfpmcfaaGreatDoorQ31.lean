/-
  What Apply of shelves tells where it is asked for entries, to be ready, or for nothing; the statements' example.
-/
import Derived.Test.YtiacnmcdfpmcfaaGreatDoorQ30
namespace Go.Proofs.YtiacnmcdfpmcfaaGreatDoor
open Go.RowKit
attribute [local go_sem] cell?_more frozen?_more setCell_more size_more tape_more drew_more drewN_more more_drew more_drewN one_out plus_out plus_end lt_one le_p2 le_p3 le_p4 le_p5 le_p6 le_p7 le_p8 le_p9 le_p10 le_p11 le_p12 le_p13 le_p14 le_p15 le_p16 le_p17 le_p18 le_p19 le_p20 le_p21 le_p22 le_p23 le_p24 le_q0 le_q1 lt_q1 le_q2 lt_q2 le_q3 lt_q3 le_q4 lt_q4 le_q5 lt_q5 le_q6 lt_q6 le_q7 lt_q7 le_q8 lt_q8 le_q9 lt_q9 le_q10 lt_q10 le_q11 lt_q11 le_q12 lt_q12 le_q13 lt_q13 le_q14 lt_q14 le_q15 lt_q15 le_q16 lt_q16 le_q17 lt_q17 le_q18 lt_q18 le_q19 lt_q19 le_q20 lt_q20 le_q21 lt_q21 le_q22 lt_q22 le_q23 lt_q23 le_q24 lt_q24

/-- What is told of a shelf, and the shelf then; where nothing is loaded or fed. -/
def StepT (w : World) (s : Shl) (o : Ov) (s' : Shl) (ans : Value) (w' : World) : Prop :=
  (o.kind = 104 ∧ s' = s ∧ FindT w s o (.returned ans) w') ∨ (o.kind = 103 ∧ s' = ⟨s.df, true, s.mark, s.es⟩ ∧ ans = ansV 0 0 (.slice none 0 0)) ∨
  (o.kind ≠ 101 ∧ o.kind ≠ 102 ∧ o.kind ≠ 103 ∧ o.kind ≠ 104 ∧ s' = s ∧ ans = ansV 1 0 (.slice none 0 0))

/-- Apply's contract where nothing is loaded or fed. -/
def ApplyOk : Prop := ∀ (s : Shl) (v : Value) (o : Ov) (w : World), s.df.size ≤ 1100 → s.es.length ≤ 300 → Sh.Lst w v s.es → o.Sl → MayS s → o.kind ≠ 101 → o.kind ≠ 102 →
  Calls Tryz.prog 10 #[s.val v, o.val] w fun e w' => (∃ s' v' ans, e = .returned (.tuple #[s'.val v', ans, .int .i64 0]) ∧ Sh.Lst w' v' s'.es ∧ StepT w s o s' ans w') ∧ Adds w w'

/-- The answer's parts. -/
abbrev ansA (c n : Int) (ko : Option Addr) (kn kc : Nat) : Value := .agg #[.int .i64 c, .bool false, .slice none 0 0, .slice none 0 0, .slice none 0 0, .int .i64 n, .int .i64 0, .slice ko kn kc]

/-- Apply that tells a code alone, the shelf as it was. -/
def Tells (c : Int) (s : Shl) (s' : Shl) (v : Value) (o : Ov) (w : World) : Prop := Calls Tryz.prog 10 #[s.val v, o.val] w fun e w' =>
  (∃ ao cap, e = .returned (.tuple #[.agg #[.string s'.df, .bool s'.rdy, .int .i64 s'.mark, .slice ao s'.es.length cap], ansA c 0 none 0 0, .int .i64 0]) ∧ Hid (Sh.Lst w' (.slice ao s'.es.length cap) s'.es)) ∧ Adds w w'

theorem ans_inj {c c' n n' : Int} {k k' : Value} (h : Ending.returned (ansV c n k) = Ending.returned (ansV c' n' k')) : c = c' ∧ n = n' ∧ k = k' := by
  simp only [ansV, Ending.returned.injEq, Value.agg.injEq] at h
  simp at h
  exact h

theorem tells_of {s s' : Shl} {v : Value} {o : Ov} {w : World} {c : Int} (hAp : ApplyOk) (h1 : s.df.size ≤ 1100) (h2 : s.es.length ≤ 300) (hv : Sh.Lst w v s.es) (ho : o.Sl) (hm : MayS s) (k1 : o.kind ≠ 101) (k2 : o.kind ≠ 102)
    (h : ∀ s2 ans w', StepT w s o s2 ans w' → s2 = s' ∧ ans = ansV c 0 (.slice none 0 0)) : Tells c s s' v o w :=
  (hAp s v o w h1 h2 hv ho hm k1 k2).mono (by
    rintro e w' ⟨⟨s2, v2, ans, rfl, hl, hs⟩, hA⟩
    obtain ⟨rfl, rfl⟩ := h _ _ _ hs
    obtain ⟨ao, cap, rfl, h3, h4⟩ := hl
    exact ⟨⟨ao, cap, rfl, ao, cap, rfl, h3, h4⟩, hA⟩)

theorem tells_ready {s : Shl} {v : Value} {o : Ov} {w : World} (hAp : ApplyOk) (h1 : s.df.size ≤ 1100) (h2 : s.es.length ≤ 300) (hv : Sh.Lst w v s.es) (ho : o.Sl) (hm : MayS s) (hk : o.kind = 103) : Tells 0 s ⟨s.df, true, s.mark, s.es⟩ v o w :=
  tells_of hAp h1 h2 hv ho hm (by omega) (by omega) (fun s2 ans w' hs => by
    rcases hs with ⟨h, _⟩ | ⟨_, h, h'⟩ | ⟨_, _, h, _⟩
    · omega
    · exact ⟨h, h'⟩
    · omega)

theorem tells_arg {s : Shl} {v : Value} {o : Ov} {w : World} (hAp : ApplyOk) (h1 : s.df.size ≤ 1100) (h2 : s.es.length ≤ 300) (hv : Sh.Lst w v s.es) (ho : o.Sl) (hm : MayS s) (hk : o.kind = 104) (hq : ¬ (1 ≤ o.most ∧ o.most ≤ 24)) : Tells 1 s s v o w :=
  tells_of hAp h1 h2 hv ho hm (by omega) (by omega) (fun s2 ans w' hs => by
    rcases hs with ⟨_, h, hf⟩ | ⟨h, _⟩ | ⟨_, _, _, h, _⟩
    · rcases hf with ⟨_, h'⟩ | ⟨h', _⟩ | ⟨h', _⟩
      · exact ⟨h, by simpa using h'⟩
      · exact absurd h' hq
      · exact absurd h' hq
    · omega
    · omega)

theorem tells_wait {s : Shl} {v : Value} {o : Ov} {w : World} (hAp : ApplyOk) (h1 : s.df.size ≤ 1100) (h2 : s.es.length ≤ 300) (hv : Sh.Lst w v s.es) (ho : o.Sl) (hm : MayS s) (hk : o.kind = 104) (hq : 1 ≤ o.most ∧ o.most ≤ 24) (hr : s.rdy = false ∨ s.mark < o.n) : Tells 9 s s v o w :=
  tells_of hAp h1 h2 hv ho hm (by omega) (by omega) (fun s2 ans w' hs => by
    rcases hs with ⟨_, h, hf⟩ | ⟨h, _⟩ | ⟨_, _, _, h, _⟩
    · rcases hf with ⟨h', _⟩ | ⟨_, _, h'⟩ | ⟨_, ⟨h', h''⟩, _⟩
      · exact absurd hq h'
      · exact ⟨h, by simpa using h'⟩
      · rcases hr with hr | hr
        · rw [hr] at h'; cases h'
        · omega
    · omega
    · omega)

/-- Apply that tells entries. -/
theorem tells_keys {s : Shl} {v : Value} {o : Ov} {w : World} (hAp : ApplyOk) (h1 : s.df.size ≤ 1100) (h2 : s.es.length ≤ 300) (hv : Sh.Lst w v s.es) (ho : o.Sl) (hm : MayS s) (hk : o.kind = 104) (hq : 1 ≤ o.most ∧ o.most ≤ 24) (hr : s.rdy = true) (hn : o.n ≤ s.mark) :
    Calls Tryz.prog 10 #[s.val v, o.val] w fun e w' =>
      (∃ ao cap ko kn kc, e = .returned (.tuple #[.agg #[.string s.df, .bool s.rdy, .int .i64 s.mark, .slice ao s.es.length cap], ansA 0 s.mark ko kn kc, .int .i64 0]) ∧ Hid (Sh.Lst w' (.slice ao s.es.length cap) s.es) ∧ Hid (Sh.Lst w' (.slice ko kn kc) ((s.es.filter (Sh.isIn o.key o.to)).take o.most.toNat))) ∧ Adds w w' :=
  (hAp s v o w h1 h2 hv ho hm (by omega) (by omega)).mono (by
    rintro e w' ⟨⟨s2, v2, ans, rfl, hl, hs⟩, hA⟩
    rcases hs with ⟨_, rfl, hf⟩ | ⟨h, _⟩ | ⟨_, _, _, h, _⟩
    · rcases hf with ⟨h', _⟩ | ⟨_, h', _⟩ | ⟨_, _, kv, h', h''⟩
      · exact absurd hq h'
      · rcases h' with h' | h'
        · rw [hr] at h'; cases h'
        · omega
      · obtain rfl : ans = ansV 0 s2.mark kv := by simpa using h'
        have h3 := h''.lst
        obtain ⟨ko, kc, rfl, h5, h6⟩ := id h3
        obtain ⟨ao, cap, rfl, h7, h8⟩ := id hl
        exact ⟨⟨ao, cap, ko, _, kc, rfl, hl, h3⟩, hA⟩
    · omega
    · omega)

def sA (r : Bool) : Shl := ⟨⟨#[97]⟩, r, 0, []⟩

theorem sA_may (r : Bool) : MayS (sA r) := ⟨by simp [sA, parse_a, isOk], fun k h => by simp [sA] at h, by simp [sA, countB]⟩

def oA (k m : Int) : Ov := ⟨k, ⟨#[]⟩, ⟨#[]⟩, .slice none 0 0, .slice none 0 0, false, 0, m, .slice none 0 0, .slice none 0 0, .slice none 0 0⟩

theorem oA_sl (k m : Int) : (oA k m).Sl := ⟨⟨_, _, _, rfl⟩, ⟨_, _, _, rfl⟩, ⟨_, _, _, rfl⟩, ⟨_, _, _, rfl⟩, ⟨_, _, _, rfl⟩⟩

set_option maxRecDepth 20000 in
set_option maxHeartbeats 4000000 in
theorem awakeS_any (hAp : ApplyOk) (w : World) : Calls Tryz.prog 9 #[] w fun e w' => e = .returned (.bool true) ∧ Adds w w' := by
  have k0 := fun W => new_any ⟨#[97]⟩ W (by decide)
  unfold GaveN at k0
  rw [a_list, parse_a] at k0
  have k1 := fun (W : World) (ao : Option Addr) (cap : Nat) (h : Sh.Lst W (.slice ao 0 cap) []) => tells_wait (s := sA false) (v := .slice ao 0 cap) (o := oA 104 5) (w := W) hAp (by decide) (by simp [sA]) h (oA_sl _ _) (sA_may _) rfl (by simp [oA]) (.inl rfl)
  have k2 := fun (W : World) (ao : Option Addr) (cap : Nat) (h : Sh.Lst W (.slice ao 0 cap) []) => tells_ready (s := sA false) (v := .slice ao 0 cap) (o := oA 103 0) (w := W) hAp (by decide) (by simp [sA]) h (oA_sl _ _) (sA_may _) rfl
  have k3 := fun (W : World) (ao : Option Addr) (cap : Nat) (h : Sh.Lst W (.slice ao 0 cap) []) => tells_keys (s := sA true) (v := .slice ao 0 cap) (o := oA 104 5) (w := W) hAp (by decide) (by simp [sA]) h (oA_sl _ _) (sA_may _) rfl (by simp [oA]) rfl (by simp [oA, sA])
  simp only [Tells, sA, oA, Shl.val, Ov.val, List.length_nil] at k1 k2 k3
  have hn : ∀ W : World, Sh.Lst W (.slice none 0 0) [] := fun W => ⟨none, 0, rfl, Nat.le_refl _, .inl rfl⟩
  have hx : ∀ (W W' : World) (ao : Option Addr) (cap : Nat), Sh.Lst W (.slice ao 0 cap) [] → Sh.Lst W' (.slice ao 0 cap) [] := fun W W' ao cap h => by
    obtain ⟨a, c, e, _, _⟩ := h
    exact ⟨a, c, e, Nat.zero_le _, .inl rfl⟩
  have HX : Hid _ := hx
  clear hx
  go_enter Tryz.func9, Tryz.ntmps9
  go_wp2_with (go_at_call 17; refine (k0 _).mono ?_; rintro e w1 ⟨rfl, os1, n1, rfl⟩)
  refine (k1 _ _ _ (hn _)).mono ?_
  rintro e w2 ⟨⟨ao2, cap2, rfl, h2⟩, os2, n2, rfl⟩
  clear k0 k1 hn
  go_wp2_with fail
  refine (k2 _ _ _ (HX.out _ _ _ _ h2.out)).mono ?_
  rintro e w3 ⟨⟨ao3, cap3, rfl, h3⟩, os3, n3, rfl⟩
  clear k2
  go_wp2_with fail
  refine (k3 _ _ _ (HX.out _ _ _ _ h3.out)).mono ?_
  rintro e w4 ⟨⟨ao4, cap4, ko, kn, kc, rfl, _, _⟩, os4, n4, rfl⟩
  clear k3
  go_wp2
  go_ret
  exact ⟨rfl, (by repeat (first | with_reducible exact Adds.refl _ | with_reducible refine Adds.alloc ?_ _ | with_reducible refine Adds.more ?_ _ _ | with_reducible refine Adds.drew ?_ | with_reducible refine Adds.drewN ?_ _))⟩

end Go.Proofs.YtiacnmcdfpmcfaaGreatDoor
