/-
  The reference's Ack, by contract.
-/
import Derived.Test.YtpjhohmbifpogaaRcl
namespace Go.Proofs.Ytpjhohmbifpogaa
open Go.RowKit
attribute [local go_sem] cell?_more frozen?_more setCell_more size_more tape_more drew_more drewN_more more_drew more_drewN one_out plus_out plus_end lt_one le_p2 le_p3 le_p4 le_p5 le_p6 le_p7 le_p8 le_p9 le_p10 le_p11 le_p12 le_p13 le_p14 le_p15 le_p16 le_p17 le_p18 le_p19 le_p20 le_p21 le_p22 le_p23 le_p24 le_q0 le_q1 lt_q1 le_q2 lt_q2 le_q3 lt_q3 le_q4 lt_q4 le_q5 lt_q5 le_q6 lt_q6 le_q7 lt_q7 le_q8 lt_q8 le_q9 lt_q9 le_q10 lt_q10 le_q11 lt_q11 le_q12 lt_q12 le_q13 lt_q13 le_q14 lt_q14 le_q15 lt_q15 le_q16 lt_q16 le_q17 lt_q17 le_q18 lt_q18 le_q19 lt_q19 le_q20 lt_q20 le_q21 lt_q21 le_q22 lt_q22 le_q23 lt_q23 le_q24 lt_q24

theorem row_store {X : World} {os2 : Array Obj} {n2 B : Nat} {u : Option Addr} {n uc : Nat} {ss : List Sb} (hS : RowS B (.slice u n uc) ss (more X os2 n2)) (hn : ss.length = n) (hB : B ≤ (more X os2 n2).heap.size) (hXB : X.heap.size ≤ B) (i : Nat) (hi : i < ss.length) (p : Int) :
    ∃ gb os4, u = some ⟨gb, 0, none⟩ ∧ X.heap.size ≤ gb ∧ gb < X.heap.size + os2.size ∧ (more X os2 n2).cell? ⟨gb, i * 2 + 1, none⟩ = some (.int .i64 ss[i].pos) ∧ (more X os2 n2).frozen? ⟨gb, i * 2 + 1, none⟩ = false ∧ (more X os2 n2).setCell ⟨gb, i * 2 + 1, none⟩ (.int .i64 p) = more X os4 n2 ∧ os4.size = os2.size ∧
      Hid (RowS B (.slice u n uc) (ss.set i ⟨ss[i].name, p⟩) (more X os4 n2)) := by
  have hO : OwnH B (.slice none 0 0) [] (more X os2 n2) (more X os2 n2) := ⟨World.ownsRow_nil _ _ _ _, Below.refl _ _, hB, fun r h => by cases h⟩
  obtain ⟨gb, os4, h1, h2, h3, h4, h5, h6, h7, h8⟩ := own_store hO ⟨by subst hn; exact hS, Below.refl _ _, hB⟩ hn hXB i hi p
  exact ⟨gb, os4, h1, h2, h3, h4, h5, h6, h7, h8.out.2.1⟩

set_option maxHeartbeats 2000000 in
set_option maxRecDepth 20000 in
theorem refAck_none (base total pos : Int) (s t : Value) (sb : List Sb) (name : ByteArray) (w : World) (hs : ∃ so n sc, s = .slice so n sc) (ht : LstS w t sb) (h8 : sb.length ≤ 1000) (hc : ∀ i j (hi : i < sb.length) (hj : j < sb.length), i < j → lessP sb[i].name sb[j].name = true) (hn : hasAt name sb = false) :
    Calls Try.prog 23 #[.agg #[.int .i64 base, .int .i64 total, s, t], .string name, .int .i64 pos] w fun e w' => e = .returned (.tuple #[.agg #[.int .i64 base, .int .i64 total, s, t], .int .i64 4]) ∧ Adds w w' := by
  have kA := fun w' (hA : Adds w w') => refAt_any base total s t sb name w' (ht.adds hA) h8 hc
  rw [show atI name sb = -1 by simp [atI, hn]] at kA
  obtain ⟨so, n, sc, rfl⟩ := hs
  obtain ⟨uo, uc, rfl, _, _⟩ := ht
  clear hc hn
  go_enter Try.func23, Try.ntmps23
  go_wp2_with (first
    | (go_at_call 44; refine (kA _ (by repeat (first | with_reducible exact Adds.refl _ | with_reducible refine Adds.alloc ?_ _ | with_reducible refine Adds.more ?_ _ _ | with_reducible refine Adds.drew ?_ | with_reducible refine Adds.drewN ?_ _))).mono ?_; rintro e w1 ⟨rfl, os1, n1, rfl⟩))
  exact bodyPost_ret (v := .tuple #[.agg #[.int .i64 base, .int .i64 total, .slice so n sc, .slice uo sb.length uc], .int .i64 4]) (by simp [results, Try.results23, go_sem]) rfl ⟨rfl, (by repeat (first | with_reducible exact Adds.refl _ | with_reducible refine Adds.alloc ?_ _ | with_reducible refine Adds.more ?_ _ _ | with_reducible refine Adds.drew ?_ | with_reducible refine Adds.drewN ?_ _))⟩

set_option maxHeartbeats 2000000 in
set_option maxRecDepth 20000 in
theorem refAck_err (base total pos c : Int) (s t : Value) (sb : List Sb) (name : ByteArray) (w : World) (hs : ∃ so n sc, s = .slice so n sc) (ht : LstS w t sb) (h8 : sb.length ≤ 1000) (hc : ∀ i j (hi : i < sb.length) (hj : j < sb.length), i < j → lessP sb[i].name sb[j].name = true) (at_ : Nat) (hcc : cutAt name sb = at_) (hlt : at_ < sb.length) (hn : hasAt name sb = true) (he : (total < pos ∧ c = 1) ∨ (¬ total < pos ∧ pos < sb[at_].pos ∧ c = 8)) :
    Calls Try.prog 23 #[.agg #[.int .i64 base, .int .i64 total, s, t], .string name, .int .i64 pos] w fun e w' => e = .returned (.tuple #[.agg #[.int .i64 base, .int .i64 total, s, t], .int .i64 c]) ∧ Adds w w' := by
  have kA := fun w' (hA : Adds w w') => refAt_any base total s t sb name w' (ht.adds hA) h8 hc
  rw [show atI name sb = (at_ : Int) by simp [atI, hn, hcc]] at kA
  obtain ⟨so, n, sc, rfl⟩ := hs
  have hnil : sb ≠ [] := by rintro rfl; simp at hlt
  obtain ⟨uo, uc, rfl, huc, hul | ⟨b, off, rfl, hb, hl⟩⟩ := ht
  · exact absurd hul hnil
  have hq0 : ¬ (at_ : Int) < 0 := by omega
  have hlt' : (at_ : Int) < (sb.length : Int) := by omega
  obtain ⟨c0, c1⟩ := hl at_ hlt
  clear hc hn hcc hnil hl
  generalize sb[at_].pos = pp at *
  generalize sb[at_].name = nm at *
  rcases he with ⟨h1, rfl⟩ | ⟨h1, h2, rfl⟩
  all_goals
    go_enter Try.func23, Try.ntmps23
    go_wp2_with (first
      | (go_at_call 44; refine (kA _ (by repeat (first | with_reducible exact Adds.refl _ | with_reducible refine Adds.alloc ?_ _ | with_reducible refine Adds.more ?_ _ _ | with_reducible refine Adds.drew ?_ | with_reducible refine Adds.drewN ?_ _))).mono ?_; rintro e w1 ⟨rfl, os1, n1, rfl⟩))
    try go_quiet (fail)
    try go_wp2
  · exact bodyPost_ret (v := .tuple #[.agg #[.int .i64 base, .int .i64 total, .slice so n sc, .slice (some ⟨b, off, none⟩) sb.length uc], .int .i64 1]) (by simp [results, Try.results23, go_sem]) rfl ⟨rfl, (by repeat (first | with_reducible exact Adds.refl _ | with_reducible refine Adds.alloc ?_ _ | with_reducible refine Adds.more ?_ _ _ | with_reducible refine Adds.drew ?_ | with_reducible refine Adds.drewN ?_ _))⟩
  · exact bodyPost_ret (v := .tuple #[.agg #[.int .i64 base, .int .i64 total, .slice so n sc, .slice (some ⟨b, off, none⟩) sb.length uc], .int .i64 8]) (by simp [results, Try.results23, go_sem]) rfl ⟨rfl, (by repeat (first | with_reducible exact Adds.refl _ | with_reducible refine Adds.alloc ?_ _ | with_reducible refine Adds.more ?_ _ _ | with_reducible refine Adds.drew ?_ | with_reducible refine Adds.drewN ?_ _))⟩

set_option maxHeartbeats 4000000 in
set_option maxRecDepth 20000 in
theorem refAck_ok (base total pos : Int) (s t : Value) (sb : List Sb) (name : ByteArray) (w : World) (hs : ∃ so n sc, s = .slice so n sc) (ht : LstS w t sb) (h8 : sb.length ≤ 1000) (hc : ∀ i j (hi : i < sb.length) (hj : j < sb.length), i < j → lessP sb[i].name sb[j].name = true) (at_ : Nat) (hcc : cutAt name sb = at_) (hlt : at_ < sb.length) (hn : hasAt name sb = true) (h1 : ¬ total < pos) (h2 : ¬ pos < sb[at_].pos) :
    Calls Try.prog 23 #[.agg #[.int .i64 base, .int .i64 total, s, t], .string name, .int .i64 pos] w fun e w' => (∃ uo uc, e = .returned (.tuple #[.agg #[.int .i64 base, .int .i64 total, s, .slice uo sb.length uc], .int .i64 0]) ∧ Hid (LstS w' (.slice uo sb.length uc) (sb.set at_ ⟨sb[at_].name, pos⟩))) ∧ Adds w w' := by
  have kA := fun w' (hA : Adds w w') => refAt_any base total s t sb name w' (ht.adds hA) h8 hc
  rw [show atI name sb = (at_ : Int) by simp [atI, hn, hcc]] at kA
  obtain ⟨so, n, sc, rfl⟩ := hs
  have hnil : sb ≠ [] := by rintro rfl; simp at hlt
  have ht0 := ht
  obtain ⟨uo, uc, rfl, huc, hul | ⟨b, off, rfl, hb, hl⟩⟩ := ht
  · exact absurd hul hnil
  have HT : Hid (LstS w (.slice (some ⟨b, off, none⟩) sb.length uc) sb) := ht0
  have hq0 : ¬ (at_ : Int) < 0 := by omega
  have hlt' : (at_ : Int) < (sb.length : Int) := by omega
  obtain ⟨c0, c1⟩ := hl at_ hlt
  have HSet : Hid (∀ X os2 n2 B u n uc, RowS B (.slice u n uc) sb (more X os2 n2) → sb.length = n → B ≤ (more X os2 n2).heap.size → X.heap.size ≤ B → ∃ gb os4, u = some ⟨gb, 0, none⟩ ∧ X.heap.size ≤ gb ∧ gb < X.heap.size + os2.size ∧ (more X os2 n2).cell? ⟨gb, at_ * 2 + 1, none⟩ = some (.int .i64 sb[at_].pos) ∧ (more X os2 n2).frozen? ⟨gb, at_ * 2 + 1, none⟩ = false ∧ (more X os2 n2).setCell ⟨gb, at_ * 2 + 1, none⟩ (.int .i64 pos) = more X os4 n2 ∧ os4.size = os2.size ∧ Hid (RowS B (.slice u n uc) (sb.set at_ ⟨sb[at_].name, pos⟩) (more X os4 n2))) :=
    fun X os2 n2 B u n uc hS hn hB hX => row_store hS hn hB hX at_ hlt pos
  generalize sb[at_].pos = pp at *
  generalize sb.set at_ ⟨sb[at_].name, pos⟩ = ns at *
  generalize sb[at_].name = nm at *
  clear hc hn hcc hnil hl ht0
  go_enter Try.func23, Try.ntmps23
  go_wp2_with (first
    | (go_at_call 44; refine (kA _ (by repeat (first | with_reducible exact Adds.refl _ | with_reducible refine Adds.alloc ?_ _ | with_reducible refine Adds.more ?_ _ _ | with_reducible refine Adds.drew ?_ | with_reducible refine Adds.drewN ?_ _))).mono ?_; rintro e w1 ⟨rfl, os1, n1, rfl⟩)
    | (at_builtin; refine rowS_first (Y := ((w.alloc (Obj.cells #[.int .i64 base, .int .i64 total, .slice so n sc, .slice (some ⟨b, off, none⟩) sb.length uc] 25)).alloc (Obj.cells #[.int .i64 0, .int .i64 0, .slice none 0 0, .slice none 0 0] 25))) rfl (.tmp 30) (.tmp 32) rfl (RowS.emptyAt _ _ (by simp [go_sem])) rfl (LstS.adds HT.out (by repeat (first | with_reducible exact Adds.refl _ | with_reducible refine Adds.alloc ?_ _ | with_reducible refine Adds.more ?_ _ _ | with_reducible refine Adds.drew ?_ | with_reducible refine Adds.drewN ?_ _))) rfl rfl (by repeat (first | with_reducible exact Adds.refl _ | with_reducible refine Adds.alloc ?_ _ | with_reducible refine Adds.more ?_ _ _ | with_reducible refine Adds.drew ?_ | with_reducible refine Adds.drewN ?_ _)) (by simp [go_sem] <;> omega) (by simp [go_sem] <;> omega) (by omega) ?_; rintro v2 c2 os2 d2 H2; obtain ⟨gb, os4, rfl, hg1, hg2, x1, xf, xs, hz, H4⟩ := HSet.out _ _ _ _ _ _ _ H2.out.1 rfl H2.out.2 (by simp [go_sem] <;> omega); clear hg1 hg2))
  try go_quiet (fail)
  try go_wp2
  refine bodyPost_ret (v := .tuple #[.agg #[.int .i64 base, .int .i64 total, .slice so n sc, .slice (some ⟨gb, 0, none⟩) sb.length c2], .int .i64 0]) (by simp [results, Try.results23, go_sem]) rfl ⟨⟨some ⟨gb, 0, none⟩, c2, rfl, ?_⟩, (by repeat (first | with_reducible exact Adds.refl _ | with_reducible refine Adds.alloc ?_ _ | with_reducible refine Adds.more ?_ _ _ | with_reducible refine Adds.drew ?_ | with_reducible refine Adds.drewN ?_ _))⟩
  exact (RowS.far H4.out (by repeat (first | with_reducible exact Far.refl _ _ | with_reducible refine Far.mores ?_ (by simp [go_sem]) _ _ _ | with_reducible refine Far.allocs ?_ (by simp [go_sem]) _ | with_reducible refine Far.low ?_ (by simp [go_sem]) (by simp [go_sem] <;> omega) _ _ | with_reducible refine Far.more ?_ _ _ | with_reducible refine Far.alloc ?_ _))).lst

end Go.Proofs.Ytpjhohmbifpogaa
