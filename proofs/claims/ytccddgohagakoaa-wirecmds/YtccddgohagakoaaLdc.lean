/-
  The reader of cells, by contract: a cell; Decode.
-/
import Derived.Test.YtccddgohagakoaaLde
namespace Go.Proofs.Ytccddgohagakoaa
open Go.RowKit
attribute [local go_sem] cell?_more frozen?_more setCell_more size_more tape_more drew_more drewN_more more_drew more_drewN one_out plus_out plus_end lt_one le_p2 le_p3 le_p4 le_p5 le_p6 le_p7 le_p8 le_p9 le_p10 le_p11 le_p12 le_p13 le_p14 le_p15 le_p16 le_p17 le_p18 le_p19 le_p20 le_p21 le_p22 le_p23 le_p24 le_q0 le_q1 lt_q1 le_q2 lt_q2 le_q3 lt_q3 le_q4 lt_q4 le_q5 lt_q5 le_q6 lt_q6 le_q7 lt_q7 le_q8 lt_q8 le_q9 lt_q9 le_q10 lt_q10 le_q11 lt_q11 le_q12 lt_q12 le_q13 lt_q13 le_q14 lt_q14 le_q15 lt_q15 le_q16 lt_q16 le_q17 lt_q17 le_q18 lt_q18 le_q19 lt_q19 le_q20 lt_q20 le_q21 lt_q21 le_q22 lt_q22 le_q23 lt_q23 le_q24 lt_q24

/-- A list that was read is a cell. -/
def toC (o : Option (List T × Nat × List UInt8)) : Option (T × Nat × List UInt8) := match o with
  | none => none
  | some (ts, c, r) => some (.mk 3 0 ⟨#[]⟩ ts, c, r)

theorem gaveC_no {P d : Nat} {w w' : World} {k n : Int} {s : ByteArray} {a : Option Addr} {x y : Nat} (hg : w.grownBy w' (some P)) : GaveC P none d w (.returned (.tuple #[.agg #[.int .i64 k, .int .i64 n, .string s, .slice a x y], .bool false])) w' := ⟨⟨k, n, s, a, x, y, rfl⟩, hg⟩

/-- The reader behind its first byte. -/
theorem Rd.one {P c cap : Nat} {w : World} {k : UInt8} {r : List UInt8} {ao : Option Addr} (hP : P < w.heap.size) (hh : w.heap[P]? = some (.cells #[.slice ao (k :: r).length cap, .int .i64 (c : Int)] 88 (0, 0))) (hB : Byt w (.slice ao (k :: r).length cap) (k :: r)) (ao' : Option Addr)
    (hao : r ≠ [] → ao' = ao.map (·.add 1)) {w' : World} (hA : Adds ((w.setCell ⟨P, 1, none⟩ (.int .i64 ((c : Int) + 1))).setCell ⟨P, 0, none⟩ (.slice ao' r.length (cap - 1))) w') : Rd P w' r (c + 1) ∧ w.grownBy w' (some P) := by
  obtain ⟨ao2, cap2, he, hcap, ho⟩ := hB.open
  simp only [Value.slice.injEq] at he
  obtain ⟨rfl, _, rfl⟩ := he
  have h1 := heap_setCell_same w P 1 _ 88 (.int .i64 ((c : Int) + 1)) hh
  have h1' : (w.setCell ⟨P, 1, none⟩ (.int .i64 ((c : Int) + 1))).heap[P]? = some (.cells #[.slice ao (k :: r).length cap, .int .i64 (((c + 1 : Nat)) : Int)] 88 (0, 0)) := by
    rw [h1]
    simp
  have hO : Oth P w (w.setCell ⟨P, 1, none⟩ (.int .i64 ((c : Int) + 1))) := Oth.set _ _ _ _
  have ho' : k :: r = [] ∨ ∃ b off, ao = some ⟨b, off, none⟩ ∧ b < (w.setCell ⟨P, 1, none⟩ (.int .i64 ((c : Int) + 1))).heap.size ∧ LiesB (w.setCell ⟨P, 1, none⟩ (.int .i64 ((c : Int) + 1))) b off (k :: r) := by
    rcases ho with h | ⟨b, off, rfl, hb, hl⟩
    · exact .inl h
    · exact .inr ⟨b, off, rfl, by rw [hO.1]; exact hb, lies_set hl (box_not hh (fun n => by simp) hl (by simp))⟩
  have hr := Rd.rests (k := 1) (w := w.setCell ⟨P, 1, none⟩ (.int .i64 ((c : Int) + 1))) (w' := w') (by rw [hO.1]; exact hP) h1' ho' (by simp) hcap ao' (fun hlt => hao (fun e => by subst e; simp at hlt)) (by simpa using hA)
  have hg1 : w.grownBy (w.setCell ⟨P, 1, none⟩ (.int .i64 ((c : Int) + 1))) (some P) := ⟨rfl, rfl, rfl, by rw [hO.1]; exact Nat.le_refl _, fun j _ hj => hO.2 j (fun e => hj (by rw [e]))⟩
  exact ⟨by simpa using hr.1, grown_tr hg1 hr.2⟩

set_option maxRecDepth 20000 in
set_option maxHeartbeats 4000000 in
theorem cell_none (lv : Nat) (P : Nat) (l : List UInt8) (c level : Nat) (w : World) (h : Rd P w l c) (hP : P < w.heap.size) (hno : 12 < level ∨ c = 4096 ∨ l = []) (hc : c ≤ 4096) :
    Calls Try.prog 45 #[.pointer (some ⟨P, 0, none⟩), .int .i64 (level : Int)] w (GaveC P none lv w) := by
  obtain ⟨v, hq, hB⟩ := h
  obtain ⟨ao, cap, rfl, _, _⟩ := hB.open
  have q0 : w.cell? ⟨P, 0, none⟩ = some (.slice ao l.length cap) := by simp [World.cell?, hq]
  have q1 : w.cell? ⟨P, 1, none⟩ = some (.int .i64 (c : Int)) := by simp [World.cell?, hq]
  have hg : w.grownBy w (some P) := ⟨rfl, rfl, rfl, Nat.le_refl _, fun _ _ _ => rfl⟩
  clear hq hB
  by_cases h1 : 12 < level
  · have h1' : (12 : Int) < (level : Int) := by omega
    go_enter Try.func45, Try.ntmps45
    go_wp2
    refine bodyPost_ret (v := .tuple #[.agg #[.int .i64 0, .int .i64 0, .string ⟨#[]⟩, .slice none 0 0], .bool false]) (by simp [results, Try.results45, go_sem]) rfl (gaveC_no (grownBy_adds hg (by repeat (first | with_reducible exact Adds.refl _ | with_reducible refine Adds.alloc ?_ _ | with_reducible refine Adds.more ?_ _ _ | with_reducible refine Adds.drew ?_ | with_reducible refine Adds.drewN ?_ _))))
  have h1' : ¬ (12 : Int) < (level : Int) := by omega
  by_cases h2 : c = 4096
  · subst h2
    go_enter Try.func45, Try.ntmps45
    go_wp2
    refine bodyPost_ret (v := .tuple #[.agg #[.int .i64 0, .int .i64 0, .string ⟨#[]⟩, .slice none 0 0], .bool false]) (by simp [results, Try.results45, go_sem]) rfl (gaveC_no (grownBy_adds hg (by repeat (first | with_reducible exact Adds.refl _ | with_reducible refine Adds.alloc ?_ _ | with_reducible refine Adds.more ?_ _ _ | with_reducible refine Adds.drew ?_ | with_reducible refine Adds.drewN ?_ _))))
  have h2' : ((c : Int) == 4096) = false := by simp; omega
  have h3 : l = [] := by
    rcases hno with h | h | h
    · exact absurd h h1
    · exact absurd h h2
    · exact h
  subst h3
  simp only [List.length_nil] at q0
  go_enter Try.func45, Try.ntmps45
  go_wp2
  refine bodyPost_ret (v := .tuple #[.agg #[.int .i64 0, .int .i64 0, .string ⟨#[]⟩, .slice none 0 0], .bool false]) (by simp [results, Try.results45, go_sem]) rfl (gaveC_no (grownBy_adds hg (by repeat (first | with_reducible exact Adds.refl _ | with_reducible refine Adds.alloc ?_ _ | with_reducible refine Adds.more ?_ _ _ | with_reducible refine Adds.drew ?_ | with_reducible refine Adds.drewN ?_ _))))

theorem at_rb {X : World} {g : Nat} (h : X.heap.size = g) : (X.alloc cBox).heap[g]? = some cBox := by
  subst h
  exact new_block _ _

abbrev putC (w : World) (g : Nat) (t : T) (s : Value) : World := (((w.setCell ⟨g, 0, none⟩ (.int .i64 t.kind)).setCell ⟨g, 1, none⟩ (.int .i64 t.num)).setCell ⟨g, 2, none⟩ (.string t.text)).setCell ⟨g, 3, none⟩ s

/-- What reading a cell leaves, behind the results' box. -/
theorem gaveC_end {P c' d n cap : Nat} {w w2 F : World} {ao : Option Addr} {t : T} {r : List UInt8} (hw : w.grownBy w2 (some P)) (hP : P < w.heap.size) (hbox : w2.heap[w.heap.size]? = some cBox) (hR : Rd P w2 r c') (hT : Tr (fun b => w.heap.size < b) d w2 (.slice ao n cap) t.list)
    (hF : Adds (putC w2 w.heap.size t (.slice ao n cap)) F) : GaveC P (some (t, c', r)) d w (.returned (.tuple #[.agg #[.int .i64 t.kind, .int .i64 t.num, .string t.text, .slice ao n cap], .bool true])) F := by
  have hO : Oth w.heap.size w2 (putC w2 w.heap.size t (.slice ao n cap)) := (((Oth.set _ _ _ _).trans (Oth.set _ _ _ _)).trans (Oth.set _ _ _ _)).trans (Oth.set _ _ _ _)
  refine ⟨⟨_, _, _, rfl, ?_⟩, (hR.stay hO (cbox_no hbox) (by omega)).adds ?_ hF, grownBy_adds (grown_set (grown_set (grown_set (grown_set hw (Nat.le_refl _)) (Nat.le_refl _)) (Nat.le_refl _)) (Nat.le_refl _)) hF⟩
  · exact (hT.frame (ok' := fun b => w.heap.size ≤ b) (by rw [hO.1]; omega) (fun b hb _ => hO.2 b (by omega)) (fun b hb => by omega)).adds hF
  · have := hw.size
    rw [hO.1]
    omega

theorem gaveC_bad {P d n cap : Nat} {w w2 F : World} {ao : Option Addr} {t : T} (hw : w.grownBy w2 (some P)) (hF : Adds (putC w2 w.heap.size t (.slice ao n cap)) F) : GaveC P none d w (.returned (.tuple #[.agg #[.int .i64 t.kind, .int .i64 t.num, .string t.text, .slice ao n cap], .bool false])) F :=
  gaveC_no (grownBy_adds (grown_set (grown_set (grown_set (grown_set hw (Nat.le_refl _)) (Nat.le_refl _)) (Nat.le_refl _)) (Nat.le_refl _)) hF)

set_option maxRecDepth 20000 in
set_option maxHeartbeats 4000000 in
theorem cell_step (lv : Nat) (ih : CellOk lv) (P : Nat) (k : UInt8) (r : List UInt8) (c level : Nat) (w : World) (hlv : level + (lv + 1) = 13) (h : Rd P w (k :: r) c) (hP : P < w.heap.size) (hc : c < 4096) (hL : (k :: r).length ≤ 65536) :
    Calls Try.prog 45 #[.pointer (some ⟨P, 0, none⟩), .int .i64 (level : Int)] w (GaveC P (rdC (lv + 1) c (k :: r)) lv w) := by
  obtain ⟨v, hq, hB⟩ := h
  obtain ⟨ao, cap, rfl, hcap, hlo⟩ := hB.open
  have q0 : w.cell? ⟨P, 0, none⟩ = some (.slice ao (k :: r).length cap) := by simp [World.cell?, hq]
  have q1 : w.cell? ⟨P, 1, none⟩ = some (.int .i64 (c : Int)) := by simp [World.cell?, hq]
  have f0 : w.frozen? ⟨P, 0, none⟩ = false := by simp [World.frozen?, hq]
  have f1 : w.frozen? ⟨P, 1, none⟩ = false := by simp [World.frozen?, hq]
  have h1' : ¬ (12 : Int) < (level : Int) := by omega
  have h2' : ((c : Int) == 4096) = false := by simp; omega
  rcases hlo with hlo | ⟨b, off, rfl, hb, hl⟩
  · cases hlo
  have hc0 := hl 0 (by simp)
  simp only [List.getElem_cons_zero, Nat.add_zero] at hc0
  have hbP := box_not hq (fun n => by simp) hl (by simp)
  have HR1 := fun ao' hao w' hA => Rd.one (w' := w') hP hq hB ao' hao hA
  simp only [List.length_cons] at q0 hcap HR1
  have hL1 : r.length ≤ 65536 := by simp at hL; omega
  by_cases hck : cap = 1
  · subst hck
    obtain rfl : r = [] := List.length_eq_zero_iff.1 (by omega)
    have hrd : rdC (lv + 1) c [k] = none := by
      unfold rdC
      rw [if_neg (by omega)]
      rfl
    rw [hrd]
    have HR2 : Hid (∀ w', Adds ((w.setCell ⟨P, 1, none⟩ (.int .i64 ((c : Int) + 1))).setCell ⟨P, 0, none⟩ (.slice (some ⟨b, off, none⟩) 0 0)) w' → Rd P w' [] (c + 1) ∧ w.grownBy w' (some P)) := fun w' hA => HR1 (some ⟨b, off, none⟩) (fun h => absurd rfl h) w' hA
    have kC := fun W (hR : Rd P W [] (c + 1)) => (count_any P [] (c + 1) W hR (by simp)).mono (fun e w' h => h.2 rfl)
    clear HR1 hq hB hl ih hrd
    go_enter Try.func45, Try.ntmps45
    go_wp2_with (go_at_call 55; refine (kC _ (HR2.out _ (by repeat (first | with_reducible exact Adds.refl _ | with_reducible refine Adds.alloc ?_ _ | with_reducible refine Adds.more ?_ _ _ | with_reducible refine Adds.drew ?_ | with_reducible refine Adds.drewN ?_ _))).1).mono ?_; rintro e w1 ⟨rfl, rfl⟩)
    refine bodyPost_ret (v := .tuple #[.agg #[.int .i64 0, .int .i64 0, .string ⟨#[]⟩, .slice none 0 0], .bool false]) (by simp [results, Try.results45, go_sem]) rfl (gaveC_no (HR2.out _ (by repeat (first | with_reducible exact Adds.refl _ | with_reducible refine Adds.alloc ?_ _ | with_reducible refine Adds.more ?_ _ _ | with_reducible refine Adds.drew ?_ | with_reducible refine Adds.drewN ?_ _))).2)
  · have HR2 : Hid (∀ w', Adds ((w.setCell ⟨P, 1, none⟩ (.int .i64 ((c : Int) + 1))).setCell ⟨P, 0, none⟩ (.slice (some ⟨b, off + 1, none⟩) r.length (cap - 1))) w' → Rd P w' r (c + 1) ∧ w.grownBy w' (some P)) := fun w' hA => HR1 (some ⟨b, off + 1, none⟩) (fun _ => by simp [Addr.add]) w' hA
    cases hcn : cntR 8 true r with
    | none =>
      have hrd : rdC (lv + 1) c (k :: r) = none := by
        unfold rdC
        rw [if_neg (by omega)]
        simp only [hcn]
      rw [hrd]
      have kC := fun W (hR : Rd P W r (c + 1)) => (count_any P r (c + 1) W hR hL1).mono (fun e w' h => h.2 hcn)
      clear HR1 hq hB hl ih hrd hcn
      go_enter Try.func45, Try.ntmps45
      go_wp2_with (go_at_call 55; refine (kC _ (HR2.out _ (by repeat (first | with_reducible exact Adds.refl _ | with_reducible refine Adds.alloc ?_ _ | with_reducible refine Adds.more ?_ _ _ | with_reducible refine Adds.drew ?_ | with_reducible refine Adds.drewN ?_ _))).1).mono ?_; rintro e w1 ⟨rfl, rfl⟩)
      refine bodyPost_ret (v := .tuple #[.agg #[.int .i64 0, .int .i64 0, .string ⟨#[]⟩, .slice none 0 0], .bool false]) (by simp [results, Try.results45, go_sem]) rfl (gaveC_no (HR2.out _ (by repeat (first | with_reducible exact Adds.refl _ | with_reducible refine Adds.alloc ?_ _ | with_reducible refine Adds.more ?_ _ _ | with_reducible refine Adds.drew ?_ | with_reducible refine Adds.drewN ?_ _))).2)
    | some q =>
      obtain ⟨n, r1⟩ := q
      have kC := fun W (hR : Rd P W r (c + 1)) => (count_any P r (c + 1) W hR hL1).mono (fun e w' h => h.1 n r1 hcn)
      obtain ⟨hs1, _, hn8⟩ := cntR_sound 8 true r n r1 hcn
      have hL2 : r1.length ≤ 65536 := by
        rw [hs1] at hL1
        simp at hL1
        omega
      have hn9 : n ≤ 9223372036854775807 := by omega
      have hkw : wrap64 (k.toNat : Int) = (k.toNat : Int) := by
        have := k.toNat_lt
        unfold wrap64
        omega
      have hrd : rdC (lv + 1) c (k :: r) = (if k.toNat = 1 then (if n ≤ 18014398509481984 then some (.mk 1 (unzig n) ⟨#[]⟩ [], c + 1, r1) else none)
          else if k.toNat = 2 then (if n ≤ r1.length then some (.mk 2 0 ⟨(r1.take n).toArray⟩ [], c + 1, r1.drop n) else none)
          else if k.toNat = 3 then (if n ≤ 4096 - (c + 1) then (match rdN (rdC lv) n (c + 1) r1 with
            | none => none
            | some (ts, c2, l2) => some (.mk 3 0 ⟨#[]⟩ ts, c2, l2)) else none) else none) := by
        conv => lhs; unfold rdC
        rw [if_neg (by omega)]
        simp only [hcn]
        rfl
      rw [hrd]
      clear HR1 hq hB hl hrd hcn hs1 hn8
      by_cases k1 : k.toNat = 1
      · rw [if_pos k1]
        rw [k1] at hkw hc0
        have kN := fun W => numOf_any n W hn9
        have kM := fun W => countOf_max W
        have kU := fun m W => cellNum_any m W
        by_cases hm : n ≤ 18014398509481984
        · rw [if_pos hm]
          have hm' : (n : Int) ≤ 18014398509481984 := by omega
          go_enter Try.func45, Try.ntmps45
          go_wp2_with (first
            | (go_at_call 55; refine (kC _ (HR2.out _ (by repeat (first | with_reducible exact Adds.refl _ | with_reducible refine Adds.alloc ?_ _ | with_reducible refine Adds.more ?_ _ _ | with_reducible refine Adds.drew ?_ | with_reducible refine Adds.drewN ?_ _))).1).mono ?_; rintro e w1 ⟨rfl, hR3, hg3⟩; have hG3 : w.grownBy w1 (some P) := grown_tr (HR2.out _ (by repeat (first | with_reducible exact Adds.refl _ | with_reducible refine Adds.alloc ?_ _ | with_reducible refine Adds.more ?_ _ _ | with_reducible refine Adds.drew ?_ | with_reducible refine Adds.drewN ?_ _))).2 hg3; obtain ⟨hh3, hl3, ⟨x0, x1, x2, x3⟩, u0, u1, u2, u3⟩ := cbox_kept hg3 (at_rb (g := w.heap.size) (by simp)) (by omega); have HR3 : Hid _ := hR3; clear hg3 hR3 kC HR2)
            | (go_at_call 56; refine (kN _).mono ?_; rintro e w2 ⟨rfl, rfl⟩)
            | (go_at_call 19; refine (kU _ _).mono ?_; rintro e w3 ⟨rfl, os3, n3, rfl⟩)
            | (go_at_call 53; refine (kM _).mono ?_; rintro e w4 ⟨rfl, rfl⟩))
          refine bodyPost_ret (v := .tuple #[.agg #[.int .i64 1, .int .i64 (unzig n), .string ⟨#[]⟩, .slice none 0 0], .bool true]) (by simp [results, Try.results45, go_sem, hl3, x0, x1, x2, x3]) rfl ?_
          exact gaveC_end (t := .mk 1 (unzig n) ⟨#[]⟩ []) hG3 hP hh3 HR3.out (Tr.nil _ _ _) ⟨os3, n3, rfl⟩
        · rw [if_neg hm]
          have hm' : ¬ (n : Int) ≤ 18014398509481984 := by omega
          go_enter Try.func45, Try.ntmps45
          go_wp2_with (first
            | (go_at_call 55; refine (kC _ (HR2.out _ (by repeat (first | with_reducible exact Adds.refl _ | with_reducible refine Adds.alloc ?_ _ | with_reducible refine Adds.more ?_ _ _ | with_reducible refine Adds.drew ?_ | with_reducible refine Adds.drewN ?_ _))).1).mono ?_; rintro e w1 ⟨rfl, hR3, hg3⟩; have hG3 : w.grownBy w1 (some P) := grown_tr (HR2.out _ (by repeat (first | with_reducible exact Adds.refl _ | with_reducible refine Adds.alloc ?_ _ | with_reducible refine Adds.more ?_ _ _ | with_reducible refine Adds.drew ?_ | with_reducible refine Adds.drewN ?_ _))).2 hg3; obtain ⟨hh3, hl3, ⟨x0, x1, x2, x3⟩, u0, u1, u2, u3⟩ := cbox_kept hg3 (at_rb (g := w.heap.size) (by simp)) (by omega); have HR3 : Hid _ := hR3; clear hg3 hR3 kC HR2)
            | (go_at_call 56; refine (kN _).mono ?_; rintro e w2 ⟨rfl, rfl⟩)
            | (go_at_call 19; refine (kU _ _).mono ?_; rintro e w3 ⟨rfl, os3, n3, rfl⟩)
            | (go_at_call 53; refine (kM _).mono ?_; rintro e w4 ⟨rfl, rfl⟩))
          refine bodyPost_ret (v := .tuple #[.agg #[.int .i64 1, .int .i64 (unzig n), .string ⟨#[]⟩, .slice none 0 0], .bool false]) (by simp [results, Try.results45, go_sem, hl3, x0, x1, x2, x3]; omega) rfl ?_
          exact gaveC_bad (t := .mk 1 (unzig n) ⟨#[]⟩ []) hG3 ⟨os3, n3, rfl⟩
      · rw [if_neg k1]
        by_cases k2 : k.toNat = 2
        · rw [if_pos k2]
          rw [k2] at hkw hc0
          have kT := fun W (hR : Rd P W r1 (c + 1)) (hPl : P < W.heap.size) => text_any P r1 (c + 1) n W hR hPl hn9
          by_cases hm : n ≤ r1.length
          · rw [if_pos hm]
            have kT2 := fun W (hR : Rd P W r1 (c + 1)) (hPl : P < W.heap.size) => (kT W hR hPl).mono (fun e w' h => h.1 hm)
            clear kT
            go_enter Try.func45, Try.ntmps45
            go_wp2_with (first
            | (go_at_call 55; refine (kC _ (HR2.out _ (by repeat (first | with_reducible exact Adds.refl _ | with_reducible refine Adds.alloc ?_ _ | with_reducible refine Adds.more ?_ _ _ | with_reducible refine Adds.drew ?_ | with_reducible refine Adds.drewN ?_ _))).1).mono ?_; rintro e w1 ⟨rfl, hR3, hg3⟩; have hG3 : w.grownBy w1 (some P) := grown_tr (HR2.out _ (by repeat (first | with_reducible exact Adds.refl _ | with_reducible refine Adds.alloc ?_ _ | with_reducible refine Adds.more ?_ _ _ | with_reducible refine Adds.drew ?_ | with_reducible refine Adds.drewN ?_ _))).2 hg3; obtain ⟨hh3, hl3, ⟨x0, x1, x2, x3⟩, u0, u1, u2, u3⟩ := cbox_kept hg3 (at_rb (g := w.heap.size) (by simp)) (by omega); have HR3 : Hid _ := hR3; clear hg3 hR3 kC HR2)
            | (go_at_call 57; refine (kT2 _ HR3.out (by omega)).mono ?_; rintro e w5 ⟨rfl, hR5, hg5⟩; have hG5 : w.grownBy w5 (some P) := grown_tr hG3 hg5; obtain ⟨hh5, hl5, ⟨v0, v1, v2, v3⟩, p0, p1, p2, p3⟩ := cbox_kept hg5 hh3 (by omega); have HR5 : Hid _ := hR5; clear hg5 hR5 kT2))
            refine bodyPost_ret (v := .tuple #[.agg #[.int .i64 2, .int .i64 0, .string ⟨(r1.take n).toArray⟩, .slice none 0 0], .bool true]) (by simp [results, Try.results45, go_sem, v0, v1, v2, v3]) rfl ?_
            exact gaveC_end (t := .mk 2 0 ⟨(r1.take n).toArray⟩ []) hG5 hP hh5 HR5.out (Tr.nil _ _ _) (Adds.refl _)
          · rw [if_neg hm]
            have kT2 := fun W (hR : Rd P W r1 (c + 1)) (hPl : P < W.heap.size) => (kT W hR hPl).mono (fun e w' h => h.2 (by omega))
            clear kT
            go_enter Try.func45, Try.ntmps45
            go_wp2_with (first
            | (go_at_call 55; refine (kC _ (HR2.out _ (by repeat (first | with_reducible exact Adds.refl _ | with_reducible refine Adds.alloc ?_ _ | with_reducible refine Adds.more ?_ _ _ | with_reducible refine Adds.drew ?_ | with_reducible refine Adds.drewN ?_ _))).1).mono ?_; rintro e w1 ⟨rfl, hR3, hg3⟩; have hG3 : w.grownBy w1 (some P) := grown_tr (HR2.out _ (by repeat (first | with_reducible exact Adds.refl _ | with_reducible refine Adds.alloc ?_ _ | with_reducible refine Adds.more ?_ _ _ | with_reducible refine Adds.drew ?_ | with_reducible refine Adds.drewN ?_ _))).2 hg3; obtain ⟨hh3, hl3, ⟨x0, x1, x2, x3⟩, u0, u1, u2, u3⟩ := cbox_kept hg3 (at_rb (g := w.heap.size) (by simp)) (by omega); have HR3 : Hid _ := hR3; clear hg3 hR3 kC HR2)
            | (go_at_call 57; refine (kT2 _ HR3.out (by omega)).mono ?_; rintro e w5 ⟨rfl, hg5⟩; have hG5 : w.grownBy w5 (some P) := grown_tr hG3 hg5; obtain ⟨hh5, hl5, ⟨v0, v1, v2, v3⟩, p0, p1, p2, p3⟩ := cbox_kept hg5 hh3 (by omega); clear hg5 kT2))
            refine bodyPost_ret (v := .tuple #[.agg #[.int .i64 0, .int .i64 0, .string ⟨#[]⟩, .slice none 0 0], .bool false]) (by simp [results, Try.results45, go_sem, v0, v1, v2, v3]) rfl ?_
            exact gaveC_bad (t := .mk 0 0 ⟨#[]⟩ []) hG5 (Adds.refl _)
        · rw [if_neg k2]
          by_cases k3 : k.toNat = 3
          · rw [if_pos k3]
            rw [k3] at hkw hc0
            have kT := fun W (hR : Rd P W r1 (c + 1)) (hPl : P < W.heap.size) => rlist_any lv ih P r1 (c + 1) n level W (by omega) hR hPl (by omega) hL2 hn9
            have hR : (if n ≤ 4096 - (c + 1) then (match rdN (rdC lv) n (c + 1) r1 with
              | none => none
              | some (ts, c2, l2) => some (T.mk 3 0 ⟨#[]⟩ ts, c2, l2)) else none) = toC (if n ≤ 4096 - (c + 1) then rdN (rdC lv) n (c + 1) r1 else none) := by
              split
              · cases rdN (rdC lv) n (c + 1) r1 with
                | none => rfl
                | some q => rfl
              · rfl
            rw [hR]
            clear hR ih
            generalize (if n ≤ 4096 - (c + 1) then rdN (rdC lv) n (c + 1) r1 else none) = R at *
            cases R with
            | none =>
              go_enter Try.func45, Try.ntmps45
              go_wp2_with (first
            | (go_at_call 55; refine (kC _ (HR2.out _ (by repeat (first | with_reducible exact Adds.refl _ | with_reducible refine Adds.alloc ?_ _ | with_reducible refine Adds.more ?_ _ _ | with_reducible refine Adds.drew ?_ | with_reducible refine Adds.drewN ?_ _))).1).mono ?_; rintro e w1 ⟨rfl, hR3, hg3⟩; have hG3 : w.grownBy w1 (some P) := grown_tr (HR2.out _ (by repeat (first | with_reducible exact Adds.refl _ | with_reducible refine Adds.alloc ?_ _ | with_reducible refine Adds.more ?_ _ _ | with_reducible refine Adds.drew ?_ | with_reducible refine Adds.drewN ?_ _))).2 hg3; obtain ⟨hh3, hl3, ⟨x0, x1, x2, x3⟩, u0, u1, u2, u3⟩ := cbox_kept hg3 (at_rb (g := w.heap.size) (by simp)) (by omega); have HR3 : Hid _ := hR3; clear hg3 hR3 kC HR2)
            | (go_at_call 58; refine (kT _ HR3.out (by omega)).mono ?_; rintro e w5 ⟨⟨k5, n5, s5, a5, x5, y5, rfl⟩, hg5⟩; have hG5 : w.grownBy w5 (some P) := grown_tr hG3 hg5; obtain ⟨hh5, hl5, ⟨v0, v1, v2, v3⟩, p0, p1, p2, p3⟩ := cbox_kept hg5 hh3 (by omega); clear hg5 kT))
              refine bodyPost_ret (v := .tuple #[.agg #[.int .i64 k5, .int .i64 n5, .string s5, .slice a5 x5 y5], .bool false]) (by simp [results, Try.results45, go_sem, v0, v1, v2, v3]) rfl ?_
              exact gaveC_bad (t := .mk k5 n5 s5 []) hG5 (Adds.refl _)
            | some q =>
              obtain ⟨ts, c2, l2⟩ := q
              go_enter Try.func45, Try.ntmps45
              go_wp2_with (first
            | (go_at_call 55; refine (kC _ (HR2.out _ (by repeat (first | with_reducible exact Adds.refl _ | with_reducible refine Adds.alloc ?_ _ | with_reducible refine Adds.more ?_ _ _ | with_reducible refine Adds.drew ?_ | with_reducible refine Adds.drewN ?_ _))).1).mono ?_; rintro e w1 ⟨rfl, hR3, hg3⟩; have hG3 : w.grownBy w1 (some P) := grown_tr (HR2.out _ (by repeat (first | with_reducible exact Adds.refl _ | with_reducible refine Adds.alloc ?_ _ | with_reducible refine Adds.more ?_ _ _ | with_reducible refine Adds.drew ?_ | with_reducible refine Adds.drewN ?_ _))).2 hg3; obtain ⟨hh3, hl3, ⟨x0, x1, x2, x3⟩, u0, u1, u2, u3⟩ := cbox_kept hg3 (at_rb (g := w.heap.size) (by simp)) (by omega); have HR3 : Hid _ := hR3; clear hg3 hR3 kC HR2)
            | (go_at_call 58; refine (kT _ HR3.out (by omega)).mono ?_; rintro e w5 ⟨⟨a5, x5, y5, rfl, hT5⟩, hR5, hg5⟩; have hG5 : w.grownBy w5 (some P) := grown_tr hG3 hg5; obtain ⟨hh5, hl5, ⟨v0, v1, v2, v3⟩, p0, p1, p2, p3⟩ := cbox_kept hg5 hh3 (by omega); have HR5 : Hid _ := hR5; have HT5 : Hid (Tr (fun b => w.heap.size < b) lv w5 (.slice a5 x5 y5) ts) := hT5.out.frame (Nat.le_refl _) (fun _ _ _ => rfl) (fun b hb => by omega); clear hg5 hR5 hT5 kT))
              refine bodyPost_ret (v := .tuple #[.agg #[.int .i64 3, .int .i64 0, .string ⟨#[]⟩, .slice a5 x5 y5], .bool true]) (by simp [results, Try.results45, go_sem, v0, v1, v2, v3]) rfl ?_
              exact gaveC_end (t := .mk 3 0 ⟨#[]⟩ ts) hG5 hP hh5 HR5.out HT5.out (Adds.refl _)
          · rw [if_neg k3]
            have k1' : ((k.toNat : Int) == 1) = false := by simp; omega
            have k2' : ((k.toNat : Int) == 2) = false := by simp; omega
            have k3' : ((k.toNat : Int) == 3) = false := by simp; omega
            go_enter Try.func45, Try.ntmps45
            go_wp2_with (first
            | (go_at_call 55; refine (kC _ (HR2.out _ (by repeat (first | with_reducible exact Adds.refl _ | with_reducible refine Adds.alloc ?_ _ | with_reducible refine Adds.more ?_ _ _ | with_reducible refine Adds.drew ?_ | with_reducible refine Adds.drewN ?_ _))).1).mono ?_; rintro e w1 ⟨rfl, hR3, hg3⟩; have hG3 : w.grownBy w1 (some P) := grown_tr (HR2.out _ (by repeat (first | with_reducible exact Adds.refl _ | with_reducible refine Adds.alloc ?_ _ | with_reducible refine Adds.more ?_ _ _ | with_reducible refine Adds.drew ?_ | with_reducible refine Adds.drewN ?_ _))).2 hg3; obtain ⟨hh3, hl3, ⟨x0, x1, x2, x3⟩, u0, u1, u2, u3⟩ := cbox_kept hg3 (at_rb (g := w.heap.size) (by simp)) (by omega); have HR3 : Hid _ := hR3; clear hg3 hR3 kC HR2)
            | (fail))
            refine bodyPost_ret (v := .tuple #[.agg #[.int .i64 0, .int .i64 0, .string ⟨#[]⟩, .slice none 0 0], .bool false]) (by simp [results, Try.results45, go_sem, x0, x1, x2, x3]) rfl ?_
            exact gaveC_bad (t := .mk 0 0 ⟨#[]⟩ []) hG3 (Adds.refl _)

end Go.Proofs.Ytccddgohagakoaa
