/-
  The reader of cells, by contract, whatever the bytes; the function Decode of package cell.
-/
import Derived.Test.YtccddgohagakoaaLdc
namespace Go.Proofs.Ytccddgohagakoaa
open Go.RowKit
attribute [local go_sem] cell?_more frozen?_more setCell_more size_more tape_more drew_more drewN_more more_drew more_drewN one_out plus_out plus_end lt_one le_p2 le_p3 le_p4 le_p5 le_p6 le_p7 le_p8 le_p9 le_p10 le_p11 le_p12 le_p13 le_p14 le_p15 le_p16 le_p17 le_p18 le_p19 le_p20 le_p21 le_p22 le_p23 le_p24 le_q0 le_q1 lt_q1 le_q2 lt_q2 le_q3 lt_q3 le_q4 lt_q4 le_q5 lt_q5 le_q6 lt_q6 le_q7 lt_q7 le_q8 lt_q8 le_q9 lt_q9 le_q10 lt_q10 le_q11 lt_q11 le_q12 lt_q12 le_q13 lt_q13 le_q14 lt_q14 le_q15 lt_q15 le_q16 lt_q16 le_q17 lt_q17 le_q18 lt_q18 le_q19 lt_q19 le_q20 lt_q20 le_q21 lt_q21 le_q22 lt_q22 le_q23 lt_q23 le_q24 lt_q24

theorem rcell_any : ∀ lv, CellOk lv
  | 0 => fun P l c level w hlv h hP hc hL => by
    have e : rdC 0 c l = none := rfl
    rw [e]
    exact cell_none 0 P l c level w h hP (.inl (by omega)) hc
  | lv + 1 => fun P l c level w hlv h hP hc hL => by
    have ih := rcell_any lv
    show Calls _ _ _ _ (GaveC P (rdC (lv + 1) c l) lv w)
    by_cases h0 : c = 4096
    · have e : rdC (lv + 1) c l = none := by
        unfold rdC
        rw [if_pos h0]
      rw [e]
      exact cell_none lv P l c level w h hP (.inr (.inl h0)) hc
    · match l, h, hL with
      | [], h, hL =>
        have e : rdC (lv + 1) c [] = none := by
          unfold rdC
          rw [if_neg h0]
        rw [e]
        exact cell_none lv P [] c level w h hP (.inr (.inr rfl)) hc
      | k :: r, h, hL => exact cell_step lv ih P k r c level w hlv h hP (by omega) hL

/-- What Decode tells of bytes that are not too many. -/
def DecT (l : List UInt8) (w : World) (e : Ending) (w' : World) : Prop :=
  match rdC 12 0 l with
  | some (t, _, []) => ∃ ao n cap, e = .returned (.tuple #[.agg #[.int .i64 t.kind, .int .i64 t.num, .string t.text, .slice ao n cap], .int .i64 0]) ∧ Hid (Tr (fun b => w.heap.size ≤ b) 11 w' (.slice ao n cap) t.list)
  | _ => e = .returned (.tuple #[.agg #[.int .i64 0, .int .i64 0, .string ⟨#[]⟩, .slice none 0 0], .int .i64 5])

theorem at_rd {X : World} {v : Value} {P : Nat} (h : X.heap.size = P) : (X.alloc (.cells #[v, .int .i64 0] 88)).heap[P]? = some (.cells #[v, .int .i64 ((0 : Nat) : Int)] 88 (0, 0)) := by
  subst h
  exact new_block _ _

theorem in_two (w : World) (o o' : Obj) : ((w.alloc o).alloc o').heap[w.heap.size]? = some o :=
  (((Adds.refl (w.alloc o)).alloc o').below.block w.heap.size (by simp)).trans (new_block w o)

theorem adds_out {w w' : World} {r : Option Nat} (h : w.grownBy w' r) (hr : ∀ k, r = some k → w.heap.size ≤ k) : Adds w w' :=
  Adds.of ⟨h.os, h.tape, h.output, h.size, fun k hk => h.block k hk (fun e => by have := hr k e.symm; omega)⟩

/-- A block that there was not is turned alone. -/
theorem grown_out {w W w' : World} {P : Nat} (hA : Adds w W) (hP : w.heap.size ≤ P) (h : W.grownBy w' (some P)) : w.grownBy w' none :=
  ⟨h.os.trans hA.below.os, h.tape.trans hA.below.tape, h.output.trans hA.below.output, Nat.le_trans hA.below.size h.size, fun k hk _ => (h.block k (Nat.lt_of_lt_of_le hk hA.below.size) (fun e => by have := Option.some.inj e; omega)).trans (hA.below.block k hk)⟩

theorem dec_none {l : List UInt8} {w w' : World} (h : rdC 12 0 l = none) : DecT l w (.returned (.tuple #[.agg #[.int .i64 0, .int .i64 0, .string ⟨#[]⟩, .slice none 0 0], .int .i64 5])) w' := by
  unfold DecT
  rw [h]

theorem dec_more {l : List UInt8} {w w' : World} {t : T} {c : Nat} {x : UInt8} {r : List UInt8} (h : rdC 12 0 l = some (t, c, x :: r)) : DecT l w (.returned (.tuple #[.agg #[.int .i64 0, .int .i64 0, .string ⟨#[]⟩, .slice none 0 0], .int .i64 5])) w' := by
  unfold DecT
  rw [h]

theorem dec_some {l : List UInt8} {w w' : World} {t : T} {c n cap : Nat} {ao : Option Addr} (h : rdC 12 0 l = some (t, c, [])) (hT : Tr (fun b => w.heap.size ≤ b) 11 w' (.slice ao n cap) t.list) : DecT l w (.returned (.tuple #[.agg #[.int .i64 t.kind, .int .i64 t.num, .string t.text, .slice ao n cap], .int .i64 0])) w' := by
  unfold DecT
  rw [h]
  exact ⟨ao, n, cap, rfl, hT⟩

theorem dec_end {w W2 w3 F : World} {t : T} {n cap : Nat} {ao : Option Addr} (hA : Adds w W2) (hs : w.heap.size + 2 ≤ W2.heap.size) (hg : W2.grownBy w3 (some (w.heap.size + 1))) (hT : Tr (fun b => W2.heap.size ≤ b) 11 w3 (.slice ao n cap) t.list) (hF : Adds (putC w3 w.heap.size t (.slice ao n cap)) F) :
    Tr (fun b => w.heap.size ≤ b) 11 F (.slice ao n cap) t.list ∧ Adds w F := by
  have hO : Oth w.heap.size w3 (putC w3 w.heap.size t (.slice ao n cap)) := (((Oth.set _ _ _ _).trans (Oth.set _ _ _ _)).trans (Oth.set _ _ _ _)).trans (Oth.set _ _ _ _)
  refine ⟨(hT.frame (ok' := fun b => w.heap.size ≤ b) (by rw [hO.1]; omega) (fun b hb _ => hO.2 b (by omega)) (fun b hb => by omega)).adds hF, ?_⟩
  exact adds_out (grownBy_adds (grown_set (grown_set (grown_set (grown_set (grown_out hA (by omega) hg) (Nat.le_refl _)) (Nat.le_refl _)) (Nat.le_refl _)) (Nat.le_refl _)) hF) (fun k h => by cases h)

theorem dec_fin {l : List UInt8} {w W2 w3 F : World} {t : T} {c n cap : Nat} {ao : Option Addr} (h : rdC 12 0 l = some (t, c, [])) (hA : Adds w W2) (hs : w.heap.size + 2 ≤ W2.heap.size) (hg : W2.grownBy w3 (some (w.heap.size + 1))) (hT : Tr (fun b => W2.heap.size ≤ b) 11 w3 (.slice ao n cap) t.list) (hF : Adds (putC w3 w.heap.size t (.slice ao n cap)) F) :
    DecT l w (.returned (.tuple #[.agg #[.int .i64 t.kind, .int .i64 t.num, .string t.text, .slice ao n cap], .int .i64 0])) F ∧ Adds w F :=
  ⟨dec_some h (dec_end hA hs hg hT hF).1, (dec_end hA hs hg hT hF).2⟩

theorem dec_bad {w W2 w3 F : World} (hA : Adds w W2) (hg : W2.grownBy w3 (some (w.heap.size + 1))) (hF : Adds (putC w3 w.heap.size (.mk 0 0 ⟨#[]⟩ []) (.slice none 0 0)) F) : Adds w F :=
  adds_out (grownBy_adds (grown_set (grown_set (grown_set (grown_set (grown_out hA (by omega) hg) (Nat.le_refl _)) (Nat.le_refl _)) (Nat.le_refl _)) (Nat.le_refl _)) hF) (fun k h => by cases h)

set_option maxRecDepth 20000 in
set_option maxHeartbeats 4000000 in
theorem decode_any (l : List UInt8) (v : Value) (w : World) (hB : Byt w v l) (hL : l.length ≤ 65536) :
    Calls Try.prog 28 #[v] w fun e w' => DecT l w e w' ∧ Adds w w' := by
  have HB : Hid (Byt w v l) := hB
  obtain ⟨ao, cap, rfl, _, _⟩ := hB.open
  have hL' : ¬ (65536 : Int) < (l.length : Int) := by omega
  have kR := fun (P : Nat) W (hR : Rd P W l 0) (hP : P < W.heap.size) => rcell_any 12 P l 0 1 W (by omega) hR hP (by omega) hL
  clear hB
  cases hrd : rdC 12 0 l with
  | none =>
    rw [hrd] at kR
    go_enter Try.func28, Try.ntmps28
    go_wp2_with (go_at_call 45; refine (kR _ _ ⟨_, at_rd (by simp), HB.out.adds (by repeat (first | with_reducible exact Adds.refl _ | with_reducible refine Adds.alloc ?_ _ | with_reducible refine Adds.more ?_ _ _ | with_reducible refine Adds.drew ?_ | with_reducible refine Adds.drewN ?_ _))⟩ (by simp)).mono ?_; rintro e w3 ⟨⟨k3, n3, s3, a3, y3, z3, rfl⟩, hg3⟩; have hG3 : Hid _ := hg3; have hAW0 : Adds w ((w.alloc cBox).alloc (.cells #[.slice ao l.length cap, .int .i64 0] 88)) := (by repeat (first | with_reducible exact Adds.refl _ | with_reducible refine Adds.alloc ?_ _ | with_reducible refine Adds.more ?_ _ _ | with_reducible refine Adds.drew ?_ | with_reducible refine Adds.drewN ?_ _)); have hAW : Hid _ := hAW0; clear hAW0; obtain ⟨hh3, hl3, ⟨x0, x1, x2, x3⟩, u0, u1, u2, u3⟩ := cbox_kept (r := w.heap.size) hg3 (in_two _ _ _) (by omega); clear hg3 kR)
    refine bodyPost_ret (v := .tuple #[.agg #[.int .i64 0, .int .i64 0, .string ⟨#[]⟩, .slice none 0 0], .int .i64 5]) (by simp [results, Try.results28, go_sem, hl3, x0, x1, x2, x3]) rfl ?_
    exact ⟨dec_none hrd, dec_bad hAW.out hG3.out (by first | exact Adds.refl _ | exact (Adds.refl _).alloc _)⟩
  | some q =>
    obtain ⟨t, c, r⟩ := q
    rw [hrd] at kR
    cases r with
    | nil =>
      go_enter Try.func28, Try.ntmps28
      go_wp2_with (go_at_call 45; refine (kR _ _ ⟨_, at_rd (by simp), HB.out.adds (by repeat (first | with_reducible exact Adds.refl _ | with_reducible refine Adds.alloc ?_ _ | with_reducible refine Adds.more ?_ _ _ | with_reducible refine Adds.drew ?_ | with_reducible refine Adds.drewN ?_ _))⟩ (by simp)).mono ?_; rintro e w3 ⟨⟨a3, y3, z3, rfl, hT3⟩, ⟨v3, hv3, hB3⟩, hg3⟩; have hG3 : Hid _ := hg3; have hAW0 : Adds w ((w.alloc cBox).alloc (.cells #[.slice ao l.length cap, .int .i64 0] 88)) := (by repeat (first | with_reducible exact Adds.refl _ | with_reducible refine Adds.alloc ?_ _ | with_reducible refine Adds.more ?_ _ _ | with_reducible refine Adds.drew ?_ | with_reducible refine Adds.drewN ?_ _)); have hAW : Hid _ := hAW0; clear hAW0; obtain ⟨hh3, hl3, ⟨x0, x1, x2, x3⟩, u0, u1, u2, u3⟩ := cbox_kept (r := w.heap.size) hg3 (in_two _ _ _) (by omega); clear hg3 kR; obtain ⟨b3, c3, rfl, _, _⟩ := hB3.open; have hl4 : w.heap.size + 1 < w3.heap.size := (Array.getElem?_eq_some_iff.1 hv3).1; have p0 : w3.cell? ⟨w.heap.size + 1, 0, none⟩ = some (.slice b3 0 c3) := by simp only [World.cell?, hv3]; rfl)
      refine bodyPost_ret (v := .tuple #[.agg #[.int .i64 t.kind, .int .i64 t.num, .string t.text, .slice a3 y3 z3], .int .i64 0]) (by simp [results, Try.results28, go_sem, hl3, x0, x1, x2, x3]) rfl ?_
      exact dec_fin hrd hAW.out (by simp) hG3.out hT3.out ((Adds.refl _).alloc _)
    | cons x r =>
      go_enter Try.func28, Try.ntmps28
      go_wp2_with (go_at_call 45; refine (kR _ _ ⟨_, at_rd (by simp), HB.out.adds (by repeat (first | with_reducible exact Adds.refl _ | with_reducible refine Adds.alloc ?_ _ | with_reducible refine Adds.more ?_ _ _ | with_reducible refine Adds.drew ?_ | with_reducible refine Adds.drewN ?_ _))⟩ (by simp)).mono ?_; rintro e w3 ⟨⟨a3, y3, z3, rfl, hT3⟩, ⟨v3, hv3, hB3⟩, hg3⟩; have hG3 : Hid _ := hg3; have hAW0 : Adds w ((w.alloc cBox).alloc (.cells #[.slice ao l.length cap, .int .i64 0] 88)) := (by repeat (first | with_reducible exact Adds.refl _ | with_reducible refine Adds.alloc ?_ _ | with_reducible refine Adds.more ?_ _ _ | with_reducible refine Adds.drew ?_ | with_reducible refine Adds.drewN ?_ _)); have hAW : Hid _ := hAW0; clear hAW0; obtain ⟨hh3, hl3, ⟨x0, x1, x2, x3⟩, u0, u1, u2, u3⟩ := cbox_kept (r := w.heap.size) hg3 (in_two _ _ _) (by omega); clear hg3 kR; obtain ⟨b3, c3, rfl, _, _⟩ := hB3.open; have hl4 : w.heap.size + 1 < w3.heap.size := (Array.getElem?_eq_some_iff.1 hv3).1; have p0 : w3.cell? ⟨w.heap.size + 1, 0, none⟩ = some (.slice b3 (r.length + 1) c3) := by simp only [World.cell?, hv3]; rfl)
      refine bodyPost_ret (v := .tuple #[.agg #[.int .i64 0, .int .i64 0, .string ⟨#[]⟩, .slice none 0 0], .int .i64 5]) (by simp [results, Try.results28, go_sem, hl3, x0, x1, x2, x3]) rfl ?_
      exact ⟨dec_more hrd, dec_bad hAW.out hG3.out (by first | exact Adds.refl _ | exact (Adds.refl _).alloc _)⟩

end Go.Proofs.Ytccddgohagakoaa
