/-
  The functions Record, its reference and awake by contracts.
-/
import Derived.Test.YtmbnpglnanfdoaaFirst
import Derived.Laws.MakeOwn
import Derived.Lib.SlBytesConst
import Derived.Lib.SlBytesRow
import Derived.Laws.BytesString
namespace Go.Proofs.Ytmbnpglnanfdoaa
open Go.RowKit
attribute [local go_sem] cell?_more frozen?_more setCell_more size_more tape_more drew_more drewN_more more_drew more_drewN more_more one_out plus_out plus_end lt_one le_p2 le_p3 le_p4 le_p5 le_p6 le_p7 le_p8 le_p9 le_p10 le_p11 le_p12 le_p13 le_p14 le_p15 le_p16 le_p17 le_p18 le_p19 le_p20 le_p21 le_p22 le_p23 le_p24 le_q0 le_q1 lt_q1 le_q2 lt_q2 le_q3 lt_q3 le_q4 lt_q4 le_q5 lt_q5 le_q6 lt_q6 le_q7 lt_q7 le_q8 lt_q8 le_q9 lt_q9 le_q10 lt_q10 le_q11 lt_q11 le_q12 lt_q12 le_q13 lt_q13 le_q14 lt_q14 le_q15 lt_q15 le_q16 lt_q16 le_q17 lt_q17 le_q18 lt_q18 le_q19 lt_q19 le_q20 lt_q20 le_q21 lt_q21 le_q22 lt_q22 le_q23 lt_q23 le_q24 lt_q24

theorem record_long (v : Value) (l : List UInt8) (w : World) (h : Byt w v l) (hl : 16384 < l.length) (hlen : l.length ≤ 1000000) :
    Calls Try.prog 9 #[v] w fun e w' => e = .returned (.tuple #[.slice none 0 0, .int .i64 3]) ∧ Adds w w' := by
  obtain ⟨ao, cap, rfl, hcap, ho⟩ := h.open
  go_enter Try.func9, Try.ntmps9
  go_wp2
  go_ret2
  refine ⟨rfl, ?_⟩
  repeat (first | with_reducible exact Adds.refl _ | with_reducible refine Adds.alloc ?_ _ | with_reducible refine Adds.more ?_ _ _ | with_reducible refine Adds.drew ?_ | with_reducible refine Adds.drewN ?_ _)

theorem record_any (v : Value) (l : List UInt8) (w : World) (h : Byt w v l) (hl : l.length ≤ 16384) :
    Calls Try.prog 9 #[v] w fun e w' => ∃ r, e = .returned (.tuple #[r, .int .i64 0]) ∧ OwnV w.heap.size 5 r (cellsB (record l)) w w' := by
  have h' := h
  obtain ⟨ao, cap, rfl, hcap, ho⟩ := h.open
  obtain ⟨i0, hi, hz0, hzs, hzb⟩ := info_parts Try.info5
  obtain ⟨w0, hr, ho0, hg0⟩ := run_make_own (P := Try.prog) w w.heap.size 22 5 i0 (.int .u8 0) 1 Try.underlying22 hi hz0 hzs .i64 .i64 (6 + l.length + 3) (by rw [hzb]; omega) (by unfold maxLen; omega) (Nat.le_refl _)
  have h0 : OwnV w.heap.size 5 (.slice (some ⟨w.heap.size, 0, none⟩) 0 (6 + l.length + 3)) (cellsB []) w w0 := ⟨ho0, ⟨hg0.os, hg0.tape, hg0.output, hg0.size, fun k hk => hg0.block k hk (by simp)⟩, hg0.size⟩
  have hr' : (Instr.makeSlice 22 (.int .i64 0) (.int .i64 (6 + (l.length : Int) + 3))).run Try.prog w = .ok (.slice (some ⟨w.heap.size, 0, none⟩) 0 (6 + l.length + 3)) w0 := by
    rw [show (6 + (l.length : Int) + 3) = ((6 + l.length + 3 : Nat) : Int) by omega]
    exact hr
  have hrec : record l = (([] ++ three l.length) ++ three (sum (three l.length)) ++ l) ++ three (sum l) := by simp [record]
  rw [hrec]
  have k1 : ∀ v W, OwnV w.heap.size 5 v (cellsB ([] ++ three l.length)) w W → Calls Try.prog 11 #[v] W fun e w' => e = .returned (.int .u32 (sum (three l.length) : Nat)) ∧ w' = W := fun v W hW => sum_any _ _ _ hW.byt (by simp [three])
  have k2 : ∀ W, Adds w W → Calls Try.prog 11 #[.slice ao l.length cap] W fun e w' => e = .returned (.int .u32 (sum l : Nat)) ∧ w' = W := fun W hW => sum_any _ _ _ (h'.adds hW) (by omega)
  clear hrec hr ho0 hg0 hi hz0 hzs hzb ho
  generalize sum (three l.length) = S at *
  generalize sum l = T at *
  go_enter Try.func9, Try.ntmps9
  go_wp2_with (first
    | (go_at_call 18; with_reducible refine (put_any _ _ _ _ _ l.length (by simp) h0).mono ?_; rintro e w1 ⟨v1, rfl, h1⟩)
    | (go_at_call 11; with_reducible refine (k1 _ _ h1).mono ?_; rintro e w2 ⟨rfl, rfl⟩)
    | (go_at_call 18; with_reducible refine (put_any _ _ _ _ _ S (by simp [three]) h1).mono ?_; rintro e w3 ⟨v3, rfl, h3⟩)
    | (at_builtin; refine byt_app rfl (.tmp 22) (.tmp 23) rfl h3 rfl (h'.adds h3.added) rfl (by simp [three]; omega) ?_; intro v4 w4 h4)
    | (go_at_call 11; with_reducible refine (k2 _ h4.added).mono ?_; rintro e w5 ⟨rfl, rfl⟩)
    | (go_at_call 18; with_reducible refine (put_any _ _ _ _ _ T (by simp [three]; omega) h4).mono ?_; rintro e w6 ⟨v6, rfl, h6⟩))
  go_ret2
  exact ⟨v6, rfl, h6⟩

theorem refRecord_any (v : Value) (l : List UInt8) (w : World) (h : Byt w v l) (hl : l.length ≤ 16384) :
    Calls Try.prog 13 #[v] w fun e w' => ∃ r, e = .returned r ∧ Byt w' r (record l) ∧ Adds w w' := by
  have h' := h
  obtain ⟨ao, cap, rfl, hcap, ho⟩ := h.open
  have hsb := sum_lt l
  have hst := sum_lt (three l.length)
  have hrec : record l = (([] ++ three l.length) ++ three (sum (three l.length)) ++ l) ++ three (sum l) := by simp [record]
  rw [hrec]
  have k1 : ∀ v W, Byt W v (three l.length) → Calls Try.prog 12 #[v] W fun e w' => e = .returned (.int .u32 (sum (three l.length) : Nat)) ∧ w' = W := fun v W hW => refSum_any _ _ _ hW (by simp [three])
  have k2 : ∀ W, Adds w W → Calls Try.prog 12 #[.slice ao l.length cap] W fun e w' => e = .returned (.int .u32 (sum l : Nat)) ∧ w' = W := fun W hW => refSum_any _ _ _ (h'.adds hW) (by omega)
  clear hrec ho
  generalize sum (three l.length) = S at *
  generalize sum l = T at *
  go_enter Try.func13, Try.ntmps13
  go_wp2_with (first
    | (go_at_call 23; with_reducible refine (three_any l.length _ (by omega)).mono ?_; rintro e w1 ⟨v1, rfl, a1, hY1⟩; have he := ownV_empty w1 5; rw [show ([] : List Value) = cellsB [] from rfl] at he)
    | (at_builtin; refine byt_app rfl (.tmp 9) (.tmp 10) rfl he rfl (hY1.adds (by repeat (first | with_reducible exact Adds.refl _ | with_reducible refine Adds.alloc ?_ _ | with_reducible refine Adds.more ?_ _ _ | with_reducible refine Adds.drew ?_ | with_reducible refine Adds.drewN ?_ _))) rfl (by simp [three]) ?_; intro v2 w2 h2)
    | (go_at_call 12; with_reducible refine (k1 _ _ (hY1.adds h2.added)).mono ?_; rintro e w3 ⟨rfl, rfl⟩)
    | (go_at_call 23; with_reducible refine (three_any S _ (by omega)).mono ?_; rintro e w4 ⟨v4, rfl, a4, hY4⟩)
    | (at_builtin; refine byt_app rfl (.tmp 11) (.tmp 14) rfl (h2.adds a4) rfl hY4 rfl (by simp [three]) ?_; intro v5 w5 h5)
    | (at_builtin; refine byt_app rfl (.tmp 16) (.tmp 17) rfl h5 rfl (h'.adds (a1.trans h5.added)) rfl (by simp [three]; omega) ?_; intro v6 w6 h6)
    | (go_at_call 12; with_reducible refine (k2 _ (a1.trans h6.added)).mono ?_; rintro e w7 ⟨rfl, rfl⟩)
    | (go_at_call 23; with_reducible refine (three_any T _ (by omega)).mono ?_; rintro e w8 ⟨v8, rfl, a8, hY8⟩)
    | (at_builtin; refine byt_app rfl (.tmp 18) (.tmp 21) rfl (h6.adds a8) rfl hY8 rfl (by simp [three]; omega) ?_; intro v9 w9 h9))
  go_ret
  exact ⟨v9, rfl, h9.byt, a1.trans h9.added⟩

def nine : List UInt8 := [49, 50, 51, 52, 53, 54, 55, 56, 57]

theorem sum_nine : sum nine = 2215682 := by decide +kernel

theorem byt_marked {w : World} {l : List UInt8} {T : TypeId} {fr : Nat × Nat} : Byt (w.alloc (.cells (cellsB l).toArray T fr)) (.slice (some ⟨w.heap.size, 0, none⟩) l.length l.length) l := by
  refine ⟨_, l.length, by rw [cellsB_length], by rw [cellsB_length]; exact Nat.le_refl _, .inr ⟨w.heap.size, 0, rfl, by simp, ?_⟩⟩
  intro j hj
  rw [Nat.zero_add, World.cell?_alloc_mark]
  simp [hj]

theorem awake_any (w : World) : Calls Try.prog 8 #[] w fun e w' => e = .returned (.bool true) ∧ Adds w w' := by
  have hc := Lib.run_convert_bytes_const (P := Try.prog) w 22 5 #[.int .u8 49, .int .u8 50, .int .u8 51, .int .u8 52, .int .u8 53, .int .u8 54, .int .u8 55, .int .u8 56, .int .u8 57] 9 9 Try.underlying22 Try.underlying5
  have k1 : ∀ W, Byt W (.slice (some ⟨w.heap.size, 0, none⟩) 9 9) nine → Calls Try.prog 11 #[.slice (some ⟨w.heap.size, 0, none⟩) 9 9] W fun e w' => e = .returned (.int .u32 2215682) ∧ w' = W := fun W hW => by
    have := sum_any _ _ _ hW (by decide)
    rw [sum_nine] at this
    exact this
  have hb : Byt (w.alloc (.cells #[.int .u8 49, .int .u8 50, .int .u8 51, .int .u8 52, .int .u8 53, .int .u8 54, .int .u8 55, .int .u8 56, .int .u8 57] 5 (9, 10))) (.slice (some ⟨w.heap.size, 0, none⟩) 9 9) nine := byt_marked (w := w) (l := nine) (T := 5) (fr := (9, 10))
  simp only [List.size_toArray, List.length_cons, List.length_nil, Nat.zero_add, Nat.reduceAdd] at hc
  go_enter Try.func8, Try.ntmps8
  go_wp2_with (go_at_call 11; refine (k1 _ hb).mono ?_; rintro e w1 ⟨rfl, rfl⟩)
  go_ret
  refine ⟨rfl, ?_⟩
  repeat (first | with_reducible exact Adds.refl _ | with_reducible refine Adds.alloc ?_ _ | with_reducible refine Adds.more ?_ _ _ | with_reducible refine Adds.drew ?_ | with_reducible refine Adds.drewN ?_ _)

theorem Byt.str {w : World} {v : Value} {l : List UInt8} (h : Byt w v l) : (convert 22 9 v).run Try.prog w = .ok (.string ⟨l.toArray⟩) w := by
  obtain ⟨ao, cap, rfl, hcap, ho⟩ := h.open
  rcases ho with rfl | ⟨b, off, rfl, hb, hl⟩
  · rw [run_convert_bytes_string w 22 9 5 _ _ _ Try.underlying22 Try.underlying5 Try.underlying9]
    cases ao <;> simp [Conv.bytesToString, loadCells]
    all_goals rfl
  · have := Lib.run_convert_whole (P := Try.prog) w 22 5 9 Try.underlying22 Try.underlying5 Try.underlying9 b off ⟨l.toArray⟩ (fun i hi => by
      have hi' : i < l.length := hi
      rw [hl i hi']
      rfl) cap
    exact this

end Go.Proofs.Ytmbnpglnanfdoaa
