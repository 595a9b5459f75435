/-
  The reader as it lies in memory: its text and its row of frames; the functions word, take and top, by contracts.
  The functions multiplied, added and closed of the reader, by contracts.
  The function leaf, by a contract.
-/
import Derived.Test.YtiacnmcdfpmcfaaGreatDoorQ02
namespace Go.Proofs.YtiacnmcdfpmcfaaGreatDoor
open Go.RowKit
attribute [local go_sem] cell?_more frozen?_more setCell_more size_more tape_more drew_more drewN_more more_drew more_drewN one_out plus_out plus_end lt_one le_p2 le_p3 le_p4 le_p5 le_p6 le_p7 le_p8 le_p9 le_p10 le_p11 le_p12 le_p13 le_p14 le_p15 le_p16 le_p17 le_p18 le_p19 le_p20 le_p21 le_p22 le_p23 le_p24 le_q0 le_q1 lt_q1 le_q2 lt_q2 le_q3 lt_q3 le_q4 lt_q4 le_q5 lt_q5 le_q6 lt_q6 le_q7 lt_q7 le_q8 lt_q8 le_q9 lt_q9 le_q10 lt_q10 le_q11 lt_q11 le_q12 lt_q12 le_q13 lt_q13 le_q14 lt_q14 le_q15 lt_q15 le_q16 lt_q16 le_q17 lt_q17 le_q18 lt_q18 le_q19 lt_q19 le_q20 lt_q20 le_q21 lt_q21 le_q22 lt_q22 le_q23 lt_q23 le_q24 lt_q24


/-- Blocks that are such as X says may have turned; all others stay. -/
structure Mv (X : Nat → Prop) (W W' : World) : Prop where
  os : W'.os = W.os
  tape : W'.tape = W.tape
  output : W'.output = W.output
  size : W.heap.size ≤ W'.heap.size
  block : ∀ b, b < W.heap.size → ¬ X b → W'.heap[b]? = W.heap[b]?

theorem Mv.refl (X : Nat → Prop) (W : World) : Mv X W W := ⟨rfl, rfl, rfl, Nat.le_refl _, fun _ _ _ => rfl⟩
theorem Mv.trans {X : Nat → Prop} {a b c : World} (h : Mv X a b) (k : Mv X b c) : Mv X a c :=
  ⟨k.os.trans h.os, k.tape.trans h.tape, k.output.trans h.output, Nat.le_trans h.size k.size, fun n hn hx => (k.block n (Nat.lt_of_lt_of_le hn h.size) hx).trans (h.block n hn hx)⟩
theorem Mv.mono {X Y : Nat → Prop} {a b : World} (h : Mv X a b) (hxy : ∀ n, n < a.heap.size → X n → Y n) : Mv Y a b :=
  ⟨h.os, h.tape, h.output, h.size, fun n hn hy => h.block n hn (fun hx => hy (hxy n hn hx))⟩
theorem Adds.mv {X : Nat → Prop} {a b : World} (h : Adds a b) : Mv X a b :=
  ⟨h.below.os, h.below.tape, h.below.output, h.below.size, fun n hn _ => h.below.block n hn⟩
theorem Mv.set {X : Nat → Prop} (W : World) {g i : Nat} (x : Value) (hx : X g) : Mv X W (W.setCell ⟨g, i, none⟩ x) :=
  ⟨rfl, rfl, rfl, by simp, fun n _ hn => Below.heap_setCell W ⟨g, i, none⟩ x n (fun e => hn (by rw [e]; exact hx))⟩
theorem Mv.set1 (W : World) (g i : Nat) (x : Value) : Mv (fun b => b = g) W (W.setCell ⟨g, i, none⟩ x) := Mv.set W x rfl
theorem drewN_as (w : World) (n : Nat) : w.drewN n = more w #[] (w.drawn + n) := by simp [more, World.drewN]
theorem Mv.cell {X : Nat → Prop} {a b : World} (h : Mv X a b) {n : Nat} (hn : n < a.heap.size) (hx : ¬ X n) (i : Nat) : b.cell? ⟨n, i, none⟩ = a.cell? ⟨n, i, none⟩ :=
  World.cell?_of_block (w := a) (a := ⟨n, i, none⟩) (h.block n hn hx)
theorem Mv.below {B : Nat} {a b : World} (h : Mv (fun n => B ≤ n) a b) (hB : B ≤ a.heap.size) : Below B a b :=
  ⟨h.os, h.tape, h.output, h.size, fun n hn => h.block n (Nat.lt_of_lt_of_le hn hB) (by omega)⟩
theorem Mv.adds {a b : World} (h : Mv (fun n => a.heap.size ≤ n) a b) : Adds a b := Adds.of (h.below (Nat.le_refl _))
theorem Tn.mv {ok X : Nat → Prop} {d : Nat} {W W' : World} {s : Value} {ts : List N} (h : Tn ok d W s ts) (hm : Mv X W W') (hx : ∀ b, b < W.heap.size → ok b → ¬ X b) : Tn ok d W' s ts :=
  h.frame hm.size (fun b hb hlt => ⟨hm.block b hlt (hx b hlt hb), hb⟩)

/-- A frame as it lies in memory. -/
structure Fm where
  name : ByteArray
  sum : N
  sv : Value
  mul : N
  mv : Value

def Fm.cells (f : Fm) : List Value := [.string f.name, .int .i64 f.sum.kind, .string f.sum.text, .int .i64 f.sum.num, f.sv, .int .i64 f.mul.kind, .string f.mul.text, .int .i64 f.mul.num, f.mv]
def cellsF (fs : List Fm) : List Value := fs.flatMap Fm.cells

theorem cellsF_length (fs : List Fm) : (cellsF fs).length = fs.length * 9 := by
  induction fs with
  | nil => rfl
  | cons f r ih =>
    simp only [cellsF, List.flatMap_cons, List.length_append, List.length_cons] at *
    rw [ih]
    simp [Fm.cells]
    omega

theorem cellsF_append (l t : List Fm) : cellsF (l ++ t) = cellsF l ++ cellsF t := by simp [cellsF]

/-- The reader at M, its text s, its row v of frames. -/
def Rdr (M B : Nat) (W : World) (s : ByteArray) (v : Value) (fs : List Fm) : Prop :=
  W.heap[M]? = some (.cells #[.string s, v] 138 (0, 0)) ∧ W.ownsRow B 135 9 v fs.length (cellsF fs) ∧ B ≤ W.heap.size

theorem lt_of_some {W : World} {M : Nat} {o : Obj} (h : W.heap[M]? = some o) : M < W.heap.size := by
  by_cases hlt : M < W.heap.size
  · exact hlt
  · rw [Array.getElem?_eq_none (by omega)] at h
    cases h

theorem Rdr.cells {M B : Nat} {W : World} {s : ByteArray} {v : Value} {fs : List Fm} (h : Rdr M B W s v fs) :
    W.cell? ⟨M, 0, none⟩ = some (.string s) ∧ W.cell? ⟨M, 1, none⟩ = some v ∧ (∀ i, W.frozen? ⟨M, i, none⟩ = false) ∧ M < W.heap.size :=
  ⟨by simp [World.cell?, h.1], by simp [World.cell?, h.1], fun i => by simp [World.frozen?, h.1], lt_of_some h.1⟩

theorem Rdr.far {M B : Nat} {W : World} {s : ByteArray} {v : Value} {fs : List Fm} (h : Rdr M B W s v fs) : v.ownBlock ≠ some M := by
  intro e
  rcases h.2.1.2 with ⟨rfl, _⟩ | ⟨g, cap, cur, rfl, hb, hg, _⟩
  · cases e
  · simp only [Value.ownBlock, Option.some.injEq] at e
    subst e
    rw [h.1] at hg
    simp at hg

/-- What lies outside of the reader's own blocks may turn as it will. -/
theorem Rdr.mv {M B : Nat} {W W' : World} {s : ByteArray} {v : Value} {fs : List Fm} {X : Nat → Prop} (h : Rdr M B W s v fs) (hm : Mv X W W') (h1 : ¬ X M) (h2 : ∀ g, v.ownBlock = some g → ¬ X g) : Rdr M B W' s v fs := by
  refine ⟨by rw [hm.block M h.cells.2.2.2 h1]; exact h.1, ⟨h.2.1.1, ?_⟩, Nat.le_trans h.2.2 hm.size⟩
  rcases h.2.1.2 with h0 | ⟨g, cap, cur, rfl, hb, hg, hr⟩
  · exact .inl h0
  · exact .inr ⟨g, cap, cur, rfl, hb, by rw [hm.block g (lt_of_some hg) (h2 g rfl)]; exact hg, hr⟩

theorem Rdr.adds {M B : Nat} {W W' : World} {s : ByteArray} {v : Value} {fs : List Fm} (h : Rdr M B W s v fs) (hA : Adds W W') : Rdr M B W' s v fs :=
  h.mv (X := fun _ => False) hA.mv (fun h => h) (fun _ _ h => h)

/-- The top frame: where it lies, and what lies there. -/
theorem Rdr.top {M B : Nat} {W : World} {s : ByteArray} {v : Value} {fs : List Fm} {f : Fm} (h : Rdr M B W s v (fs ++ [f])) :
    ∃ g cap, v = .slice (some ⟨g, 0, none⟩) (fs.length + 1) cap ∧ fs.length + 1 ≤ cap ∧ g < W.heap.size ∧ B ≤ g ∧ g ≠ M ∧ (∀ i, W.frozen? ⟨g, i, none⟩ = false) ∧
      W.cell? ⟨g, fs.length * 9, none⟩ = some (.string f.name) ∧ (W.cell? ⟨g, fs.length * 9 + 1, none⟩ = some (.int .i64 f.sum.kind) ∧ W.cell? ⟨g, fs.length * 9 + 2, none⟩ = some (.string f.sum.text) ∧ W.cell? ⟨g, fs.length * 9 + 3, none⟩ = some (.int .i64 f.sum.num) ∧ W.cell? ⟨g, fs.length * 9 + 4, none⟩ = some f.sv) ∧
      (W.cell? ⟨g, fs.length * 9 + 5, none⟩ = some (.int .i64 f.mul.kind) ∧ W.cell? ⟨g, fs.length * 9 + 6, none⟩ = some (.string f.mul.text) ∧ W.cell? ⟨g, fs.length * 9 + 7, none⟩ = some (.int .i64 f.mul.num) ∧ W.cell? ⟨g, fs.length * 9 + 8, none⟩ = some f.mv) := by
  have hc := fun g => h.2.1.cells (g := g)
  have hfar := h.far
  rcases h.2.1.2 with ⟨_, h0⟩ | ⟨g, cap, cur, rfl, hb, hg, hnc, hcm, hcs, htk⟩
  · simp at h0
  · have hl : (cellsF fs).length = fs.length * 9 := cellsF_length fs
    have hcell : ∀ i x, (Fm.cells f)[i]? = some x → W.cell? ⟨g, fs.length * 9 + i, none⟩ = some x := by
      intro i x hx
      have := hc g rfl (fs.length * 9 + i) x (by rw [cellsF_append, List.getElem?_append_right (by omega), hl]; simpa [cellsF] using hx)
      rwa [Addr.add_lit, Nat.zero_add] at this
    refine ⟨g, cap, by simp, by simpa using hnc, lt_of_some hg, hb, fun e => hfar (by simp [Value.ownBlock, e]), fun i => by simp [World.frozen?, hg], ?_⟩
    exact ⟨hcell 0 _ rfl, ⟨hcell 1 _ rfl, hcell 2 _ rfl, hcell 3 _ rfl, hcell 4 _ rfl⟩, hcell 5 _ rfl, hcell 6 _ rfl, hcell 7 _ rfl, hcell 8 _ rfl⟩

theorem own_set {W : World} {B g n cap i : Nat} {xs : List Value} {x : Value} (h : W.ownsRow B 135 9 (.slice (some ⟨g, 0, none⟩) n cap) n xs) : (W.setCell ⟨g, i, none⟩ x).ownsRow B 135 9 (.slice (some ⟨g, 0, none⟩) n cap) n (xs.set i x) := by
  refine ⟨by rw [List.length_set]; exact h.1, ?_⟩
  rcases h.2 with ⟨h0, _⟩ | ⟨g', cap', cur, he, hb, hg, hnc, hcm, hcs, htk⟩
  · cases h0
  · simp only [Value.slice.injEq, Option.some.injEq, Addr.mk.injEq] at he
    obtain ⟨⟨rfl, _⟩, _, rfl⟩ := he
    refine .inr ⟨g, cap, cur.setIfInBounds i x, rfl, hb, ?_, hnc, hcm, by simp [hcs], ?_⟩
    · simp [World.setCell, Array.getElem?_modify, hg]
    · rw [Array.toList_setIfInBounds, List.take_set, htk]

theorem Rdr.set {M B : Nat} {W : World} {s : ByteArray} {g cap : Nat} {fs : List Fm} {f f' : Fm} (i : Nat) (x : Value) (h : Rdr M B W s (.slice (some ⟨g, 0, none⟩) (fs.length + 1) cap) (fs ++ [f])) (hf : f'.cells = f.cells.set i x) :
    Rdr M B (W.setCell ⟨g, fs.length * 9 + i, none⟩ x) s (.slice (some ⟨g, 0, none⟩) (fs.length + 1) cap) (fs ++ [f']) := by
  have hgM : M ≠ g := fun e => h.far (by simp [Value.ownBlock, e])
  have h2 := h.2.1
  have hl : (fs ++ [f]).length = fs.length + 1 := by simp
  have hl' : (fs ++ [f']).length = fs.length + 1 := by simp
  rw [hl] at h2
  refine ⟨?_, ?_, by simpa using h.2.2⟩
  · rw [Below.heap_setCell W ⟨g, fs.length * 9 + i, none⟩ x M hgM]
    exact h.1
  · rw [hl']
    have h3 := own_set (i := fs.length * 9 + i) (x := x) h2
    have h4 : (cellsF (fs ++ [f])).set (fs.length * 9 + i) x = cellsF (fs ++ [f']) := by
      rw [cellsF_append, cellsF_append, ← cellsF_length fs, List.set_append_right _ _ (by omega)]
      congr 1
      simp only [cellsF, List.flatMap_cons, List.flatMap_nil, List.append_nil, hf]
      congr 1
      omega
    rw [← h4]
    exact h3

theorem set_r0 {W : World} {M : Nat} {a b x : Value} (h : W.heap[M]? = some (.cells #[a, b] 138 (0, 0))) : (W.setCell ⟨M, 0, none⟩ x).heap[M]? = some (.cells #[x, b] 138 (0, 0)) := by
  simp [World.setCell, Array.getElem?_modify, h]
theorem set_r1 {W : World} {M : Nat} {a b x : Value} (h : W.heap[M]? = some (.cells #[a, b] 138 (0, 0))) : (W.setCell ⟨M, 1, none⟩ x).heap[M]? = some (.cells #[a, x] 138 (0, 0)) := by
  simp [World.setCell, Array.getElem?_modify, h]

/-- Its text turned. -/
theorem Rdr.text {M B : Nat} {W : World} {s : ByteArray} {v : Value} {fs : List Fm} (h : Rdr M B W s v fs) (s' : ByteArray) : Rdr M B (W.setCell ⟨M, 0, none⟩ (.string s')) s' v fs := by
  have h' := h.2.1
  refine ⟨set_r0 h.1, ⟨h'.1, ?_⟩, by simpa using h.2.2⟩
  have hfar := h.far
  rcases h'.2 with h0 | ⟨g, cap, cur, rfl, hb, hg, hr⟩
  · exact .inl h0
  · have hne : g ≠ M := fun e => hfar (by simp [Value.ownBlock, e])
    exact .inr ⟨g, cap, cur, rfl, hb, by rw [Below.heap_setCell W ⟨M, 0, none⟩ _ g hne]; exact hg, hr⟩

/-- Without its top frame. -/
theorem Rdr.pop {M B : Nat} {W : World} {s : ByteArray} {g cap : Nat} {fs : List Fm} {f : Fm} (h : Rdr M B W s (.slice (some ⟨g, 0, none⟩) (fs.length + 1) cap) (fs ++ [f])) :
    Rdr M B (W.setCell ⟨M, 1, none⟩ (.slice (some ⟨g, 0, none⟩) fs.length cap)) s (.slice (some ⟨g, 0, none⟩) fs.length cap) fs := by
  have hfar := h.far
  refine ⟨set_r1 h.1, ⟨cellsF_length fs, ?_⟩, by simpa using h.2.2⟩
  rcases h.2.1.2 with ⟨h0, _⟩ | ⟨g', cap', cur, he, hb, hg, hnc, hcm, hcs, htk⟩
  · cases h0
  · simp only [Value.slice.injEq, Option.some.injEq, Addr.mk.injEq] at he
    obtain ⟨⟨rfl, _⟩, _, rfl⟩ := he
    have hne : g ≠ M := fun e => hfar (by simp [Value.ownBlock, e])
    refine .inr ⟨g, cap, cur, rfl, hb, by rw [Below.heap_setCell W ⟨M, 1, none⟩ _ g hne]; exact hg, by simp at hnc; omega, hcm, hcs, ?_⟩
    have h2 : (cur.toList.take ((fs ++ [f]).length * 9)).take (fs.length * 9) = (cellsF (fs ++ [f])).take (fs.length * 9) := by rw [htk]
    rw [List.take_take, cellsF_append, ← cellsF_length fs, List.take_left, cellsF_length] at h2
    rw [← h2]
    congr 1
    simp

theorem ret_str {a b : ByteArray} (h : a = b) : Ending.returned (.string a) = .returned (.string b) := by rw [h]

theorem while_of {l : List UInt8} {k : Nat} (hk : k ≤ l.length) (h1 : ∀ c ∈ l.take k, wc c = true) (h2 : ∀ h : k < l.length, wc l[k] = false) : l.takeWhile wc = l.take k ∧ l.dropWhile wc = l.drop k := by
  have h3 := take_stop (s := l.take k) (r := l.drop k) h1 (fun c t hc => by
    have hlt : k < l.length := by
      by_cases h : k < l.length
      · exact h
      · rw [List.drop_of_length_le (by omega)] at hc
        cases hc
    rw [List.drop_eq_getElem_cons hlt] at hc
    simp only [List.cons.injEq] at hc
    rw [← hc.1]
    exact h2 hlt)
  rw [List.take_append_drop] at h3
  exact h3

theorem extract_L (s : ByteArray) (a b : Nat) : (s.extract a b).toList = (s.toList.take b).drop a := by
  rw [ByteArray.toList_eq, ByteArray.toList_eq]
  simp only [ByteArray.data_extract, Array.toList_extract, List.extract_eq_take_drop]
  rw [List.drop_take]

set_option maxHeartbeats 1000000 in
theorem word_any {M B : Nat} {W : World} {s : ByteArray} {v : Value} {fs : List Fm} (h : Rdr M B W s v fs) (hs : s.size ≤ 9223372036854775807) :
    Calls Tryz.prog 88 #[.pointer (some ⟨M, 0, none⟩)] W fun e W' => e = .returned (.string (toB (s.toList.takeWhile wc))) ∧ W' = W.setCell ⟨M, 0, none⟩ (.string (toB (s.toList.dropWhile wc))) := by
  obtain ⟨c0, c1, cf, hM⟩ := h.cells
  have cf0 := cf 0
  clear cf c1
  go_enter Tryz.func88, Tryz.ntmps88
  go_wp2
  go_loopw [3] (fun i wr => ∃ k : Nat, k ≤ s.size ∧ i = .int .i64 k ∧ (∀ c ∈ s.toList.take k, wc c = true) ∧ wr = W) (fun i _ => s.size - (intOf i).toNat)
  case atStart => exact ⟨0, Nat.zero_le _, rfl, by simp, rfl⟩
  case round =>
    obtain ⟨k, hk, rfl, hall, rfl⟩ := hrel
    by_cases hlt : k < s.size
    · have hi := inWordE_any s[k]
      have hk' : k < s.toList.length := by rw [toList_length]; exact hlt
      have HN : Hid (wc s[k] = true → ∀ c ∈ s.toList.take (k + 1), wc c = true) := by
        intro hw c hc
        rw [List.take_succ_eq_append_getElem hk', toList_get] at hc
        rcases List.mem_append.1 hc with hc | hc
        · exact hall c hc
        · simp only [List.mem_singleton] at hc
          rw [hc]
          exact hw
      have HF : Hid (wc s[k] = false → s.toList.takeWhile wc = s.toList.take k ∧ s.toList.dropWhile wc = s.toList.drop k) := by
        intro hw
        exact while_of (by rw [toList_length]; omega) hall (fun h => by rw [toList_get]; exact hw)
      generalize hq : wc s[k] = q at hi HN HF
      clear hq hall hk'
      cases q
      · have hw1 := HF.out rfl
        have HW : Hid _ := hw1
        clear hw1 HF HN
        go_wp2_with (go_at_call 119; refine (hi _).mono ?_; rintro e w1 ⟨rfl, hw⟩; subst w1)
        go_ret
        refine ⟨?_, ?_⟩
        · refine ret_str (toB_eq ?_)
          rw [HW.out.1, extract_L]
          simp
        · congr 2
          apply toB_eq
          rw [HW.out.2, extract_L, List.take_of_length_le (by rw [toList_length]; exact Nat.le_refl _)]
      · have hw1 := HN.out rfl
        have HW : Hid _ := hw1
        clear hw1 HF HN
        go_wp2_with (go_at_call 119; refine (hi _).mono ?_; rintro e w1 ⟨rfl, hw⟩; subst w1)
        go_roundw
        case rel => exact ⟨k + 1, by omega, by go_num, HW.out, trivial⟩
        case measure => simp [intOf]; omega
    · have hk' : k = s.size := by omega
      subst hk'
      have hw1 := while_of (l := s.toList) (k := s.size) (by rw [toList_length]; exact Nat.le_refl _) hall (fun h => by rw [toList_length] at h; omega)
      have HW : Hid _ := hw1
      clear hw1 hall
      go_wp2
      go_ret
      refine ⟨ret_str (toB_eq (by rw [HW.out.1, ← toList_length, List.take_length])), ?_⟩
      congr 2
      apply toB_eq
      rw [HW.out.2, ← toList_length, List.drop_length, ByteArray.toList_eq]
      rfl

/-- A sign stands ahead. -/
theorem take_yes {M B : Nat} {W : World} {s : ByteArray} {v : Value} {fs : List Fm} (h : Rdr M B W s v fs) (hs : s.size ≤ 9223372036854775807) {c : UInt8} {r : List UInt8} (hc : s.toList = c :: r) :
    Calls Tryz.prog 90 #[.pointer (some ⟨M, 0, none⟩), .int .u8 (c.toNat : Int)] W fun e W' => e = .returned (.bool true) ∧ W' = W.setCell ⟨M, 0, none⟩ (.string (toB r)) := by
  obtain ⟨c0, c1, cf, hM⟩ := h.cells
  have cf0 := cf 0
  clear cf c1
  have hlt : 0 < s.size := by rw [← toList_length, hc]; simp
  have hne : (s.toList == []) = false := by simp [hc]
  have h0 : s[0] = c := by
    rw [← toList_get s 0 (by rw [hc]; simp)]
    simp [hc]
  have HR : Hid ((s.extract 1 s.size) = toB r) := by
    apply toB_eq
    rw [extract_L, List.take_of_length_le (by rw [toList_length]; exact Nat.le_refl _), hc]
    rfl
  clear hc
  go_enter Tryz.func90, Tryz.ntmps90
  go_wp2
  go_ret
  exact ⟨rfl, by rw [← HR.out]⟩

theorem take_no {M B : Nat} {W : World} {s : ByteArray} {v : Value} {fs : List Fm} (h : Rdr M B W s v fs) {c : UInt8} (hc : ∀ r, s.toList ≠ c :: r) :
    Calls Tryz.prog 90 #[.pointer (some ⟨M, 0, none⟩), .int .u8 (c.toNat : Int)] W fun e W' => e = .returned (.bool false) ∧ W' = W := by
  obtain ⟨c0, c1, cf, hM⟩ := h.cells
  clear cf c1
  cases hl : s.toList with
  | nil =>
    have hne : (s.toList == []) = true := by simp [hl]
    clear hl hc
    go_enter Tryz.func90, Tryz.ntmps90
    go_wp2
    go_ret
    exact ⟨rfl, rfl⟩
  | cons x r =>
    have hne : (s.toList == []) = false := by simp [hl]
    have hlt : 0 < s.size := by rw [← toList_length, hl]; simp
    have h0 : s[0] = x := by
      rw [← toList_get s 0 (by rw [hl]; simp)]
      simp [hl]
    have hx : ¬ (x.toNat : Int) = (c.toNat : Int) := by
      intro e
      have : x = c := UInt8.toNat_inj.1 (by omega)
      subst this
      exact hc r hl
    have hx' : ((x.toNat : Int) != (c.toNat : Int)) = true := by simpa using hx
    clear hl hc hx
    go_enter Tryz.func90, Tryz.ntmps90
    go_wp2
    go_ret
    exact ⟨rfl, rfl⟩

theorem top_any {M B : Nat} {W : World} {s : ByteArray} {fs : List Fm} {f : Fm} {g cap : Nat} (h : Rdr M B W s (.slice (some ⟨g, 0, none⟩) (fs.length + 1) cap) (fs ++ [f])) (hl : fs.length ≤ 100000) :
    Calls Tryz.prog 93 #[.pointer (some ⟨M, 0, none⟩)] W fun e W' => e = .returned (.pointer (some ⟨g, fs.length * 9, none⟩)) ∧ ∃ n, W' = more W #[] n := by
  obtain ⟨c0, c1, cf, hM⟩ := h.cells
  clear cf c0 h
  have hw : IntKind.i64.wrap (fs.length : Int) = (fs.length : Int) := by rw [IntKind.wrap_i64]; omega
  have hn : ((fs.length + 1 : Nat) : Int) = (fs.length : Int) + 1 := by omega
  generalize fs.length = n at *
  go_enter Tryz.func93, Tryz.ntmps93
  go_wp2
  go_quiet (fail)
  go_wp2
  go_ret
  exact ⟨rfl, _, drewN_as _ _⟩

end Go.Proofs.YtiacnmcdfpmcfaaGreatDoor

namespace Go.Proofs.YtiacnmcdfpmcfaaGreatDoor
open Go.RowKit
attribute [local go_sem] cell?_more frozen?_more setCell_more size_more tape_more drew_more drewN_more more_drew more_drewN one_out plus_out plus_end lt_one le_p2 le_p3 le_p4 le_p5 le_p6 le_p7 le_p8 le_p9 le_p10 le_p11 le_p12 le_p13 le_p14 le_p15 le_p16 le_p17 le_p18 le_p19 le_p20 le_p21 le_p22 le_p23 le_p24 le_q0 le_q1 lt_q1 le_q2 lt_q2 le_q3 lt_q3 le_q4 lt_q4 le_q5 lt_q5 le_q6 lt_q6 le_q7 lt_q7 le_q8 lt_q8 le_q9 lt_q9 le_q10 lt_q10 le_q11 lt_q11 le_q12 lt_q12 le_q13 lt_q13 le_q14 lt_q14 le_q15 lt_q15 le_q16 lt_q16 le_q17 lt_q17 le_q18 lt_q18 le_q19 lt_q19 le_q20 lt_q20 le_q21 lt_q21 le_q22 lt_q22 le_q23 lt_q23 le_q24 lt_q24


def mulN (m n : N) : N := if m.kind = 0 then n else .mk 4 ⟨#[]⟩ 0 [m, n]
def addN (m n : N) : N := if m.kind = 0 then n else .mk 3 ⟨#[]⟩ 0 [m, n]
def closeN (f : ByteArray) (n : N) : N := if f.toList = [] then n else .mk 5 f 0 [n]

abbrev nilV : Value := .slice none 0 0

theorem two_end {ok : Nat → Prop} {d : Nat} {W1 X : World} {a b : N} {sa sb : Value} {k : Nat} (ta : Tn ok d W1 sa a.args) (tb : Tn ok d W1 sb b.args) (hA : Adds W1 X) (hk : k = X.heap.size) (hok : ok k) (h1 : a.text.size ≤ 9223372036854775807) (h2 : b.text.size ≤ 9223372036854775807) :
    Tn ok (d + 1) (X.alloc (.cells #[.int .i64 a.kind, .string a.text, .int .i64 a.num, sa, .int .i64 b.kind, .string b.text, .int .i64 b.num, sb] 81)) (.slice (some ⟨k, 0, none⟩) 2 2) [a, b] := by
  subst hk
  exact tn_two (by simp) hok (fun o => by simp) (ta.adds (hA.alloc _)) (tb.adds (hA.alloc _)) h1 h2 ⟨by simp, by simp, by simp, by simp⟩ ⟨by simp, by simp, by simp, by simp⟩

theorem one_end {ok : Nat → Prop} {d : Nat} {W1 X : World} {a : N} {sa : Value} {k : Nat} (ta : Tn ok d W1 sa a.args) (hA : Adds W1 X) (hk : k = X.heap.size) (hok : ok k) (h1 : a.text.size ≤ 9223372036854775807) :
    Tn ok (d + 1) (X.alloc (.cells #[.int .i64 a.kind, .string a.text, .int .i64 a.num, sa] 81)) (.slice (some ⟨k, 0, none⟩) 1 1) [a] := by
  subst hk
  exact tn_one (by simp) hok (fun o => by simp) (ta.adds (hA.alloc _)) h1 ⟨by simp, by simp, by simp, by simp⟩

set_option maxHeartbeats 2000000 in
theorem multiplied_none {M B : Nat} {W : World} {s : ByteArray} {fs : List Fm} {f : Fm} {g cap : Nat} (h : Rdr M B W s (.slice (some ⟨g, 0, none⟩) (fs.length + 1) cap) (fs ++ [f])) (hl : fs.length ≤ 100000) (n : N) {sn : Value} {an : Option Addr} {nn nc : Nat} (hsn : sn = .slice an nn nc) (hk : f.mul.kind = 0) :
    Calls Tryz.prog 92 #[.pointer (some ⟨M, 0, none⟩), nodeV n sn] W fun e W' => e = .returned (nodeV n sn) ∧ Adds W W' := by
  subst hsn
  obtain ⟨g', cap', hv, hcap, hg, hBg, hgM, gf, t0, ⟨s0, s1, s2, s3⟩, m0, m1, m2, m3⟩ := h.top
  simp only [Value.slice.injEq, Option.some.injEq, Addr.mk.injEq] at hv
  obtain ⟨⟨rfl, _⟩, _, rfl⟩ := hv
  have kT := fun W' (hA : Adds W W') => top_any (h.adds hA) hl
  rw [hk] at m0
  clear h t0 s0 s1 s2 s3 m1 m2 m3 hk gf hcap hBg
  generalize fs.length = L at *
  obtain ⟨nk, nt, nm, na⟩ := n
  simp only [nodeV, N.kind, N.text, N.num]
  go_enter Tryz.func92, Tryz.ntmps92
  go_wp2_with (go_at_call 93; refine (kT _ (by repeat (first | with_reducible exact Adds.refl _ | with_reducible refine Adds.alloc ?_ _ | with_reducible refine Adds.more ?_ _ _ | with_reducible refine Adds.drew ?_ | with_reducible refine Adds.drewN ?_ _))).mono ?_; rintro e w1 ⟨rfl, q, rfl⟩)
  refine bodyPost_ret (v := .agg #[.int .i64 nk, .string nt, .int .i64 nm, .slice an nn nc]) (by simp [results, Tryz.results92, go_sem]) rfl ⟨rfl, ?_⟩
  repeat (first | with_reducible exact Adds.refl _ | with_reducible refine Adds.alloc ?_ _ | with_reducible refine Adds.more ?_ _ _ | with_reducible refine Adds.drew ?_ | with_reducible refine Adds.drewN ?_ _)

set_option maxHeartbeats 2000000 in
theorem multiplied_some {ok : Nat → Prop} {d M B : Nat} {W : World} {s : ByteArray} {fs : List Fm} {f : Fm} {g cap : Nat} (h : Rdr M B W s (.slice (some ⟨g, 0, none⟩) (fs.length + 1) cap) (fs ++ [f])) (hl : fs.length ≤ 100000) (n : N) (sn : Value) (hn : Tn ok d W sn n.args) (hm : Tn ok d W f.mv f.mul.args) (hk : f.mul.kind ≠ 0)
    (hok : ∀ k, W.heap.size ≤ k → ok k) (hog : ¬ ok g) (hx : n.text.size ≤ 9223372036854775807) (hx' : f.mul.text.size ≤ 9223372036854775807) :
    Calls Tryz.prog 92 #[.pointer (some ⟨M, 0, none⟩), nodeV n sn] W fun e W' => ∃ sr, e = .returned (.agg #[.int .i64 4, .string ⟨#[]⟩, .int .i64 0, sr]) ∧ Tn ok (d + 1) W' sr [f.mul, n] ∧
      Rdr M B W' s (.slice (some ⟨g, 0, none⟩) (fs.length + 1) cap) (fs ++ [{ f with mul := N.zero, mv := nilV }]) ∧ Mv (fun b => b = g) W W' := by
  obtain ⟨g', cap', hv, hcap, hg, hBg, hgM, gf, t0, ⟨s0, s1, s2, s3⟩, m0, m1, m2, m3⟩ := h.top
  simp only [Value.slice.injEq, Option.some.injEq, Addr.mk.injEq] at hv
  obtain ⟨⟨rfl, _⟩, _, rfl⟩ := hv
  have kT := fun W' (hA : Adds W W') => top_any (h.adds hA) hl
  obtain ⟨an, nc, hsn⟩ := hn.shape
  obtain ⟨am, mc, hsm⟩ := hm.shape
  have hset : Rdr M B ((((W.setCell ⟨g, fs.length * 9 + 5, none⟩ (.int .i64 0)).setCell ⟨g, fs.length * 9 + 6, none⟩ (.string ⟨#[]⟩)).setCell ⟨g, fs.length * 9 + 7, none⟩ (.int .i64 0)).setCell ⟨g, fs.length * 9 + 8, none⟩ nilV) s (.slice (some ⟨g, 0, none⟩) (fs.length + 1) cap) (fs ++ [{ f with mul := N.zero, mv := nilV }]) := by
    have r1 := h.set (f' := { f with mul := .mk 0 f.mul.text f.mul.num f.mul.args }) 5 (.int .i64 0) rfl
    have r2 := r1.set (f' := { f with mul := .mk 0 ⟨#[]⟩ f.mul.num f.mul.args }) 6 (.string ⟨#[]⟩) rfl
    have r3 := r2.set (f' := { f with mul := .mk 0 ⟨#[]⟩ 0 f.mul.args }) 7 (.int .i64 0) rfl
    exact r3.set (f' := { f with mul := N.zero, mv := nilV }) 8 nilV rfl
  have hmv : Mv (fun b => b = g) W ((((W.setCell ⟨g, fs.length * 9 + 5, none⟩ (.int .i64 0)).setCell ⟨g, fs.length * 9 + 6, none⟩ (.string ⟨#[]⟩)).setCell ⟨g, fs.length * 9 + 7, none⟩ (.int .i64 0)).setCell ⟨g, fs.length * 9 + 8, none⟩ nilV) :=
    (((Mv.set1 _ _ _ _).trans (Mv.set1 _ _ _ _)).trans (Mv.set1 _ _ _ _)).trans (Mv.set1 _ _ _ _)
  have hsz : ((((W.setCell ⟨g, fs.length * 9 + 5, none⟩ (.int .i64 0)).setCell ⟨g, fs.length * 9 + 6, none⟩ (.string ⟨#[]⟩)).setCell ⟨g, fs.length * 9 + 7, none⟩ (.int .i64 0)).setCell ⟨g, fs.length * 9 + 8, none⟩ nilV).heap.size = W.heap.size := by simp
  have hnot : ∀ b, b < W.heap.size → ok b → ¬ b = g := fun b _ hb e => hog (by rw [← e]; exact hb)
  have tn := hn.mv hmv hnot
  have tm := hm.mv hmv hnot
  have hk' : (f.mul.kind == 0) = false := by simpa using hk
  have gf5 := gf (fs.length * 9 + 5)
  have gf6 := gf (fs.length * 9 + 6)
  have gf7 := gf (fs.length * 9 + 7)
  have gf8 := gf (fs.length * 9 + 8)
  rw [hsm] at m3
  have HS : Hid _ := hset
  have HM : Hid _ := hmv
  have HZ : Hid _ := hsz
  have HTN : Hid _ := tn
  have HTM : Hid _ := tm
  rw [hsn] at HTN ⊢
  rw [hsm] at HTM
  clear hset hmv hsz tn tm h t0 s0 s1 s2 s3 gf hcap hBg hn hm hsn hsm hk hnot hog
  obtain ⟨name, fsum, fsv, fm, fmv⟩ := f
  obtain ⟨fk, ft, fn, fa⟩ := fm
  obtain ⟨nk, nt, nm, na⟩ := n
  simp only [nodeV, N.kind, N.text, N.num, N.args] at *
  generalize fs.length = L at *
  go_enter Tryz.func92, Tryz.ntmps92
  go_wp2_with (go_at_call 93; refine (kT _ (by repeat (first | with_reducible exact Adds.refl _ | with_reducible refine Adds.alloc ?_ _ | with_reducible refine Adds.more ?_ _ _ | with_reducible refine Adds.drew ?_ | with_reducible refine Adds.drewN ?_ _))).mono ?_; rintro e w1 ⟨rfl, q, rfl⟩)
  go_region
  all_goals go_wp2
  refine bodyPost_ret (v := .agg #[.int .i64 4, .string ⟨#[]⟩, .int .i64 0, .slice (some ⟨W.heap.size + 2, 0, none⟩) 2 2]) (by simp [results, Tryz.results92, go_sem]) rfl ⟨_, rfl, ?_, ?_, ?_⟩
  · exact two_end (a := .mk fk ft fn fa) (b := .mk nk nt nm na) HTM.out HTN.out (by repeat (first | with_reducible exact Adds.refl _ | with_reducible refine Adds.alloc ?_ _ | with_reducible refine Adds.more ?_ _ _ | with_reducible refine Adds.drew ?_ | with_reducible refine Adds.drewN ?_ _)) (by simp [size_more]) (hok _ (by omega)) hx' hx
  · exact Rdr.adds HS.out (by repeat (first | with_reducible exact Adds.refl _ | with_reducible refine Adds.alloc ?_ _ | with_reducible refine Adds.more ?_ _ _ | with_reducible refine Adds.drew ?_ | with_reducible refine Adds.drewN ?_ _))
  · exact Mv.trans HM.out (Adds.mv (by repeat (first | with_reducible exact Adds.refl _ | with_reducible refine Adds.alloc ?_ _ | with_reducible refine Adds.more ?_ _ _ | with_reducible refine Adds.drew ?_ | with_reducible refine Adds.drewN ?_ _)))

theorem added_none {M B : Nat} {W : World} {s : ByteArray} {fs : List Fm} {f : Fm} {g cap : Nat} (h : Rdr M B W s (.slice (some ⟨g, 0, none⟩) (fs.length + 1) cap) (fs ++ [f])) (hl : fs.length ≤ 100000) (n : N) {sn : Value} {an : Option Addr} {nn nc : Nat} (hsn : sn = .slice an nn nc) {fo : Option Addr} {fl fc : Nat} (hfs : f.sv = .slice fo fl fc) (hk : f.sum.kind = 0) :
    Calls Tryz.prog 94 #[.pointer (some ⟨M, 0, none⟩), nodeV n sn] W fun e W' => e = .returned (nodeV n sn) ∧ Adds W W' := by
  subst hsn
  obtain ⟨g', cap', hv, hcap, hg, hBg, hgM, gf, t0, ⟨s0, s1, s2, s3⟩, m0, m1, m2, m3⟩ := h.top
  simp only [Value.slice.injEq, Option.some.injEq, Addr.mk.injEq] at hv
  obtain ⟨⟨rfl, _⟩, _, rfl⟩ := hv
  have kT := fun W' (hA : Adds W W') => top_any (h.adds hA) hl
  rw [hk] at s0
  rw [hfs] at s3
  clear h t0 m0 m1 m2 m3 hk hfs gf hcap hBg
  generalize fs.length = L at *
  generalize f.sum.text = ft at *
  generalize f.sum.num = fn at *
  obtain ⟨nk, nt, nm, na⟩ := n
  simp only [nodeV, N.kind, N.text, N.num]
  go_enter Tryz.func94, Tryz.ntmps94
  go_wp2_with (go_at_call 93; refine (kT _ (by repeat (first | with_reducible exact Adds.refl _ | with_reducible refine Adds.alloc ?_ _ | with_reducible refine Adds.more ?_ _ _ | with_reducible refine Adds.drew ?_ | with_reducible refine Adds.drewN ?_ _))).mono ?_; rintro e w1 ⟨rfl, q, rfl⟩)
  refine bodyPost_ret (v := .agg #[.int .i64 nk, .string nt, .int .i64 nm, .slice an nn nc]) (by simp [results, Tryz.results94, go_sem]) rfl ⟨rfl, ?_⟩
  repeat (first | with_reducible exact Adds.refl _ | with_reducible refine Adds.alloc ?_ _ | with_reducible refine Adds.more ?_ _ _ | with_reducible refine Adds.drew ?_ | with_reducible refine Adds.drewN ?_ _)

set_option maxHeartbeats 2000000 in
theorem added_some {ok : Nat → Prop} {d M B : Nat} {W : World} {s : ByteArray} {fs : List Fm} {f : Fm} {g cap : Nat} (h : Rdr M B W s (.slice (some ⟨g, 0, none⟩) (fs.length + 1) cap) (fs ++ [f])) (hl : fs.length ≤ 100000) (n : N) (sn : Value) (hn : Tn ok d W sn n.args) (hm : Tn ok d W f.sv f.sum.args) (hk : f.sum.kind ≠ 0)
    (hok : ∀ k, W.heap.size ≤ k → ok k) (hx : n.text.size ≤ 9223372036854775807) (hx' : f.sum.text.size ≤ 9223372036854775807) :
    Calls Tryz.prog 94 #[.pointer (some ⟨M, 0, none⟩), nodeV n sn] W fun e W' => ∃ sr, e = .returned (.agg #[.int .i64 3, .string ⟨#[]⟩, .int .i64 0, sr]) ∧ Tn ok (d + 1) W' sr [f.sum, n] ∧ Adds W W' := by
  obtain ⟨g', cap', hv, hcap, hg, hBg, hgM, gf, t0, ⟨s0, s1, s2, s3⟩, m0, m1, m2, m3⟩ := h.top
  simp only [Value.slice.injEq, Option.some.injEq, Addr.mk.injEq] at hv
  obtain ⟨⟨rfl, _⟩, _, rfl⟩ := hv
  have kT := fun W' (hA : Adds W W') => top_any (h.adds hA) hl
  obtain ⟨an, nc, hsn⟩ := hn.shape
  obtain ⟨am, mc, hsm⟩ := hm.shape
  have hk' : (f.sum.kind == 0) = false := by simpa using hk
  rw [hsm] at s3 hm
  rw [hsn] at hn ⊢
  have HTN : Hid _ := hn
  have HTM : Hid _ := hm
  clear h t0 m0 m1 m2 m3 gf hcap hBg hn hm hsn hsm hk
  obtain ⟨name, fm, fmv, fmul, fmulv⟩ := f
  obtain ⟨fk, ft, fn, fa⟩ := fm
  obtain ⟨nk, nt, nm, na⟩ := n
  simp only [nodeV, N.kind, N.text, N.num, N.args] at *
  generalize fs.length = L at *
  go_enter Tryz.func94, Tryz.ntmps94
  go_wp2_with (go_at_call 93; refine (kT _ (by repeat (first | with_reducible exact Adds.refl _ | with_reducible refine Adds.alloc ?_ _ | with_reducible refine Adds.more ?_ _ _ | with_reducible refine Adds.drew ?_ | with_reducible refine Adds.drewN ?_ _))).mono ?_; rintro e w1 ⟨rfl, q, rfl⟩)
  refine bodyPost_ret (v := .agg #[.int .i64 3, .string ⟨#[]⟩, .int .i64 0, .slice (some ⟨W.heap.size + 3, 0, none⟩) 2 2]) (by simp [results, Tryz.results94, go_sem]) rfl ⟨_, rfl, ?_, ?_⟩
  · exact two_end (a := .mk fk ft fn fa) (b := .mk nk nt nm na) HTM.out HTN.out (by repeat (first | with_reducible exact Adds.refl _ | with_reducible refine Adds.alloc ?_ _ | with_reducible refine Adds.more ?_ _ _ | with_reducible refine Adds.drew ?_ | with_reducible refine Adds.drewN ?_ _)) (by simp [size_more]) (hok _ (by omega)) hx' hx
  · repeat (first | with_reducible exact Adds.refl _ | with_reducible refine Adds.alloc ?_ _ | with_reducible refine Adds.more ?_ _ _ | with_reducible refine Adds.drew ?_ | with_reducible refine Adds.drewN ?_ _)

set_option maxHeartbeats 2000000 in
theorem closed_none {M B : Nat} {W : World} {s : ByteArray} {fs : List Fm} {f : Fm} {g cap : Nat} (h : Rdr M B W s (.slice (some ⟨g, 0, none⟩) (fs.length + 1) cap) (fs ++ [f])) (hl : fs.length ≤ 100000) (n : N) {sn : Value} {an : Option Addr} {nn nc : Nat} (hsn : sn = .slice an nn nc) (hf : f.name.toList = []) :
    Calls Tryz.prog 95 #[.pointer (some ⟨M, 0, none⟩), nodeV n sn] W fun e W' => e = .returned (nodeV n sn) ∧ Rdr M B W' s (.slice (some ⟨g, 0, none⟩) fs.length cap) fs ∧ Mv (fun b => b = M) W W' := by
  subst hsn
  have HP : Hid (Rdr M B (W.setCell ⟨M, 1, none⟩ (.slice (some ⟨g, 0, none⟩) fs.length cap)) s (.slice (some ⟨g, 0, none⟩) fs.length cap) fs) := h.pop
  have HM : Hid _ := Mv.set1 W M 1 (.slice (some ⟨g, 0, none⟩) fs.length cap)
  obtain ⟨c0, c1, cf, hM⟩ := h.cells
  have cf1 := cf 1
  obtain ⟨g', cap', hv, hcap, hg, hBg, hgM, gf, t0, _, _⟩ := h.top
  simp only [Value.slice.injEq, Option.some.injEq, Addr.mk.injEq] at hv
  obtain ⟨⟨rfl, _⟩, _, rfl⟩ := hv
  have kT := fun W' (hA : Adds W W') => top_any (h.adds hA) hl
  have hw : IntKind.i64.wrap (fs.length : Int) = (fs.length : Int) := by rw [IntKind.wrap_i64]; omega
  have hnn : ((fs.length + 1 : Nat) : Int) = (fs.length : Int) + 1 := by omega
  have hf' : (f.name.toList == []) = true := by simp [hf]
  clear h gf cf hBg hf
  generalize f.name = name at *
  obtain ⟨nk, nt, nm, na⟩ := n
  have hcap' : fs.length ≤ cap := by omega
  simp only [nodeV, N.kind, N.text, N.num]
  generalize hL : fs.length = L at *
  clear hL
  go_enter Tryz.func95, Tryz.ntmps95
  go_wp2_with (go_at_call 93; refine (kT _ (by repeat (first | with_reducible exact Adds.refl _ | with_reducible refine Adds.alloc ?_ _ | with_reducible refine Adds.more ?_ _ _ | with_reducible refine Adds.drew ?_ | with_reducible refine Adds.drewN ?_ _))).mono ?_; rintro e w1 ⟨rfl, q, rfl⟩)
  go_region
  all_goals go_wp2
  refine bodyPost_ret (v := .agg #[.int .i64 nk, .string nt, .int .i64 nm, .slice an nn nc]) (by simp [results, Tryz.results95, go_sem]) rfl ⟨rfl, ?_, ?_⟩
  · exact Rdr.adds HP.out (by repeat (first | with_reducible exact Adds.refl _ | with_reducible refine Adds.alloc ?_ _ | with_reducible refine Adds.more ?_ _ _ | with_reducible refine Adds.drew ?_ | with_reducible refine Adds.drewN ?_ _))
  · exact Mv.trans HM.out (Adds.mv (by repeat (first | with_reducible exact Adds.refl _ | with_reducible refine Adds.alloc ?_ _ | with_reducible refine Adds.more ?_ _ _ | with_reducible refine Adds.drew ?_ | with_reducible refine Adds.drewN ?_ _)))

set_option maxHeartbeats 2000000 in
theorem closed_some {ok : Nat → Prop} {d M B : Nat} {W : World} {s : ByteArray} {fs : List Fm} {f : Fm} {g cap : Nat} (h : Rdr M B W s (.slice (some ⟨g, 0, none⟩) (fs.length + 1) cap) (fs ++ [f])) (hl : fs.length ≤ 100000) (n : N) (sn : Value) (hn : Tn ok d W sn n.args) (hf : f.name.toList ≠ [])
    (hok : ∀ k, W.heap.size ≤ k → ok k) (hoM : ¬ ok M) (hx : n.text.size ≤ 9223372036854775807) :
    Calls Tryz.prog 95 #[.pointer (some ⟨M, 0, none⟩), nodeV n sn] W fun e W' => ∃ sr, e = .returned (.agg #[.int .i64 5, .string f.name, .int .i64 0, sr]) ∧ Tn ok (d + 1) W' sr [n] ∧ Rdr M B W' s (.slice (some ⟨g, 0, none⟩) fs.length cap) fs ∧ Mv (fun b => b = M) W W' := by
  have HP : Hid (Rdr M B (W.setCell ⟨M, 1, none⟩ (.slice (some ⟨g, 0, none⟩) fs.length cap)) s (.slice (some ⟨g, 0, none⟩) fs.length cap) fs) := h.pop
  have hmv := Mv.set1 W M 1 (.slice (some ⟨g, 0, none⟩) fs.length cap)
  have tn := hn.mv hmv (fun b _ hb e => hoM (by rw [← e]; exact hb))
  have HM : Hid _ := hmv
  obtain ⟨an, nc, hsn⟩ := hn.shape
  rw [hsn] at tn ⊢
  have HTN : Hid _ := tn
  obtain ⟨c0, c1, cf, hM⟩ := h.cells
  have cf1 := cf 1
  obtain ⟨g', cap', hv, hcap, hg, hBg, hgM, gf, t0, _, _⟩ := h.top
  simp only [Value.slice.injEq, Option.some.injEq, Addr.mk.injEq] at hv
  obtain ⟨⟨rfl, _⟩, _, rfl⟩ := hv
  have kT := fun W' (hA : Adds W W') => top_any (h.adds hA) hl
  have hw : IntKind.i64.wrap (fs.length : Int) = (fs.length : Int) := by rw [IntKind.wrap_i64]; omega
  have hnn : ((fs.length + 1 : Nat) : Int) = (fs.length : Int) + 1 := by omega
  have hf' : (f.name.toList == []) = false := by simpa using hf
  have hcap' : fs.length ≤ cap := by omega
  clear h gf cf hBg hf hmv tn hn hsn hoM
  generalize f.name = name at *
  obtain ⟨nk, nt, nm, na⟩ := n
  simp only [nodeV, N.kind, N.text, N.num, N.args] at *
  generalize hL : fs.length = L at *
  clear hL
  go_enter Tryz.func95, Tryz.ntmps95
  go_wp2_with (go_at_call 93; refine (kT _ (by repeat (first | with_reducible exact Adds.refl _ | with_reducible refine Adds.alloc ?_ _ | with_reducible refine Adds.more ?_ _ _ | with_reducible refine Adds.drew ?_ | with_reducible refine Adds.drewN ?_ _))).mono ?_; rintro e w1 ⟨rfl, q, rfl⟩)
  go_region
  all_goals go_wp2
  refine bodyPost_ret (v := .agg #[.int .i64 5, .string name, .int .i64 0, .slice (some ⟨W.heap.size + 2, 0, none⟩) 1 1]) (by simp [results, Tryz.results95, go_sem]) rfl ⟨_, rfl, ?_, ?_, ?_⟩
  · exact one_end (a := .mk nk nt nm na) HTN.out (by repeat (first | with_reducible exact Adds.refl _ | with_reducible refine Adds.alloc ?_ _ | with_reducible refine Adds.more ?_ _ _ | with_reducible refine Adds.drew ?_ | with_reducible refine Adds.drewN ?_ _)) (by simp [size_more]) (hok _ (by omega)) hx
  · exact Rdr.adds HP.out (by repeat (first | with_reducible exact Adds.refl _ | with_reducible refine Adds.alloc ?_ _ | with_reducible refine Adds.more ?_ _ _ | with_reducible refine Adds.drew ?_ | with_reducible refine Adds.drewN ?_ _))
  · exact Mv.trans HM.out (Adds.mv (by repeat (first | with_reducible exact Adds.refl _ | with_reducible refine Adds.alloc ?_ _ | with_reducible refine Adds.more ?_ _ _ | with_reducible refine Adds.drew ?_ | with_reducible refine Adds.drewN ?_ _)))

end Go.Proofs.YtiacnmcdfpmcfaaGreatDoor

namespace Go.Proofs.YtiacnmcdfpmcfaaGreatDoor
open Go.RowKit
attribute [local go_sem] cell?_more frozen?_more setCell_more size_more tape_more drew_more drewN_more more_drew more_drewN one_out plus_out plus_end lt_one le_p2 le_p3 le_p4 le_p5 le_p6 le_p7 le_p8 le_p9 le_p10 le_p11 le_p12 le_p13 le_p14 le_p15 le_p16 le_p17 le_p18 le_p19 le_p20 le_p21 le_p22 le_p23 le_p24 le_q0 le_q1 lt_q1 le_q2 lt_q2 le_q3 lt_q3 le_q4 lt_q4 le_q5 lt_q5 le_q6 lt_q6 le_q7 lt_q7 le_q8 lt_q8 le_q9 lt_q9 le_q10 lt_q10 le_q11 lt_q11 le_q12 lt_q12 le_q13 lt_q13 le_q14 lt_q14 le_q15 lt_q15 le_q16 lt_q16 le_q17 lt_q17 le_q18 lt_q18 le_q19 lt_q19 le_q20 lt_q20 le_q21 lt_q21 le_q22 lt_q22 le_q23 lt_q23 le_q24 lt_q24


theorem numOf_snoc (l : List UInt8) (c : UInt8) : numOf (l ++ [c]) = numOf l * 10 + (c.toNat - 48) := by
  simp [numOf, List.foldl_append]

theorem head_get (s : ByteArray) (h : 0 < s.size) : s.toList.head? = some s[0] := by
  rw [List.head?_eq_getElem?, List.getElem?_eq_getElem (by rw [toList_length]; exact h), toList_get]

set_option maxHeartbeats 2000000 in
theorem leaf_num (s : ByteArray) (w : World) (hd : digs s.toList = true) (hl : ¬ (s.toList.length > 15 ∨ s.toList.length > 1 ∧ s.toList.head? = some 48)) :
    Calls Tryz.prog 91 #[.string s] w fun e w' => e = .returned (.tuple #[.agg #[.int .i64 2, .string ⟨#[]⟩, .int .i64 (numOf s.toList : Int), .slice none 0 0], .bool true]) ∧ Adds w w' := by
  have h15 : s.size ≤ 15 := by rw [toList_length] at hl; omega
  have kD := allDig_any s (by omega)
  rw [hd] at kD
  have hdig : ∀ c ∈ s.toList, isDig c = true := by
    simp only [digs, allDig, Bool.and_eq_true, List.all_eq_true] at hd
    exact hd.1
  have hne : 0 < s.size := by
    rw [← toList_length]
    cases h : s.toList with
    | nil => rw [h] at hd; simp [digs] at hd
    | cons _ _ => simp
  have h0 : 1 < s.size → ¬ (s[0].toNat : Int) = 48 := by
    intro h1 h2
    refine hl (.inr ⟨by rw [toList_length]; exact h1, ?_⟩)
    rw [head_get s hne]
    congr 1
    exact UInt8.toNat_inj.1 (by simpa using (by omega : s[0].toNat = 48))
  have HB : Hid (∀ k, k ≤ s.size → numOf (s.toList.take k) < 1000000000000000) := by
    intro k hk
    have h1 := numOf_lt (s.toList.take k) (fun c hc => hdig c (List.mem_of_mem_take hc)) 0
    have h2 : (s.toList.take k).length ≤ 15 := by rw [List.length_take, toList_length]; omega
    have h3 : 10 ^ (s.toList.take k).length ≤ 10 ^ 15 := Nat.pow_le_pow_right (by decide) h2
    have h4 : (10 : Nat) ^ 15 = 1000000000000000 := by decide
    unfold numOf
    omega
  have HD : Hid (∀ k (hk : k < s.size), 48 ≤ (s[k].toNat : Int) ∧ (s[k].toNat : Int) ≤ 57 ∧ numOf (s.toList.take (k + 1)) = numOf (s.toList.take k) * 10 + (s[k].toNat - 48)) := by
    intro k hk
    have hk' : k < s.toList.length := by rw [toList_length]; exact hk
    have h1 := hdig s.toList[k] (List.getElem_mem hk')
    rw [toList_get] at h1
    simp [isDig] at h1
    refine ⟨by omega, by omega, ?_⟩
    rw [List.take_succ_eq_append_getElem hk', toList_get, numOf_snoc]
  clear hd hl hdig
  by_cases h1 : 1 < s.size
  all_goals
    go_enter Tryz.func91, Tryz.ntmps91
    (first | have h0' : ((s[0].toNat : Int) == 48) = false := by simpa using h0 h1 | skip)
    clear h0
    go_wp2_with (go_at_call 120; refine (kD _).mono ?_; rintro e w1 ⟨rfl, hw⟩; subst w1)
    go_loopw [4, 5] (fun nv iv wr => ∃ k : Nat, k ≤ s.size ∧ iv = .int .i64 k ∧ nv = .int .i64 (numOf (s.toList.take k) : Int) ∧ wr = w.alloc (.cells #[.int .i64 0, .string ⟨#[]⟩, .int .i64 0, .slice none 0 0] 81)) (fun _ iv _ => s.size - (intOf iv).toNat)
    case atStart => exact ⟨0, Nat.zero_le _, rfl, by simp [numOf], rfl⟩
    case round =>
      obtain ⟨k, hk, rfl, rfl, rfl⟩ := hrel
      by_cases hlt : k < s.size
      · obtain ⟨d1, d2, d3⟩ := HD.out k hlt
        have b1 := HB.out k hk
        have H3 : Hid _ := d3
        clear d3
        generalize numOf (s.toList.take k) = m at *
        have hsub : IntKind.u8.wrap ((s[k].toNat : Int) - 48) = (s[k].toNat : Int) - 48 := by
          rw [IntKind.wrap_u8]
          omega
        go_wp2
        go_roundw
        case rel =>
          refine ⟨k + 1, by omega, by go_num, ?_, by first | rfl | trivial⟩
          rw [H3.out]
          congr 1
          omega
        case measure => simp [intOf]; omega
      · have hk' : k = s.size := by omega
        subst hk'
        have e1 : s.toList.take s.size = s.toList := by rw [← toList_length, List.take_length]
        rw [e1]
        go_wp2
        refine bodyPost_ret (v := .tuple #[.agg #[.int .i64 2, .string ⟨#[]⟩, .int .i64 (numOf s.toList : Int), .slice none 0 0], .bool true]) (by simp [results, Tryz.results91, go_sem]) rfl ⟨rfl, ?_⟩
        repeat (first | with_reducible exact Adds.refl _ | with_reducible refine Adds.alloc ?_ _ | with_reducible refine Adds.more ?_ _ _ | with_reducible refine Adds.drew ?_ | with_reducible refine Adds.drewN ?_ _)

set_option maxHeartbeats 2000000 in
theorem leaf_bad (s : ByteArray) (hs : s.size ≤ 9223372036854775807) (w : World) (hd : digs s.toList = true) (hl : s.toList.length > 15 ∨ s.toList.length > 1 ∧ s.toList.head? = some 48) :
    Calls Tryz.prog 91 #[.string s] w fun e w' => e = .returned (.tuple #[.agg #[.int .i64 0, .string ⟨#[]⟩, .int .i64 0, .slice none 0 0], .bool false]) ∧ Adds w w' := by
  have kD := allDig_any s hs
  rw [hd] at kD
  rw [toList_length] at hl
  by_cases h15 : s.size > 15
  · have h15' : (15 : Int) < (s.size : Int) := by omega
    clear hl hd
    go_enter Tryz.func91, Tryz.ntmps91
    go_wp2_with (go_at_call 120; refine (kD _).mono ?_; rintro e w1 ⟨rfl, hw⟩; subst w1)
    refine bodyPost_ret (v := .tuple #[.agg #[.int .i64 0, .string ⟨#[]⟩, .int .i64 0, .slice none 0 0], .bool false]) (by simp [results, Tryz.results91, go_sem]) rfl ⟨rfl, ?_⟩
    repeat (first | with_reducible exact Adds.refl _ | with_reducible refine Adds.alloc ?_ _ | with_reducible refine Adds.more ?_ _ _ | with_reducible refine Adds.drew ?_ | with_reducible refine Adds.drewN ?_ _)
  · obtain ⟨h1, h2⟩ : s.size > 1 ∧ s.toList.head? = some 48 := by
      rcases hl with h | h
      · exact absurd h h15
      · exact h
    have h3 : (s[0].toNat : Int) = 48 := by
      rw [head_get s (by omega)] at h2
      simp only [Option.some.injEq] at h2
      rw [h2]
      rfl
    have h15' : ¬ (15 : Int) < (s.size : Int) := by omega
    have h1' : (1 : Int) < (s.size : Int) := by omega
    clear hl hd h2
    go_enter Tryz.func91, Tryz.ntmps91
    go_wp2_with (go_at_call 120; refine (kD _).mono ?_; rintro e w1 ⟨rfl, hw⟩; subst w1)
    refine bodyPost_ret (v := .tuple #[.agg #[.int .i64 0, .string ⟨#[]⟩, .int .i64 0, .slice none 0 0], .bool false]) (by simp [results, Tryz.results91, go_sem]) rfl ⟨rfl, ?_⟩
    repeat (first | with_reducible exact Adds.refl _ | with_reducible refine Adds.alloc ?_ _ | with_reducible refine Adds.more ?_ _ _ | with_reducible refine Adds.drew ?_ | with_reducible refine Adds.drewN ?_ _)

theorem leaf_path (s : ByteArray) (hs : s.size ≤ 9223372036854775807) (w : World) (hd : digs s.toList = false) :
    Calls Tryz.prog 91 #[.string s] w fun e w' => e = .returned (.tuple #[.agg #[.int .i64 1, .string s, .int .i64 0, .slice none 0 0], .bool (pathL s.toList)]) ∧ Adds w w' := by
  have kD := allDig_any s hs
  have kP := path_any s
  rw [hd] at kD
  rw [isPath_L] at kP
  clear hd
  generalize pathL s.toList = q at *
  go_enter Tryz.func91, Tryz.ntmps91
  go_wp2_with (first
    | (go_at_call 120; refine (kD _).mono ?_; rintro e w1 ⟨rfl, hw⟩; subst w1)
    | (go_at_call 121; refine (kP _).mono ?_; rintro e w1 ⟨rfl, hw⟩; subst w1))
  refine bodyPost_ret (v := .tuple #[.agg #[.int .i64 1, .string s, .int .i64 0, .slice none 0 0], .bool q]) (by simp [results, Tryz.results91, go_sem]) rfl ⟨rfl, ?_⟩
  repeat (first | with_reducible exact Adds.refl _ | with_reducible refine Adds.alloc ?_ _ | with_reducible refine Adds.more ?_ _ _ | with_reducible refine Adds.drew ?_ | with_reducible refine Adds.drewN ?_ _)

/-- What leaf tells of a word. -/
theorem leaf_any (l : List UInt8) (hl : l.length ≤ 1000) (w : World) :
    Calls Tryz.prog 91 #[.string (toB l)] w fun e w' => (∃ (n : N) (q : Bool), e = .returned (.tuple #[nodeV n (.slice none 0 0), .bool q]) ∧ q = (leafE l).isSome ∧ (∀ x, leafE l = some x → n = x.toN ∧ x.toN.args = [])) ∧ Adds w w' := by
  have hs : (toB l).size ≤ 9223372036854775807 := by rw [toB_size]; omega
  have h0 : (toB l).toList = l := toB_toList l
  cases hd : digs l with
  | true =>
    by_cases hb : l.length > 15 ∨ l.length > 1 ∧ l.head? = some 48
    · refine (leaf_bad (toB l) hs w (by rw [h0]; exact hd) (by rw [h0]; exact hb)).mono ?_
      rintro e w' ⟨rfl, hA⟩
      have hL : leafE l = none := by rw [leafE, if_pos hd, if_pos hb]
      exact ⟨⟨N.zero, false, rfl, by rw [hL]; rfl, by rw [hL]; intro x h; cases h⟩, hA⟩
    · refine (leaf_num (toB l) w (by rw [h0]; exact hd) (by rw [h0]; exact hb)).mono ?_
      rintro e w' ⟨rfl, hA⟩
      have hL : leafE l = some (.num (numOf l)) := by rw [leafE, if_pos hd, if_neg hb]
      rw [h0]
      exact ⟨⟨.mk 2 ⟨#[]⟩ (numOf l) [], true, rfl, by rw [hL]; rfl, by rw [hL]; intro x h; cases h; exact ⟨rfl, rfl⟩⟩, hA⟩
  | false =>
    refine (leaf_path (toB l) hs w (by rw [h0]; exact hd)).mono ?_
    rintro e w' ⟨rfl, hA⟩
    rw [h0]
    refine ⟨⟨.mk 1 (toB l) 0 [], pathL l, rfl, ?_, ?_⟩, hA⟩
    · unfold leafE
      rw [if_neg (by rw [hd]; simp)]
      cases pathL l <;> simp
    · intro x hx
      unfold leafE at hx
      rw [if_neg (by rw [hd]; simp)] at hx
      split at hx
      · cases hx
        exact ⟨rfl, rfl⟩
      · cases hx

end Go.Proofs.YtiacnmcdfpmcfaaGreatDoor
