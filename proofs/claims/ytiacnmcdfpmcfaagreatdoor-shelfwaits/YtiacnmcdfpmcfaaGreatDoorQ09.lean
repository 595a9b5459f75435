/-
  The reader as it lies in memory: its text and its row of frames; the functions word, take and top, by contracts.
  The function low, by a contract; a row of bytes that is turned byte by byte.
-/
import Derived.Test.YtiacnmcdfpmcfaaGreatDoorNode
import Derived.Test.YtiacnmcdfpmcfaaGreatDoorQ07
import Derived.Lib.ConvBytes
import Derived.Lib.SlBytesConst
import Derived.Lib.SlBytesRow
import Derived.Laws.BytesString
namespace Go.Proofs.YtiacnmcdfpmcfaaGreatDoor
open Go.RowKit
attribute [local go_sem] cell?_more frozen?_more setCell_more size_more tape_more drew_more drewN_more more_drew more_drewN one_out plus_out plus_end lt_one le_p2 le_p3 le_p4 le_p5 le_p6 le_p7 le_p8 le_p9 le_p10 le_p11 le_p12 le_p13 le_p14 le_p15 le_p16 le_p17 le_p18 le_p19 le_p20 le_p21 le_p22 le_p23 le_p24 le_q0 le_q1 lt_q1 le_q2 lt_q2 le_q3 lt_q3 le_q4 lt_q4 le_q5 lt_q5 le_q6 lt_q6 le_q7 lt_q7 le_q8 lt_q8 le_q9 lt_q9 le_q10 lt_q10 le_q11 lt_q11 le_q12 lt_q12 le_q13 lt_q13 le_q14 lt_q14 le_q15 lt_q15 le_q16 lt_q16 le_q17 lt_q17 le_q18 lt_q18 le_q19 lt_q19 le_q20 lt_q20 le_q21 lt_q21 le_q22 lt_q22 le_q23 lt_q23 le_q24 lt_q24


/-- Blocks that are such as X says may have turned; all others stay. -/
structure Mv (X : Nat → Prop) (W W' : World) : Prop where
  os : W'.os = W.os
  tape : W'.tape = W.tape
  output : W'.output = W.output
  size : W.heap.size ≤ W'.heap.size
  block : ∀ b, b < W.heap.size → ¬ X b → W'.heap[b]? = W.heap[b]?

theorem Mv.refl (X : Nat → Prop) (W : World) : Mv X W W := ⟨rfl, rfl, rfl, Nat.le_refl _, fun _ _ _ => rfl⟩
theorem Mv.trans {X : Nat → Prop} {a b c : World} (h : Mv X a b) (k : Mv X b c) : Mv X a c :=
  ⟨k.os.trans h.os, k.tape.trans h.tape, k.output.trans h.output, Nat.le_trans h.size k.size, fun n hn hx => (k.block n (Nat.lt_of_lt_of_le hn h.size) hx).trans (h.block n hn hx)⟩
theorem Mv.mono {X Y : Nat → Prop} {a b : World} (h : Mv X a b) (hxy : ∀ n, n < a.heap.size → X n → Y n) : Mv Y a b :=
  ⟨h.os, h.tape, h.output, h.size, fun n hn hy => h.block n hn (fun hx => hy (hxy n hn hx))⟩
theorem Adds.mv {X : Nat → Prop} {a b : World} (h : Adds a b) : Mv X a b :=
  ⟨h.below.os, h.below.tape, h.below.output, h.below.size, fun n hn _ => h.below.block n hn⟩
theorem Mv.set {X : Nat → Prop} (W : World) {g i : Nat} (x : Value) (hx : X g) : Mv X W (W.setCell ⟨g, i, none⟩ x) :=
  ⟨rfl, rfl, rfl, by simp, fun n _ hn => Below.heap_setCell W ⟨g, i, none⟩ x n (fun e => hn (by rw [e]; exact hx))⟩
theorem Mv.set1 (W : World) (g i : Nat) (x : Value) : Mv (fun b => b = g) W (W.setCell ⟨g, i, none⟩ x) := Mv.set W x rfl
theorem drewN_as (w : World) (n : Nat) : w.drewN n = more w #[] (w.drawn + n) := by simp [more, World.drewN]
theorem Mv.cell {X : Nat → Prop} {a b : World} (h : Mv X a b) {n : Nat} (hn : n < a.heap.size) (hx : ¬ X n) (i : Nat) : b.cell? ⟨n, i, none⟩ = a.cell? ⟨n, i, none⟩ :=
  World.cell?_of_block (w := a) (a := ⟨n, i, none⟩) (h.block n hn hx)
theorem Mv.below {B : Nat} {a b : World} (h : Mv (fun n => B ≤ n) a b) (hB : B ≤ a.heap.size) : Below B a b :=
  ⟨h.os, h.tape, h.output, h.size, fun n hn => h.block n (Nat.lt_of_lt_of_le hn hB) (by omega)⟩
theorem Mv.adds {a b : World} (h : Mv (fun n => a.heap.size ≤ n) a b) : Adds a b := Adds.of (h.below (Nat.le_refl _))
theorem Tn.mv {ok X : Nat → Prop} {d : Nat} {W W' : World} {s : Value} {ts : List N} (h : Tn ok d W s ts) (hm : Mv X W W') (hx : ∀ b, b < W.heap.size → ok b → ¬ X b) : Tn ok d W' s ts :=
  h.frame hm.size (fun b hb hlt => ⟨hm.block b hlt (hx b hlt hb), hb⟩)

/-- A frame as it lies in memory. -/
structure Fm where
  name : ByteArray
  sum : N
  sv : Value
  mul : N
  mv : Value

def Fm.cells (f : Fm) : List Value := [.string f.name, .int .i64 f.sum.kind, .string f.sum.text, .int .i64 f.sum.num, f.sv, .int .i64 f.mul.kind, .string f.mul.text, .int .i64 f.mul.num, f.mv]
def cellsF (fs : List Fm) : List Value := fs.flatMap Fm.cells

theorem cellsF_length (fs : List Fm) : (cellsF fs).length = fs.length * 9 := by
  induction fs with
  | nil => rfl
  | cons f r ih =>
    simp only [cellsF, List.flatMap_cons, List.length_append, List.length_cons] at *
    rw [ih]
    simp [Fm.cells]
    omega

theorem cellsF_append (l t : List Fm) : cellsF (l ++ t) = cellsF l ++ cellsF t := by simp [cellsF]

/-- The reader at M, its text s, its row v of frames. -/
def Rdr (M B : Nat) (W : World) (s : ByteArray) (v : Value) (fs : List Fm) : Prop :=
  W.heap[M]? = some (.cells #[.string s, v] 138 (0, 0)) ∧ W.ownsRow B 135 9 v fs.length (cellsF fs) ∧ B ≤ W.heap.size

theorem lt_of_some {W : World} {M : Nat} {o : Obj} (h : W.heap[M]? = some o) : M < W.heap.size := by
  by_cases hlt : M < W.heap.size
  · exact hlt
  · rw [Array.getElem?_eq_none (by omega)] at h
    cases h

theorem Rdr.cells {M B : Nat} {W : World} {s : ByteArray} {v : Value} {fs : List Fm} (h : Rdr M B W s v fs) :
    W.cell? ⟨M, 0, none⟩ = some (.string s) ∧ W.cell? ⟨M, 1, none⟩ = some v ∧ (∀ i, W.frozen? ⟨M, i, none⟩ = false) ∧ M < W.heap.size :=
  ⟨by simp [World.cell?, h.1], by simp [World.cell?, h.1], fun i => by simp [World.frozen?, h.1], lt_of_some h.1⟩

theorem Rdr.far {M B : Nat} {W : World} {s : ByteArray} {v : Value} {fs : List Fm} (h : Rdr M B W s v fs) : v.ownBlock ≠ some M := by
  intro e
  rcases h.2.1.2 with ⟨rfl, _⟩ | ⟨g, cap, cur, rfl, hb, hg, _⟩
  · cases e
  · simp only [Value.ownBlock, Option.some.injEq] at e
    subst e
    rw [h.1] at hg
    simp at hg

/-- What lies outside of the reader's own blocks may turn as it will. -/
theorem Rdr.mv {M B : Nat} {W W' : World} {s : ByteArray} {v : Value} {fs : List Fm} {X : Nat → Prop} (h : Rdr M B W s v fs) (hm : Mv X W W') (h1 : ¬ X M) (h2 : ∀ g, v.ownBlock = some g → ¬ X g) : Rdr M B W' s v fs := by
  refine ⟨by rw [hm.block M h.cells.2.2.2 h1]; exact h.1, ⟨h.2.1.1, ?_⟩, Nat.le_trans h.2.2 hm.size⟩
  rcases h.2.1.2 with h0 | ⟨g, cap, cur, rfl, hb, hg, hr⟩
  · exact .inl h0
  · exact .inr ⟨g, cap, cur, rfl, hb, by rw [hm.block g (lt_of_some hg) (h2 g rfl)]; exact hg, hr⟩

theorem Rdr.adds {M B : Nat} {W W' : World} {s : ByteArray} {v : Value} {fs : List Fm} (h : Rdr M B W s v fs) (hA : Adds W W') : Rdr M B W' s v fs :=
  h.mv (X := fun _ => False) hA.mv (fun h => h) (fun _ _ h => h)

/-- The top frame: where it lies, and what lies there. -/
theorem Rdr.top {M B : Nat} {W : World} {s : ByteArray} {v : Value} {fs : List Fm} {f : Fm} (h : Rdr M B W s v (fs ++ [f])) :
    ∃ g cap, v = .slice (some ⟨g, 0, none⟩) (fs.length + 1) cap ∧ fs.length + 1 ≤ cap ∧ g < W.heap.size ∧ B ≤ g ∧ g ≠ M ∧ (∀ i, W.frozen? ⟨g, i, none⟩ = false) ∧
      W.cell? ⟨g, fs.length * 9, none⟩ = some (.string f.name) ∧ (W.cell? ⟨g, fs.length * 9 + 1, none⟩ = some (.int .i64 f.sum.kind) ∧ W.cell? ⟨g, fs.length * 9 + 2, none⟩ = some (.string f.sum.text) ∧ W.cell? ⟨g, fs.length * 9 + 3, none⟩ = some (.int .i64 f.sum.num) ∧ W.cell? ⟨g, fs.length * 9 + 4, none⟩ = some f.sv) ∧
      (W.cell? ⟨g, fs.length * 9 + 5, none⟩ = some (.int .i64 f.mul.kind) ∧ W.cell? ⟨g, fs.length * 9 + 6, none⟩ = some (.string f.mul.text) ∧ W.cell? ⟨g, fs.length * 9 + 7, none⟩ = some (.int .i64 f.mul.num) ∧ W.cell? ⟨g, fs.length * 9 + 8, none⟩ = some f.mv) := by
  have hc := fun g => h.2.1.cells (g := g)
  have hfar := h.far
  rcases h.2.1.2 with ⟨_, h0⟩ | ⟨g, cap, cur, rfl, hb, hg, hnc, hcm, hcs, htk⟩
  · simp at h0
  · have hl : (cellsF fs).length = fs.length * 9 := cellsF_length fs
    have hcell : ∀ i x, (Fm.cells f)[i]? = some x → W.cell? ⟨g, fs.length * 9 + i, none⟩ = some x := by
      intro i x hx
      have := hc g rfl (fs.length * 9 + i) x (by rw [cellsF_append, List.getElem?_append_right (by omega), hl]; simpa [cellsF] using hx)
      rwa [Addr.add_lit, Nat.zero_add] at this
    refine ⟨g, cap, by simp, by simpa using hnc, lt_of_some hg, hb, fun e => hfar (by simp [Value.ownBlock, e]), fun i => by simp [World.frozen?, hg], ?_⟩
    exact ⟨hcell 0 _ rfl, ⟨hcell 1 _ rfl, hcell 2 _ rfl, hcell 3 _ rfl, hcell 4 _ rfl⟩, hcell 5 _ rfl, hcell 6 _ rfl, hcell 7 _ rfl, hcell 8 _ rfl⟩

theorem own_set {W : World} {B g n cap i : Nat} {xs : List Value} {x : Value} (h : W.ownsRow B 135 9 (.slice (some ⟨g, 0, none⟩) n cap) n xs) : (W.setCell ⟨g, i, none⟩ x).ownsRow B 135 9 (.slice (some ⟨g, 0, none⟩) n cap) n (xs.set i x) := by
  refine ⟨by rw [List.length_set]; exact h.1, ?_⟩
  rcases h.2 with ⟨h0, _⟩ | ⟨g', cap', cur, he, hb, hg, hnc, hcm, hcs, htk⟩
  · cases h0
  · simp only [Value.slice.injEq, Option.some.injEq, Addr.mk.injEq] at he
    obtain ⟨⟨rfl, _⟩, _, rfl⟩ := he
    refine .inr ⟨g, cap, cur.setIfInBounds i x, rfl, hb, ?_, hnc, hcm, by simp [hcs], ?_⟩
    · simp [World.setCell, Array.getElem?_modify, hg]
    · rw [Array.toList_setIfInBounds, List.take_set, htk]

theorem Rdr.set {M B : Nat} {W : World} {s : ByteArray} {g cap : Nat} {fs : List Fm} {f f' : Fm} (i : Nat) (x : Value) (h : Rdr M B W s (.slice (some ⟨g, 0, none⟩) (fs.length + 1) cap) (fs ++ [f])) (hf : f'.cells = f.cells.set i x) :
    Rdr M B (W.setCell ⟨g, fs.length * 9 + i, none⟩ x) s (.slice (some ⟨g, 0, none⟩) (fs.length + 1) cap) (fs ++ [f']) := by
  have hgM : M ≠ g := fun e => h.far (by simp [Value.ownBlock, e])
  have h2 := h.2.1
  have hl : (fs ++ [f]).length = fs.length + 1 := by simp
  have hl' : (fs ++ [f']).length = fs.length + 1 := by simp
  rw [hl] at h2
  refine ⟨?_, ?_, by simpa using h.2.2⟩
  · rw [Below.heap_setCell W ⟨g, fs.length * 9 + i, none⟩ x M hgM]
    exact h.1
  · rw [hl']
    have h3 := own_set (i := fs.length * 9 + i) (x := x) h2
    have h4 : (cellsF (fs ++ [f])).set (fs.length * 9 + i) x = cellsF (fs ++ [f']) := by
      rw [cellsF_append, cellsF_append, ← cellsF_length fs, List.set_append_right _ _ (by omega)]
      congr 1
      simp only [cellsF, List.flatMap_cons, List.flatMap_nil, List.append_nil, hf]
      congr 1
      omega
    rw [← h4]
    exact h3

theorem set_r0 {W : World} {M : Nat} {a b x : Value} (h : W.heap[M]? = some (.cells #[a, b] 138 (0, 0))) : (W.setCell ⟨M, 0, none⟩ x).heap[M]? = some (.cells #[x, b] 138 (0, 0)) := by
  simp [World.setCell, Array.getElem?_modify, h]
theorem set_r1 {W : World} {M : Nat} {a b x : Value} (h : W.heap[M]? = some (.cells #[a, b] 138 (0, 0))) : (W.setCell ⟨M, 1, none⟩ x).heap[M]? = some (.cells #[a, x] 138 (0, 0)) := by
  simp [World.setCell, Array.getElem?_modify, h]

/-- Its text turned. -/
theorem Rdr.text {M B : Nat} {W : World} {s : ByteArray} {v : Value} {fs : List Fm} (h : Rdr M B W s v fs) (s' : ByteArray) : Rdr M B (W.setCell ⟨M, 0, none⟩ (.string s')) s' v fs := by
  have h' := h.2.1
  refine ⟨set_r0 h.1, ⟨h'.1, ?_⟩, by simpa using h.2.2⟩
  have hfar := h.far
  rcases h'.2 with h0 | ⟨g, cap, cur, rfl, hb, hg, hr⟩
  · exact .inl h0
  · have hne : g ≠ M := fun e => hfar (by simp [Value.ownBlock, e])
    exact .inr ⟨g, cap, cur, rfl, hb, by rw [Below.heap_setCell W ⟨M, 0, none⟩ _ g hne]; exact hg, hr⟩

/-- Without its top frame. -/
theorem Rdr.pop {M B : Nat} {W : World} {s : ByteArray} {g cap : Nat} {fs : List Fm} {f : Fm} (h : Rdr M B W s (.slice (some ⟨g, 0, none⟩) (fs.length + 1) cap) (fs ++ [f])) :
    Rdr M B (W.setCell ⟨M, 1, none⟩ (.slice (some ⟨g, 0, none⟩) fs.length cap)) s (.slice (some ⟨g, 0, none⟩) fs.length cap) fs := by
  have hfar := h.far
  refine ⟨set_r1 h.1, ⟨cellsF_length fs, ?_⟩, by simpa using h.2.2⟩
  rcases h.2.1.2 with ⟨h0, _⟩ | ⟨g', cap', cur, he, hb, hg, hnc, hcm, hcs, htk⟩
  · cases h0
  · simp only [Value.slice.injEq, Option.some.injEq, Addr.mk.injEq] at he
    obtain ⟨⟨rfl, _⟩, _, rfl⟩ := he
    have hne : g ≠ M := fun e => hfar (by simp [Value.ownBlock, e])
    refine .inr ⟨g, cap, cur, rfl, hb, by rw [Below.heap_setCell W ⟨M, 1, none⟩ _ g hne]; exact hg, by simp at hnc; omega, hcm, hcs, ?_⟩
    have h2 : (cur.toList.take ((fs ++ [f]).length * 9)).take (fs.length * 9) = (cellsF (fs ++ [f])).take (fs.length * 9) := by rw [htk]
    rw [List.take_take, cellsF_append, ← cellsF_length fs, List.take_left, cellsF_length] at h2
    rw [← h2]
    congr 1
    simp

theorem ret_str {a b : ByteArray} (h : a = b) : Ending.returned (.string a) = .returned (.string b) := by rw [h]

theorem while_of {l : List UInt8} {k : Nat} (hk : k ≤ l.length) (h1 : ∀ c ∈ l.take k, wc c = true) (h2 : ∀ h : k < l.length, wc l[k] = false) : l.takeWhile wc = l.take k ∧ l.dropWhile wc = l.drop k := by
  have h3 := take_stop (s := l.take k) (r := l.drop k) h1 (fun c t hc => by
    have hlt : k < l.length := by
      by_cases h : k < l.length
      · exact h
      · rw [List.drop_of_length_le (by omega)] at hc
        cases hc
    rw [List.drop_eq_getElem_cons hlt] at hc
    simp only [List.cons.injEq] at hc
    rw [← hc.1]
    exact h2 hlt)
  rw [List.take_append_drop] at h3
  exact h3

theorem extract_L (s : ByteArray) (a b : Nat) : (s.extract a b).toList = (s.toList.take b).drop a := by
  rw [ByteArray.toList_eq, ByteArray.toList_eq]
  simp only [ByteArray.data_extract, Array.toList_extract, List.extract_eq_take_drop]
  rw [List.drop_take]

set_option maxHeartbeats 1000000 in
theorem word_any {M B : Nat} {W : World} {s : ByteArray} {v : Value} {fs : List Fm} (h : Rdr M B W s v fs) (hs : s.size ≤ 9223372036854775807) :
    Calls Tryz.prog 88 #[.pointer (some ⟨M, 0, none⟩)] W fun e W' => e = .returned (.string (toB (s.toList.takeWhile wc))) ∧ W' = W.setCell ⟨M, 0, none⟩ (.string (toB (s.toList.dropWhile wc))) := by
  obtain ⟨c0, c1, cf, hM⟩ := h.cells
  have cf0 := cf 0
  clear cf c1
  go_enter Tryz.func88, Tryz.ntmps88
  go_wp2
  go_loopw [3] (fun i wr => ∃ k : Nat, k ≤ s.size ∧ i = .int .i64 k ∧ (∀ c ∈ s.toList.take k, wc c = true) ∧ wr = W) (fun i _ => s.size - (intOf i).toNat)
  case atStart => exact ⟨0, Nat.zero_le _, rfl, by simp, rfl⟩
  case round =>
    obtain ⟨k, hk, rfl, hall, rfl⟩ := hrel
    by_cases hlt : k < s.size
    · have hi := inWordE_any s[k]
      have hk' : k < s.toList.length := by rw [toList_length]; exact hlt
      have HN : Hid (wc s[k] = true → ∀ c ∈ s.toList.take (k + 1), wc c = true) := by
        intro hw c hc
        rw [List.take_succ_eq_append_getElem hk', toList_get] at hc
        rcases List.mem_append.1 hc with hc | hc
        · exact hall c hc
        · simp only [List.mem_singleton] at hc
          rw [hc]
          exact hw
      have HF : Hid (wc s[k] = false → s.toList.takeWhile wc = s.toList.take k ∧ s.toList.dropWhile wc = s.toList.drop k) := by
        intro hw
        exact while_of (by rw [toList_length]; omega) hall (fun h => by rw [toList_get]; exact hw)
      generalize hq : wc s[k] = q at hi HN HF
      clear hq hall hk'
      cases q
      · have hw1 := HF.out rfl
        have HW : Hid _ := hw1
        clear hw1 HF HN
        go_wp2_with (go_at_call 119; refine (hi _).mono ?_; rintro e w1 ⟨rfl, hw⟩; subst w1)
        go_ret
        refine ⟨?_, ?_⟩
        · refine ret_str (toB_eq ?_)
          rw [HW.out.1, extract_L]
          simp
        · congr 2
          apply toB_eq
          rw [HW.out.2, extract_L, List.take_of_length_le (by rw [toList_length]; exact Nat.le_refl _)]
      · have hw1 := HN.out rfl
        have HW : Hid _ := hw1
        clear hw1 HF HN
        go_wp2_with (go_at_call 119; refine (hi _).mono ?_; rintro e w1 ⟨rfl, hw⟩; subst w1)
        go_roundw
        case rel => exact ⟨k + 1, by omega, by go_num, HW.out, trivial⟩
        case measure => simp [intOf]; omega
    · have hk' : k = s.size := by omega
      subst hk'
      have hw1 := while_of (l := s.toList) (k := s.size) (by rw [toList_length]; exact Nat.le_refl _) hall (fun h => by rw [toList_length] at h; omega)
      have HW : Hid _ := hw1
      clear hw1 hall
      go_wp2
      go_ret
      refine ⟨ret_str (toB_eq (by rw [HW.out.1, ← toList_length, List.take_length])), ?_⟩
      congr 2
      apply toB_eq
      rw [HW.out.2, ← toList_length, List.drop_length, ByteArray.toList_eq]
      rfl

/-- A sign stands ahead. -/
theorem take_yes {M B : Nat} {W : World} {s : ByteArray} {v : Value} {fs : List Fm} (h : Rdr M B W s v fs) (hs : s.size ≤ 9223372036854775807) {c : UInt8} {r : List UInt8} (hc : s.toList = c :: r) :
    Calls Tryz.prog 90 #[.pointer (some ⟨M, 0, none⟩), .int .u8 (c.toNat : Int)] W fun e W' => e = .returned (.bool true) ∧ W' = W.setCell ⟨M, 0, none⟩ (.string (toB r)) := by
  obtain ⟨c0, c1, cf, hM⟩ := h.cells
  have cf0 := cf 0
  clear cf c1
  have hlt : 0 < s.size := by rw [← toList_length, hc]; simp
  have hne : (s.toList == []) = false := by simp [hc]
  have h0 : s[0] = c := by
    rw [← toList_get s 0 (by rw [hc]; simp)]
    simp [hc]
  have HR : Hid ((s.extract 1 s.size) = toB r) := by
    apply toB_eq
    rw [extract_L, List.take_of_length_le (by rw [toList_length]; exact Nat.le_refl _), hc]
    rfl
  clear hc
  go_enter Tryz.func90, Tryz.ntmps90
  go_wp2
  go_ret
  exact ⟨rfl, by rw [← HR.out]⟩

theorem take_no {M B : Nat} {W : World} {s : ByteArray} {v : Value} {fs : List Fm} (h : Rdr M B W s v fs) {c : UInt8} (hc : ∀ r, s.toList ≠ c :: r) :
    Calls Tryz.prog 90 #[.pointer (some ⟨M, 0, none⟩), .int .u8 (c.toNat : Int)] W fun e W' => e = .returned (.bool false) ∧ W' = W := by
  obtain ⟨c0, c1, cf, hM⟩ := h.cells
  clear cf c1
  cases hl : s.toList with
  | nil =>
    have hne : (s.toList == []) = true := by simp [hl]
    clear hl hc
    go_enter Tryz.func90, Tryz.ntmps90
    go_wp2
    go_ret
    exact ⟨rfl, rfl⟩
  | cons x r =>
    have hne : (s.toList == []) = false := by simp [hl]
    have hlt : 0 < s.size := by rw [← toList_length, hl]; simp
    have h0 : s[0] = x := by
      rw [← toList_get s 0 (by rw [hl]; simp)]
      simp [hl]
    have hx : ¬ (x.toNat : Int) = (c.toNat : Int) := by
      intro e
      have : x = c := UInt8.toNat_inj.1 (by omega)
      subst this
      exact hc r hl
    have hx' : ((x.toNat : Int) != (c.toNat : Int)) = true := by simpa using hx
    clear hl hc hx
    go_enter Tryz.func90, Tryz.ntmps90
    go_wp2
    go_ret
    exact ⟨rfl, rfl⟩

theorem top_any {M B : Nat} {W : World} {s : ByteArray} {fs : List Fm} {f : Fm} {g cap : Nat} (h : Rdr M B W s (.slice (some ⟨g, 0, none⟩) (fs.length + 1) cap) (fs ++ [f])) (hl : fs.length ≤ 100000) :
    Calls Tryz.prog 93 #[.pointer (some ⟨M, 0, none⟩)] W fun e W' => e = .returned (.pointer (some ⟨g, fs.length * 9, none⟩)) ∧ ∃ n, W' = more W #[] n := by
  obtain ⟨c0, c1, cf, hM⟩ := h.cells
  clear cf c0 h
  have hw : IntKind.i64.wrap (fs.length : Int) = (fs.length : Int) := by rw [IntKind.wrap_i64]; omega
  have hn : ((fs.length + 1 : Nat) : Int) = (fs.length : Int) + 1 := by omega
  generalize fs.length = n at *
  go_enter Tryz.func93, Tryz.ntmps93
  go_wp2
  go_quiet (fail)
  go_wp2
  go_ret
  exact ⟨rfl, _, drewN_as _ _⟩

end Go.Proofs.YtiacnmcdfpmcfaaGreatDoor

namespace Go.Proofs.YtiacnmcdfpmcfaaGreatDoor
open Go.RowKit
attribute [local go_sem] cell?_more frozen?_more setCell_more size_more tape_more drew_more drewN_more more_drew more_drewN one_out plus_out plus_end lt_one le_p2 le_p3 le_p4 le_p5 le_p6 le_p7 le_p8 le_p9 le_p10 le_p11 le_p12 le_p13 le_p14 le_p15 le_p16 le_p17 le_p18 le_p19 le_p20 le_p21 le_p22 le_p23 le_p24 le_q0 le_q1 lt_q1 le_q2 lt_q2 le_q3 lt_q3 le_q4 lt_q4 le_q5 lt_q5 le_q6 lt_q6 le_q7 lt_q7 le_q8 lt_q8 le_q9 lt_q9 le_q10 lt_q10 le_q11 lt_q11 le_q12 lt_q12 le_q13 lt_q13 le_q14 lt_q14 le_q15 lt_q15 le_q16 lt_q16 le_q17 lt_q17 le_q18 lt_q18 le_q19 lt_q19 le_q20 lt_q20 le_q21 lt_q21 le_q22 lt_q22 le_q23 lt_q23 le_q24 lt_q24


/-- The bytes l lie in block g, and may be turned. -/
def LB (w : World) (g : Nat) (l : List UInt8) : Prop := g < w.heap.size ∧ (∀ j (h : j < l.length), w.cell? ⟨g, j, none⟩ = some (.int .u8 (l[j].toNat : Int))) ∧ (∀ j, j < l.length → w.frozen? ⟨g, j, none⟩ = false)

theorem LB.conv (w : World) (s : ByteArray) : LB (Lib.bytesWorld w 5 s) w.heap.size s.toList := by
  refine ⟨by rw [Lib.bytesWorld_size]; omega, fun j hj => ?_, fun j hj => ?_⟩
  · rw [Lib.bytesWorld_cell w 5 s j (by rw [← toList_length]; exact hj)]
    have e : s.data.toList = s.toList := by rw [ByteArray.toList_eq]
    rw [e, List.getD, List.getElem?_eq_getElem hj]
    rfl
  · have hnew := Lib.bytesWorld_at_new w 5 s
    have hge := grownCap_ge w s.size 0 5
    have hsz : (Lib.bytesCells w 5 s).size = grownCap w s.size 0 5 := by
      simp only [Lib.bytesCells, Array.size_append, Array.size_map, Array.size_replicate]
      show s.size + _ = _
      omega
    rw [toList_length] at hj
    simp only [World.frozen?, hnew]
    simp
    omega

theorem LB.set {w : World} {g : Nat} {l : List UInt8} (h : LB w g l) {k : Nat} (hk : k < l.length) (c : UInt8) : LB (w.setCell ⟨g, k, none⟩ (.int .u8 (c.toNat : Int))) g (l.set k c) := by
  obtain ⟨h0, h1, h2⟩ := h
  have hc := h1 k hk
  refine ⟨by simpa using h0, fun j hj => ?_, fun j hj => ?_⟩
  · rw [List.length_set] at hj
    by_cases e : k = j
    · subst e
      rw [World.cell?_setCell_same' _ _ _ (by rw [hc]; rfl)]
      simp
    · rw [show (w.setCell ⟨g, k, none⟩ (.int .u8 (c.toNat : Int))).cell? ⟨g, j, none⟩ = w.cell? ⟨g, j, none⟩ from World.cell?_setCell_other _ _ _ _ (by intro h; simp at h), h1 j hj]
      simp [e]
  · rw [List.length_set] at hj
    have := h2 j hj
    simpa using this

theorem LB.str {w : World} {g : Nat} {l : List UInt8} (h : LB w g l) (cap : Nat) : (convert 120 9 (.slice (some ⟨g, 0, none⟩) l.length cap)).run Tryz.prog w = .ok (.string (toB l)) w := by
  have := Lib.run_convert_whole (P := Tryz.prog) w 120 5 9 Tryz.underlying120 Tryz.underlying5 Tryz.underlying9 g 0 (toB l) (fun i hi => by
    have hi' : i < l.length := hi
    rw [Nat.zero_add, h.2.1 i hi']
    rfl) cap
  rw [toB_size] at this
  exact this

def mixL (f : UInt8 → UInt8) (l : List UInt8) (k : Nat) : List UInt8 := (l.take k).map f ++ l.drop k

theorem mixL_length (f : UInt8 → UInt8) (l : List UInt8) {k : Nat} (hk : k ≤ l.length) : (mixL f l k).length = l.length := by
  simp [mixL]
  omega

theorem mixL_at (f : UInt8 → UInt8) (l : List UInt8) {k : Nat} (hk : k < l.length) : (mixL f l k)[k]'(by rw [mixL_length f l (by omega)]; exact hk) = l[k] := by
  simp only [mixL]
  rw [List.getElem_append_right (by simp; omega)]
  simp [List.length_take, Nat.min_eq_left (Nat.le_of_lt hk)]

theorem mixL_next (f : UInt8 → UInt8) (l : List UInt8) {k : Nat} (hk : k < l.length) : mixL f l (k + 1) = (mixL f l k).set k (f l[k]) := by
  simp only [mixL]
  rw [List.take_succ_eq_append_getElem hk, List.map_append]
  rw [List.set_append_right _ _ (by simp; omega)]
  simp [List.length_take, Nat.min_eq_left (Nat.le_of_lt hk)]
  rw [List.drop_eq_getElem_cons hk, List.set_cons_zero]

theorem mixL_all (f : UInt8 → UInt8) (l : List UInt8) : mixL f l l.length = l.map f := by simp [mixL]

theorem lowC_up {c : UInt8} (h : 65 ≤ c.toNat ∧ c.toNat ≤ 90) : ((lowC c).toNat : Int) = (c.toNat : Int) + 32 := by
  have e : lowC c = c + 32 := by simp [lowC, h]
  rw [e, UInt8.toNat_add]
  have : (32 : UInt8).toNat = 32 := rfl
  omega

set_option maxHeartbeats 2000000 in
theorem low_any (s : ByteArray) (hs : s.size ≤ 256) (w : World) :
    Calls Tryz.prog 187 #[.string s] w fun e w' => e = .returned (.string (lowB s)) ∧ Adds w w' := by
  have hc0 := Lib.run_convert_string_bytes (P := Tryz.prog) w 9 120 5 s Tryz.underlying9 Tryz.underlying120 Tryz.underlying5
  have hL := LB.conv w s
  have hM : Mv (fun b => w.heap.size ≤ b) w (Lib.bytesWorld w 5 s) := ⟨rfl, rfl, rfl, by rw [Lib.bytesWorld_size]; omega, fun k hk _ => Lib.bytesWorld_at_old w 5 s k hk⟩
  generalize Lib.bytesWorld w 5 s = W0 at *
  generalize grownCap w s.size 0 5 = cap at *
  unfold lowB
  have hsz := toList_length s
  generalize hl : s.toList = l at *
  rw [← hsz] at hc0 hs
  clear hsz hl
  have HL : Hid (LB W0 w.heap.size l) := hL
  have HM : Hid (Mv (fun b => w.heap.size ≤ b) w W0) := hM
  clear hL hM
  go_enter Tryz.func187, Tryz.ntmps187
  go_wp2
  go_loopw [10] (fun iv wr => ∃ k : Nat, k ≤ l.length ∧ iv = .int .i64 k ∧ Hid (LB wr w.heap.size (mixL lowC l k)) ∧ Hid (Mv (fun b => w.heap.size ≤ b) w wr)) (fun iv _ => l.length - (intOf iv).toNat)
  case atStart => exact ⟨0, Nat.zero_le _, rfl, by simpa [mixL] using HL, HM⟩
  case round =>
    obtain ⟨k, hk, rfl, hB, hMv⟩ := hrel
    by_cases hlt : k < l.length
    · have hlen := mixL_length lowC l hk
      have c0 := hB.out.2.1 k (by rw [hlen]; exact hlt)
      rw [mixL_at lowC l hlt] at c0
      have cf := hB.out.2.2 k (by rw [hlen]; exact hlt)
      have hgl := hB.out.1
      have HN : Hid (mixL lowC l (k + 1) = (mixL lowC l k).set k (lowC l[k])) := mixL_next lowC l hlt
      have HS : Hid (LB (wr.setCell ⟨w.heap.size, k, none⟩ (.int .u8 ((lowC l[k]).toNat : Int))) w.heap.size (mixL lowC l (k + 1))) := by
        have := hB.out.set (by rw [hlen]; exact hlt) (lowC l[k])
        rw [← HN.out] at this
        exact this
      have HK : Hid (¬ (65 ≤ l[k].toNat ∧ l[k].toNat ≤ 90) → mixL lowC l (k + 1) = mixL lowC l k) := by
        intro h
        rw [HN.out]
        have e : lowC l[k] = l[k] := by simp only [lowC, h, if_false]
        rw [e]
        have := mixL_at lowC l hlt
        rw [← this]
        simp
      have HU : Hid (65 ≤ l[k].toNat ∧ l[k].toNat ≤ 90 → ((lowC l[k]).toNat : Int) = (l[k].toNat : Int) + 32) := lowC_up
      clear hlen
      by_cases h1 : 65 ≤ (l[k].toNat : Int)
      · by_cases h2 : (l[k].toNat : Int) ≤ 90
        · have hu := HU.out ⟨by omega, by omega⟩
          rw [hu] at HS
          clear hu HU HK HN
          generalize (l[k].toNat : Int) = c at *
          have w1 : IntKind.u8.wrap (c - 65) = c - 65 := by rw [IntKind.wrap_u8]; omega
          have w2 : IntKind.u8.wrap (c - 65 + 97) = c + 32 := by rw [IntKind.wrap_u8]; omega
          go_wp2
          go_roundw
          case rel =>
            refine ⟨k + 1, by omega, by go_num, ?_, ?_⟩
            · first
                | exact HS
                | (have := HS.out
                   have e : c - 65 + 97 = c + 32 := by omega
                   rw [← e] at this
                   exact this)
            · exact Mv.trans hMv.out (Mv.set _ _ (Nat.le_refl _))
          case measure => simp [intOf]; omega
        · have HE : Hid (mixL lowC l (k + 1) = mixL lowC l k) := HK.out (by omega)
          clear HU HK HN HS
          go_wp2
          go_roundw
          case rel => exact ⟨k + 1, by omega, by go_num, by rw [HE.out]; exact hB, hMv⟩
          case measure => simp [intOf]; omega
      · have HE : Hid (mixL lowC l (k + 1) = mixL lowC l k) := HK.out (by omega)
        clear HU HK HN HS
        go_wp2
        go_roundw
        case rel => exact ⟨k + 1, by omega, by go_num, by rw [HE.out]; exact hB, hMv⟩
        case measure => simp [intOf]; omega
    · have hk' : k = l.length := by omega
      subst hk'
      have hcv := hB.out.str cap
      rw [mixL_length lowC l (Nat.le_refl _), mixL_all] at hcv
      have hA := Mv.adds hMv.out
      clear hB hMv
      go_wp2
      go_ret
      exact ⟨rfl, hA⟩

end Go.Proofs.YtiacnmcdfpmcfaaGreatDoor
