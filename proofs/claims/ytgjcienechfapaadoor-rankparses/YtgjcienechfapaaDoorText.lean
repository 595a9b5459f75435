/-
  The reader's text, by a contract: what a text's groups read as, or that they are none.
-/
import Derived.Test.YtgjcienechfapaaDoorBuild
namespace Go.Proofs.YtgjcienechfapaaDoor
open Go.RowKit

/-- What the reader makes of groups, behind the bytes acc that it has. -/
def decT (acc s : List UInt8) : Option (List UInt8 × List UInt8) :=
  if 256 < acc.length then none
  else if h : s.length < 8 then none
  else if s[7]'(by omega) = 8 then decT (acc ++ s.take 7) (s.drop 8)
  else if 7 ≤ (s[7]'(by omega)).toNat then none
  else if ((s.take 7).drop (s[7]'(by omega)).toNat).all (· == 0) then some (acc ++ s.take (s[7]'(by omega)).toNat, s.drop 8)
  else none
termination_by s.length
decreasing_by simp; omega

def restSize (w : World) (rb : Nat) : Nat := match w.cell? ⟨rb, 0, none⟩ with
  | some (.string s) => s.size
  | _ => 0
theorem Rd.size {w : World} {rb : Nat} {s : ByteArray} (h : Rd w rb s) : restSize w rb = s.size := by
  simp [restSize, h.cell]

theorem builder_set {T e : TypeId} {B b : Nat} {bs : List Value} {w : World} (h : Lib.IsBuilder T e B b bs w) {p : Addr} (hp : p.block < B) (u : Value) : Lib.IsBuilder T e B b bs (w.setCell p u) := by
  have key : ∀ q, Lib.BuilderAt T e B b q bs w → Lib.BuilderAt T e B b q bs (w.setCell p u) := by
    rintro q ⟨hB, v, hb, hown, hne⟩
    refine ⟨hB, v, ?_, ownsRow_setCell_below hown hp u, hne⟩
    rw [Below.heap_setCell w p u b (by omega)]
    exact hb
  rcases h with h | h
  · exact .inl (key _ h)
  · exact .inr (key _ h)

/-- What text() leaves: the text and what stands behind it, or nothing. -/
def TextSays (s : ByteArray) (rb : Nat) (e : Ending) (w' : World) : Prop :=
  match decT [] s.toList with
  | some (t, rest) => e = .returned (.tuple #[(V.mkText ⟨t.toArray⟩).val, .bool true]) ∧ ∃ r, Rd w' rb r ∧ r.toList = rest
  | none => ∃ v : V, e = .returned (.tuple #[v.val, .bool false])

theorem decT_far {acc s : List UInt8} (h : 256 < acc.length) : decT acc s = none := by
  rw [decT]; simp [h]
theorem decT_short {acc s : List UInt8} (h : ¬ 256 < acc.length) (hs : s.length < 8) : decT acc s = none := by
  rw [decT]; simp [h, hs]
theorem decT_on {acc s : List UInt8} (h : ¬ 256 < acc.length) (hs : 8 ≤ s.length) (h8 : s[7] = 8) : decT acc s = decT (acc ++ s.take 7) (s.drop 8) := by
  rw [decT]; simp [h, Nat.not_lt.2 hs, h8]
theorem decT_mark {acc s : List UInt8} (h : ¬ 256 < acc.length) (hs : 8 ≤ s.length) (h8 : s[7] ≠ 8) (h7 : 7 ≤ s[7].toNat) : decT acc s = none := by
  rw [decT]; simp [h, Nat.not_lt.2 hs, h8, h7]
theorem decT_end {acc s : List UInt8} (h : ¬ 256 < acc.length) (hs : 8 ≤ s.length) (h7 : s[7].toNat < 7) :
    decT acc s = if ((s.take 7).drop s[7].toNat).all (· == 0) then some (acc ++ s.take s[7].toNat, s.drop 8) else none := by
  have h8 : s[7] ≠ 8 := by intro e; rw [e] at h7; simp at h7
  rw [decT]; simp [h, Nat.not_lt.2 hs, h8, Nat.not_le.2 h7]

/-- The state in text()'s loop. -/
structure TS (w : World) (rb : Nat) (s : ByteArray) (wr : World) (acc : List UInt8) (s' : ByteArray) : Prop where
  rd : Rd wr rb s'
  bld : Lib.IsBuilder 66 5 (w.heap.size + 1) (w.heap.size + 1) (Lib.byteCells acc) wr
  box : wr.heap[w.heap.size]? = some (Obj.cells #[.int .i64 0, .int .i64 0, .string ⟨#[]⟩, .int .i64 0, .int .i64 0] 31 (0, 0))
  mv : w.grownBy wr (some rb)
  size : w.heap.size + 2 ≤ wr.heap.size
  dec : decT acc s'.toList = decT [] s.toList

theorem cells_frozen5 {w : World} {k : Nat} {a b c d e : Value} {t : TypeId} (h : w.heap[k]? = some (Obj.cells #[a, b, c, d, e] t (0, 0))) :
    (w.cell? ⟨k, 0, none⟩ = some a ∧ w.cell? ⟨k, 1, none⟩ = some b ∧ w.cell? ⟨k, 2, none⟩ = some c ∧ w.cell? ⟨k, 3, none⟩ = some d ∧ w.cell? ⟨k, 4, none⟩ = some e) ∧
    (w.frozen? ⟨k, 0, none⟩ = false ∧ w.frozen? ⟨k, 1, none⟩ = false ∧ w.frozen? ⟨k, 2, none⟩ = false ∧ w.frozen? ⟨k, 3, none⟩ = false ∧ w.frozen? ⟨k, 4, none⟩ = false) := by
  simp [World.cell?, World.frozen?, h]

theorem mv_five {a w : World} {row : Option Nat} (h : a.grownBy w row) {k : Nat} (hk : a.heap.size ≤ k) (x0 x1 x2 x3 x4 : Value) :
    a.grownBy (((((w.setCell ⟨k, 0, none⟩ x0).setCell ⟨k, 1, none⟩ x1).setCell ⟨k, 2, none⟩ x2).setCell ⟨k, 3, none⟩ x3).setCell ⟨k, 4, none⟩ x4) row :=
  mv_set (mv_set (mv_set (mv_set (mv_set h (p := ⟨k, 0, none⟩) (.inl hk) x0) (p := ⟨k, 1, none⟩) (.inl hk) x1) (p := ⟨k, 2, none⟩) (.inl hk) x2) (p := ⟨k, 3, none⟩) (.inl hk) x3) (p := ⟨k, 4, none⟩) (.inl hk) x4

theorem Rd.five {w : World} {rb : Nat} {s : ByteArray} (h : Rd w rb s) {k : Nat} (hk : k ≠ rb) (x0 x1 x2 x3 x4 : Value) :
    Rd (((((w.setCell ⟨k, 0, none⟩ x0).setCell ⟨k, 1, none⟩ x1).setCell ⟨k, 2, none⟩ x2).setCell ⟨k, 3, none⟩ x3).setCell ⟨k, 4, none⟩ x4) rb s :=
  ((((h.other (p := ⟨k, 0, none⟩) hk x0).other (p := ⟨k, 1, none⟩) hk x1).other (p := ⟨k, 2, none⟩) hk x2).other (p := ⟨k, 3, none⟩) hk x3).other (p := ⟨k, 4, none⟩) hk x4

theorem extract_mid (s : ByteArray) (a b : Nat) : (s.extract a b).toList = (s.toList.take b).drop a := by
  rw [ByteArray.toList_eq, ByteArray.toList_eq]
  simp only [ByteArray.data_extract, Array.toList_extract, List.extract_eq_take_drop]
  rw [List.drop_take]

theorem says_none {s : ByteArray} {rb : Nat} {w' : World} (v : V) (h : decT [] s.toList = none) : TextSays s rb (.returned (.tuple #[v.val, .bool false])) w' := by
  unfold TextSays
  rw [h]
  exact ⟨v, rfl⟩

theorem block_at (w : World) (o : Obj) : (w.alloc o).heap[w.heap.size]? = some o := by
  show (w.heap.push o)[w.heap.size]? = _
  simp
theorem block_old {w : World} {k : Nat} {o' : Obj} (h : w.heap[k]? = some o') (o : Obj) : (w.alloc o).heap[k]? = some o' := by
  have hlt : k < w.heap.size := by
    by_cases hlt : k < w.heap.size
    · exact hlt
    · rw [Array.getElem?_eq_none (by omega)] at h
      cases h
  rw [Below.heap_alloc w o k hlt]
  exact h

theorem trim_any (s : ByteArray) (w : World) (hs : s.size ≤ 1000) :
    Calls Tryd.prog 38 #[.string s, .string ⟨#[0]⟩] w fun e w' => e = .returned (.string ⟨(Lib.trimB s.data.toList 0).toArray⟩) ∧ ∃ q, w' = w.drewN q :=
  (Tryd.strings_Trim_one s 0 (by decide) w (by omega)).mono fun _ _ ⟨h, h'⟩ => ⟨h, by
    rcases h' with rfl | rfl
    · exact ⟨0, rfl⟩
    · exact ⟨1, rfl⟩⟩

theorem dropWhile_nil {l : List UInt8} : l.dropWhile (· == 0) = [] ↔ l.all (· == 0) = true := by
  induction l with
  | nil => simp
  | cons x l ih =>
    by_cases h : x = 0
    · simp [h, ih]
    · simp [h]

theorem trim_zero (l : List UInt8) : Lib.trimB l 0 = [] ↔ l.all (· == 0) = true := by
  unfold Lib.trimB Lib.trimLeftB Lib.trimRightB
  rw [dropWhile_nil]
  constructor
  · intro h
    have h1 : (l.reverse.dropWhile (· == 0)).all (· == 0) = true := by simpa using h
    have h2 : l.reverse.all (· == 0) = true := by
      rw [← List.takeWhile_append_dropWhile (p := (· == 0)) (l := l.reverse), List.all_append, h1, Bool.and_true]
      exact List.all_takeWhile
    simpa using h2
  · intro h
    have h2 : l.reverse.dropWhile (· == 0) = [] := dropWhile_nil.2 (by simpa using h)
    rw [h2]
    rfl

theorem Rd.under {w w' : World} {rb B : Nat} {s : ByteArray} (h : Rd w rb s) (hb : Below B w w') (hB : rb < B) : Rd w' rb s := by
  unfold Rd
  rw [hb.block rb hB]
  exact h
theorem mv_low {a b c : World} {row : Option Nat} {B : Nat} (h : a.grownBy b row) (hb : Below B b c) (hB : a.heap.size ≤ B) : a.grownBy c row :=
  ⟨hb.os.trans h.os, hb.tape.trans h.tape, hb.output.trans h.output, Nat.le_trans h.size hb.size, fun k hk hr => (hb.block k (Nat.lt_of_lt_of_le hk hB)).trans (h.block k hk hr)⟩
theorem mv_drewN {a b : World} {row : Option Nat} (h : a.grownBy b row) (q : Nat) : a.grownBy (b.drewN q) row := ⟨h.os, h.tape, h.output, h.size, h.block⟩
theorem byteCells_text (acc : List UInt8) (x : ByteArray) : Lib.byteCells acc ++ Lib.strCells x = Lib.byteCells (acc ++ x.toList) := by
  rw [ByteArray.toList_eq]
  simp [Lib.byteCells, Lib.strCells]

theorem TS.after {w : World} {rb : Nat} {s : ByteArray} {wr w2 : World} {acc : List UInt8} {s' : ByteArray} (T : TS w rb s wr acc s') (hlt : rb < w.heap.size) {rest X : ByteArray} {n : Nat} (hX : X.toList = s'.toList.take 8) (hn : n ≤ 8)
    (hb2 : Lib.BuilderAt 66 5 (w.heap.size + 1) (w.heap.size + 1) (.pointer (some ⟨w.heap.size + 1, 0, none⟩)) (Lib.byteCells acc ++ Lib.strCells (X.extract 0 n)) w2)
    (hbel : Below (w.heap.size + 1) (wr.setCell ⟨rb, 0, none⟩ (.string rest)) w2) :
    Rd w2 rb rest ∧ Lib.IsBuilder 66 5 (w.heap.size + 1) (w.heap.size + 1) (Lib.byteCells (acc ++ s'.toList.take n)) w2 ∧
    w2.heap[w.heap.size]? = some (Obj.cells #[.int .i64 0, .int .i64 0, .string ⟨#[]⟩, .int .i64 0, .int .i64 0] 31 (0, 0)) ∧ w.grownBy w2 (some rb) ∧ w.heap.size + 2 ≤ w2.heap.size := by
  refine ⟨(T.rd.set rest).under hbel (by omega), ?_, ?_, mv_low (mv_set T.mv (p := ⟨rb, 0, none⟩) (.inr rfl) _) hbel (by omega), ?_⟩
  · rw [byteCells_text, extract_front, hX, List.take_take, Nat.min_eq_left hn] at hb2
    exact .inr hb2
  · rw [hbel.block w.heap.size (by omega), Below.heap_setCell wr _ _ _ (by show w.heap.size ≠ rb; omega)]
    exact T.box
  · have := hbel.size
    rw [size_setCell] at this
    have := T.size
    omega

theorem TS.next {w : World} {rb : Nat} {s : ByteArray} {wr w2 : World} {acc : List UInt8} {s' : ByteArray} (T : TS w rb s wr acc s') (hlt : rb < w.heap.size) {rest X : ByteArray} {n : Nat} (hr : rest = s'.extract 8 s'.size) (hX : X.toList = s'.toList.take 8) (hn : n ≤ 8)
    (hb2 : Lib.BuilderAt 66 5 (w.heap.size + 1) (w.heap.size + 1) (.pointer (some ⟨w.heap.size + 1, 0, none⟩)) (Lib.byteCells acc ++ Lib.strCells (X.extract 0 n)) w2)
    (hbel : Below (w.heap.size + 1) (wr.setCell ⟨rb, 0, none⟩ (.string rest)) w2) (hd : decT (acc ++ s'.toList.take n) (s'.toList.drop 8) = decT [] s.toList) : TS w rb s w2 (acc ++ s'.toList.take n) rest := by
  obtain ⟨h1, h2, h3, h4, h5⟩ := T.after hlt hX hn hb2 hbel
  exact ⟨h1, h2, h3, h4, h5, by rw [hr, extract_back]; exact hd⟩

theorem says_some {s : ByteArray} {rb : Nat} {w' : World} {t rest : List UInt8} {r : ByteArray} (h : decT [] s.toList = some (t, rest)) (hr : Rd w' rb r) (hrl : r.toList = rest) : TextSays s rb (.returned (.tuple #[(V.mkText ⟨t.toArray⟩).val, .bool true])) w' := by
  unfold TextSays
  rw [h]
  exact ⟨rfl, r, hr, hrl⟩

set_option maxHeartbeats 2000000 in
theorem rtext_any (rb : Nat) (s : ByteArray) (w : World) (h : Rd w rb s) :
    Calls Tryd.prog 30 #[.pointer (some ⟨rb, 0, none⟩)] w fun e w' => TextSays s rb e w' ∧ w.grownBy w' (some rb) := by
  have hlt := h.lt
  obtain ⟨D, hD⟩ : ∃ D, decT [] s.toList = D := ⟨_, rfl⟩
  go_enter Tryd.func30, Tryd.ntmps30
  go_wp2
  go_loopw [5] (fun _ wr => ∃ (acc : List UInt8) (s' : ByteArray), TS w rb s wr acc s') (fun _ wr => restSize wr rb)
  case atStart =>
    refine ⟨[], s, (h.alloc _).alloc _, .inl ⟨Nat.le_refl _, .slice none 0 0, ?_, World.ownsRow_nil _ _ _ _, by simp [Value.ownBlock]⟩, ?_, mv_alloc (mv_alloc (mv_refl _ _) _) _, by simp, rfl⟩
    · have := block_at (w.alloc (.cells #[.int .i64 0, .int .i64 0, .string ⟨#[]⟩, .int .i64 0, .int .i64 0] 31)) (.cells #[.pointer none, .slice none 0 0] 66)
      simpa using this
    · exact block_old (block_at w _) _
  case round =>
    obtain ⟨acc, s', T⟩ := hrel
    have hlen := Tryd.Builder_Len _ _ _ _ T.bld
    rw [Lib.byteCells_length] at hlen
    have hbox := cells_frozen5 T.box
    obtain ⟨⟨x0, x1, x2, x3, x4⟩, ⟨z0, z1, z2, z3, z4⟩⟩ := hbox
    have hdec := T.dec
    rw [hD] at hdec
    have HD : Hid (decT acc s'.toList = D) := hdec
    clear hdec
    by_cases hfar : 256 < acc.length
    · have hi : (256 : Int) < (acc.length : Int) := by omega
      go_wp2_with (go_at_call 35; refine hlen.mono ?_; rintro e w1 ⟨rfl, rfl⟩)
      refine bodyPost_ret (v := .tuple #[(⟨0, 0, ⟨#[]⟩, 0, 0⟩ : V).val, .bool false]) (by simp [results, Tryd.results30, go_sem, V.val, x0, x1, x2, x3, x4]) rfl ⟨says_none _ ?_, mv_five T.mv (Nat.le_refl _) _ _ _ _ _⟩
      rw [hD, ← HD.out, decT_far hfar]
    · have hi : (acc.length : Int) ≤ 256 := by omega
      by_cases hshort : s'.size < 8
      · have ht := take_no rb 8 s' _ T.rd hshort
        go_wp2_with (first
          | (go_at_call 35; refine hlen.mono ?_; rintro e w1 ⟨rfl, rfl⟩)
          | (go_at_call 36; refine ht.mono ?_; rintro e w1 ⟨rfl, rfl⟩))
        refine bodyPost_ret (v := .tuple #[(⟨0, 0, ⟨#[]⟩, 0, 0⟩ : V).val, .bool false]) (by simp [results, Tryd.results30, go_sem, V.val, x0, x1, x2, x3, x4]) rfl ⟨says_none _ ?_, mv_five T.mv (Nat.le_refl _) _ _ _ _ _⟩
        rw [hD, ← HD.out, decT_short hfar (by rw [toList_length]; exact hshort)]
      · have h8 : 8 ≤ s'.size := by omega
        have ht := take_yes rb 8 s' _ T.rd h8
        obtain ⟨X, hX⟩ : ∃ X, X = s'.extract 0 8 := ⟨_, rfl⟩
        rw [← hX] at ht
        have hXl : X.toList = s'.toList.take 8 := by rw [hX, extract_front]
        have hX8 : X.size = 8 := by rw [← toList_length, hXl, List.length_take, toList_length]; omega
        have h8l : 8 ≤ s'.toList.length := by rw [toList_length]; exact h8
        obtain ⟨m, hm⟩ : ∃ m, X[7]'(by omega) = m := ⟨_, rfl⟩
        have hm' : s'.toList[7] = m := by
          have h1 : X.toList[7]'(by rw [toList_length]; omega) = m := by rw [toList_get]; exact hm
          rw [← h1]
          simp [hXl]
        have HX : Hid (X.toList = s'.toList.take 8 ∧ s'.toList[7] = m) := ⟨hXl, hm'⟩
        clear hXl hm' hX
        obtain ⟨rest, hrest⟩ : ∃ rest, rest = s'.extract 8 s'.size := ⟨_, rfl⟩
        rw [← hrest] at ht
        have HR : Hid (rest = s'.extract 8 s'.size) := hrest
        clear hrest
        have hbld2 := builder_set T.bld (p := ⟨rb, 0, none⟩) (by show rb < w.heap.size + 1; omega) (.string rest)
        have hmb : m.toNat < 256 := m.toNat_lt
        by_cases hm8 : m = 8
        · subst hm8
          go_wp2_with (first
            | (go_at_call 35; refine hlen.mono ?_; rintro e w1 ⟨rfl, rfl⟩)
            | (go_at_call 36; refine ht.mono ?_; rintro e w1 ⟨rfl, rfl⟩))
          refine (write_any (w.heap.size + 1) (w.heap.size + 1) _ (X.extract 0 7) _ hbld2 (by simp [Lib.byteCells_length]; omega) (by rw [size_setCell]; have := T.size; omega)).mono ?_
          rintro e w2 ⟨rfl, hb2, hbel⟩
          go_wp2
          have hnext := T.next (n := 7) hlt HR.out HX.out.1 (by omega) hb2 hbel (by rw [← decT_on hfar h8l HX.out.2]; exact T.dec)
          go_roundw
          case rel => exact ⟨_, _, hnext⟩
          case measure =>
            rw [hnext.rd.size, T.rd.size, HR.out]
            simp
            omega
        · by_cases hm7 : 7 ≤ m.toNat
          · have hj1 : (7 : Int) ≤ (m.toNat : Int) := by omega
            have hj2 : (m.toNat : Int) ≠ 8 := by
              intro e
              apply hm8
              apply UInt8.toNat_inj.1
              have : m.toNat = 8 := by omega
              simpa using this
            go_wp2_with (first
              | (go_at_call 35; refine hlen.mono ?_; rintro e w1 ⟨rfl, rfl⟩)
              | (go_at_call 36; refine ht.mono ?_; rintro e w1 ⟨rfl, rfl⟩))
            refine bodyPost_ret (v := .tuple #[(⟨0, 0, ⟨#[]⟩, 0, 0⟩ : V).val, .bool false]) (by simp [results, Tryd.results30, go_sem, V.val, x0, x1, x2, x3, x4]) rfl ⟨says_none _ ?_, mv_five (mv_set T.mv (p := ⟨rb, 0, none⟩) (.inr rfl) _) (Nat.le_refl _) _ _ _ _ _⟩
            rw [hD, ← HD.out, decT_mark hfar h8l (by rw [HX.out.2]; exact hm8) (by rw [HX.out.2]; exact hm7)]
          · have hm7' : m.toNat < 7 := by omega
            have htr := trim_any (X.extract m.toNat 7)
            obtain ⟨T0, hT0⟩ : ∃ T0, T0 = Lib.trimB (X.extract m.toNat 7).data.toList 0 := ⟨_, rfl⟩
            rw [← hT0] at htr
            have hz : T0 = [] ↔ ((s'.toList.take 7).drop s'.toList[7].toNat).all (· == 0) = true := by
              rw [hT0, trim_zero, HX.out.2]
              have e : (X.extract m.toNat 7).data.toList = (s'.toList.take 7).drop m.toNat := by
                rw [← ByteArray.toList_eq, extract_mid, HX.out.1, List.take_take, Nat.min_eq_left (by omega)]
              rw [e]
            clear hT0
            have HZ : Hid (T0 = [] ↔ ((s'.toList.take 7).drop s'.toList[7].toNat).all (· == 0) = true) := hz
            clear hz
            by_cases hT : T0 = []
            · subst hT
              go_wp2_with (first
                | (go_at_call 35; refine hlen.mono ?_; rintro e w1 ⟨rfl, rfl⟩)
                | (go_at_call 36; refine ht.mono ?_; rintro e w1 ⟨rfl, rfl⟩)
                | (go_at_call 38; refine (htr _ (by simp; omega)).mono ?_; rintro e w2 ⟨rfl, q, rfl⟩))
              refine (write_any (w.heap.size + 1) (w.heap.size + 1) _ (X.extract 0 m.toNat) (World.drewN _ q) hbld2 (by simp [Lib.byteCells_length]; omega) (by show w.heap.size + 1 ≤ (World.setCell _ _ _).heap.size; rw [size_setCell]; have := T.size; omega)).mono ?_
              rintro e w3 ⟨rfl, hb3, hbel3⟩
              obtain ⟨r3, b3, o3, m3, s3⟩ := T.after (n := m.toNat) hlt HX.out.1 (by omega) hb3 ⟨hbel3.os, hbel3.tape, hbel3.output, hbel3.size, hbel3.block⟩
              have hstr := Tryd.Builder_String_any _ _ _ _ b3 (by omega)
              go_wp2_with fail
              refine hstr.mono ?_
              rintro e w4 ⟨rfl, hbel4⟩
              have r4 := r3.under hbel4 (by omega)
              have o4 := (hbel4.block w.heap.size (by omega)).trans o3
              have m4 := mv_low m3 hbel4 (by omega)
              have s4 : w.heap.size < w4.heap.size := by have := hbel4.size; omega
              have hbox4 := cells_frozen5 o4
              obtain ⟨⟨y0, y1, y2, y3, y4⟩, ⟨t0, t1, t2, t3, t4⟩⟩ := hbox4
              go_wp2_with (go_at_call 13; refine (text_ex _ _).mono ?_; rintro e w5 ⟨rfl, rfl⟩)
              refine bodyPost_ret (v := .tuple #[(V.mkText ⟨(acc ++ s'.toList.take m.toNat).toArray⟩).val, .bool true]) (by simp [results, Tryd.results30, go_sem, V.val, V.mkText, y0, y1, y2, y3, y4, s4]) rfl ⟨says_some (r := rest) (rest := s'.toList.drop 8) ?_ ?_ ?_, ?_⟩
              · rw [hD, ← HD.out, decT_end hfar h8l (by rw [HX.out.2]; exact hm7'), if_pos (HZ.out.1 (by first | rfl | trivial)), HX.out.2]
              · exact (r4.five (by omega) _ _ _ _ _).alloc _
              · rw [HR.out, extract_back]
              · exact mv_alloc (mv_five m4 (Nat.le_refl _) _ _ _ _ _) _
            · have hT' : T0.isEmpty = false := by simpa using hT
              go_wp2_with (first
                | (go_at_call 35; refine hlen.mono ?_; rintro e w1 ⟨rfl, rfl⟩)
                | (go_at_call 36; refine ht.mono ?_; rintro e w1 ⟨rfl, rfl⟩)
                | (go_at_call 38; refine (htr _ (by simp; omega)).mono ?_; rintro e w2 ⟨rfl, q, rfl⟩))
              refine bodyPost_ret (v := .tuple #[(⟨0, 0, ⟨#[]⟩, 0, 0⟩ : V).val, .bool false]) (by simp [results, Tryd.results30, go_sem, V.val, x0, x1, x2, x3, x4]) rfl ⟨says_none _ ?_, mv_five (mv_drewN (mv_set T.mv (p := ⟨rb, 0, none⟩) (.inr rfl) _) q) (Nat.le_refl _) _ _ _ _ _⟩
              rw [hD, ← HD.out, decT_end hfar h8l (by rw [HX.out.2]; exact hm7'), if_neg (fun e => hT (HZ.out.2 e))]

end Go.Proofs.YtgjcienechfapaaDoor
