/-
  The functions putNum, putText and putValue, by contracts: what they append to a row of bytes that the call owns.
  The function Key, by a contract: a list's key, or what is refused of it; and the statements' own function awake.
-/
import Derived.Test.YtiacnmcdfpmcfaaGreatDoorQ04
import Derived.Test.YtiacnmcdfpmcfaaGreatDoorV12
import Derived.Test.YtiacnmcdfpmcfaaGreatDoorQ03
import Derived.Lib.BufSteps
import Derived.Lib.SlBytesRow
import Derived.Lib.BufferRead
namespace Go.Proofs.YtiacnmcdfpmcfaaGreatDoor
open Go.RowKit

theorem Tryz.infoB5 : (Tryz.prog.info? 5).map (fun i => (i.zero, i.size, i.bytes)) = some (some (.int .u8 0), 1, 1) := by kernel_rfl

def cellsB (l : List UInt8) : List Value := l.map fun b => Value.int .u8 b.toNat

/-- Every block of type 33 is as it was. -/
def Keep (W0 w : World) : Prop := ∀ (k : Nat) (o : Array Value) (fr : Nat × Nat), W0.heap[k]? = some (Obj.cells o 87 fr) → w.heap[k]? = some (Obj.cells o 87 fr)

theorem Keep.refl (w : World) : Keep w w := fun _ _ _ h => h
theorem Keep.trans {a b c : World} (h : Keep a b) (k : Keep b c) : Keep a c := fun i o fr hi => k i o fr (h i o fr hi)
theorem Keep.alloc {a w : World} (h : Keep a w) (o : Obj) : Keep a (w.alloc o) := fun k c fr hk => by
  have := h k c fr hk
  rw [Below.heap_alloc]
  · exact this
  · by_cases hlt : k < w.heap.size
    · exact hlt
    · rw [Array.getElem?_eq_none (by omega)] at this
      cases this
theorem Keep.below {w w' : World} (h : Below w.heap.size w w') : Keep w w' := fun k c fr hk => by
  rw [h.block]
  · exact hk
  · by_cases hlt : k < w.heap.size
    · exact hlt
    · rw [Array.getElem?_eq_none (by omega)] at hk
      cases hk

/-- The slice v owns the bytes l, in blocks from B on; below B nothing has turned since W0, nor has any block of type 33. -/
def Buf (B : Nat) (v : Value) (l : List UInt8) (W0 w : World) : Prop := Lib.OwnBuf B 5 v l.length (cellsB l) W0 w ∧ Keep W0 w

theorem Buf.nil (B : Nat) (w : World) (hB : B ≤ w.heap.size) : Buf B (.slice none 0 0) [] w w := ⟨⟨World.ownsRowF_nil _ _ _ _, Below.refl _ _, hB⟩, Keep.refl _⟩
theorem Buf.alloc {B : Nat} {v : Value} {l : List UInt8} {W0 w : World} (h : Buf B v l W0 w) (o : Obj) : Buf B v l W0 (w.alloc o) := ⟨h.1.alloc o, h.2.alloc o⟩
theorem Buf.here {B : Nat} {v : Value} {l : List UInt8} {W0 w : World} (h : Buf B v l W0 w) : Buf B v l w w := ⟨⟨h.1.1, Below.refl _ _, h.1.2.2⟩, Keep.refl _⟩
theorem Buf.trans {B : Nat} {v v' : Value} {l l' : List UInt8} {W0 w w' : World} (h : Buf B v l W0 w) (k : Buf B v' l' w w') : Buf B v' l' W0 w' := ⟨⟨k.1.1, h.1.2.1.trans k.1.2.1, k.1.2.2⟩, h.2.trans k.2⟩

theorem Buf.drewN {B : Nat} {v : Value} {l : List UInt8} {W0 w : World} (h : Buf B v l W0 w) (q : Nat) : Buf B v l W0 (w.drewN q) := ⟨h.1.drewN q, h.2⟩
theorem Buf.drew {B : Nat} {v : Value} {l : List UInt8} {W0 w : World} (h : Buf B v l W0 w) : Buf B v l W0 w.drew := h.drewN 1

theorem Buf.grown {B : Nat} {v v' : Value} {l l' : List UInt8} {W0 w w' : World} (h : Buf B v l W0 w) (ho : w'.ownsRowF B 5 1 v' l'.length (cellsB l')) (hg : w.grownBy w' v.ownBlock) : Buf B v' l' W0 w' := by
  refine ⟨h.1.grown ho hg, fun k c fr hk => ?_⟩
  have hk' := h.2 k c fr hk
  have hne := Lib.ownBlock_neF h.1.1 hk' (by decide)
  have hlt : k < w.heap.size := by
    by_cases hlt : k < w.heap.size
    · exact hlt
    · rw [Array.getElem?_eq_none (by omega)] at hk'
      cases hk'
  rw [hg.block k hlt (fun e => hne e.symm)]
  exact hk'

theorem buf_byte {ops : Array Oper} {rest : List Oper} {o : Oper} {a : Act} {Q : Exit → Act → World → Prop} (hgd : o.guard = none) (s x : Operand)
    (ho : o.op = .call { callee := .builtin .append, args := #[s, x], argTypes := #[120, 120] })
    {B : Nat} {v : Value} {l : List UInt8} {W0 w0 : World} {c : Int} (b : UInt8) (hc : c = b.toNat) (hb : Buf B v l W0 w0) (hs : a.eval s = v)
    (hx : a.eval x = .slice (some ⟨w0.heap.size, 0, none⟩) 1 1) (hlen : l.length + 1 ≤ 140737488355328)
    (h : ∀ v' w', Buf B v' (l ++ [b]) W0 w' → wpList Tryz.prog ops Q rest (a.put o.dst v') w') : wpList Tryz.prog ops Q (o :: rest) a (w0.alloc (.cells #[.int .u8 c] 5)) := by
  obtain ⟨i0, hi, hz0, hz1, hz2⟩ := info_parts Tryz.infoB5
  have hb' := hb.alloc (.cells #[.int .u8 c] 5)
  refine wpList_append_ownF _ hgd s x 120 ho B 5 i0 (.int .u8 0) 1 1 Tryz.underlying120 hi hz0 hz1 hz2 rfl (by decide) v l.length (cellsB l) hs hb'.1.1 ⟨w0.heap.size, 0, none⟩ 1 1 [.int .u8 c] hx rfl ?_ ?_ (by unfold maxLen; omega) (by omega) hb'.1.2.2 ?_
  · intro j u hj
    match j, hj with
    | 0, hj => simp at hj; subst hj; simp [Addr.add]
    | (j + 1), hj => simp at hj
  · intro u hu; simp at hu; subst hu; rfl
  · intro v' w' ho' hg _
    subst hc
    exact h v' w' (hb'.grown (by simpa [cellsB] using ho') hg)

theorem buf_text {ops : Array Oper} {rest : List Oper} {o : Oper} {a : Act} {Q : Exit → Act → World → Prop} {w : World} (hgd : o.guard = none) (sl x : Operand)
    (ho : o.op = .call { callee := .builtin .append, args := #[sl, x], argTypes := #[120, 9] })
    {B : Nat} {v : Value} {l : List UInt8} {W0 : World} {s : ByteArray} (hb : Buf B v l W0 w) (hs : a.eval sl = v) (hx : a.eval x = .string s) (hlen : l.length + s.size ≤ 140737488355328)
    (h : ∀ v' w', Buf B v' (l ++ s.toList) W0 w' → wpList Tryz.prog ops Q rest (a.put o.dst v') w') : wpList Tryz.prog ops Q (o :: rest) a w := by
  obtain ⟨i0, hi, hz0, hz1, hz2⟩ := info_parts Tryz.infoB5
  refine Lib.wpList_append_own_stringF w hgd sl x 120 9 ho B 5 i0 Tryz.underlying120 Tryz.underlying9 hi hz0 hz1 hz2 v l.length (cellsB l) hs hb.1.1 s hx (by unfold maxLen; omega) hlen hb.1.2.2 ?_
  intro v' w' ho' hg _
  refine h v' w' (hb.grown ?_ hg)
  have e : cellsB (l ++ s.toList) = cellsB l ++ Lib.strCells s := by
    rw [ByteArray.toList_eq]; simp [cellsB, Lib.strCells]
  have e2 : (l ++ s.toList).length = l.length + s.size := by rw [List.length_append, toList_length]
  rw [e, e2]
  exact ho'

theorem extract_front (s : ByteArray) (k : Nat) : (s.extract 0 k).toList = s.toList.take k := by
  rw [ByteArray.toList_eq, ByteArray.toList_eq]
  simp

theorem extract_back (s : ByteArray) (k : Nat) : (s.extract k s.size).toList = s.toList.drop k := by
  rw [ByteArray.toList_eq, ByteArray.toList_eq]
  simp only [ByteArray.data_extract, Array.toList_extract, List.extract_eq_take_drop]
  apply List.take_of_length_le
  simp

def byteAt (u i : Nat) : UInt8 := UInt8.ofNat (u / 2 ^ (8 * i))

theorem byteAt_cast (u i : Nat) : ((u : Int) / 2 ^ (8 * i) % 256) = ((byteAt u i).toNat : Int) := by
  simp [byteAt]

/-- The eight bytes of u, from the highest on, those above place i. -/
def upper (u : Nat) : Nat → List UInt8
  | 0 => []
  | k + 1 => upper u k ++ [byteAt u (7 - k)]

theorem upper_length (u k : Nat) : (upper u k).length = k := by
  induction k with
  | zero => rfl
  | succ k ih => simp [upper, ih]

theorem putNum_any (B : Nat) (v : Value) (l : List UInt8) (W0 w : World) (n : Int) (u : Nat) (hu : n + 4611686018427387904 = u) (hu2 : u < 9223372036854775808) (hl : l.length ≤ 1000000) (hb : Buf B v l W0 w) :
    Calls Tryz.prog 154 #[v, .int .i64 n] w fun e w' => ∃ v', e = .returned v' ∧ Buf B v' (l ++ upper u 8) W0 w' := by
  go_enter Tryz.func154, Tryz.ntmps154
  go_wp2
  go_loopw [0, 6] (fun v i wr => ∃ k : Nat, k ≤ 8 ∧ i = .int .i64 (7 - (k : Int)) ∧ Buf B v (l ++ upper u k) W0 wr) (fun _ i _ => (intOf i + 1).toNat)
  case atStart => exact ⟨0, by omega, rfl, by simpa [upper] using hb⟩
  case round =>
    obtain ⟨k, hk, rfl, hbk⟩ := hrel
    have hlen := upper_length u k
    go_wp2_with (at_builtin; refine buf_byte rfl (.tmp 14) (.tmp 20) rfl (byteAt u (7 - k)) (byteAt_cast u (7 - k)) hbk rfl rfl (by simp [hlen]; omega) ?_; intro v1 w1 hb1)
    · go_roundw
      case rel =>
        refine ⟨k + 1, by omega, by go_num, ?_⟩
        simpa [upper, List.append_assoc] using hb1
      case measure => simp [intOf]; omega
    · have h8 : k = 8 := by omega
      subst h8
      go_ret
      exact ⟨_, rfl, hbk⟩

/-- The key of a text: by sevens, behind each a mark. -/
def textKey : List UInt8 → List UInt8 := fun s =>
  if 7 ≤ s.length then s.take 7 ++ 8 :: textKey (s.drop 7) else s ++ List.replicate (7 - s.length) 0 ++ [UInt8.ofNat s.length]
termination_by s => s.length
decreasing_by simp; omega

theorem textKey_long {s : List UInt8} (h : 7 ≤ s.length) : textKey s = s.take 7 ++ 8 :: textKey (s.drop 7) := by
  rw [textKey]; simp [h]
theorem textKey_short {s : List UInt8} (h : s.length < 7) : textKey s = s ++ List.replicate (7 - s.length) 0 ++ [UInt8.ofNat s.length] := by
  rw [textKey]; simp [Nat.not_le.2 h]

theorem putText_any (B : Nat) (v : Value) (l : List UInt8) (W0 w : World) (s : ByteArray) (hl : l.length + s.size ≤ 1000000) (hb : Buf B v l W0 w) :
    Calls Tryz.prog 155 #[v, .string s] w fun e w' => ∃ v', e = .returned v' ∧ Buf B v' (l ++ textKey s.toList) W0 w' := by
  go_enter Tryz.func155, Tryz.ntmps155
  go_wp2
  go_loopw [0, 1] (fun v x wr => ∃ (l' : List UInt8) (s' : ByteArray), x = .string s' ∧ s'.size ≤ s.size ∧ l'.length + 2 * s'.size ≤ l.length + 2 * s.size ∧ l' ++ textKey s'.toList = l ++ textKey s.toList ∧ Buf B v l' W0 wr) (fun _ x _ => (match x with | .string s' => s'.size | _ => 0))
  case atStart => exact ⟨l, s, rfl, Nat.le_refl _, Nat.le_refl _, rfl, hb⟩
  case round =>
    obtain ⟨l', s', rfl, hs1, hs2, hkey, hbk⟩ := hrel
    go_wp2_with (first
      | (at_builtin; refine buf_text rfl (.tmp 8) (.tmp 10) rfl hbk rfl rfl (by simp; omega) ?_; intro v1 w1 hb1)
      | (at_builtin; refine buf_byte rfl (.tmp 12) (.tmp 13) rfl 8 rfl hb1 rfl rfl (by simp [toList_length]; omega) ?_; intro v2 w2 hb2)
      | (at_builtin; refine buf_text rfl (.tmp 17) (.tmp 18) rfl hbk rfl rfl (by omega) ?_; intro v3 w3 hb3))
    · have h7 : 7 ≤ s'.toList.length := by rw [toList_length]; omega
      go_roundw
      case rel =>
        refine ⟨_, _, rfl, ?_, ?_, ?_, hb2⟩
        · simp; omega
        · simp [toList_length]; omega
        · rw [← hkey, textKey_long h7, extract_front, extract_back]
          simp [List.append_assoc]
      case measure => simp; omega
    · have h7 : s'.toList.length < 7 := by rw [toList_length]; omega
      have hlt : s'.size < 7 := by omega
      go_loopw [0, 23] (fun v i wr => ∃ k : Nat, k ≤ 7 - s'.size ∧ i = .int .i64 (k : Int) ∧ Buf B v (l' ++ s'.toList ++ List.replicate k 0) W0 wr) (fun _ i _ => 7 - (intOf i).toNat)
      case atStart => exact ⟨0, by omega, rfl, by simpa using hb3⟩
      case round =>
        obtain ⟨k, hk, rfl, hbr⟩ := hrel
        go_wp2_with (first
          | (at_builtin; refine buf_byte rfl (.tmp 25) (.tmp 26) rfl 0 rfl hbr rfl rfl (by simp [toList_length]; omega) ?_; intro v4 w4 hb4)
          | (at_builtin; refine buf_byte rfl (.tmp 29) (.tmp 33) rfl (UInt8.ofNat s'.size) (by simp; omega) hbr rfl rfl (by simp [toList_length]; omega) ?_; intro v5 w5 hb5))
        · go_roundw
          case rel => exact ⟨k + 1, by omega, by go_num, by simpa [List.replicate_succ', List.append_assoc] using hb4⟩
          case measure => simp [intOf]; omega
        · have hk7 : k = 7 - s'.toList.length := by rw [toList_length]; omega
          go_ret
          refine ⟨_, rfl, ?_⟩
          rw [← hkey, textKey_short h7, ← hk7, toList_length]
          simpa [List.append_assoc] using hb5

/-- The key of a value that may be. -/
def V.key (v : V) : List UInt8 :=
  UInt8.ofNat v.kind.toNat :: (if v.kind = 1 then upper (v.num + 4611686018427387904).toNat 8 else if v.kind = 2 then textKey v.text.toList
    else upper (v.re + 4611686018427387904).toNat 8 ++ upper (v.im + 4611686018427387904).toNat 8)

theorem V.fits_kind {v : V} (h : v.fits = true) : v.kind = 1 ∨ v.kind = 2 ∨ v.kind = 3 := by
  unfold V.fits at h
  split at h
  · exact .inl ‹_›
  split at h
  · exact .inr (.inl ‹_›)
  split at h
  · exact .inr (.inr ‹_›)
  · cases h

theorem box5_at {w w' : World} {a b c d e : Value} {t : TypeId} (h : Below (w.alloc (.cells #[a, b, c, d, e] t)).heap.size (w.alloc (.cells #[a, b, c, d, e] t)) w') :
    w'.cell? ⟨w.heap.size, 0, none⟩ = some a ∧ w'.cell? ⟨w.heap.size, 1, none⟩ = some b ∧ w'.cell? ⟨w.heap.size, 2, none⟩ = some c ∧ w'.cell? ⟨w.heap.size, 3, none⟩ = some d ∧ w'.cell? ⟨w.heap.size, 4, none⟩ = some e := by
  have hlt : w.heap.size < (w.alloc (.cells #[a, b, c, d, e] t)).heap.size := by simp
  refine ⟨?_, ?_, ?_, ?_, ?_⟩ <;> (rw [h.cell (by exact hlt)]; simp)

theorem Keep.box5 {w w1 : World} {a b c d e : Value} (h : Keep (w.alloc (.cells #[a, b, c, d, e] 87)) w1) :
    w1.cell? ⟨w.heap.size, 0, none⟩ = some a ∧ w1.cell? ⟨w.heap.size, 1, none⟩ = some b ∧ w1.cell? ⟨w.heap.size, 2, none⟩ = some c ∧ w1.cell? ⟨w.heap.size, 3, none⟩ = some d ∧ w1.cell? ⟨w.heap.size, 4, none⟩ = some e := by
  have h1 : (w.alloc (.cells #[a, b, c, d, e] 87)).heap[w.heap.size]? = some (Obj.cells #[a, b, c, d, e] 87 (0, 0)) := by
    show (w.heap.push _)[w.heap.size]? = _
    simp
  have h2 := h _ _ _ h1
  refine ⟨?_, ?_, ?_, ?_, ?_⟩ <;> (rw [World.cell?_of_block (w := w.alloc (.cells #[a, b, c, d, e] 87)) (h2.trans h1.symm)]; simp)

theorem putValue_num (B : Nat) (v : Value) (l : List UInt8) (W0 w : World) (num : Int) (text : ByteArray) (re im : Int) (hf : V.fits ⟨1, num, text, re, im⟩ = true) (hl : l.length ≤ 900000) (hb : Buf B v l W0 w) :
    Calls Tryz.prog 129 #[v, .agg #[.int .i64 1, .int .i64 num, .string text, .int .i64 re, .int .i64 im]] w fun e w' => ∃ v', e = .returned v' ∧ Buf B v' (l ++ V.key ⟨1, num, text, re, im⟩) W0 w' := by
  have hn : -9007199254740992 ≤ num ∧ num ≤ 9007199254740992 := by simp [V.fits] at hf; omega
  clear hf
  have hbx := hb.alloc (.cells #[.int .i64 1, .int .i64 num, .string text, .int .i64 re, .int .i64 im] 87)
  go_enter Tryz.func129, Tryz.ntmps129
  go_wp2_with (first
    | (at_builtin; refine buf_byte rfl (.tmp 5) (.tmp 9) rfl 1 rfl hbx.here rfl (by show Value.slice (some ⟨w.heap.size + 1, 0, none⟩) 1 1 = _; simp) (by omega) ?_; intro v1 w1 hb1; obtain ⟨b0, b1, b2, b3, b4⟩ := hb1.2.box5)
    | (go_at_call 154; refine (putNum_any B _ _ _ _ num (num + 4611686018427387904).toNat (by omega) (by omega) (by simp; omega) hb1).mono ?_; rintro e w2 ⟨v2, rfl, hb2⟩))
  go_ret
  refine ⟨_, rfl, ?_⟩
  have := hbx.trans hb2
  simpa [V.key, List.append_assoc] using this

theorem putValue_text (B : Nat) (v : Value) (l : List UInt8) (W0 w : World) (num : Int) (text : ByteArray) (re im : Int) (ht : text.size ≤ 256) (hl : l.length ≤ 900000) (hb : Buf B v l W0 w) :
    Calls Tryz.prog 129 #[v, .agg #[.int .i64 2, .int .i64 num, .string text, .int .i64 re, .int .i64 im]] w fun e w' => ∃ v', e = .returned v' ∧ Buf B v' (l ++ V.key ⟨2, num, text, re, im⟩) W0 w' := by
  have hbx := hb.alloc (.cells #[.int .i64 2, .int .i64 num, .string text, .int .i64 re, .int .i64 im] 87)
  go_enter Tryz.func129, Tryz.ntmps129
  go_wp2_with (first
    | (at_builtin; refine buf_byte rfl (.tmp 5) (.tmp 9) rfl 2 rfl hbx.here rfl (by show Value.slice (some ⟨w.heap.size + 1, 0, none⟩) 1 1 = _; simp) (by omega) ?_; intro v1 w1 hb1; obtain ⟨b0, b1, b2, b3, b4⟩ := hb1.2.box5)
    | (go_at_call 155; refine (putText_any B _ _ _ _ text (by simp; omega) hb1).mono ?_; rintro e w2 ⟨v2, rfl, hb2⟩))
  go_ret
  refine ⟨_, rfl, ?_⟩
  have := hbx.trans hb2
  simpa [V.key, List.append_assoc] using this

set_option maxHeartbeats 1000000 in
theorem putValue_point (B : Nat) (v : Value) (l : List UInt8) (W0 w : World) (num : Int) (text : ByteArray) (re im : Int) (hf : V.fits ⟨3, num, text, re, im⟩ = true) (hl : l.length ≤ 900000) (hb : Buf B v l W0 w) :
    Calls Tryz.prog 129 #[v, .agg #[.int .i64 3, .int .i64 num, .string text, .int .i64 re, .int .i64 im]] w fun e w' => ∃ v', e = .returned v' ∧ Buf B v' (l ++ V.key ⟨3, num, text, re, im⟩) W0 w' := by
  have hn : -1048576 ≤ re ∧ re ≤ 1048576 ∧ -1048576 ≤ im ∧ im ≤ 1048576 := by simp [V.fits] at hf; omega
  clear hf
  have hbx := hb.alloc (.cells #[.int .i64 3, .int .i64 num, .string text, .int .i64 re, .int .i64 im] 87)
  have hul := fun u => upper_length u 8
  go_enter Tryz.func129, Tryz.ntmps129
  go_wp2_with (first
    | (at_builtin; refine buf_byte rfl (.tmp 5) (.tmp 9) rfl 3 rfl hbx.here rfl (by show Value.slice (some ⟨w.heap.size + 1, 0, none⟩) 1 1 = _; simp) (by omega) ?_; intro v1 w1 hb1; obtain ⟨b0, b1, b2, b3, b4⟩ := hb1.2.box5))
  go_region_with (first
    | (go_at_call_of 154 (Value.int .i64 re); refine (putNum_any B _ _ _ _ re (re + 4611686018427387904).toNat (by omega) (by omega) (by simp; omega) hb1.drew).mono ?_; rintro e w2 ⟨v2, rfl, hb2⟩; obtain ⟨c0, c1, c2, c3, c4⟩ := hb2.2.box5)
    | (go_at_call_of 154 (Value.int .i64 im); refine (putNum_any B _ _ _ _ im (im + 4611686018427387904).toNat (by omega) (by omega) (by simp [hul]; omega) hb2).mono ?_; rintro e w3 ⟨v3, rfl, hb3⟩))
  all_goals
    go_wp2
    refine bodyPost_ret (v := v3) (by simp [results, Tryz.results129, go_sem]) rfl ⟨_, rfl, ?_⟩
    have := hbx.trans hb3
    simpa [V.key, List.append_assoc] using this

theorem putValue_any (B : Nat) (v : Value) (l : List UInt8) (W0 w : World) (x : V) (hf : x.check = 0) (hl : l.length ≤ 900000) (hb : Buf B v l W0 w) :
    Calls Tryz.prog 129 #[v, x.val] w fun e w' => ∃ v', e = .returned v' ∧ Buf B v' (l ++ x.key) W0 w' := by
  have hfit : x.fits = true := by
    unfold V.check at hf
    split at hf
    · cases hf
    · split at hf
      · assumption
      · cases hf
  obtain ⟨kind, num, text, re, im⟩ := x
  rcases V.fits_kind hfit with h | h | h
  · subst h
    exact putValue_num B v l W0 w num text re im hfit hl hb
  · subst h
    refine putValue_text B v l W0 w num text re im ?_ hl hb
    have : ¬ (256 < text.size) := by
      intro hc
      simp [V.check, hc] at hf
    omega
  · subst h
    exact putValue_point B v l W0 w num text re im hfit hl hb

end Go.Proofs.YtiacnmcdfpmcfaaGreatDoor

namespace Go.Proofs.YtiacnmcdfpmcfaaGreatDoor
open Go.RowKit

theorem since_on {a b c : World} (h : Below a.heap.size a b) (k : Below b.heap.size b c) : Below a.heap.size a c := h.trans (k.mono h.size)
theorem since_new (w : World) (o : Obj) : Below w.heap.size w (w.alloc o) := (Below.refl _ _).alloc (Nat.le_refl _) _

theorem Buf.below {B : Nat} {v : Value} {l : List UInt8} {W0 w w' : World} (h : Buf B v l W0 w) (hb : Below w.heap.size w w') : Buf B v l W0 w' := by
  have hg : w.grownBy w' none := ⟨hb.os, hb.tape, hb.output, hb.size, fun k hk _ => hb.block k hk⟩
  refine ⟨⟨h.1.1.kept hg ?_, h.1.2.1.trans (hb.mono h.1.2.2), Nat.le_trans h.1.2.2 hb.size⟩, h.2.trans (Keep.below hb)⟩
  cases v.ownBlock with
  | none => exact .inl rfl
  | some k => exact .inr (by simp)

/-- The cells of the values vs, from ⟨b, off⟩ on. -/
def LiesV (w : World) (b off : Nat) (vs : List V) : Prop := ∀ j (h : j < vs.length),
  w.cell? ⟨b, off + j * 5, none⟩ = some (.int .i64 vs[j].kind) ∧ w.cell? ⟨b, off + j * 5 + 1, none⟩ = some (.int .i64 vs[j].num) ∧ w.cell? ⟨b, off + j * 5 + 2, none⟩ = some (.string vs[j].text) ∧
  w.cell? ⟨b, off + j * 5 + 3, none⟩ = some (.int .i64 vs[j].re) ∧ w.cell? ⟨b, off + j * 5 + 4, none⟩ = some (.int .i64 vs[j].im)

/-- The slice value s reads as the values vs. -/
def LstV (w : World) (s : Value) (vs : List V) : Prop :=
  ∃ ao cap, s = .slice ao vs.length cap ∧ (vs = [] ∨ ∃ b off, ao = some ⟨b, off, none⟩ ∧ b < w.heap.size ∧ LiesV w b off vs)

theorem LiesV.below {w w' : World} {B b off : Nat} {vs : List V} (h : LiesV w b off vs) (hb : Below B w w') (hB : b < B) : LiesV w' b off vs := by
  intro j hj
  obtain ⟨h0, h1, h2, h3, h4⟩ := h j hj
  exact ⟨(hb.cell (by exact hB)).trans h0, (hb.cell (by exact hB)).trans h1, (hb.cell (by exact hB)).trans h2, (hb.cell (by exact hB)).trans h3, (hb.cell (by exact hB)).trans h4⟩

theorem LstV.below {w w' : World} {s : Value} {vs : List V} (h : LstV w s vs) (hb : Below w.heap.size w w') : LstV w' s vs := by
  obtain ⟨ao, cap, rfl, h | ⟨b, off, rfl, hlt, hl⟩⟩ := h
  · exact ⟨ao, cap, rfl, .inl h⟩
  · exact ⟨_, cap, rfl, .inr ⟨b, off, rfl, Nat.lt_of_lt_of_le hlt hb.size, hl.below hb hlt⟩⟩

theorem textKey_length (s : List UInt8) : (textKey s).length = (s.length / 7 + 1) * 8 := by
  induction h : s.length using Nat.strongRecOn generalizing s with
  | _ n ih =>
    by_cases h7 : 7 ≤ s.length
    · rw [textKey_long h7]
      have := ih (s.drop 7).length (by simp; omega) (s.drop 7) rfl
      simp only [List.length_append, List.length_take, List.length_cons, this, List.length_drop]
      omega
    · rw [textKey_short (by omega)]
      simp
      omega

theorem V.key_length {v : V} (h : v.check = 0) : v.key.length ≤ 300 := by
  unfold V.key
  split
  · simp [upper_length]
  · split
    · have : v.text.size ≤ 256 := by
        unfold V.check at h
        split at h
        · cases h
        · omega
      simp only [List.length_cons, textKey_length, toList_length]
      omega
    · simp [upper_length]

def keyBytes (vs : List V) : List UInt8 := vs.flatMap V.key

/-- What Key tells of a list: nought, or why it has no key. -/
def firstBad : List V → Int
  | [] => 0
  | v :: r => if v.check = 0 then firstBad r else v.check

def keyErr (vs : List V) : Int := if 16 < vs.length then 3 else firstBad vs

theorem keyBytes_length {vs : List V} (h : ∀ v ∈ vs, v.check = 0) : (keyBytes vs).length ≤ 300 * vs.length := by
  induction vs with
  | nil => simp [keyBytes]
  | cons v r ih =>
    have h1 := V.key_length (h v (by simp))
    have h2 := ih (fun x hx => h x (by simp [hx]))
    simp only [keyBytes, List.flatMap_cons, List.length_append, List.length_cons] at *
    omega

theorem firstBad_at {vs : List V} {k : Nat} (hk : k < vs.length) (h : ∀ v ∈ vs.take k, v.check = 0) (hb : vs[k].check ≠ 0) : firstBad vs = vs[k].check := by
  induction vs generalizing k with
  | nil => simp at hk
  | cons v r ih =>
    cases k with
    | zero => simp [firstBad] at *; intro h'; exact absurd h' hb
    | succ k =>
      have h0 : v.check = 0 := h v (by simp)
      have := ih (k := k) (by simpa using hk) (fun x hx => h x (by simp [hx])) (by simpa using hb)
      simpa [firstBad, h0] using this

theorem firstBad_none {vs : List V} (h : ∀ v ∈ vs, v.check = 0) : firstBad vs = 0 := by
  induction vs with
  | nil => rfl
  | cons v r ih => simp [firstBad, h v (by simp), ih (fun x hx => h x (by simp [hx]))]

theorem Buf.string {B : Nat} {v : Value} {l : List UInt8} {W0 w : World} (h : Buf B v l W0 w) : (convert 120 9 v).run Tryz.prog w = .ok (.string ⟨l.toArray⟩) w := by
  obtain ⟨hl, h1 | ⟨g, cap, cur, fz, rfl, hB, hg, hn, hcm, hcs, hfz, htk⟩⟩ := h.1.1
  · obtain ⟨rfl, hn⟩ := h1
    have : l = [] := List.eq_nil_of_length_eq_zero hn
    subst this
    exact Lib.run_convert_nil_bytes w 120 9 5 0 Tryz.underlying120 Tryz.underlying5 Tryz.underlying9
  · have hc := h.1.1.cells (g := g) rfl
    have := Lib.run_convert_whole (P := Tryz.prog) w 120 5 9 Tryz.underlying120 Tryz.underlying5 Tryz.underlying9 g 0 ⟨l.toArray⟩ (fun i hi => by
      have hi' : i < l.length := hi
      have h3 := hc i (.int .u8 (l[i].toNat : Int)) (by simp [cellsB, hi'])
      rw [show (⟨g, 0, none⟩ : Addr).add i = ⟨g, 0 + i, none⟩ from by simp [Addr.add]; omega] at h3
      rw [h3]
      rfl) cap
    exact this

theorem key_empty (ao : Option Addr) (cap : Nat) (w : World) :
    Calls Tryz.prog 106 #[.slice ao 0 cap] w fun e w' => e = .returned (.tuple #[.string ⟨#[]⟩, .int .i64 0]) ∧ Below w.heap.size w w' := by
  have hc := Lib.run_convert_nil_bytes (P := Tryz.prog) w 120 9 5 0 Tryz.underlying120 Tryz.underlying5 Tryz.underlying9
  go_enter Tryz.func106, Tryz.ntmps106
  go_wp2
  go_loopw [4, 13] (fun v i wr => v = .slice none 0 0 ∧ i = .int .i64 0 ∧ wr = w) (fun _ _ _ => 0)
  case atStart => exact ⟨rfl, rfl, rfl⟩
  case round =>
    obtain ⟨rfl, rfl, rfl⟩ := hrel
    go_wp2
    go_ret2
    exact ⟨rfl, Below.refl _ _⟩

/-- What Key tells beside the error: the key, or nothing. -/
def keyStr (vs : List V) : ByteArray := ⟨(if firstBad vs = 0 then keyBytes vs else []).toArray⟩

theorem key_full (b off cap : Nat) (vs : List V) (w : World) (hb : b < w.heap.size) (hl : LiesV w b off vs) (hlen : vs.length ≤ 16) :
    Calls Tryz.prog 106 #[.slice (some ⟨b, off, none⟩) vs.length cap] w fun e w' => e = .returned (.tuple #[.string (keyStr vs), .int .i64 (firstBad vs)]) ∧ Below w.heap.size w w' := by
  go_enter Tryz.func106, Tryz.ntmps106
  go_wp2
  go_loopw [4, 13] (fun v i wr => ∃ k : Nat, k ≤ vs.length ∧ i = .int .i64 k ∧ (∀ x ∈ vs.take k, x.check = 0) ∧ Buf w.heap.size v (keyBytes (vs.take k)) w wr) (fun _ i _ => vs.length - (intOf i).toNat)
  case atStart => exact ⟨0, Nat.zero_le _, rfl, by simp, by simpa [keyBytes] using Buf.nil w.heap.size w (Nat.le_refl _)⟩
  case round =>
    obtain ⟨k, hk, rfl, hok, hbuf⟩ := hrel
    have hbl := hbuf.1.2.1
    by_cases hlt : k < vs.length
    · have hc := hl.below hbl hb k hlt
      obtain ⟨x, hx⟩ : ∃ x, x = vs[k] := ⟨_, rfl⟩
      have HX : Hid (x = vs[k]) := hx
      rw [← hx] at hc
      clear hx
      obtain ⟨c0, c1, c2, c3, c4⟩ := hc
      obtain ⟨q, hq⟩ : ∃ q, x.check = q := ⟨_, rfl⟩
      have hchk := fun W => (check_any x W).mono (R' := fun e w' => e = .returned (.int .i64 x.check) ∧ Below W.heap.size W w') (by rintro e w' ⟨he, hA⟩; exact ⟨he, hA.below⟩)
      rw [hq] at hchk
      have HQ : Hid (x.check = q) := hq
      clear hq
      have hkl := keyBytes_length hok
      have hkl2 : (vs.take k).length ≤ 16 := by simp; omega
      obtain ⟨kind, num, text, re, im⟩ := x
      simp only [V.val] at hchk
      by_cases hq0 : q = 0
      · subst hq0
        go_wp2_with (first
          | (go_at_call 127; refine (hchk _).mono ?_; rintro e w1 ⟨rfl, hb1⟩; obtain ⟨b0, b1, b2, b3, b4⟩ := box5_at hb1)
          | (go_at_call 129; refine (putValue_any w.heap.size _ _ _ _ ⟨kind, num, text, re, im⟩ HQ.out (by omega) ((hbuf.alloc _).below hb1)).mono ?_; rintro e w2 ⟨v2, rfl, hb2⟩))
        go_roundw
        case rel =>
          have hx := HX.out
          refine ⟨k + 1, by omega, by go_num, ?_, ?_⟩
          · intro y hy
            rw [List.take_succ_eq_append_getElem hlt] at hy
            rcases List.mem_append.1 hy with h | h
            · exact hok y h
            · simp at h
              subst h
              rw [← hx]
              exact HQ.out
          · rw [List.take_succ_eq_append_getElem hlt, ← hx]
            simpa [keyBytes] using hb2
        case measure => simp [intOf]; omega
      · go_wp2_with (first
          | (go_at_call 127; refine (hchk _).mono ?_; rintro e w1 ⟨rfl, hb1⟩; obtain ⟨b0, b1, b2, b3, b4⟩ := box5_at hb1))
        have hx := HX.out
        have hbad := firstBad_at hlt hok (by rw [← hx, HQ.out]; exact hq0)
        rw [← hx, HQ.out] at hbad
        have hstr : keyStr vs = ⟨#[]⟩ := by simp [keyStr, hbad, hq0]
        rw [hstr, hbad]
        go_ret2
        exact ⟨rfl, (((hbuf.alloc _).below hb1).1.2.1)⟩
    · have hk' : k = vs.length := by omega
      have hcv := hbuf.string
      subst hk'
      rw [List.take_length] at hcv hok
      go_wp2
      have hbad := firstBad_none hok
      have hstr : keyStr vs = ⟨(keyBytes vs).toArray⟩ := by simp [keyStr, hbad]
      rw [hstr, hbad]
      go_ret2
      exact ⟨rfl, hbl⟩

theorem rankKey_any (s : Value) (vs : List V) (w : World) (h : LstV w s vs) (hlen : vs.length ≤ 16) :
    Calls Tryz.prog 106 #[s] w fun e w' => e = .returned (.tuple #[.string (keyStr vs), .int .i64 (firstBad vs)]) ∧ Below w.heap.size w w' := by
  obtain ⟨ao, cap, rfl, rfl | ⟨b, off, rfl, hb, hl⟩⟩ := h
  · exact key_empty ao cap w
  · exact key_full b off cap vs w hb hl hlen

end Go.Proofs.YtiacnmcdfpmcfaaGreatDoor
