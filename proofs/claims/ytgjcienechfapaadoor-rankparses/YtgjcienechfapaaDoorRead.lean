/-
  The reader of keys: take, whole, num and point, by contracts.
-/
import Derived.Test.YtgjcienechfapaaDoorKey
import Derived.Laws.BitsAllLaws
namespace Go.Proofs.YtgjcienechfapaaDoor
open Go.RowKit

/-- The reader in block rb has the bytes s before it. -/
def Rd (w : World) (rb : Nat) (s : ByteArray) : Prop := w.heap[rb]? = some (.cells #[.string s] 47 (0, 0))

theorem Rd.cell {w : World} {rb : Nat} {s : ByteArray} (h : Rd w rb s) : w.cell? ⟨rb, 0, none⟩ = some (.string s) := by
  simp [World.cell?, show w.heap[rb]? = _ from h]
theorem Rd.frozen {w : World} {rb : Nat} {s : ByteArray} (h : Rd w rb s) : w.frozen? ⟨rb, 0, none⟩ = false := by
  simp [World.frozen?, show w.heap[rb]? = _ from h]
theorem Rd.lt {w : World} {rb : Nat} {s : ByteArray} (h : Rd w rb s) : rb < w.heap.size := by
  by_cases hlt : rb < w.heap.size
  · exact hlt
  · have h' : w.heap[rb]? = _ := h
    rw [Array.getElem?_eq_none (by omega)] at h'
    cases h'

theorem take_no (rb n : Nat) (s : ByteArray) (w : World) (h : Rd w rb s) (hn : s.size < n) :
    Calls Tryd.prog 36 #[.pointer (some ⟨rb, 0, none⟩), .int .i64 n] w fun e w' => e = .returned (.tuple #[.string ⟨#[]⟩, .bool false]) ∧ w' = w := by
  have hc := h.cell
  have hf := h.frozen
  have hi : (s.size : Int) < (n : Int) := by omega
  go_enter Tryd.func36, Tryd.ntmps36
  go_wp2
  go_ret2
  exact ⟨rfl, rfl⟩

theorem take_yes (rb n : Nat) (s : ByteArray) (w : World) (h : Rd w rb s) (hn : n ≤ s.size) :
    Calls Tryd.prog 36 #[.pointer (some ⟨rb, 0, none⟩), .int .i64 n] w fun e w' => e = .returned (.tuple #[.string (s.extract 0 n), .bool true]) ∧ w' = w.setCell ⟨rb, 0, none⟩ (.string (s.extract n s.size)) := by
  have hc := h.cell
  have hf := h.frozen
  have hi : (n : Int) ≤ (s.size : Int) := by omega
  go_enter Tryd.func36, Tryd.ntmps36
  go_wp2
  go_ret2
  exact ⟨rfl, rfl⟩

/-- The number of bytes, the highest first. -/
def beNat (l : List UInt8) : Nat := l.foldl (fun u b => u * 256 + b.toNat) 0

theorem toList_get (t : ByteArray) (k : Nat) (hk : k < t.toList.length) : t.toList[k] = t[k]'(by rwa [toList_length] at hk) := by
  have h : t.toList = t.data.toList := by rw [ByteArray.toList_eq]
  simp only [h]
  rfl

theorem beNat_snoc (l : List UInt8) (b : UInt8) : beNat (l ++ [b]) = beNat l * 256 + b.toNat := by simp [beNat]
theorem beNat_lt (l : List UInt8) : beNat l < 256 ^ l.length := by
  induction h : l.length generalizing l with
  | zero =>
    have : l = [] := List.eq_nil_of_length_eq_zero h
    subst this
    simp [beNat]
  | succ n ih =>
    obtain ⟨r, b, rfl⟩ : ∃ r b, l = r ++ [b] := ⟨l.dropLast, l.getLast (by intro e; subst e; simp at h), (List.dropLast_concat_getLast _).symm⟩
    have hr : r.length = n := by simpa using h
    have := ih r hr
    rw [beNat_snoc, Nat.pow_succ]
    have hb : b.toNat < 256 := b.toNat_lt
    omega

theorem wrap_u64 (n : Int) (h0 : 0 ≤ n) (h1 : n < 18446744073709551616) : IntKind.u64.wrap n = n := by
  simp [IntKind.wrap, IntKind.bits, IntKind.signed]
  omega

theorem or_byte (U : Nat) (b : UInt8) (hU : U < 72057594037927936) : bits .or .u64 (IntKind.u64.wrap (U * 256)) (IntKind.u64.wrap b.toNat) = ((U * 256 + b.toNat : Nat) : Int) := by
  have hb : b.toNat < 256 := b.toNat_lt
  rw [wrap_u64 _ (by omega) (by omega), wrap_u64 _ (by omega) (by omega)]
  rw [show (U : Int) * 256 = ((U * 256 : Nat) : Int) from by simp, u64_or_nat _ _ (by omega) (by omega)]
  congr 1
  have := Nat.two_pow_add_eq_or_of_lt (i := 8) (b := b.toNat) hb U
  simp only [Nat.reducePow] at this
  rw [Nat.mul_comm] at this
  exact this.symm

def unlift (u : Nat) : Int := if u < 13835058055282163712 then (u : Int) - 4611686018427387904 else (u : Int) - 23058430092136939520

theorem unlift_eq (U : Nat) (hU : U < 18446744073709551616) : wrap64 (IntKind.u64.wrap ((U : Int) - 4611686018427387904)) = unlift U := by
  unfold unlift wrap64
  simp only [IntKind.wrap, IntKind.bits, IntKind.signed, Bool.false_and]
  simp
  split <;> omega

theorem whole_no (rb : Nat) (s : ByteArray) (w : World) (h : Rd w rb s) (hn : s.size < 8) :
    Calls Tryd.prog 34 #[.pointer (some ⟨rb, 0, none⟩)] w fun e w' => e = .returned (.tuple #[.int .i64 (-4611686018427387904), .bool false]) ∧ w' = w := by
  have ht := take_no rb 8 s w h hn
  go_enter Tryd.func34, Tryd.ntmps34
  go_wp2_with (go_at_call 36; refine ht.mono ?_; rintro e w1 ⟨rfl, rfl⟩)
  go_loopw [6, 15] (fun u i wr => u = .int .u64 0 ∧ i = .int .i64 0 ∧ wr = w1) (fun _ _ _ => 0)
  case atStart => exact ⟨rfl, rfl, rfl⟩
  case round =>
    obtain ⟨rfl, rfl, rfl⟩ := hrel
    go_wp2
    go_ret2
    refine ⟨?_, rfl⟩
    have := unlift_eq 0 (by decide)
    rw [show ((0 : Nat) : Int) - 4611686018427387904 = -4611686018427387904 from by decide, show unlift 0 = -4611686018427387904 from by decide] at this
    simp [this]

theorem whole_yes (rb : Nat) (s : ByteArray) (w : World) (h : Rd w rb s) (hn : 8 ≤ s.size) :
    Calls Tryd.prog 34 #[.pointer (some ⟨rb, 0, none⟩)] w fun e w' => e = .returned (.tuple #[.int .i64 (unlift (beNat (s.toList.take 8))), .bool true]) ∧ w' = w.setCell ⟨rb, 0, none⟩ (.string (s.extract 8 s.size)) := by
  have ht := take_yes rb 8 s w h hn
  obtain ⟨t, hts⟩ : ∃ t, t = s.extract 0 8 := ⟨_, rfl⟩
  rw [← hts] at ht
  have htl : t.toList = s.toList.take 8 := by rw [hts, extract_front]
  have ht8 : t.size = 8 := by rw [← toList_length, htl, List.length_take, toList_length]; omega
  have HT : Hid (t.toList = s.toList.take 8) := htl
  clear htl hts
  go_enter Tryd.func34, Tryd.ntmps34
  go_wp2_with (go_at_call 36; refine ht.mono ?_; rintro e w1 ⟨rfl, rfl⟩)
  go_loopw [6, 15] (fun u i wr => ∃ k : Nat, k ≤ 8 ∧ i = .int .i64 k ∧ u = .int .u64 (beNat (t.toList.take k) : Nat) ∧ wr = w.setCell ⟨rb, 0, none⟩ (.string (s.extract 8 s.size))) (fun _ i _ => 8 - (intOf i).toNat)
  case atStart => exact ⟨0, by omega, rfl, rfl, rfl⟩
  case round =>
    obtain ⟨k, hk, rfl, rfl, rfl⟩ := hrel
    obtain ⟨U, hU⟩ : ∃ U, U = beNat (t.toList.take k) := ⟨_, rfl⟩
    rw [← hU]
    have HU : Hid (U = beNat (t.toList.take k)) := hU
    clear hU
    have hUb : U < 256 ^ k := by
      rw [HU.out]
      have := beNat_lt (t.toList.take k)
      rwa [List.length_take, toList_length, ht8, Nat.min_eq_left hk] at this
    have hU8 : U < 18446744073709551616 := Nat.lt_of_lt_of_le hUb (Nat.pow_le_pow_right (n := 256) (by decide) hk)
    have HB : Hid (k ≤ 7 → U < 72057594037927936) := fun h => Nat.lt_of_lt_of_le hUb (Nat.pow_le_pow_right (n := 256) (by decide) h)
    clear hUb
    go_wp2
    · have hk7 : k < 8 := by have : (k : Int) < 8 := by assumption
                             omega
      go_roundw
      case rel =>
        refine ⟨k + 1, by omega, by go_num, ?_, trivial⟩
        have hkt : k < t.toList.length := by rw [toList_length]; omega
        rw [or_byte U _ (HB.out (by omega)), List.take_succ_eq_append_getElem hkt, beNat_snoc, ← HU.out, toList_get]
      case measure => simp [intOf]; omega
    · have hk8 : k = 8 := by omega
      subst hk8
      have e : unlift U = unlift (beNat (s.toList.take 8)) := by
        rw [HU.out, HT.out, List.take_take, Nat.min_self]
      rw [← e, ← unlift_eq U hU8]
      go_ret2
      exact ⟨rfl, rfl⟩

theorem num_ex (n : Int) (w : World) :
    Calls Tryd.prog 15 #[.int .i64 n] w fun e w' => e = .returned (.agg #[.int .i64 1, .int .i64 n, .string ⟨#[]⟩, .int .i64 0, .int .i64 0]) ∧ w' = w.alloc (.cells #[.int .i64 1, .int .i64 n, .string ⟨#[]⟩, .int .i64 0, .int .i64 0] 31) := by
  go_enter Tryd.func15, Tryd.ntmps15
  go_wp2
  exact bodyPost_ret (v := (V.mkNum n).val) (by simp [results, Tryd.results15, go_sem, V.val, V.mkNum]) rfl ⟨rfl, rfl⟩

theorem text_ex (s : ByteArray) (w : World) :
    Calls Tryd.prog 13 #[.string s] w fun e w' => e = .returned (.agg #[.int .i64 2, .int .i64 0, .string s, .int .i64 0, .int .i64 0]) ∧ w' = w.alloc (.cells #[.int .i64 2, .int .i64 0, .string s, .int .i64 0, .int .i64 0] 31) := by
  go_enter Tryd.func13, Tryd.ntmps13
  go_wp2
  exact bodyPost_ret (v := (V.mkText s).val) (by simp [results, Tryd.results13, go_sem, V.val, V.mkText]) rfl ⟨rfl, rfl⟩

theorem point_ex (x y : Int) (w : World) :
    Calls Tryd.prog 28 #[.int .i64 x, .int .i64 y] w fun e w' => e = .returned (.agg #[.int .i64 3, .int .i64 0, .string ⟨#[]⟩, .int .i64 x, .int .i64 y]) ∧ w' = w.alloc (.cells #[.int .i64 3, .int .i64 0, .string ⟨#[]⟩, .int .i64 x, .int .i64 y] 31) := by
  go_enter Tryd.func28, Tryd.ntmps28
  go_wp2
  exact bodyPost_ret (v := (V.mkPoint x y).val) (by simp [results, Tryd.results28, go_sem, V.val, V.mkPoint]) rfl ⟨rfl, rfl⟩

/-! What a method of the reader does to memory: its own block, and new ones. -/
theorem mv_refl (w : World) (row : Option Nat) : w.grownBy w row := ⟨rfl, rfl, rfl, Nat.le_refl _, fun _ _ _ => rfl⟩
theorem mv_trans {a b c : World} {row : Option Nat} (h : a.grownBy b row) (k : b.grownBy c row) : a.grownBy c row :=
  ⟨k.os.trans h.os, k.tape.trans h.tape, k.output.trans h.output, Nat.le_trans h.size k.size, fun i hi hr => (k.block i (Nat.lt_of_lt_of_le hi h.size) hr).trans (h.block i hi hr)⟩
theorem mv_below {a b : World} (h : Below a.heap.size a b) (row : Option Nat) : a.grownBy b row := ⟨h.os, h.tape, h.output, h.size, fun k hk _ => h.block k hk⟩
theorem mv_alloc {a w : World} {row : Option Nat} (h : a.grownBy w row) (o : Obj) : a.grownBy (w.alloc o) row := mv_trans h (mv_below (since_new w o) row)
theorem size_setCell (w : World) (p : Addr) (u : Value) : (w.setCell p u).heap.size = w.heap.size := by
  simp
theorem mv_set {a w : World} {row : Option Nat} (h : a.grownBy w row) {p : Addr} (hp : a.heap.size ≤ p.block ∨ some p.block = row) (u : Value) : a.grownBy (w.setCell p u) row := by
  refine ⟨h.os, h.tape, h.output, by rw [size_setCell]; exact h.size, fun k hk hr => ?_⟩
  rw [Below.heap_setCell w p u k ?_]
  · exact h.block k hk hr
  · intro e
    subst e
    rcases hp with hp | hp
    · omega
    · exact hr hp

theorem Rd.set {w : World} {rb : Nat} {s : ByteArray} (h : Rd w rb s) (t : ByteArray) : Rd (w.setCell ⟨rb, 0, none⟩ (.string t)) rb t := by
  have h' : w.heap[rb]? = some (.cells #[.string s] 47 (0, 0)) := h
  have hlt := h.lt
  show (w.heap.modify rb _)[rb]? = _
  rw [Array.getElem?_modify]
  simp [h']
theorem Rd.other {w : World} {rb : Nat} {s : ByteArray} (h : Rd w rb s) {p : Addr} (hp : p.block ≠ rb) (u : Value) : Rd (w.setCell p u) rb s := by
  unfold Rd
  rw [Below.heap_setCell w p u rb (fun e => hp e.symm)]
  exact h
theorem Rd.later {w w' : World} {rb : Nat} {s : ByteArray} (h : Rd w rb s) (hb : Below w.heap.size w w') : Rd w' rb s := by
  unfold Rd
  rw [hb.block rb h.lt]
  exact h
theorem Rd.alloc {w : World} {rb : Nat} {s : ByteArray} (h : Rd w rb s) (o : Obj) : Rd (w.alloc o) rb s := h.later (since_new w o)

theorem rnum_no (rb : Nat) (s : ByteArray) (w : World) (h : Rd w rb s) (hn : s.size < 8) :
    Calls Tryd.prog 29 #[.pointer (some ⟨rb, 0, none⟩)] w fun e w' => (∃ v : V, e = .returned (.tuple #[v.val, .bool false])) ∧ w.grownBy w' (some rb) := by
  have hw := fun o => whole_no rb s (w.alloc o) (h.alloc o) hn
  go_enter Tryd.func29, Tryd.ntmps29
  go_wp2_with (first
    | (go_at_call 34; refine (hw _).mono ?_; rintro e w1 ⟨rfl, rfl⟩)
    | (go_at_call 15; refine (num_ex _ _).mono ?_; rintro e w2 ⟨rfl, rfl⟩))
  exact bodyPost_ret (v := .tuple #[(V.mkNum (-4611686018427387904)).val, .bool false]) (by simp [results, Tryd.results29, go_sem, V.val, V.mkNum]) rfl ⟨⟨_, rfl⟩, mv_alloc (mv_alloc (mv_refl _ _) _) _⟩

theorem rnum_yes (rb : Nat) (s : ByteArray) (w : World) (h : Rd w rb s) (hn : 8 ≤ s.size) :
    Calls Tryd.prog 29 #[.pointer (some ⟨rb, 0, none⟩)] w fun e w' => e = .returned (.tuple #[(V.mkNum (unlift (beNat (s.toList.take 8)))).val, .bool true]) ∧ Rd w' rb (s.extract 8 s.size) ∧ w.grownBy w' (some rb) := by
  have hw := fun o => whole_yes rb s (w.alloc o) (h.alloc o) hn
  have hlt := h.lt
  generalize unlift (beNat (s.toList.take 8)) = n at *
  have hR := h.set (s.extract 8 s.size)
  have hM := mv_set (mv_refl w (some rb)) (p := ⟨rb, 0, none⟩) (.inr rfl) (.string (s.extract 8 s.size))
  go_enter Tryd.func29, Tryd.ntmps29
  go_wp2_with (first
    | (go_at_call 34; refine (hw _).mono ?_; rintro e w1 ⟨rfl, rfl⟩)
    | (go_at_call 15; refine (num_ex _ _).mono ?_; rintro e w2 ⟨rfl, rfl⟩))
  exact bodyPost_ret (v := .tuple #[(V.mkNum n).val, .bool true]) (by simp [results, Tryd.results29, go_sem, V.val, V.mkNum]) rfl ⟨rfl, (hR.alloc _).alloc _, mv_alloc (mv_alloc hM _) _⟩

theorem rpoint_no (rb : Nat) (s : ByteArray) (w : World) (h : Rd w rb s) (hn : s.size < 8) :
    Calls Tryd.prog 31 #[.pointer (some ⟨rb, 0, none⟩)] w fun e w' => (∃ v : V, e = .returned (.tuple #[v.val, .bool false])) ∧ w.grownBy w' (some rb) := by
  have hw := fun o => whole_no rb s (w.alloc o) (h.alloc o) hn
  go_enter Tryd.func31, Tryd.ntmps31
  go_wp2_with (first
    | (go_at_call 34; refine (hw _).mono ?_; rintro e w1 ⟨rfl, rfl⟩)
    | (go_at_call 28; refine (point_ex _ _ _).mono ?_; rintro e w2 ⟨rfl, rfl⟩))
  exact bodyPost_ret (v := .tuple #[(V.mkPoint (-4611686018427387904) (-4611686018427387904)).val, .bool false]) (by simp [results, Tryd.results31, go_sem, V.val, V.mkPoint]) rfl ⟨⟨_, rfl⟩, mv_alloc (mv_alloc (mv_refl _ _) _) _⟩

theorem rpoint_half (rb : Nat) (s : ByteArray) (w : World) (h : Rd w rb s) (hn : 8 ≤ s.size) (hn' : s.size < 16) :
    Calls Tryd.prog 31 #[.pointer (some ⟨rb, 0, none⟩)] w fun e w' => (∃ v : V, e = .returned (.tuple #[v.val, .bool false])) ∧ w.grownBy w' (some rb) := by
  have hw := fun o => whole_yes rb s (w.alloc o) (h.alloc o) hn
  have hR := h.set (s.extract 8 s.size)
  have hw2 := fun o => whole_no rb (s.extract 8 s.size) ((w.setCell ⟨rb, 0, none⟩ (.string (s.extract 8 s.size))).alloc o) (hR.alloc o) (by simp; omega)
  have hlt := h.lt
  generalize unlift (beNat (s.toList.take 8)) = n at *
  have hM := mv_set (mv_refl w (some rb)) (p := ⟨rb, 0, none⟩) (.inr rfl) (.string (s.extract 8 s.size))
  go_enter Tryd.func31, Tryd.ntmps31
  go_wp2_with (first
    | (go_at_call 34; first | (with_reducible refine (hw _).mono ?_; rintro e w1 ⟨rfl, rfl⟩) | (with_reducible refine (hw2 _).mono ?_; rintro e w1 ⟨rfl, rfl⟩))
    | (go_at_call 28; refine (point_ex _ _ _).mono ?_; rintro e w2 ⟨rfl, rfl⟩))
  exact bodyPost_ret (v := .tuple #[(V.mkPoint n (-4611686018427387904)).val, .bool false]) (by simp [results, Tryd.results31, go_sem, V.val, V.mkPoint]) rfl ⟨⟨_, rfl⟩, mv_alloc (mv_alloc hM _) _⟩

theorem rpoint_yes (rb : Nat) (s : ByteArray) (w : World) (h : Rd w rb s) (hn : 16 ≤ s.size) :
    Calls Tryd.prog 31 #[.pointer (some ⟨rb, 0, none⟩)] w fun e w' => e = .returned (.tuple #[(V.mkPoint (unlift (beNat (s.toList.take 8))) (unlift (beNat ((s.toList.drop 8).take 8)))).val, .bool true]) ∧ Rd w' rb ((s.extract 8 s.size).extract 8 (s.extract 8 s.size).size) ∧ w.grownBy w' (some rb) := by
  have hw := fun o => whole_yes rb s (w.alloc o) (h.alloc o) (by omega)
  have hR := h.set (s.extract 8 s.size)
  have hw2 := fun o => whole_yes rb (s.extract 8 s.size) ((w.setCell ⟨rb, 0, none⟩ (.string (s.extract 8 s.size))).alloc o) (hR.alloc o) (by simp; omega)
  rw [extract_back] at hw2
  have hlt := h.lt
  generalize unlift (beNat (s.toList.take 8)) = n at *
  generalize unlift (beNat ((s.toList.drop 8).take 8)) = m at *
  have hM := mv_set (mv_refl w (some rb)) (p := ⟨rb, 0, none⟩) (.inr rfl) (.string (s.extract 8 s.size))
  have hR2 := hR.set ((s.extract 8 s.size).extract 8 (s.extract 8 s.size).size)
  have hM2 := mv_set hM (p := ⟨rb, 0, none⟩) (.inr rfl) (.string ((s.extract 8 s.size).extract 8 (s.extract 8 s.size).size))
  generalize s.extract 8 s.size = s1 at *
  generalize s1.extract 8 s1.size = s2 at *
  go_enter Tryd.func31, Tryd.ntmps31
  go_wp2_with (first
    | (go_at_call 34; first | (with_reducible refine (hw _).mono ?_; rintro e w1 ⟨rfl, rfl⟩) | (with_reducible refine (hw2 _).mono ?_; rintro e w1 ⟨rfl, rfl⟩))
    | (go_at_call 28; refine (point_ex _ _ _).mono ?_; rintro e w2 ⟨rfl, rfl⟩))
  exact bodyPost_ret (v := .tuple #[(V.mkPoint n m).val, .bool true]) (by simp [results, Tryd.results31, go_sem, V.val, V.mkPoint]) rfl ⟨rfl, (hR2.alloc _).alloc _, mv_alloc (mv_alloc hM2 _) _⟩

end Go.Proofs.YtgjcienechfapaaDoor
