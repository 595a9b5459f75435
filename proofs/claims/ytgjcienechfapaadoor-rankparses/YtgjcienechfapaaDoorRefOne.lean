/-
  The document's own number, text and One, by contracts: the bytes that they make.
-/
import Derived.Test.YtgjcienechfapaaDoorOwn
import Derived.Deep.RegionLaw
namespace Go.Proofs.YtgjcienechfapaaDoor
open Go.RowKit

theorem upper_get (u : Nat) : ∀ k j (h : j < (upper u k).length), (upper u k)[j] = byteAt u (7 - j)
  | 0, j, h => by simp [upper] at h
  | k + 1, j, h => by
    simp only [upper]
    rw [upper_length] at h
    by_cases hj : j < k
    · rw [List.getElem_append_left (by rw [upper_length]; exact hj)]
      exact upper_get u k j _
    · have : j = k := by omega
      subst this
      rw [List.getElem_append_right (by rw [upper_length]; exact Nat.le_refl _)]
      simp

/-- The row while it is filled from its end. -/
def filled (u k : Nat) : List Value := List.replicate (8 - k) (.int .u8 0) ++ (cells (upper u 8)).drop (8 - k)

theorem filled_zero (u : Nat) : filled u 0 = List.replicate 8 (.int .u8 0) := by
  have : (cells (upper u 8)).drop 8 = [] := List.drop_eq_nil_of_le (by rw [cells_length, upper_length]; exact Nat.le_refl _)
  simp [filled, this]
theorem filled_all (u : Nat) : filled u 8 = cells (upper u 8) := by simp [filled]
theorem filled_next (u k : Nat) (hk : k < 8) : (filled u k).set (7 - k) (.int .u8 ((byteAt u k).toNat : Int)) = filled u (k + 1) := by
  have hl : (cells (upper u 8)).length = 8 := by rw [cells_length, upper_length]
  have hrep : List.replicate (8 - k) (Value.int .u8 0) = List.replicate (7 - k) (.int .u8 0) ++ [.int .u8 0] := by
    rw [show 8 - k = (7 - k) + 1 from by omega, List.replicate_succ']
  unfold filled
  rw [hrep, List.append_assoc, List.set_append_right _ _ (by simp)]
  simp only [List.length_replicate, Nat.sub_self, List.cons_append, List.nil_append, List.set_cons_zero]
  rw [show 8 - (k + 1) = 7 - k from by omega]
  congr 1
  rw [List.drop_eq_getElem_cons (i := 7 - k) (by omega), show 7 - k + 1 = 8 - k from by omega]
  congr 1
  simp only [cells, List.getElem_map, upper_get]
  rw [show 7 - (7 - k) = k from by omega]

theorem div_pow (u k : Nat) : u / 2 ^ (8 * k) / 256 = u / 2 ^ (8 * (k + 1)) := by
  rw [Nat.div_div_eq_div_mul, show 8 * (k + 1) = 8 * k + 8 from by omega, Nat.pow_add]

theorem number_any (n : Int) (u : Nat) (hu : n + 4611686018427387904 = u) (hn : -9007199254740992 ≤ n) (hn' : n ≤ 9007199254740992) (w : World) :
    Calls Tryd.prog 25 #[.int .i64 n] w fun e w' => ∃ v, e = .returned v ∧ Own w.heap.size v (upper u 8) w' ∧ Below w.heap.size w w' := by
  obtain ⟨i0, hi, hz0, hz1, hz2⟩ := info_parts Tryd.info5
  have hu2 : u < 4620693217682128897 := by omega
  go_enter Tryd.func25, Tryd.ntmps25
  go_wp2_with (at_make; refine wpList_make_full _ rfl _ _ 42 rfl w.heap.size 5 i0 (.int .u8 0) 1 Tryd.underlying42 hi hz0 hz1 _ _ _ _ 8 rfl rfl rfl rfl (by rw [hz2]; decide) (by decide) (Nat.le_refl _) ?_; intro w1 hown1 hgrow1)
  have hm8 : (madeCells (Value.cells (.int .u8 0)) (8 * 1)).toList = filled u 0 := by rw [filled_zero]; exact toList_madeCells_one (.int .u8 0) 8
  rw [hm8] at hown1
  have hb1 : Below w.heap.size w w1 := ⟨hgrow1.os, hgrow1.tape, hgrow1.output, hgrow1.size, fun k hk => hgrow1.block k hk (by simp)⟩
  clear hm8 hgrow1
  go_loopw [4, 5] (fun x i wr => ∃ k : Nat, k ≤ 8 ∧ i = .int .i64 (7 - (k : Int)) ∧ x = .int .i64 ((u / 2 ^ (8 * k) : Nat) : Int) ∧ wr.ownsRow w.heap.size 5 1 (.slice (some ⟨w.heap.size, 0, none⟩) 8 8) 8 (filled u k) ∧ Below w.heap.size w wr) (fun _ i _ => (intOf i + 1).toNat)
  case atStart => exact ⟨0, by omega, rfl, by simp; omega, hown1, hb1⟩
  case round =>
    obtain ⟨k, hk, rfl, rfl, hown, hbl⟩ := hrel
    obtain ⟨U, hU⟩ : ∃ U, U = u / 2 ^ (8 * k) := ⟨_, rfl⟩
    have hUle : U ≤ u := by rw [hU]; exact Nat.div_le_self _ _
    rw [← hU]
    have HU : Hid (U = u / 2 ^ (8 * k)) := hU
    clear hU
    by_cases hk8 : k < 8
    · have hcell := hown.cellAt (7 - k) (by omega)
      have hlenf : (filled u k).length = 8 := by have := hown.1; omega
      obtain ⟨old, hold⟩ : ∃ old, (filled u k)[7 - k]? = some old := ⟨_, List.getElem?_eq_getElem (by omega)⟩
      rw [hold] at hcell
      have hfz := hown.frozenAt (7 - k)
      have hst := fun x => hown.stored (7 - k) x
      go_wp2
      go_roundw
      case rel =>
        have hb : ((U : Int) % 256) = ((byteAt u k).toNat : Int) := by rw [HU.out]; simp [byteAt]
        refine ⟨k + 1, by omega, by go_num, ?_, ?_, hbl.setCell (p := ⟨w.heap.size, 7 - k, none⟩) (Nat.le_refl _) _⟩
        · rw [← div_pow, ← HU.out]
          simp
        · rw [← filled_next u k hk8, ← hb]
          exact (hst _).1
      case measure => simp [intOf]; omega
    · have : k = 8 := by omega
      subst this
      go_wp2
      go_ret
      rw [filled_all] at hown
      exact ⟨_, rfl, own_of_row (l := upper u 8) (by rw [upper_length]; exact hown) (Nat.le_refl _), hbl⟩

theorem Own.len {w : World} {B : Nat} {v : Value} {l : List UInt8} (h : Own B v l w) : ∃ ao c, v = .slice ao l.length c := by
  rcases h with ⟨rfl, rfl⟩ | ⟨g, cap, rfl, _⟩
  · exact ⟨_, _, rfl⟩
  · exact ⟨_, _, rfl⟩
theorem Own.weak {w : World} {B B' : Nat} {v : Value} {l : List UInt8} (h : Own B v l w) (hB : B' ≤ B) : Own B' v l w := by
  rcases h with h | ⟨g, cap, h1, h2, h3⟩
  · exact .inl h
  · exact .inr ⟨g, cap, h1, Nat.le_trans hB h2, h3⟩
theorem below_own {a w w' : World} {B : Nat} {v : Value} {l : List UInt8} (h : Below B a w) (hB : B ≤ w.heap.size) (ho : Own B v l w) (hg : w.grownBy w' v.ownBlock) : Below B a w' :=
  h.grown hg hB (fun k hk => (own_lt ho k hk).1)

theorem reftext_short (s : ByteArray) (hs : s.size < 7) (w : World) :
    Calls Tryd.prog 26 #[.string s] w fun e w' => ∃ v, e = .returned v ∧ Own w.heap.size v (textKey s.toList) w' ∧ Below w.heap.size w w' := by
  have hi : (s.size : Int) < 7 := by omega
  have hcv := fun (w : World) => Lib.run_convert_string_bytes (P := Tryd.prog) w 9 42 5 s Tryd.underlying9 Tryd.underlying42 Tryd.underlying5
  go_enter Tryd.func26, Tryd.ntmps26
  go_wp2
  go_loopw [3] (fun v wr => ∃ k : Nat, k ≤ 7 - s.size ∧ Own w.heap.size v (s.toList ++ List.replicate k 0) wr ∧ Below w.heap.size w wr) (fun v _ => 7 - (match v with | .slice _ n _ => n | _ => 0))
  case atStart => exact ⟨0, by omega, by simpa using own_conv w s (by omega), below_conv w s⟩
  case round =>
    obtain ⟨k, hk, hown, hbl⟩ := hrel
    obtain ⟨ao, cp, hv⟩ : ∃ ao cp, u3 = .slice ao (s.size + k) cp := by
      rcases hown with ⟨rfl, h0⟩ | ⟨g, cap, rfl, _⟩
      · have : (s.toList ++ List.replicate k (0 : UInt8)).length = 0 := by rw [h0]; rfl
        rw [List.length_append, toList_length, List.length_replicate] at this
        rw [this]
        exact ⟨_, _, rfl⟩
      · rw [List.length_append, toList_length, List.length_replicate]
        exact ⟨_, _, rfl⟩
    subst hv
    have hs1 := hbl.size
    have hlen : (s.toList ++ List.replicate k (0 : UInt8)).length = s.size + k := by rw [List.length_append, toList_length, List.length_replicate]
    by_cases hk7 : s.size + k < 7
    · have hi7 : (s.size : Int) + (k : Int) < 7 := by omega
      go_wp2_with (at_builtin; refine own_list rfl (.tmp 21) (.tmp 22) rfl ((hown.below (since_new _ _))) rfl [0] rfl rfl (byte_at _ 0 0 rfl) (by rw [hlen]; simp; omega) (by simp; omega) ?_; intro v2 w2 hown2 hgrow2)
      have hb2 := below_own (since_on hbl (since_new _ _)) (by simp; omega) (hown.below (since_new _ _)) hgrow2
      obtain ⟨ao2, cp2, rfl⟩ := hown2.len
      go_roundw
      case rel => exact ⟨k + 1, by omega, by rw [List.replicate_succ', ← List.append_assoc]; exact hown2, hb2⟩
      case measure =>
        simp only [List.length_append, List.length_cons, List.length_nil, toList_length, List.length_replicate]
        omega
    · have hk' : k = 7 - s.size := by omega
      have hi7 : ¬ (s.size : Int) + (k : Int) < 7 := by omega
      go_wp2_with (at_builtin; refine own_list rfl (.tmp 24) (.tmp 28) rfl ((hown.below (since_new _ _))) rfl [UInt8.ofNat s.size] rfl rfl (byte_at _ _ _ (by simp; omega)) (by rw [hlen]; simp; omega) (by simp; omega) ?_; intro v2 w2 hown2 hgrow2)
      have hb2 := below_own (since_on hbl (since_new _ _)) (by simp; omega) (hown.below (since_new _ _)) hgrow2
      go_ret
      refine ⟨_, rfl, ?_, hb2⟩
      rw [textKey_short (by rw [toList_length]; exact hs), toList_length, ← hk']
      exact hown2

theorem since_drew (w : World) : Below w.heap.size w w.drew := (Below.refl _ _).drew
theorem conv_byte (w : World) (b : UInt8) (c : Int) (hc : c = b.toNat) (X : ByteArray) : ∀ j u, (cells [b])[j]? = some u → (Lib.bytesWorld (w.alloc (.cells #[.int .u8 c] 5)).drew 5 X).cell? ((⟨w.heap.size, 0, none⟩ : Addr).add j) = some u := by
  intro j u hj
  have h := byte_at w b c hc j u hj
  rw [Lib.bytesWorld_old _ 5 X _ (by rw [Addr.add_lit]; simp)]
  exact h

/-- A call of a function by its contract, as one step of a region that draws its order. -/
theorem call_step {ops : Array Oper} {o : Oper} {a : Act} {w : World} {K : Act → World → Prop} {Q : Exit → Act → World → Prop} {E : Prop} (hg : o.guard = none) (f : FuncId) (x : Operand) (t : TypeId)
    (_ho : o.op = .call { callee := .value (.func f), args := #[x], argTypes := #[t] }) (v : Value) (hx : a.eval x = v) {R : Value → World → Prop}
    (hc : Calls Tryd.prog f #[v] w fun e w' => ∃ u, e = .returned u ∧ R u w') (hrun : (execOp a.eval o).run Tryd.prog w = .ok (.enter f #[a.eval x]) w) (hk : ∀ u w', R u w' → K (a.put o.dst u) w') : if Region.wanted o (yielded ops a.tmps) = true then Oper.wp Tryd.prog o a w K Q else E := by
  have hw : Region.wanted o (yielded ops a.tmps) = true := by simp [Region.wanted, hg]
  rw [if_pos hw]
  unfold Oper.wp
  rw [hrun, hx]
  simp only [Oper.upon]
  refine hc.mono ?_
  rintro e w' ⟨u, rfl, hR⟩
  exact hk u w' hR

set_option maxHeartbeats 2000000 in
theorem reftext_long (s : ByteArray) (hs : 7 ≤ s.size) (hm : s.size ≤ 1000) (w : World) (hrec : ∀ w, Calls Tryd.prog 26 #[.string (s.extract 7 s.size)] w fun e w' => ∃ v, e = .returned v ∧ Own w.heap.size v (textKey (s.toList.drop 7)) w' ∧ Below w.heap.size w w') :
    Calls Tryd.prog 26 #[.string s] w fun e w' => ∃ v, e = .returned v ∧ Own w.heap.size v (textKey s.toList) w' ∧ Below w.heap.size w w' := by
  have hi : (7 : Int) ≤ (s.size : Int) := by omega
  obtain ⟨X, hX⟩ : ∃ X, X = s.extract 0 7 := ⟨_, rfl⟩
  have hXl : X.toList = s.toList.take 7 := by rw [hX, extract_front]
  have hXs : X.size = 7 := by rw [← toList_length, hXl, List.length_take, toList_length]; omega
  have hcv := fun (w : World) => Lib.run_convert_string_bytes (P := Tryd.prog) w 9 42 5 X Tryd.underlying9 Tryd.underlying42 Tryd.underlying5
  have hX' := hX.symm
  have HX : Hid (X.toList = s.toList.take 7) := hXl
  have hoc := fun (w : World) => own_conv w X (by omega)
  simp only [hXs] at hoc
  have hbc := fun (w : World) => below_conv w X
  have hXl7 : X.toList.length = 7 := by rw [toList_length]; exact hXs
  have hne : textKey (s.toList.drop 7) ≠ [] := by
    intro e
    have := textKey_length (s.toList.drop 7)
    rw [e] at this
    simp at this
  have hkl : (textKey (s.toList.drop 7)).length ≤ 2000 := by
    rw [textKey_length, List.length_drop, toList_length]
    omega
  clear hX hXl
  have hoc2 : Own (w.heap.size + 1) (.slice (some ⟨w.heap.size + 1, 0, none⟩) 7 (grownCap (w.alloc (.cells #[.int .u8 8] 5)).drew 7 0 5)) X.toList (Lib.bytesWorld (w.alloc (.cells #[.int .u8 8] 5)).drew 5 X) := by
    have := hoc (w.alloc (.cells #[.int .u8 8] 5)).drew
    simpa using this
  have hbel2 : Below w.heap.size w (Lib.bytesWorld (w.alloc (.cells #[.int .u8 8] 5)).drew 5 X) := since_on (since_on (since_new w _) (since_drew _)) (hbc _)
  have hsz2 := hbel2.size
  go_enter Tryd.func26, Tryd.ntmps26
  go_wp2
  go_region_law (first
    | (refine own_step rfl (.tmp 9) (.tmp 10) rfl (B := w.heap.size) ((hoc w.drew).below (since_new _ _)) rfl [8] rfl rfl (byte_at _ 8 8 rfl) (by rw [hXl7]; simp) (by have := (hbc w.drew).size; simp at this ⊢; omega) ?_; intro v1 w1 hown1 hgrow1; have hb1 : Below w.heap.size w w1 := below_own (since_on (since_on (since_drew w) (hbc w.drew)) (since_new _ _)) (by have := (hbc w.drew).size; simp at this ⊢; omega) ((hoc w.drew).below (since_new _ _)) hgrow1)
    | (refine own_step rfl (.tmp 9) (.tmp 10) rfl (B := w.heap.size) (hoc2.weak (by omega)) rfl [8] rfl rfl (conv_byte w 8 8 rfl X) (by rw [hXl7]; simp) hsz2 ?_; intro v1 w1 hown1 hgrow1; have hb1 : Below w.heap.size w w1 := below_own hbel2 hsz2 (hoc2.weak (by omega)) hgrow1)
    | (refine call_step rfl 26 (.tmp 13) 9 rfl _ rfl (hrec _) (by go_simp) ?_; rintro v2 w2 ⟨hown2, hb2⟩; obtain ⟨g2, c2, rfl, hsrc⟩ := hown2.src hne)
    | (refine own_step rfl (.tmp 11) (.tmp 14) rfl (B := w.heap.size) (hown1.below hb2) rfl (textKey (s.toList.drop 7)) rfl rfl hsrc (by simp [hXl7]; omega) (by have := hb2.size; have := hb1.size; omega) ?_; intro v3 w3 hown3 hgrow3))
  all_goals
    have hb3 := below_own (hb1.trans (hb2.mono hb1.size)) (by have := hb2.size; have := hb1.size; omega) (hown1.below hb2) hgrow3
    go_wp2
    refine bodyPost_ret (v := v3) (by simp [results, Tryd.results26, go_sem]) rfl ⟨_, rfl, ?_, hb3⟩
    rw [textKey_long (by rw [toList_length]; exact hs), ← HX.out]
    simpa [List.append_assoc] using hown3

theorem reftext_any (s : ByteArray) (hm : s.size ≤ 1000) (w : World) :
    Calls Tryd.prog 26 #[.string s] w fun e w' => ∃ v, e = .returned v ∧ Own w.heap.size v (textKey s.toList) w' ∧ Below w.heap.size w w' := by
  induction hn : s.size using Nat.strongRecOn generalizing s w with
  | _ n ih =>
    by_cases h7 : 7 ≤ s.size
    · refine reftext_long s h7 hm w fun w' => ?_
      have := ih (s.extract 7 s.size).size (by simp; omega) (s.extract 7 s.size) (by simp; omega) w' rfl
      rwa [extract_back] at this
    · exact reftext_short s (by omega) w

/-- A literal of one byte behind a box. -/
theorem own_lit (w : World) (o : Obj) (b : UInt8) (c : Int) (hc : c = b.toNat) : Own w.heap.size (.slice (some ⟨w.heap.size + 1, 0, none⟩) 1 1) [b] ((w.alloc o).alloc (.cells #[.int .u8 c] 5)) := by
  subst hc
  refine .inr ⟨w.heap.size + 1, 1, rfl, by omega, by simp, by simp, by decide, ?_, ?_⟩
  · intro j u hj
    match j, hj with
    | 0, hj => simp [cells] at hj; subst hj; simp
    | (j + 1), hj => simp [cells] at hj
  · intro j hj hj'
    simp at hj
    omega

theorem below_ab (w : World) (o o' : Obj) : Below w.heap.size w ((w.alloc o).alloc o') := since_on (since_new w o) (since_new _ o')

set_option maxHeartbeats 2000000 in
theorem one_num (num : Int) (text : ByteArray) (re im : Int) (hn : -9007199254740992 ≤ num) (hn' : num ≤ 9007199254740992) (w : World) :
    Calls Tryd.prog 17 #[.agg #[.int .i64 1, .int .i64 num, .string text, .int .i64 re, .int .i64 im]] w fun e w' => ∃ v, e = .returned v ∧ Own w.heap.size v (V.key ⟨1, num, text, re, im⟩) w' ∧ Below w.heap.size w w' := by
  have hnum := number_any num (num + 4611686018427387904).toNat (by omega) hn hn'
  have hul := upper_length (num + 4611686018427387904).toNat 8
  have hne : upper (num + 4611686018427387904).toNat 8 ≠ [] := by intro e; rw [e] at hul; simp at hul
  have hkey : V.key ⟨1, num, text, re, im⟩ = [1] ++ upper (num + 4611686018427387904).toNat 8 := by simp [V.key]
  generalize upper (num + 4611686018427387904).toNat 8 = L at *
  have HK : Hid (V.key ⟨1, num, text, re, im⟩ = [1] ++ L ∧ L.length = 8) := ⟨hkey, hul⟩
  clear hkey hul
  have hlit := own_lit w (.cells #[.int .i64 1, .int .i64 num, .string text, .int .i64 re, .int .i64 im] 31) 1 1 rfl
  have hba := below_ab w (.cells #[.int .i64 1, .int .i64 num, .string text, .int .i64 re, .int .i64 im] 31) (.cells #[.int .u8 1] 5)
  go_enter Tryd.func17, Tryd.ntmps17
  go_wp2_with (first
    | (go_at_call 25; refine (hnum _).mono ?_; rintro e w1 ⟨v1, rfl, hown1, hb1⟩; obtain ⟨g1, c1, rfl, hsrc⟩ := hown1.src hne; have hs1 := (since_on hba hb1).size)
    | (at_builtin; refine own_list rfl (.tmp 12) (.tmp 15) rfl (B := w.heap.size) (hlit.below hb1) rfl L rfl rfl hsrc (by rw [HK.out.2]; decide) hs1 ?_; intro v2 w2 hown2 hgrow2))
  have hb2 := below_own (since_on hba hb1) hs1 (hlit.below hb1) hgrow2
  go_ret
  exact ⟨_, rfl, by rw [HK.out.1]; exact hown2, hb2⟩

set_option maxHeartbeats 2000000 in
theorem one_text (num : Int) (text : ByteArray) (re im : Int) (ht : text.size ≤ 256) (w : World) :
    Calls Tryd.prog 17 #[.agg #[.int .i64 2, .int .i64 num, .string text, .int .i64 re, .int .i64 im]] w fun e w' => ∃ v, e = .returned v ∧ Own w.heap.size v (V.key ⟨2, num, text, re, im⟩) w' ∧ Below w.heap.size w w' := by
  have htx := reftext_any text (by omega)
  have hul := textKey_length text.toList
  rw [toList_length] at hul
  have hne : textKey text.toList ≠ [] := by intro e; rw [e] at hul; simp at hul
  have hkey : V.key ⟨2, num, text, re, im⟩ = [2] ++ textKey text.toList := by simp [V.key]
  have hul2 : (textKey text.toList).length ≤ 300 := by omega
  generalize textKey text.toList = L at *
  have HK : Hid (V.key ⟨2, num, text, re, im⟩ = [2] ++ L ∧ L.length ≤ 300) := ⟨hkey, hul2⟩
  clear hkey hul hul2
  have hlit := own_lit w (.cells #[.int .i64 2, .int .i64 num, .string text, .int .i64 re, .int .i64 im] 31) 2 2 rfl
  have hba := below_ab w (.cells #[.int .i64 2, .int .i64 num, .string text, .int .i64 re, .int .i64 im] 31) (.cells #[.int .u8 2] 5)
  go_enter Tryd.func17, Tryd.ntmps17
  go_wp2_with (first
    | (go_at_call 26; refine (htx _).mono ?_; rintro e w1 ⟨v1, rfl, hown1, hb1⟩; obtain ⟨g1, c1, rfl, hsrc⟩ := hown1.src hne; have hs1 := (since_on hba hb1).size)
    | (at_builtin; refine own_list rfl (.tmp 19) (.tmp 22) rfl (B := w.heap.size) (hlit.below hb1) rfl L rfl rfl hsrc (by have := HK.out.2; simp; omega) hs1 ?_; intro v2 w2 hown2 hgrow2))
  have hb2 := below_own (since_on hba hb1) hs1 (hlit.below hb1) hgrow2
  go_ret
  exact ⟨_, rfl, by rw [HK.out.1]; exact hown2, hb2⟩

theorem box_at {w : World} {a b c d e : Value} (o : Obj) : ((w.alloc (.cells #[a, b, c, d, e] 31)).alloc o).heap[w.heap.size]? = some (Obj.cells #[a, b, c, d, e] 31 (0, 0)) := block_old (block_at w _) _

set_option maxHeartbeats 4000000 in
theorem one_point (num : Int) (text : ByteArray) (re im : Int) (hr : -1048576 ≤ re ∧ re ≤ 1048576) (hm : -1048576 ≤ im ∧ im ≤ 1048576) (w : World) :
    Calls Tryd.prog 17 #[.agg #[.int .i64 3, .int .i64 num, .string text, .int .i64 re, .int .i64 im]] w fun e w' => ∃ v, e = .returned v ∧ Own w.heap.size v (V.key ⟨3, num, text, re, im⟩) w' ∧ Below w.heap.size w w' := by
  have hre := number_any re (re + 4611686018427387904).toNat (by omega) (by omega) (by omega)
  have him := number_any im (im + 4611686018427387904).toNat (by omega) (by omega) (by omega)
  have hl1 := upper_length (re + 4611686018427387904).toNat 8
  have hl2 := upper_length (im + 4611686018427387904).toNat 8
  have hne1 : upper (re + 4611686018427387904).toNat 8 ≠ [] := by intro e; rw [e] at hl1; simp at hl1
  have hne2 : upper (im + 4611686018427387904).toNat 8 ≠ [] := by intro e; rw [e] at hl2; simp at hl2
  have hkey : V.key ⟨3, num, text, re, im⟩ = [3] ++ upper (re + 4611686018427387904).toNat 8 ++ upper (im + 4611686018427387904).toNat 8 := by simp [V.key]
  generalize upper (re + 4611686018427387904).toNat 8 = L1 at *
  generalize upper (im + 4611686018427387904).toNat 8 = L2 at *
  have HK : Hid (V.key ⟨3, num, text, re, im⟩ = [3] ++ L1 ++ L2 ∧ L1.length = 8 ∧ L2.length = 8) := ⟨hkey, hl1, hl2⟩
  clear hkey hl1 hl2
  have hlit := own_lit w (.cells #[.int .i64 3, .int .i64 num, .string text, .int .i64 re, .int .i64 im] 31) 3 3 rfl
  have hba := below_ab w (.cells #[.int .i64 3, .int .i64 num, .string text, .int .i64 re, .int .i64 im] 31) (.cells #[.int .u8 3] 5)
  have hbox := box_at (w := w) (a := .int .i64 3) (b := .int .i64 num) (c := .string text) (d := .int .i64 re) (e := .int .i64 im) (.cells #[.int .u8 3] 5)
  go_enter Tryd.func17, Tryd.ntmps17
  go_wp2
  go_region_law (first
    | (refine call_step rfl 25 (.tmp 27) 3 rfl _ rfl (hre _) (by go_simp) ?_; rintro v1 w1 ⟨hown1, hb1⟩; obtain ⟨g1, c1, rfl, hsrc1⟩ := hown1.src hne1; have hs1 := (since_on hba (since_on (since_drew _) hb1)).size; have hbx1 := later_block (w := World.drew _) hbox hb1; obtain ⟨⟨p0, p1, p2, p3, p4⟩, -⟩ := cells_frozen5 hbx1)
    | (refine own_step rfl (.tmp 24) (.tmp 28) rfl (B := w.heap.size) (hlit.below (since_on (since_drew _) hb1)) rfl L1 rfl rfl hsrc1 (by rw [HK.out.2.1]; decide) hs1 ?_; intro v2 w2 hown2 hgrow2; have hb2 := below_own (since_on hba (since_on (since_drew _) hb1)) hs1 (hlit.below (since_on (since_drew _) hb1)) hgrow2; have hbx2 := (hgrow2.block w.heap.size (by have := hb1.size; simp at this; omega) (by simp [Value.ownBlock])).trans hbx1; obtain ⟨⟨q0, q1, q2, q3, q4⟩, -⟩ := cells_frozen5 hbx2)
    | (refine call_step rfl 25 (.tmp 32) 3 rfl _ rfl (him _) (by go_simp) ?_; rintro v3 w3 ⟨hown3, hb3⟩; obtain ⟨g3, c3, rfl, hsrc3⟩ := hown3.src hne2; have hs3 := (hb2.trans (hb3.mono hb2.size)).size)
    | (refine own_step rfl (.tmp 29) (.tmp 33) rfl (B := w.heap.size) (hown2.below hb3) rfl L2 rfl rfl hsrc3 (by simp [HK.out.2.1, HK.out.2.2]) hs3 ?_; intro v4 w4 hown4 hgrow4))
  all_goals
    have hb4 := below_own (hb2.trans (hb3.mono hb2.size)) hs3 (hown2.below hb3) hgrow4
    go_wp2
    refine bodyPost_ret (v := v4) (by simp [results, Tryd.results17, go_sem]) rfl ⟨_, rfl, ?_, hb4⟩
    rw [HK.out.1]
    exact hown4

theorem one_any (x : V) (hf : x.check = 0) (w : World) :
    Calls Tryd.prog 17 #[x.val] w fun e w' => ∃ v, e = .returned v ∧ Own w.heap.size v x.key w' ∧ Below w.heap.size w w' := by
  have hfit : x.fits = true := by
    unfold V.check at hf
    split at hf
    · cases hf
    · split at hf
      · assumption
      · cases hf
  obtain ⟨kind, num, text, re, im⟩ := x
  rcases V.fits_kind hfit with h | h | h
  · subst h
    have hn : -9007199254740992 ≤ num ∧ num ≤ 9007199254740992 := by simp [V.fits] at hfit; omega
    exact one_num num text re im hn.1 hn.2 w
  · subst h
    refine one_text num text re im ?_ w
    have : ¬ (256 < text.size) := by
      intro hc
      simp [V.check, hc] at hf
    omega
  · subst h
    have hn : (-1048576 ≤ re ∧ re ≤ 1048576) ∧ -1048576 ≤ im ∧ im ≤ 1048576 := by simp [V.fits] at hfit; omega
    exact one_point num text re im hn.1 hn.2 w

end Go.Proofs.YtgjcienechfapaaDoor
