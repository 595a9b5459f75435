/-
  Maps keyed by where a list lies, of lists in blocks that bear no mark: what is found is there.
  The reference's last and whole, by contracts.
  The reference's Digits, by a contract.
-/
import Derived.Test.YtiacnmcdfpmcfaaGreatDoorQ04
import Derived.Test.YtiacnmcdfpmcfaaGreatDoorQ10
import Derived.Test.YtiacnmcdfpmcfaaGreatDoorQ02
namespace Go.Proofs.YtiacnmcdfpmcfaaGreatDoor
open Go.RowKit


theorem stringish_no {P : Program} {w : World} {b off : Nat} {cs : Array Value} {t : TypeId} {fr : Nat × Nat} (h : w.heap[b]? = some (.cells cs t fr)) (hf : ∀ o, w.frozen? ⟨b, o, none⟩ = false) : (stringish ⟨b, off, none⟩).run P w = .ok false w := by
  have h1 := hf off
  have h2 := hf cs.size
  simp [stringish, h1, World.shape?, h, h2]

theorem sameAddr_x {P : Program} {w : World} {b off b' off' : Nat} {cs cs' : Array Value} {t t' : TypeId} {fr fr' : Nat × Nat} (h : w.heap[b]? = some (.cells cs t fr)) (h' : w.heap[b']? = some (.cells cs' t' fr')) (hf : ∀ o, w.frozen? ⟨b, o, none⟩ = false) (hf' : ∀ o, w.frozen? ⟨b', o, none⟩ = false) :
    ∃ q, (sameAddr ⟨b, off, none⟩ ⟨b', off', none⟩).run P w = .ok q w ∧ (q = true ↔ (⟨b, off, none⟩ : Addr) = ⟨b', off', none⟩) := by
  by_cases hbl : b = b'
  · subst hbl
    exact ⟨(⟨b, off, none⟩ : Addr) == ⟨b, off', none⟩, by simp [sameAddr], by simp⟩
  · have hm : (mayBeOne ⟨b, off, none⟩ ⟨b', off', none⟩).run P w = .ok false w := by simp [mayBeOne, stringish_no h hf, stringish_no h' hf']
    exact ⟨false, by simp [sameAddr, hbl, hf off, noView, viewAt, World.shape?, h, h', hm], by simp⟩

/-- A place in a block that bears no mark. -/
def PX (B : Nat) (w : World) (k : Value) : Prop := ∃ b off n cs t fr, k = .agg #[.pointer (some ⟨b, off, none⟩), .int .i64 n] ∧ w.heap[b]? = some (.cells cs t fr) ∧ (∀ o, w.frozen? ⟨b, o, none⟩ = false) ∧ b < B

theorem PX.pk {B : Nat} {w : World} {k : Value} (h : PX B w k) : PK B w k := by
  obtain ⟨b, off, n, cs, t, fr, rfl, h1, h2, h4⟩ := h
  exact ⟨b, off, n, cs, t, fr, rfl, h1, h2 off, h4⟩

theorem PX.keep {B : Nat} {w w' : World} {k : Value} (h : PX B w k) (hw : ∀ (b : Nat) (cs : Array Value) (t : TypeId) (fr : Nat × Nat), b < B → w.heap[b]? = some (Obj.cells cs t fr) → w'.heap[b]? = w.heap[b]?) : PX B w' k := by
  obtain ⟨b, off, n, cs, t, fr, rfl, h1, h2, h4⟩ := h
  have h3 := hw b cs t fr h4 h1
  exact ⟨b, off, n, cs, t, fr, rfl, h3.trans h1, fun o => by rw [World.frozen?_of_block (w := w) (a := ⟨b, o, none⟩) h3]; exact h2 o, h4⟩

theorem PX.same {B : Nat} {w : World} {x y : Value} (hx : PX B w x) (hy : PX B w y) : ∃ q, (Op.equal 181 x y).run Tryz.prog w = .ok q w ∧ (q = true ↔ x = y) := by
  obtain ⟨b, off, n, cs, t, fr, rfl, h1, h2, _⟩ := hx
  obtain ⟨b', off', n', cs', t', fr', rfl, h1', h2', _⟩ := hy
  obtain ⟨q, h, hq⟩ := sameAddr_x (P := Tryz.prog) (off := off) (off' := off') h1 h1' h2 h2'
  refine ⟨_, eq_place 9998 _ _ n n' w _ q h, ?_⟩
  rw [Bool.and_eq_true, hq]
  simp

theorem asking_x {B : Nat} {k : Value} : ∀ (es : List MapEntry) (i : Nat) (w : World), PX B w k → (∀ e ∈ es, PX B w e.key) → ∃ o, (Instr.findAsking 181 k es i).run Tryz.prog w = .ok o w ∧ ((o = none ∧ ∀ e ∈ es, e.key ≠ k) ∨ ∃ j e, o = some (j, e.val) ∧ e ∈ es ∧ e.key = k) := by
  intro es
  induction es with
  | nil => intro i w _ _; exact ⟨none, by simp [Instr.findAsking], .inl ⟨rfl, fun e h => by cases h⟩⟩
  | cons e es ih =>
    intro i w hk hes
    obtain ⟨q, h, hq⟩ := hk.same (hes e (by simp))
    cases q with
    | true => exact ⟨some (i, e.val), by simp [Instr.findAsking, h], .inr ⟨i, e, rfl, by simp, (hq.1 rfl).symm⟩⟩
    | false =>
      obtain ⟨o, h', hv⟩ := ih (i + 1) w hk (fun x hx => hes x (by simp [hx]))
      refine ⟨o, by simp [Instr.findAsking, h, h'], ?_⟩
      rcases hv with ⟨rfl, hv⟩ | ⟨j, e', rfl, hm, he⟩
      · refine .inl ⟨rfl, fun x hx => ?_⟩
        rcases List.mem_cons.1 hx with rfl | hx
        · intro hxe
          have := hq.2 hxe.symm
          cases this
        · exact hv x hx
      · exact .inr ⟨j, e', rfl, by simp [hm], he⟩

theorem find_x {B : Nat} {k : Value} (es : List MapEntry) (w : World) (hk : PX B w k) (hes : ∀ e ∈ es, PX B w e.key) : ∃ o, (Instr.findKey 181 k es).run Tryz.prog w = .ok o w ∧ ((o = none ∧ ∀ e ∈ es, e.key ≠ k) ∨ ∃ j e, o = some (j, e.val) ∧ e ∈ es ∧ e.key = k) := by
  cases es with
  | nil => exact ⟨none, by simp [Instr.findKey, run_underlying Tryz.underlying181, Instr.findNow], .inl ⟨rfl, fun e h => by cases h⟩⟩
  | cons e es =>
    rw [find_asks hk.pk (hes e (by simp)).pk]
    exact asking_x (e :: es) 0 w hk hes

/-- The map of the places ks at r. -/
def SeenX (B r : Nat) (w : World) (ks : List Value) : Prop := ∃ es clock, w.heap[r]? = some (.map es clock) ∧ es.toList.map (·.key) = ks ∧ ∀ e ∈ es.toList, PX B w e.key ∧ ∃ z, e.val = .int .i64 z

theorem seenx_look {B r : Nat} {w : World} {k : Value} {ks : List Value} (h : SeenX B r w ks) (hk : PX B w k) : ∃ z q, (Instr.lookup 178 (.map (some r)) k true).run Tryz.prog w = .ok (.tuple #[.int .i64 z, .bool q]) w ∧ (q = true ↔ k ∈ ks) := by
  obtain ⟨es, clock, hm, hks, hes⟩ := h
  obtain ⟨o, hf, hv⟩ := find_x es.toList w hk (fun e he => (hes e he).1)
  rcases hv with ⟨rfl, hv⟩ | ⟨j, e, rfl, he, hke⟩
  · refine ⟨0, false, by simp [Instr.lookup, run_underlying Tryz.underlying178, MapKept.run_getObj_map hm, check_place _ hk.pk, hf, Result.andThen], ?_⟩
    rw [← hks]
    simp only [Bool.false_eq_true, List.mem_map, false_iff, not_exists, not_and]
    exact hv
  · obtain ⟨z, hz⟩ := (hes e he).2
    refine ⟨z, true, by simp [Instr.lookup, run_underlying Tryz.underlying178, MapKept.run_getObj_map hm, check_place _ hk.pk, hf, hz, Result.andThen], ?_⟩
    rw [← hks]
    simp only [true_iff, List.mem_map]
    exact ⟨e, he, hke⟩

theorem seenx_set {B r : Nat} {w : World} {k : Value} {ks : List Value} (h : SeenX B r w ks) (hk : PX B w k) (hn : k ∉ ks) (v : Int) : ∃ w', (Instr.mapUpdate 178 (.map (some r)) k (.int .i64 v)).run Tryz.prog w = .ok () w' ∧ SeenX B r w' (ks ++ [k]) ∧ w.grownBy w' (some r) ∧ w'.heap.size = w.heap.size := by
  obtain ⟨es, clock, hm, hks, hes⟩ := h
  obtain ⟨o, hf, hv⟩ := find_x es.toList w hk (fun e he => (hes e he).1)
  have hr : r < w.heap.size := lt_of_some hm
  rcases hv with ⟨rfl, hv⟩ | ⟨j, e, rfl, he, hke⟩
  · refine ⟨{ w with heap := w.heap.setIfInBounds r (.map (es.push { key := k, val := .int .i64 v, born := clock }) (clock + 1)) }, by simp [Instr.mapUpdate, run_underlying Tryz.underlying178, MapKept.run_getObj_map hm, check_place _ hk.pk, hf, MapKept.run_setObj_map _ hm, Result.andThen], ⟨_, _, by simp [hr]; exact ⟨rfl, rfl⟩, by simp [hks], fun e he => ?_⟩, ⟨rfl, rfl, rfl, by simp, fun b hb hne => ?_⟩, by simp⟩
    · have hkeep : ∀ (b : Nat) (cs : Array Value) (t : TypeId) (fr : Nat × Nat), b < B → w.heap[b]? = some (Obj.cells cs t fr) → ({ w with heap := w.heap.setIfInBounds r (.map (es.push { key := k, val := .int .i64 v, born := clock }) (clock + 1)) } : World).heap[b]? = w.heap[b]? := by
        intro b cs t fr _ hb
        have hne : b ≠ r := by
          rintro rfl
          rw [hm] at hb
          cases hb
        simp only [Array.getElem?_setIfInBounds]
        rw [if_neg (fun e => hne e.symm)]
      simp only [Array.toList_push, List.mem_append, List.mem_singleton] at he
      rcases he with he | rfl
      · exact ⟨(hes e he).1.keep hkeep, (hes e he).2⟩
      · exact ⟨hk.keep hkeep, v, rfl⟩
    · simp only [Array.getElem?_setIfInBounds]
      rw [if_neg (fun e => hne (by rw [e]))]
  · exact absurd (by rw [← hks]; exact List.mem_map.2 ⟨e, he, hke⟩) hn

/-- 'v, ok := m[k]' at the operation. -/
theorem placex_look {ops : Array Oper} {rest : List Oper} {o : Oper} {a : Act} {w : World} {Q : Exit → Act → World → Prop} (hg : o.guard = none) (m x : Operand) (hop : o.op = Op.lookup 178 m x true) {B r : Nat} {ks : List Value} (hm : a.eval m = .map (some r)) (h : SeenX B r w ks) {k : Value} (hx : a.eval x = k) (hk : PX B w k)
    (hK : ∀ z q, (q = true ↔ k ∈ ks) → wpList Tryz.prog ops Q rest (a.put o.dst (.tuple #[.int .i64 z, .bool q])) w) : wpList Tryz.prog ops Q (o :: rest) a w := by
  refine wpList_plain hg fun K' hK' => ?_
  obtain ⟨z, q, hr, hq⟩ := seenx_look h hk
  unfold Oper.wp
  simp [execOp, hop, hm, hx, hr, Result.andThen]
  exact hK' _ _ (hK z q hq)

/-- 'm[k] = v' at the operation. -/
theorem placex_set {ops : Array Oper} {rest : List Oper} {o : Oper} {a : Act} {w : World} {Q : Exit → Act → World → Prop} (hg : o.guard = none) (m x v : Operand) (hop : o.op = Op.mapUpdate 178 m x v) {B r : Nat} {ks : List Value} (hm : a.eval m = .map (some r)) (h : SeenX B r w ks) {k : Value} (hx : a.eval x = k) (hk : PX B w k) (hn : k ∉ ks) {n : Int} (hv : a.eval v = .int .i64 n)
    (hK : ∀ w', SeenX B r w' (ks ++ [k]) → w.grownBy w' (some r) → w'.heap.size = w.heap.size → wpList Tryz.prog ops Q rest (a.put o.dst undef) w') : wpList Tryz.prog ops Q (o :: rest) a w := by
  refine wpList_plain hg fun K' hK' => ?_
  obtain ⟨w', hr, h1, h2, h3⟩ := seenx_set h hk hn n
  unfold Oper.wp
  simp [execOp, hop, hm, hx, hv, hr, Result.andThen]
  exact hK' _ _ (hK w' h1 h2 h3)

end Go.Proofs.YtiacnmcdfpmcfaaGreatDoor

namespace Go.Proofs.YtiacnmcdfpmcfaaGreatDoor
open Go.RowKit
attribute [local go_sem] cell?_more frozen?_more setCell_more size_more tape_more drew_more drewN_more more_drew more_drewN one_out plus_out plus_end lt_one le_p2 le_p3 le_p4 le_p5 le_p6 le_p7 le_p8 le_p9 le_p10 le_p11 le_p12 le_p13 le_p14 le_p15 le_p16 le_p17 le_p18 le_p19 le_p20 le_p21 le_p22 le_p23 le_p24 le_q0 le_q1 lt_q1 le_q2 lt_q2 le_q3 lt_q3 le_q4 lt_q4 le_q5 lt_q5 le_q6 lt_q6 le_q7 lt_q7 le_q8 lt_q8 le_q9 lt_q9 le_q10 lt_q10 le_q11 lt_q11 le_q12 lt_q12 le_q13 lt_q13 le_q14 lt_q14 le_q15 lt_q15 le_q16 lt_q16 le_q17 lt_q17 le_q18 lt_q18 le_q19 lt_q19 le_q20 lt_q20 le_q21 lt_q21 le_q22 lt_q22 le_q23 lt_q23 le_q24 lt_q24


theorem dl_40 {x : UInt8} (h : (x.toNat : Int) = 40) : dl x = 1 := by
  have : x = 40 := UInt8.toNat_inj.1 (by simpa using (by omega : x.toNat = 40))
  subst this
  decide
theorem dl_41 {x : UInt8} (h : (x.toNat : Int) = 41) : dl x = -1 := by
  have : x = 41 := UInt8.toNat_inj.1 (by simpa using (by omega : x.toNat = 41))
  subst this
  decide
theorem dl_no {x : UInt8} (h : ¬ (x.toNat : Int) = 40) (h' : ¬ (x.toNat : Int) = 41) : dl x = 0 := by
  have h1 : x ≠ 40 := by rintro rfl; exact h rfl
  have h2 : x ≠ 41 := by rintro rfl; exact h' rfl
  simp [dl, h1, h2]
theorem u8_eq {x c : UInt8} : x = c ↔ (x.toNat : Int) = (c.toNat : Int) := by
  constructor
  · rintro rfl; rfl
  · intro h; exact UInt8.toNat_inj.1 (by omega)
theorem drop_at (s : ByteArray) {k : Nat} (hk : k < s.size) : s.toList.drop k = s[k] :: s.toList.drop (k + 1) := by
  have hk' : k < s.toList.length := by rw [toList_length]; exact hk
  rw [List.drop_eq_getElem_cons hk', toList_get]

set_option maxHeartbeats 4000000 in
theorem rLast_any (s : ByteArray) (hs : s.size ≤ 1000) (c : UInt8) (w : World) :
    Calls Tryz.prog 69 #[.string s, .int .u8 (c.toNat : Int)] w fun e w' => e = .returned (.int .i64 (lastL c s.toList)) ∧ w' = w := by
  go_enter Tryz.func69, Tryz.ntmps69
  go_wp2
  go_loopw [5, 6, 7] (fun ov av iv wr => ∃ (k : Nat) (o a : Int), k ≤ s.size ∧ ov = .int .i64 o ∧ av = .int .i64 a ∧ iv = .int .i64 k ∧ -(k : Int) ≤ o ∧ o ≤ k ∧ Hid (lastF c o a k (s.toList.drop k) = lastL c s.toList) ∧ wr = w) (fun _ _ iv _ => s.size - (intOf iv).toNat)
  case atStart => exact ⟨0, 0, -1, Nat.zero_le _, rfl, rfl, rfl, by omega, by omega, by show _ = _; rfl, rfl⟩
  case round =>
    obtain ⟨k, o, a, hk, rfl, rfl, rfl, ho1, ho2, hL, rfl⟩ := hrel
    by_cases hlt : k < s.size
    · have HN : Hid (lastF c (o + dl s[k]) (if o + dl s[k] = 0 ∧ s[k] = c then (k : Int) else a) (k + 1) (s.toList.drop (k + 1)) = lastL c s.toList) := by
        have := hL.out
        rw [drop_at s hlt] at this
        exact this
      clear hL
      by_cases h40 : (s[k].toNat : Int) = 40
      · have hd : dl s[k] = 1 := dl_40 h40
        have hb0 : ((s[k].toNat : Int) == 40) = true := by simp [h40]
        have hb1 : ((s[k].toNat : Int) == 41) = false := by simp [h40]
        clear h40
        by_cases e0 : (o + 1) = 0
        · have e0b : ((o + 1) == 0) = true := by simpa using e0
          by_cases ec : (s[k].toNat : Int) = (c.toNat : Int)
          · have HF : Hid (lastF c (o + 1) (k : Int) (k + 1) (s.toList.drop (k + 1)) = lastL c s.toList) := by
                have h1 := HN.out
                rw [if_pos ⟨by omega, u8_eq.2 ec⟩, hd] at h1
                exact h1
            have ecb : ((s[k].toNat : Int) == (c.toNat : Int)) = true := by simpa using ec
            clear HN ec hd
            have E0 : Hid ((o + 1) = 0) := e0
            clear e0
            go_wp2
            go_roundw
            case rel => exact ⟨k + 1, (o + 1), (k : Int), by omega, by go_num, by go_num, by go_num, by omega, by omega, HF, by first | rfl | trivial⟩
            case measure => simp [intOf]; omega
          · have HF : Hid (lastF c (o + 1) a (k + 1) (s.toList.drop (k + 1)) = lastL c s.toList) := by
                have h1 := HN.out
                rw [if_neg (fun h => ec (u8_eq.1 h.2)), hd] at h1
                exact h1
            have ecb : ((s[k].toNat : Int) == (c.toNat : Int)) = false := by simpa using ec
            clear HN ec hd
            have E0 : Hid ((o + 1) = 0) := e0
            clear e0
            go_wp2
            go_roundw
            case rel => exact ⟨k + 1, (o + 1), a, by omega, by go_num, by go_num, by go_num, by omega, by omega, HF, by first | rfl | trivial⟩
            case measure => simp [intOf]; omega
        · have e0b : ((o + 1) == 0) = false := by simpa using e0
          by_cases ec : (s[k].toNat : Int) = (c.toNat : Int)
          · have HF : Hid (lastF c (o + 1) a (k + 1) (s.toList.drop (k + 1)) = lastL c s.toList) := by
                have h1 := HN.out
                rw [if_neg (fun h => by omega), hd] at h1
                exact h1
            have ecb : ((s[k].toNat : Int) == (c.toNat : Int)) = true := by simpa using ec
            clear HN ec hd e0
            go_wp2
            go_roundw
            case rel => exact ⟨k + 1, (o + 1), a, by omega, by go_num, by go_num, by go_num, by omega, by omega, HF, by first | rfl | trivial⟩
            case measure => simp [intOf]; omega
          · have HF : Hid (lastF c (o + 1) a (k + 1) (s.toList.drop (k + 1)) = lastL c s.toList) := by
                have h1 := HN.out
                rw [if_neg (fun h => ec (u8_eq.1 h.2)), hd] at h1
                exact h1
            have ecb : ((s[k].toNat : Int) == (c.toNat : Int)) = false := by simpa using ec
            clear HN ec hd e0
            go_wp2
            go_roundw
            case rel => exact ⟨k + 1, (o + 1), a, by omega, by go_num, by go_num, by go_num, by omega, by omega, HF, by first | rfl | trivial⟩
            case measure => simp [intOf]; omega
      by_cases h41 : (s[k].toNat : Int) = 41
      · have hd : dl s[k] = -1 := dl_41 h41
        have hb0 : ((s[k].toNat : Int) == 40) = false := by simpa using h40
        have hb1 : ((s[k].toNat : Int) == 41) = true := by simp [h41]
        clear h40
        clear h41
        by_cases e0 : (o - 1) = 0
        · have e0b : ((o - 1) == 0) = true := by simpa using e0
          by_cases ec : (s[k].toNat : Int) = (c.toNat : Int)
          · have HF : Hid (lastF c (o - 1) (k : Int) (k + 1) (s.toList.drop (k + 1)) = lastL c s.toList) := by
                have h1 := HN.out
                rw [if_pos ⟨by omega, u8_eq.2 ec⟩, hd] at h1
                exact h1
            have ecb : ((s[k].toNat : Int) == (c.toNat : Int)) = true := by simpa using ec
            clear HN ec hd
            have E0 : Hid ((o - 1) = 0) := e0
            clear e0
            go_wp2
            go_roundw
            case rel => exact ⟨k + 1, (o - 1), (k : Int), by omega, by go_num, by go_num, by go_num, by omega, by omega, HF, by first | rfl | trivial⟩
            case measure => simp [intOf]; omega
          · have HF : Hid (lastF c (o - 1) a (k + 1) (s.toList.drop (k + 1)) = lastL c s.toList) := by
                have h1 := HN.out
                rw [if_neg (fun h => ec (u8_eq.1 h.2)), hd] at h1
                exact h1
            have ecb : ((s[k].toNat : Int) == (c.toNat : Int)) = false := by simpa using ec
            clear HN ec hd
            have E0 : Hid ((o - 1) = 0) := e0
            clear e0
            go_wp2
            go_roundw
            case rel => exact ⟨k + 1, (o - 1), a, by omega, by go_num, by go_num, by go_num, by omega, by omega, HF, by first | rfl | trivial⟩
            case measure => simp [intOf]; omega
        · have e0b : ((o - 1) == 0) = false := by simpa using e0
          by_cases ec : (s[k].toNat : Int) = (c.toNat : Int)
          · have HF : Hid (lastF c (o - 1) a (k + 1) (s.toList.drop (k + 1)) = lastL c s.toList) := by
                have h1 := HN.out
                rw [if_neg (fun h => by omega), hd] at h1
                exact h1
            have ecb : ((s[k].toNat : Int) == (c.toNat : Int)) = true := by simpa using ec
            clear HN ec hd e0
            go_wp2
            go_roundw
            case rel => exact ⟨k + 1, (o - 1), a, by omega, by go_num, by go_num, by go_num, by omega, by omega, HF, by first | rfl | trivial⟩
            case measure => simp [intOf]; omega
          · have HF : Hid (lastF c (o - 1) a (k + 1) (s.toList.drop (k + 1)) = lastL c s.toList) := by
                have h1 := HN.out
                rw [if_neg (fun h => ec (u8_eq.1 h.2)), hd] at h1
                exact h1
            have ecb : ((s[k].toNat : Int) == (c.toNat : Int)) = false := by simpa using ec
            clear HN ec hd e0
            go_wp2
            go_roundw
            case rel => exact ⟨k + 1, (o - 1), a, by omega, by go_num, by go_num, by go_num, by omega, by omega, HF, by first | rfl | trivial⟩
            case measure => simp [intOf]; omega
      · have hd : dl s[k] = 0 := dl_no h40 h41
        have hb0 : ((s[k].toNat : Int) == 40) = false := by simpa using h40
        have hb1 : ((s[k].toNat : Int) == 41) = false := by simpa using h41
        clear h40
        clear h41
        by_cases e0 : o = 0
        · have e0b : (o == 0) = true := by simpa using e0
          by_cases ec : (s[k].toNat : Int) = (c.toNat : Int)
          · have HF : Hid (lastF c o (k : Int) (k + 1) (s.toList.drop (k + 1)) = lastL c s.toList) := by
                have h1 := HN.out
                rw [if_pos ⟨by omega, u8_eq.2 ec⟩, hd, Int.add_zero] at h1
                exact h1
            have ecb : ((s[k].toNat : Int) == (c.toNat : Int)) = true := by simpa using ec
            clear HN ec hd
            have E0 : Hid (o = 0) := e0
            clear e0
            go_wp2
            go_roundw
            case rel => exact ⟨k + 1, o, (k : Int), by omega, by go_num, by go_num, by go_num, by omega, by omega, HF, by first | rfl | trivial⟩
            case measure => simp [intOf]; omega
          · have HF : Hid (lastF c o a (k + 1) (s.toList.drop (k + 1)) = lastL c s.toList) := by
                have h1 := HN.out
                rw [if_neg (fun h => ec (u8_eq.1 h.2)), hd, Int.add_zero] at h1
                exact h1
            have ecb : ((s[k].toNat : Int) == (c.toNat : Int)) = false := by simpa using ec
            clear HN ec hd
            have E0 : Hid (o = 0) := e0
            clear e0
            go_wp2
            go_roundw
            case rel => exact ⟨k + 1, o, a, by omega, by go_num, by go_num, by go_num, by omega, by omega, HF, by first | rfl | trivial⟩
            case measure => simp [intOf]; omega
        · have e0b : (o == 0) = false := by simpa using e0
          by_cases ec : (s[k].toNat : Int) = (c.toNat : Int)
          · have HF : Hid (lastF c o a (k + 1) (s.toList.drop (k + 1)) = lastL c s.toList) := by
                have h1 := HN.out
                rw [if_neg (fun h => by omega), hd, Int.add_zero] at h1
                exact h1
            have ecb : ((s[k].toNat : Int) == (c.toNat : Int)) = true := by simpa using ec
            clear HN ec hd e0
            go_wp2
            go_roundw
            case rel => exact ⟨k + 1, o, a, by omega, by go_num, by go_num, by go_num, by omega, by omega, HF, by first | rfl | trivial⟩
            case measure => simp [intOf]; omega
          · have HF : Hid (lastF c o a (k + 1) (s.toList.drop (k + 1)) = lastL c s.toList) := by
                have h1 := HN.out
                rw [if_neg (fun h => ec (u8_eq.1 h.2)), hd, Int.add_zero] at h1
                exact h1
            have ecb : ((s[k].toNat : Int) == (c.toNat : Int)) = false := by simpa using ec
            clear HN ec hd e0
            go_wp2
            go_roundw
            case rel => exact ⟨k + 1, o, a, by omega, by go_num, by go_num, by go_num, by omega, by omega, HF, by first | rfl | trivial⟩
            case measure => simp [intOf]; omega
    · have hk' : k = s.size := by omega
      subst hk'
      have HE : Hid (a = lastL c s.toList) := by
        have := hL.out
        rw [← toList_length, List.drop_length] at this
        exact this
      clear hL
      go_wp2
      go_ret
      exact ⟨congrArg (fun z => Ending.returned (.int .i64 z)) HE.out, rfl⟩

set_option maxHeartbeats 4000000 in
theorem rWhole_any (s : ByteArray) (hs : s.size ≤ 1000) (w : World) :
    Calls Tryz.prog 70 #[.string s] w fun e w' => e = .returned (.bool (wholeL s.toList)) ∧ w' = w := by
  go_enter Tryz.func70, Tryz.ntmps70
  go_wp2
  go_loopw [3, 4] (fun ov iv wr => ∃ (k : Nat) (o : Int), k ≤ s.size ∧ ov = .int .i64 o ∧ iv = .int .i64 k ∧ -(k : Int) ≤ o ∧ o ≤ k ∧ Hid (whl o (s.toList.drop k) = whl 0 s.toList) ∧ wr = w) (fun _ iv _ => s.size - (intOf iv).toNat)
  case atStart => exact ⟨0, 0, Nat.zero_le _, rfl, rfl, by omega, by omega, by show _ = _; rfl, rfl⟩
  case round =>
    obtain ⟨k, o, hk, rfl, rfl, ho1, ho2, hL, rfl⟩ := hrel
    by_cases hlt : k < s.size
    · have HN : Hid ((if o + dl s[k] ≤ 0 ∧ s.toList.drop (k + 1) ≠ [] then false else whl (o + dl s[k]) (s.toList.drop (k + 1))) = whl 0 s.toList) := by
        have := hL.out
        rw [drop_at s hlt] at this
        exact this
      have HR : Hid (s.toList.drop (k + 1) ≠ [] ↔ (k : Int) < (s.size : Int) - 1) := by
        show _ ↔ _
        rw [ne_eq, List.drop_eq_nil_iff, toList_length]
        omega
      clear hL
      by_cases h40 : (s[k].toNat : Int) = 40
      · have hd : dl s[k] = 1 := dl_40 h40
        have hb0 : ((s[k].toNat : Int) == 40) = true := by simp [h40]
        have hb1 : ((s[k].toNat : Int) == 41) = false := by simp [h40]
        clear h40
        by_cases e0 : (o + 1) ≤ 0
        · by_cases er : (k : Int) < (s.size : Int) - 1
          · have HF : Hid (whl 0 s.toList = false) := by
                have h1 := HN.out
                rw [hd, if_pos ⟨by omega, HR.out.2 er⟩] at h1
                exact h1.symm
            clear HN HR hd
            go_wp2
            go_ret
            exact ⟨by rw [wholeL, HF.out]; rfl, rfl⟩
          · have HF : Hid (whl (o + 1) (s.toList.drop (k + 1)) = whl 0 s.toList) := by
                have h1 := HN.out
                rw [hd, if_neg (fun h => er (HR.out.1 h.2))] at h1
                exact h1
            clear HN HR hd
            go_wp2
            go_roundw
            case rel => exact ⟨k + 1, (o + 1), by omega, by go_num, by go_num, by omega, by omega, HF, by first | rfl | trivial⟩
            case measure => simp [intOf]; omega
        · by_cases er : (k : Int) < (s.size : Int) - 1
          · have HF : Hid (whl (o + 1) (s.toList.drop (k + 1)) = whl 0 s.toList) := by
                have h1 := HN.out
                rw [hd, if_neg (fun h => by omega)] at h1
                exact h1
            clear HN HR hd
            go_wp2
            go_roundw
            case rel => exact ⟨k + 1, (o + 1), by omega, by go_num, by go_num, by omega, by omega, HF, by first | rfl | trivial⟩
            case measure => simp [intOf]; omega
          · have HF : Hid (whl (o + 1) (s.toList.drop (k + 1)) = whl 0 s.toList) := by
                have h1 := HN.out
                rw [hd, if_neg (fun h => by omega)] at h1
                exact h1
            clear HN HR hd
            go_wp2
            go_roundw
            case rel => exact ⟨k + 1, (o + 1), by omega, by go_num, by go_num, by omega, by omega, HF, by first | rfl | trivial⟩
            case measure => simp [intOf]; omega
      by_cases h41 : (s[k].toNat : Int) = 41
      · have hd : dl s[k] = -1 := dl_41 h41
        have hb0 : ((s[k].toNat : Int) == 40) = false := by simpa using h40
        have hb1 : ((s[k].toNat : Int) == 41) = true := by simp [h41]
        clear h40
        clear h41
        by_cases e0 : (o - 1) ≤ 0
        · by_cases er : (k : Int) < (s.size : Int) - 1
          · have HF : Hid (whl 0 s.toList = false) := by
                have h1 := HN.out
                rw [hd, if_pos ⟨by omega, HR.out.2 er⟩] at h1
                exact h1.symm
            clear HN HR hd
            go_wp2
            go_ret
            exact ⟨by rw [wholeL, HF.out]; rfl, rfl⟩
          · have HF : Hid (whl (o - 1) (s.toList.drop (k + 1)) = whl 0 s.toList) := by
                have h1 := HN.out
                rw [hd, if_neg (fun h => er (HR.out.1 h.2))] at h1
                exact h1
            clear HN HR hd
            go_wp2
            go_roundw
            case rel => exact ⟨k + 1, (o - 1), by omega, by go_num, by go_num, by omega, by omega, HF, by first | rfl | trivial⟩
            case measure => simp [intOf]; omega
        · by_cases er : (k : Int) < (s.size : Int) - 1
          · have HF : Hid (whl (o - 1) (s.toList.drop (k + 1)) = whl 0 s.toList) := by
                have h1 := HN.out
                rw [hd, if_neg (fun h => by omega)] at h1
                exact h1
            clear HN HR hd
            go_wp2
            go_roundw
            case rel => exact ⟨k + 1, (o - 1), by omega, by go_num, by go_num, by omega, by omega, HF, by first | rfl | trivial⟩
            case measure => simp [intOf]; omega
          · have HF : Hid (whl (o - 1) (s.toList.drop (k + 1)) = whl 0 s.toList) := by
                have h1 := HN.out
                rw [hd, if_neg (fun h => by omega)] at h1
                exact h1
            clear HN HR hd
            go_wp2
            go_roundw
            case rel => exact ⟨k + 1, (o - 1), by omega, by go_num, by go_num, by omega, by omega, HF, by first | rfl | trivial⟩
            case measure => simp [intOf]; omega
      · have hd : dl s[k] = 0 := dl_no h40 h41
        have hb0 : ((s[k].toNat : Int) == 40) = false := by simpa using h40
        have hb1 : ((s[k].toNat : Int) == 41) = false := by simpa using h41
        clear h40
        clear h41
        by_cases e0 : o ≤ 0
        · by_cases er : (k : Int) < (s.size : Int) - 1
          · have HF : Hid (whl 0 s.toList = false) := by
                have h1 := HN.out
                rw [hd, if_pos ⟨by omega, HR.out.2 er⟩] at h1
                exact h1.symm
            clear HN HR hd
            go_wp2
            go_ret
            exact ⟨by rw [wholeL, HF.out]; rfl, rfl⟩
          · have HF : Hid (whl o (s.toList.drop (k + 1)) = whl 0 s.toList) := by
                have h1 := HN.out
                rw [hd, if_neg (fun h => er (HR.out.1 h.2)), Int.add_zero] at h1
                exact h1
            clear HN HR hd
            go_wp2
            go_roundw
            case rel => exact ⟨k + 1, o, by omega, by go_num, by go_num, by omega, by omega, HF, by first | rfl | trivial⟩
            case measure => simp [intOf]; omega
        · by_cases er : (k : Int) < (s.size : Int) - 1
          · have HF : Hid (whl o (s.toList.drop (k + 1)) = whl 0 s.toList) := by
                have h1 := HN.out
                rw [hd, if_neg (fun h => by omega), Int.add_zero] at h1
                exact h1
            clear HN HR hd
            go_wp2
            go_roundw
            case rel => exact ⟨k + 1, o, by omega, by go_num, by go_num, by omega, by omega, HF, by first | rfl | trivial⟩
            case measure => simp [intOf]; omega
          · have HF : Hid (whl o (s.toList.drop (k + 1)) = whl 0 s.toList) := by
                have h1 := HN.out
                rw [hd, if_neg (fun h => by omega), Int.add_zero] at h1
                exact h1
            clear HN HR hd
            go_wp2
            go_roundw
            case rel => exact ⟨k + 1, o, by omega, by go_num, by go_num, by omega, by omega, HF, by first | rfl | trivial⟩
            case measure => simp [intOf]; omega
    · have hk' : k = s.size := by omega
      subst hk'
      have HE : Hid (decide (o = 0) = whl 0 s.toList) := by
        have := hL.out
        rw [← toList_length, List.drop_length] at this
        exact this
      clear hL
      have HW : Hid (wholeL s.toList = (decide (o = 0) && decide (2 ≤ s.size))) := by
        show _ = _
        rw [HE.out, wholeL, toList_length]
      by_cases h0 : o = 0
      · subst h0
        by_cases h2 : (2 : Int) ≤ (s.size : Int)
        · go_wp2
          go_ret
          exact ⟨by rw [HW.out]; simp; omega, rfl⟩
        · go_wp2
          go_ret
          exact ⟨by rw [HW.out]; simp; omega, rfl⟩
      · have h0' : (o == 0) = false := by simpa using h0
        go_wp2
        go_ret
        exact ⟨by rw [HW.out]; simp [h0], rfl⟩

end Go.Proofs.YtiacnmcdfpmcfaaGreatDoor

namespace Go.Proofs.YtiacnmcdfpmcfaaGreatDoor
open Go.RowKit
attribute [local go_sem] cell?_more frozen?_more setCell_more size_more tape_more drew_more drewN_more more_drew more_drewN one_out plus_out plus_end lt_one le_p2 le_p3 le_p4 le_p5 le_p6 le_p7 le_p8 le_p9 le_p10 le_p11 le_p12 le_p13 le_p14 le_p15 le_p16 le_p17 le_p18 le_p19 le_p20 le_p21 le_p22 le_p23 le_p24 le_q0 le_q1 lt_q1 le_q2 lt_q2 le_q3 lt_q3 le_q4 lt_q4 le_q5 lt_q5 le_q6 lt_q6 le_q7 lt_q7 le_q8 lt_q8 le_q9 lt_q9 le_q10 lt_q10 le_q11 lt_q11 le_q12 lt_q12 le_q13 lt_q13 le_q14 lt_q14 le_q15 lt_q15 le_q16 lt_q16 le_q17 lt_q17 le_q18 lt_q18 le_q19 lt_q19 le_q20 lt_q20 le_q21 lt_q21 le_q22 lt_q22 le_q23 lt_q23 le_q24 lt_q24


theorem dig_cut {n : Nat} (h : n < 10) : (⟨#[48, 49, 50, 51, 52, 53, 54, 55, 56, 57]⟩ : ByteArray).extract n (n + 1) = toB [UInt8.ofNat (48 + n)] := by
  have : n = 0 ∨ n = 1 ∨ n = 2 ∨ n = 3 ∨ n = 4 ∨ n = 5 ∨ n = 6 ∨ n = 7 ∨ n = 8 ∨ n = 9 := by omega
  rcases this with rfl | rfl | rfl | rfl | rfl | rfl | rfl | rfl | rfl | rfl <;> rfl

theorem toB_app (a b : List UInt8) : toB a ++ toB b = toB (a ++ b) := toList_inj (by rw [ByteArray.toList_eq, ByteArray.toList_eq, ByteArray.data_append]; simp [toB])

set_option maxHeartbeats 2000000 in
theorem rDigits_one {n : Nat} (h : n < 10) (w : World) : Calls Tryz.prog 73 #[.int .i64 (n : Int)] w fun e w' => e = .returned (.string (toB (digL n))) ∧ Adds w w' := by
  have hc := dig_cut h
  have h' : (n : Int) < 10 := by omega
  rw [digL_one h]
  generalize toB [UInt8.ofNat (48 + n)] = r at *
  go_enter Tryz.func73, Tryz.ntmps73
  go_wp2
  go_ret
  exact ⟨by rw [← hc]; rfl, by repeat (first | with_reducible exact Adds.refl _ | with_reducible refine Adds.alloc ?_ _ | with_reducible refine Adds.more ?_ _ _ | with_reducible refine Adds.drew ?_ | with_reducible refine Adds.drewN ?_ _)⟩

set_option maxHeartbeats 2000000 in
set_option maxRecDepth 20000 in
theorem rDigits_any : ∀ (k n : Nat), n < 10 ^ (k + 1) → k ≤ 16 → ∀ w, Calls Tryz.prog 73 #[.int .i64 (n : Int)] w fun e w' => e = .returned (.string (toB (digL n))) ∧ Adds w w' := by
  intro k
  induction k with
  | zero => intro n hn _ w; exact rDigits_one (by simpa using hn) w
  | succ k ih =>
    intro n hn hk w
    by_cases h : n < 10
    · exact rDigits_one h w
    · have kA := ih (n / 10) (by rw [Nat.pow_succ] at hn; omega) (by omega)
      have kB := fun W => rDigits_one (n := n % 10) (Nat.mod_lt _ (by decide)) W
      rw [digL_one (Nat.mod_lt _ (by decide))] at kB
      rw [digL_more h, ← toB_app]
      have h' : ¬ (n : Int) < 10 := by omega
      have hb : (n : Int) < 9223372036854775807 := by
        have h1 : 10 ^ (k + 1 + 1) ≤ 10 ^ 17 := Nat.pow_le_pow_right (by decide) (by omega)
        have h2 : (10 : Nat) ^ 17 = 100000000000000000 := by decide
        omega
      rw [show ((n / 10 : Nat) : Int) = (n : Int) / 10 by omega] at kA
      rw [show ((n % 10 : Nat) : Int) = (n : Int) % 10 by omega] at kB
      have hsum : ¬ 9223372036854775807 < (toB (digL (n / 10))).size + (toB [UInt8.ofNat (48 + n % 10)]).size := by
        rw [toB_size, toB_size]
        have h1 := digL_len (k + 1) (n / 10) (by rw [Nat.pow_succ] at hn; omega)
        simp only [List.length_cons, List.length_nil]
        omega
      generalize toB (digL (n / 10)) = r1 at *
      generalize toB [UInt8.ofNat (48 + n % 10)] = r2 at *
      clear hn ih
      go_enter Tryz.func73, Tryz.ntmps73
      go_wp2_with fail
      refine (kA _).mono ?_
      rintro e w1 ⟨rfl, os1, n1, rfl⟩
      clear kA hb
      go_wp2_with fail
      refine (kB _).mono ?_
      rintro e w2 ⟨rfl, os2, n2, rfl⟩
      clear kB
      go_wp2
      go_ret
      exact ⟨rfl, by repeat (first | with_reducible exact Adds.refl _ | with_reducible refine Adds.alloc ?_ _ | with_reducible refine Adds.more ?_ _ _ | with_reducible refine Adds.drew ?_ | with_reducible refine Adds.drewN ?_ _)⟩

end Go.Proofs.YtiacnmcdfpmcfaaGreatDoor
