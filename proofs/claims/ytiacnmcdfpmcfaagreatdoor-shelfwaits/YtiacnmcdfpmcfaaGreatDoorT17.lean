/-
  A row of bytes that a call owns, said of its cells alone (its last cell may bear a mark behind it): what append does to it.
  The document's own number, text and One, by contracts: the bytes that they make.
  The document's own Key, by a contract.
-/
import Derived.Test.YtiacnmcdfpmcfaaGreatDoorT16
import Derived.ArgAppend
import Derived.Laws.IdiomCopy
import Derived.Deep.Upon
import Derived.Lib.ConvBytes
import Derived.Deep.RegionLaw
import Derived.Test.YtiacnmcdfpmcfaaGreatDoorT13
namespace Go.Proofs.YtiacnmcdfpmcfaaGreatDoor.Rk
open Go.RowKit
attribute [local go_sem] cell?_more frozen?_more setCell_more size_more tape_more drew_more drewN_more more_drew more_drewN one_out plus_out plus_end lt_one le_p2 le_p3 le_p4 le_p5 le_p6 le_p7 le_p8 le_p9 le_p10 le_p11 le_p12 le_p13 le_p14 le_p15 le_p16 le_p17 le_p18 le_p19 le_p20 le_p21 le_p22 le_p23 le_p24 le_q0 le_q1 lt_q1 le_q2 lt_q2 le_q3 lt_q3 le_q4 lt_q4 le_q5 lt_q5 le_q6 lt_q6 le_q7 lt_q7 le_q8 lt_q8 le_q9 lt_q9 le_q10 lt_q10 le_q11 lt_q11 le_q12 lt_q12 le_q13 lt_q13 le_q14 lt_q14 le_q15 lt_q15 le_q16 lt_q16 le_q17 lt_q17 le_q18 lt_q18 le_q19 lt_q19 le_q20 lt_q20 le_q21 lt_q21 le_q22 lt_q22 le_q23 lt_q23 le_q24 lt_q24

theorem mv_refl (w : World) (row : Option Nat) : w.grownBy w row := ⟨rfl, rfl, rfl, Nat.le_refl _, fun _ _ _ => rfl⟩
theorem mv_below {a b : World} (h : Below a.heap.size a b) (row : Option Nat) : a.grownBy b row := ⟨h.os, h.tape, h.output, h.size, fun k hk _ => h.block k hk⟩
theorem size_setCell (w : World) (p : Addr) (u : Value) : (w.setCell p u).heap.size = w.heap.size := by
  simp
theorem mv_set {a w : World} {row : Option Nat} (h : a.grownBy w row) {p : Addr} (hp : a.heap.size ≤ p.block ∨ some p.block = row) (u : Value) : a.grownBy (w.setCell p u) row := by
  refine ⟨h.os, h.tape, h.output, by rw [size_setCell]; exact h.size, fun k hk hr => ?_⟩
  rw [Below.heap_setCell w p u k ?_]
  · exact h.block k hk hr
  · intro e
    subst e
    rcases hp with hp | hp
    · omega
    · exact hr hp
theorem cells_frozen5 {w : World} {k : Nat} {a b c d e : Value} {t : TypeId} (h : w.heap[k]? = some (Obj.cells #[a, b, c, d, e] t (0, 0))) :
    (w.cell? ⟨k, 0, none⟩ = some a ∧ w.cell? ⟨k, 1, none⟩ = some b ∧ w.cell? ⟨k, 2, none⟩ = some c ∧ w.cell? ⟨k, 3, none⟩ = some d ∧ w.cell? ⟨k, 4, none⟩ = some e) ∧
    (w.frozen? ⟨k, 0, none⟩ = false ∧ w.frozen? ⟨k, 1, none⟩ = false ∧ w.frozen? ⟨k, 2, none⟩ = false ∧ w.frozen? ⟨k, 3, none⟩ = false ∧ w.frozen? ⟨k, 4, none⟩ = false) := by
  simp [World.cell?, World.frozen?, h]
theorem block_at (w : World) (o : Obj) : (w.alloc o).heap[w.heap.size]? = some o := by
  show (w.heap.push o)[w.heap.size]? = _
  simp
theorem block_old {w : World} {k : Nat} {o' : Obj} (h : w.heap[k]? = some o') (o : Obj) : (w.alloc o).heap[k]? = some o' := by
  have hlt : k < w.heap.size := by
    by_cases hlt : k < w.heap.size
    · exact hlt
    · rw [Array.getElem?_eq_none (by omega)] at h
      cases h
  rw [Below.heap_alloc w o k hlt]
  exact h
theorem later_block {w w' : World} {k : Nat} {o' : Obj} (h : w.heap[k]? = some o') (hb : Below w.heap.size w w') : w'.heap[k]? = some o' := by
  have hlt : k < w.heap.size := by
    by_cases hlt : k < w.heap.size
    · exact hlt
    · rw [Array.getElem?_eq_none (by omega)] at h
      cases h
  rw [hb.block k hlt]
  exact h

/-- The slice v has the bytes l, in a block from B on that the call owns, or it is nil; what lies between its length and its capacity may be written. -/
def Own (B : Nat) (v : Value) (l : List UInt8) (w : World) : Prop :=
  (v = .slice none 0 0 ∧ l = []) ∨
  ∃ g cap, v = .slice (some ⟨g, 0, none⟩) l.length cap ∧ B ≤ g ∧ g < w.heap.size ∧ l.length ≤ cap ∧ cap ≤ maxLen ∧
    (∀ j u, (cellsB l)[j]? = some u → w.cell? ⟨g, j, none⟩ = some u) ∧ (∀ j, l.length ≤ j → j < cap → (w.cell? ⟨g, j, none⟩).isSome = true ∧ w.frozen? ⟨g, j, none⟩ = false)

theorem cells_length (l : List UInt8) : (cellsB l).length = l.length := by simp [cellsB]
theorem cells_append (l t : List UInt8) : cellsB (l ++ t) = cellsB l ++ cellsB t := by simp [cellsB]
theorem cells_one (l : List UInt8) : ∀ u ∈ cellsB l, u.oneCell' = true := by
  intro u hu
  simp only [cellsB, List.mem_map] at hu
  obtain ⟨b, _, rfl⟩ := hu
  rfl

theorem own_of_row {w : World} {B B' : Nat} {v : Value} {l : List UInt8} (h : w.ownsRow B' 5 1 v l.length (cellsB l)) (hB : B ≤ B') : Own B v l w := by
  rcases h.2 with ⟨rfl, hn⟩ | ⟨g, cap, cur, rfl, hb, hg, hnc, hcm, hcs, htk⟩
  · exact .inl ⟨rfl, List.eq_nil_of_length_eq_zero hn⟩
  · refine .inr ⟨g, cap, rfl, Nat.le_trans hB hb, ?_, hnc, hcm, ?_, ?_⟩
    · by_cases hlt : g < w.heap.size
      · exact hlt
      · rw [Array.getElem?_eq_none (by omega)] at hg
        cases hg
    · intro j u hu
      have := h.cells (g := g) rfl j u hu
      rwa [Addr.add_lit, Nat.zero_add] at this
    · intro j hj hjc
      have hjs : j < cur.size := by omega
      simp [World.cell?, World.frozen?, hg, hjs]

theorem own_lt {w : World} {B : Nat} {v : Value} {l : List UInt8} (h : Own B v l w) : ∀ k, v.ownBlock = some k → B ≤ k ∧ k < w.heap.size := by
  intro k hk
  rcases h with ⟨rfl, _⟩ | ⟨g, cap, rfl, hb, hlt, _⟩
  · cases hk
  · simp [Value.ownBlock] at hk
    omega

theorem Own.kept {w w' : World} {B : Nat} {v : Value} {l : List UInt8} {row : Option Nat} (h : Own B v l w) (hg : w.grownBy w' row) (hne : v.ownBlock = none ∨ v.ownBlock ≠ row) : Own B v l w' := by
  rcases h with ⟨rfl, rfl⟩ | ⟨g, cap, rfl, hb, hlt, hnc, hcm, hc, hs⟩
  · exact .inl ⟨rfl, rfl⟩
  · have hblk : w'.heap[g]? = w.heap[g]? := by
      apply hg.block g hlt
      rcases hne with hne | hne
      · cases hne
      · exact hne
    refine .inr ⟨g, cap, rfl, hb, Nat.lt_of_lt_of_le hlt hg.size, hnc, hcm, fun j u hu => ?_, fun j hj hjc => ?_⟩
    · rw [World.cell?_of_block (w := w) hblk]; exact hc j u hu
    · rw [World.cell?_of_block (w := w) hblk, World.frozen?_of_block (w := w) hblk]; exact hs j hj hjc

theorem Own.below {w w' : World} {B : Nat} {v : Value} {l : List UInt8} (h : Own B v l w) (hb : Below w.heap.size w w') : Own B v l w' := by
  refine h.kept (mv_below hb none) ?_
  cases v.ownBlock with
  | none => exact .inl rfl
  | some k => exact .inr (by simp)

theorem size_setCells (g : Nat) : ∀ (vs : List Value) (o : Nat) (w : World), (w.setCells g o vs).heap.size = w.heap.size
  | [], _, _ => rfl
  | v :: r, o, w => by
    show ((w.setCell ⟨g, o, none⟩ v).setCells g (o + 1) r).heap.size = _
    rw [size_setCells g r (o + 1), size_setCell]
theorem mv_setCells {a : World} (g : Nat) : ∀ (vs : List Value) (o : Nat) (w : World), a.grownBy w (some g) → a.grownBy (w.setCells g o vs) (some g)
  | [], _, _, h => h
  | v :: r, o, w, h => mv_setCells g r (o + 1) (w.setCell ⟨g, o, none⟩ v) (mv_set h (p := ⟨g, o, none⟩) (.inr rfl) v)

/-- append to such a row, of bytes that lie somewhere. -/
theorem own_append (w : World) (B : Nat) (ty : TypeId) (v : Value) (l : List UInt8) (h : Own B v l w) (ad : Addr) (c : Nat) (t : List UInt8) (hnews : ∀ j u, (cellsB t)[j]? = some u → w.cell? (ad.add j) = some u) (hlen : l.length + t.length ≤ 140737488355328) (hB : B ≤ w.heap.size) :
    ∃ v' w', (Builtin.append_ #[120, 120] ty #[v, .slice (some ad) t.length c]).run Tryz.prog w = .ok v' w' ∧ Own B v' (l ++ t) w' ∧ w.grownBy w' v.ownBlock := by
  obtain ⟨i0, hi, hz0, hz1, hz2⟩ := info_parts Tryz.infoB5
  rcases h with ⟨rfl, rfl⟩ | ⟨g, cap, rfl, hb, hlt, hnc, hcm, hc, hs⟩
  · obtain ⟨v', w', h1, h2, h3, _⟩ := run_append_own (P := Tryz.prog) w B 120 ty 5 i0 (.int .u8 0) 1 1 Tryz.underlying120 hi hz0 hz1 hz2 rfl (by decide) (.slice none 0 0) 0 [] (World.ownsRow_nil w _ _ _) ad t.length c (cellsB t) (by rw [cells_length, Nat.mul_one]) hnews (cells_one t) (by unfold maxLen; simp at hlen; omega) (by simp at hlen; omega) hB
    refine ⟨v', w', h1, own_of_row (B' := B) (by simpa using h2) (Nat.le_refl _), h3⟩
  · by_cases hr : l.length + t.length ≤ cap
    · have hrun := run_append_room_cells (P := Tryz.prog) w 120 ty 5 i0 Tryz.underlying120 hi g 0 l.length cap ad t.length c (cellsB t) (by rw [cells_length, hz1, Nat.mul_one]) hnews (cells_one t) hr
        (fun j hj => by rw [hz1, Nat.mul_one, Nat.zero_add]; rw [cells_length] at hj; exact (hs (l.length + j) (by omega) (by omega)).1)
        (fun j hj => by rw [hz1, Nat.mul_one, Nat.zero_add]; rw [cells_length] at hj; exact (hs (l.length + j) (by omega) (by omega)).2)
      rw [hz1, Nat.mul_one, Nat.zero_add] at hrun
      refine ⟨_, _, hrun, .inr ⟨g, cap, by simp, hb, ?_, by simpa using hr, hcm, ?_, ?_⟩, ?_⟩
      · rw [size_setCells]; exact hlt
      · intro j u hu
        rw [cells_append, List.getElem?_append] at hu
        split at hu
        · rename_i hj
          rw [cells_length] at hj
          rw [World.cell?_setCells_out g _ _ _ _ (fun _ _ => .inl hj)]
          exact hc j u hu
        · rename_i hj
          rw [cells_length] at hj hu
          have hjt : j - l.length < (cellsB t).length := by
            by_cases h' : j - l.length < (cellsB t).length
            · exact h'
            · rw [List.getElem?_eq_none (by omega)] at hu; cases hu
          have := World.cell?_setCells_in g (cellsB t) l.length w (fun j hj => (hs (l.length + j) (by omega) (by rw [cells_length] at hj; omega)).1) (j - l.length) hjt
          rw [show l.length + (j - l.length) = j from by omega] at this
          rw [this]
          rw [List.getElem?_eq_getElem hjt] at hu
          simpa using hu
      · intro j hj hjc
        rw [List.length_append] at hj
        rw [World.cell?_setCells_out g _ _ _ _ (fun _ _ => .inr (by rw [cells_length]; exact hj)), World.frozen?_setCells]
        exact hs j (by omega) hjc
      · exact mv_setCells g _ _ _ (mv_refl _ _)
    · obtain ⟨v', w', h1, h2, h3⟩ := run_append_arg_grows (P := Tryz.prog) w 120 ty 5 i0 (.int .u8 0) 1 1 Tryz.underlying120 hi hz0 hz1 hz2 rfl (by decide) ⟨g, 0, none⟩ l.length cap (cellsB l) (by rw [cells_length, Nat.mul_one]) (fun j u hj => by rw [Addr.add_lit, Nat.zero_add]; exact hc j u hj) ad t.length c (cellsB t) (by rw [cells_length, Nat.mul_one]) hnews (by omega) (by unfold maxLen; omega) (by omega)
      refine ⟨v', w', h1, own_of_row (by rw [cells_append, List.length_append]; exact h2) hB, ⟨h3.os, h3.tape, h3.output, h3.size, fun k hk _ => h3.block k hk (by simp)⟩⟩

theorem own_wp {o : Oper} {a : Act} {w : World} {K : Act → World → Prop} {Q : Exit → Act → World → Prop} (s x : Operand) (ho : o.op = .call { callee := .builtin .append, args := #[s, x], argTypes := #[120, 120] })
    {B : Nat} {v : Value} {l : List UInt8} (h : Own B v l w) (hs : a.eval s = v) {ad : Addr} {m c : Nat} (t : List UInt8) (hx : a.eval x = .slice (some ad) m c) (hm : m = t.length) (hnews : ∀ j u, (cellsB t)[j]? = some u → w.cell? (ad.add j) = some u)
    (hlen : l.length + t.length ≤ 140737488355328) (hB : B ≤ w.heap.size) (hk : ∀ v' w', Own B v' (l ++ t) w' → w.grownBy w' v.ownBlock → K (a.put o.dst v') w') : o.wp Tryz.prog a w K Q := by
  subst hm
  obtain ⟨v', w', hr, h2, h3⟩ := own_append w B o.type v l h ad c t hnews hlen hB
  unfold Oper.wp execOp
  simp only [ho, resolve, invoke, builtin, Sem.run_bind, Sem.run_pure, Result.andThen_ok, List.map_toArray, List.map_cons, List.map_nil, hs, hx, hr]
  exact hk v' w' h2 h3

theorem own_list {ops : Array Oper} {rest : List Oper} {o : Oper} {a : Act} {w : World} {Q : Exit → Act → World → Prop} (hgd : o.guard = none) (s x : Operand) (ho : o.op = .call { callee := .builtin .append, args := #[s, x], argTypes := #[120, 120] })
    {B : Nat} {v : Value} {l : List UInt8} (h : Own B v l w) (hs : a.eval s = v) {ad : Addr} {m c : Nat} (t : List UInt8) (hx : a.eval x = .slice (some ad) m c) (hm : m = t.length) (hnews : ∀ j u, (cellsB t)[j]? = some u → w.cell? (ad.add j) = some u)
    (hlen : l.length + t.length ≤ 140737488355328) (hB : B ≤ w.heap.size) (hk : ∀ v' w', Own B v' (l ++ t) w' → w.grownBy w' v.ownBlock → wpList Tryz.prog ops Q rest (a.put o.dst v') w') : wpList Tryz.prog ops Q (o :: rest) a w :=
  wpList_plain hgd fun _ hK => own_wp s x ho h hs t hx hm hnews hlen hB fun v' w' h1 h2 => hK _ _ (hk v' w' h1 h2)

theorem own_step {ops : Array Oper} {o : Oper} {a : Act} {w : World} {K : Act → World → Prop} {Q : Exit → Act → World → Prop} {E : Prop} (hg : o.guard = none) (s x : Operand) (ho : o.op = .call { callee := .builtin .append, args := #[s, x], argTypes := #[120, 120] })
    {B : Nat} {v : Value} {l : List UInt8} (h : Own B v l w) (hs : a.eval s = v) {ad : Addr} {m c : Nat} (t : List UInt8) (hx : a.eval x = .slice (some ad) m c) (hm : m = t.length) (hnews : ∀ j u, (cellsB t)[j]? = some u → w.cell? (ad.add j) = some u)
    (hlen : l.length + t.length ≤ 140737488355328) (hB : B ≤ w.heap.size) (hk : ∀ v' w', Own B v' (l ++ t) w' → w.grownBy w' v.ownBlock → K (a.put o.dst v') w') : if Region.wanted o (yielded ops a.tmps) = true then Oper.wp Tryz.prog o a w K Q else E := by
  have hw : Region.wanted o (yielded ops a.tmps) = true := by simp [Region.wanted, hg]
  rw [if_pos hw]
  exact own_wp s x ho h hs t hx hm hnews hlen hB hk

/-- One byte in a block of its own. -/
theorem byte_at (w : World) (b : UInt8) (c : Int) (hc : c = b.toNat) : ∀ j u, (cellsB [b])[j]? = some u → (w.alloc (.cells #[.int .u8 c] 5)).cell? ((⟨w.heap.size, 0, none⟩ : Addr).add j) = some u := by
  intro j u hj
  subst hc
  match j, hj with
  | 0, hj => simp [cellsB] at hj; subst hj; simp [Addr.add]
  | (j + 1), hj => simp [cellsB] at hj

/-- A row that is not empty, as what is appended. -/
theorem Own.src {w : World} {B : Nat} {v : Value} {t : List UInt8} (h : Own B v t w) (ht : t ≠ []) : ∃ g cap, v = .slice (some ⟨g, 0, none⟩) t.length cap ∧ ∀ j u, (cellsB t)[j]? = some u → w.cell? ((⟨g, 0, none⟩ : Addr).add j) = some u := by
  rcases h with ⟨_, h⟩ | ⟨g, cap, rfl, _, _, _, _, hc, _⟩
  · exact absurd h ht
  · exact ⟨g, cap, rfl, fun j u hu => by rw [Addr.add_lit, Nat.zero_add]; exact hc j u hu⟩

theorem grownCap_le9 (w : World) (n : Nat) (hn : n ≤ 1000000) : grownCap w n 0 5 ≤ maxLen := grownCap_le_maxLen w n 0 5 (by unfold maxLen; omega)

/-- The row that a conversion of a text makes. -/
theorem own_conv (w : World) (s : ByteArray) (hs : s.size ≤ 1000000) : Own w.heap.size (.slice (some ⟨w.heap.size, 0, none⟩) s.size (grownCap w s.size 0 5)) s.toList (Lib.bytesWorld w 5 s) := by
  have hge := grownCap_ge w s.size 0 5
  have hnew := Lib.bytesWorld_at_new w 5 s
  have hsz : (Lib.bytesCells w 5 s).size = grownCap w s.size 0 5 := by
    simp only [Lib.bytesCells, Array.size_append, Array.size_map, Array.size_replicate]
    show s.size + _ = _
    omega
  refine .inr ⟨w.heap.size, grownCap w s.size 0 5, by rw [toList_length], Nat.le_refl _, by rw [Lib.bytesWorld_size]; omega, by rw [toList_length]; exact hge, grownCap_le9 w s.size hs, ?_, ?_⟩
  · intro j u hu
    have hj : j < s.size := by
      by_cases h' : j < s.size
      · exact h'
      · rw [List.getElem?_eq_none (by rw [cells_length, toList_length]; omega)] at hu; cases hu
    rw [Lib.bytesWorld_cell w 5 s j hj]
    rw [ByteArray.toList_eq] at hu
    simp only [cellsB, List.getElem?_map, Option.map_eq_some_iff] at hu
    obtain ⟨b, hb, rfl⟩ := hu
    rw [List.getD, hb]
    rfl
  · intro j hj hjc
    have : j < (Lib.bytesCells w 5 s).size := by omega
    constructor
    · simp [World.cell?, hnew, this]
    · simp only [World.frozen?, hnew]
      simp
      omega

theorem below_conv (w : World) (s : ByteArray) : Below w.heap.size w (Lib.bytesWorld w 5 s) :=
  ⟨rfl, rfl, rfl, by rw [Lib.bytesWorld_size]; omega, fun k hk => Lib.bytesWorld_at_old w 5 s k hk⟩

theorem upper_get (u : Nat) : ∀ k j (h : j < (upper u k).length), (upper u k)[j] = byteAt u (7 - j)
  | 0, j, h => by simp [upper] at h
  | k + 1, j, h => by
    simp only [upper]
    rw [upper_length] at h
    by_cases hj : j < k
    · rw [List.getElem_append_left (by rw [upper_length]; exact hj)]
      exact upper_get u k j _
    · have : j = k := by omega
      subst this
      rw [List.getElem_append_right (by rw [upper_length]; exact Nat.le_refl _)]
      simp

/-- The row while it is filled from its end. -/
def filled (u k : Nat) : List Value := List.replicate (8 - k) (.int .u8 0) ++ (cellsB (upper u 8)).drop (8 - k)

theorem filled_zero (u : Nat) : filled u 0 = List.replicate 8 (.int .u8 0) := by
  have : (cellsB (upper u 8)).drop 8 = [] := List.drop_eq_nil_of_le (by rw [cells_length, upper_length]; exact Nat.le_refl _)
  simp [filled, this]
theorem filled_all (u : Nat) : filled u 8 = cellsB (upper u 8) := by simp [filled]
theorem filled_next (u k : Nat) (hk : k < 8) : (filled u k).set (7 - k) (.int .u8 ((byteAt u k).toNat : Int)) = filled u (k + 1) := by
  have hl : (cellsB (upper u 8)).length = 8 := by rw [cells_length, upper_length]
  have hrep : List.replicate (8 - k) (Value.int .u8 0) = List.replicate (7 - k) (.int .u8 0) ++ [.int .u8 0] := by
    rw [show 8 - k = (7 - k) + 1 from by omega, List.replicate_succ']
  unfold filled
  rw [hrep, List.append_assoc, List.set_append_right _ _ (by simp)]
  simp only [List.length_replicate, Nat.sub_self, List.cons_append, List.nil_append, List.set_cons_zero]
  rw [show 8 - (k + 1) = 7 - k from by omega]
  congr 1
  rw [List.drop_eq_getElem_cons (i := 7 - k) (by omega), show 7 - k + 1 = 8 - k from by omega]
  congr 1
  simp only [cellsB, List.getElem_map, upper_get]
  rw [show 7 - (7 - k) = k from by omega]

theorem div_pow (u k : Nat) : u / 2 ^ (8 * k) / 256 = u / 2 ^ (8 * (k + 1)) := by
  rw [Nat.div_div_eq_div_mul, show 8 * (k + 1) = 8 * k + 8 from by omega, Nat.pow_add]

set_option maxRecDepth 20000 in
theorem number_any (n : Int) (u : Nat) (hu : n + 4611686018427387904 = u) (hn : -9007199254740992 ≤ n) (hn' : n ≤ 9007199254740992) (w : World) :
    Calls Tryz.prog 101 #[.int .i64 n] w fun e w' => ∃ v, e = .returned v ∧ Own w.heap.size v (upper u 8) w' ∧ Below w.heap.size w w' := by
  obtain ⟨i0, hi, hz0, hz1, hz2⟩ := info_parts Tryz.infoB5
  have hu2 : u < 4620693217682128897 := by omega
  go_enter Tryz.func101, Tryz.ntmps101
  go_wp2_with (at_make; refine wpList_make_full _ rfl _ _ 120 rfl w.heap.size 5 i0 (.int .u8 0) 1 Tryz.underlying120 hi hz0 hz1 _ _ _ _ 8 rfl rfl rfl rfl (by rw [hz2]; decide) (by decide) (Nat.le_refl _) ?_; intro w1 hown1 hgrow1)
  have hm8 : (madeCells (Value.cells (.int .u8 0)) (8 * 1)).toList = filled u 0 := by rw [filled_zero]; exact toList_madeCells_one (.int .u8 0) 8
  rw [hm8] at hown1
  have hb1 : Below w.heap.size w w1 := ⟨hgrow1.os, hgrow1.tape, hgrow1.output, hgrow1.size, fun k hk => hgrow1.block k hk (by simp)⟩
  clear hm8 hgrow1
  go_loopw [4, 5] (fun x i wr => ∃ k : Nat, k ≤ 8 ∧ i = .int .i64 (7 - (k : Int)) ∧ x = .int .i64 ((u / 2 ^ (8 * k) : Nat) : Int) ∧ wr.ownsRow w.heap.size 5 1 (.slice (some ⟨w.heap.size, 0, none⟩) 8 8) 8 (filled u k) ∧ Below w.heap.size w wr) (fun _ i _ => (intOf i + 1).toNat)
  case atStart => exact ⟨0, by omega, rfl, by simp; omega, hown1, hb1⟩
  case round =>
    obtain ⟨k, hk, rfl, rfl, hown, hbl⟩ := hrel
    obtain ⟨U, hU⟩ : ∃ U, U = u / 2 ^ (8 * k) := ⟨_, rfl⟩
    have hUle : U ≤ u := by rw [hU]; exact Nat.div_le_self _ _
    rw [← hU]
    have HU : Hid (U = u / 2 ^ (8 * k)) := hU
    clear hU
    by_cases hk8 : k < 8
    · have hcell := hown.cellAt (7 - k) (by omega)
      have hlenf : (filled u k).length = 8 := by have := hown.1; omega
      obtain ⟨old, hold⟩ : ∃ old, (filled u k)[7 - k]? = some old := ⟨_, List.getElem?_eq_getElem (by omega)⟩
      rw [hold] at hcell
      have hfz := hown.frozenAt (7 - k)
      have hst := fun x => hown.stored (7 - k) x
      go_wp2
      go_roundw
      case rel =>
        have hb : ((U : Int) % 256) = ((byteAt u k).toNat : Int) := by rw [HU.out]; simp [byteAt]
        refine ⟨k + 1, by omega, by go_num, ?_, ?_, hbl.setCell (p := ⟨w.heap.size, 7 - k, none⟩) (Nat.le_refl _) _⟩
        · rw [← div_pow, ← HU.out]
          simp
        · rw [← filled_next u k hk8, ← hb]
          exact (hst _).1
      case measure => simp [intOf]; omega
    · have : k = 8 := by omega
      subst this
      go_wp2
      go_ret
      rw [filled_all] at hown
      exact ⟨_, rfl, own_of_row (l := upper u 8) (by rw [upper_length]; exact hown) (Nat.le_refl _), hbl⟩

theorem Own.len {w : World} {B : Nat} {v : Value} {l : List UInt8} (h : Own B v l w) : ∃ ao c, v = .slice ao l.length c := by
  rcases h with ⟨rfl, rfl⟩ | ⟨g, cap, rfl, _⟩
  · exact ⟨_, _, rfl⟩
  · exact ⟨_, _, rfl⟩
theorem Own.weak {w : World} {B B' : Nat} {v : Value} {l : List UInt8} (h : Own B v l w) (hB : B' ≤ B) : Own B' v l w := by
  rcases h with h | ⟨g, cap, h1, h2, h3⟩
  · exact .inl h
  · exact .inr ⟨g, cap, h1, Nat.le_trans hB h2, h3⟩
theorem below_own {a w w' : World} {B : Nat} {v : Value} {l : List UInt8} (h : Below B a w) (hB : B ≤ w.heap.size) (ho : Own B v l w) (hg : w.grownBy w' v.ownBlock) : Below B a w' :=
  h.grown hg hB (fun k hk => (own_lt ho k hk).1)

set_option maxRecDepth 20000 in
theorem reftext_short (s : ByteArray) (hs : s.size < 7) (w : World) :
    Calls Tryz.prog 102 #[.string s] w fun e w' => ∃ v, e = .returned v ∧ Own w.heap.size v (textKey s.toList) w' ∧ Below w.heap.size w w' := by
  have hi : (s.size : Int) < 7 := by omega
  have hcv := fun (w : World) => Lib.run_convert_string_bytes (P := Tryz.prog) w 9 120 5 s Tryz.underlying9 Tryz.underlying120 Tryz.underlying5
  go_enter Tryz.func102, Tryz.ntmps102
  go_wp2
  go_loopw [3] (fun v wr => ∃ k : Nat, k ≤ 7 - s.size ∧ Own w.heap.size v (s.toList ++ List.replicate k 0) wr ∧ Below w.heap.size w wr) (fun v _ => 7 - (match v with | .slice _ n _ => n | _ => 0))
  case atStart => exact ⟨0, by omega, by simpa using own_conv w s (by omega), below_conv w s⟩
  case round =>
    obtain ⟨k, hk, hown, hbl⟩ := hrel
    obtain ⟨ao, cp, hv⟩ : ∃ ao cp, u3 = .slice ao (s.size + k) cp := by
      rcases hown with ⟨rfl, h0⟩ | ⟨g, cap, rfl, _⟩
      · have : (s.toList ++ List.replicate k (0 : UInt8)).length = 0 := by rw [h0]; rfl
        rw [List.length_append, toList_length, List.length_replicate] at this
        rw [this]
        exact ⟨_, _, rfl⟩
      · rw [List.length_append, toList_length, List.length_replicate]
        exact ⟨_, _, rfl⟩
    subst hv
    have hs1 := hbl.size
    have hlen : (s.toList ++ List.replicate k (0 : UInt8)).length = s.size + k := by rw [List.length_append, toList_length, List.length_replicate]
    by_cases hk7 : s.size + k < 7
    · have hi7 : (s.size : Int) + (k : Int) < 7 := by omega
      go_wp2_with (at_builtin; refine own_list rfl (.tmp 21) (.tmp 22) rfl ((hown.below (since_new _ _))) rfl [0] rfl rfl (byte_at _ 0 0 rfl) (by rw [hlen]; simp; omega) (by simp; omega) ?_; intro v2 w2 hown2 hgrow2)
      have hb2 := below_own (since_on hbl (since_new _ _)) (by simp; omega) (hown.below (since_new _ _)) hgrow2
      obtain ⟨ao2, cp2, rfl⟩ := hown2.len
      go_roundw
      case rel => exact ⟨k + 1, by omega, by rw [List.replicate_succ', ← List.append_assoc]; exact hown2, hb2⟩
      case measure =>
        simp only [List.length_append, List.length_cons, List.length_nil, toList_length, List.length_replicate]
        omega
    · have hk' : k = 7 - s.size := by omega
      have hi7 : ¬ (s.size : Int) + (k : Int) < 7 := by omega
      go_wp2_with (at_builtin; refine own_list rfl (.tmp 24) (.tmp 28) rfl ((hown.below (since_new _ _))) rfl [UInt8.ofNat s.size] rfl rfl (byte_at _ _ _ (by simp; omega)) (by rw [hlen]; simp; omega) (by simp; omega) ?_; intro v2 w2 hown2 hgrow2)
      have hb2 := below_own (since_on hbl (since_new _ _)) (by simp; omega) (hown.below (since_new _ _)) hgrow2
      go_ret
      refine ⟨_, rfl, ?_, hb2⟩
      rw [textKey_short (by rw [toList_length]; exact hs), toList_length, ← hk']
      exact hown2

theorem since_drew (w : World) : Below w.heap.size w w.drew := (Below.refl _ _).drew
theorem conv_byte (w : World) (b : UInt8) (c : Int) (hc : c = b.toNat) (X : ByteArray) : ∀ j u, (cellsB [b])[j]? = some u → (Lib.bytesWorld (w.alloc (.cells #[.int .u8 c] 5)).drew 5 X).cell? ((⟨w.heap.size, 0, none⟩ : Addr).add j) = some u := by
  intro j u hj
  have h := byte_at w b c hc j u hj
  rw [Lib.bytesWorld_old _ 5 X _ (by rw [Addr.add_lit]; simp)]
  exact h

/-- A call of a function by its contract, as one step of a region that draws its order. -/
theorem call_step {ops : Array Oper} {o : Oper} {a : Act} {w : World} {K : Act → World → Prop} {Q : Exit → Act → World → Prop} {E : Prop} (hg : o.guard = none) (f : FuncId) (x : Operand) (t : TypeId)
    (_ho : o.op = .call { callee := .value (.func f), args := #[x], argTypes := #[t] }) (v : Value) (hx : a.eval x = v) {R : Value → World → Prop}
    (hc : Calls Tryz.prog f #[v] w fun e w' => ∃ u, e = .returned u ∧ R u w') (hrun : (execOp a.eval o).run Tryz.prog w = .ok (.enter f #[a.eval x]) w) (hk : ∀ u w', R u w' → K (a.put o.dst u) w') : if Region.wanted o (yielded ops a.tmps) = true then Oper.wp Tryz.prog o a w K Q else E := by
  have hw : Region.wanted o (yielded ops a.tmps) = true := by simp [Region.wanted, hg]
  rw [if_pos hw]
  unfold Oper.wp
  rw [hrun, hx]
  simp only [Oper.upon]
  refine hc.mono ?_
  rintro e w' ⟨u, rfl, hR⟩
  exact hk u w' hR

set_option maxRecDepth 20000 in
set_option maxHeartbeats 2000000 in
theorem reftext_long (s : ByteArray) (hs : 7 ≤ s.size) (hm : s.size ≤ 1000) (w : World) (hrec : ∀ w, Calls Tryz.prog 102 #[.string (s.extract 7 s.size)] w fun e w' => ∃ v, e = .returned v ∧ Own w.heap.size v (textKey (s.toList.drop 7)) w' ∧ Below w.heap.size w w') :
    Calls Tryz.prog 102 #[.string s] w fun e w' => ∃ v, e = .returned v ∧ Own w.heap.size v (textKey s.toList) w' ∧ Below w.heap.size w w' := by
  have hi : (7 : Int) ≤ (s.size : Int) := by omega
  obtain ⟨X, hX⟩ : ∃ X, X = s.extract 0 7 := ⟨_, rfl⟩
  have hXl : X.toList = s.toList.take 7 := by rw [hX, extract_front]
  have hXs : X.size = 7 := by rw [← toList_length, hXl, List.length_take, toList_length]; omega
  have hcv := fun (w : World) => Lib.run_convert_string_bytes (P := Tryz.prog) w 9 120 5 X Tryz.underlying9 Tryz.underlying120 Tryz.underlying5
  have hX' := hX.symm
  have HX : Hid (X.toList = s.toList.take 7) := hXl
  have hoc := fun (w : World) => own_conv w X (by omega)
  simp only [hXs] at hoc
  have hbc := fun (w : World) => below_conv w X
  have hXl7 : X.toList.length = 7 := by rw [toList_length]; exact hXs
  have hne : textKey (s.toList.drop 7) ≠ [] := by
    intro e
    have := textKey_length (s.toList.drop 7)
    rw [e] at this
    simp at this
  have hkl : (textKey (s.toList.drop 7)).length ≤ 2000 := by
    rw [textKey_length, List.length_drop, toList_length]
    omega
  clear hX hXl
  have hoc2 : Own (w.heap.size + 1) (.slice (some ⟨w.heap.size + 1, 0, none⟩) 7 (grownCap (w.alloc (.cells #[.int .u8 8] 5)).drew 7 0 5)) X.toList (Lib.bytesWorld (w.alloc (.cells #[.int .u8 8] 5)).drew 5 X) := by
    have := hoc (w.alloc (.cells #[.int .u8 8] 5)).drew
    simpa using this
  have hbel2 : Below w.heap.size w (Lib.bytesWorld (w.alloc (.cells #[.int .u8 8] 5)).drew 5 X) := since_on (since_on (since_new w _) (since_drew _)) (hbc _)
  have hsz2 := hbel2.size
  go_enter Tryz.func102, Tryz.ntmps102
  go_wp2
  go_region_law (first
    | (refine own_step rfl (.tmp 9) (.tmp 10) rfl (B := w.heap.size) ((hoc w.drew).below (since_new _ _)) rfl [8] rfl rfl (byte_at _ 8 8 rfl) (by rw [hXl7]; simp) (by have := (hbc w.drew).size; simp at this ⊢; omega) ?_; intro v1 w1 hown1 hgrow1; have hb1 : Below w.heap.size w w1 := below_own (since_on (since_on (since_drew w) (hbc w.drew)) (since_new _ _)) (by have := (hbc w.drew).size; simp at this ⊢; omega) ((hoc w.drew).below (since_new _ _)) hgrow1)
    | (refine own_step rfl (.tmp 9) (.tmp 10) rfl (B := w.heap.size) (hoc2.weak (by omega)) rfl [8] rfl rfl (conv_byte w 8 8 rfl X) (by rw [hXl7]; simp) hsz2 ?_; intro v1 w1 hown1 hgrow1; have hb1 : Below w.heap.size w w1 := below_own hbel2 hsz2 (hoc2.weak (by omega)) hgrow1)
    | (refine call_step rfl 102 (.tmp 13) 9 rfl _ rfl (hrec _) (by go_simp) ?_; rintro v2 w2 ⟨hown2, hb2⟩; obtain ⟨g2, c2, rfl, hsrc⟩ := hown2.src hne)
    | (refine own_step rfl (.tmp 11) (.tmp 14) rfl (B := w.heap.size) (hown1.below hb2) rfl (textKey (s.toList.drop 7)) rfl rfl hsrc (by simp [hXl7]; omega) (by have := hb2.size; have := hb1.size; omega) ?_; intro v3 w3 hown3 hgrow3))
  all_goals
    have hb3 := below_own (hb1.trans (hb2.mono hb1.size)) (by have := hb2.size; have := hb1.size; omega) (hown1.below hb2) hgrow3
    go_wp2
    refine bodyPost_ret (v := v3) (by simp [results, Tryz.results102, go_sem]) rfl ⟨_, rfl, ?_, hb3⟩
    rw [textKey_long (by rw [toList_length]; exact hs), ← HX.out]
    simpa [List.append_assoc] using hown3

theorem reftext_any (s : ByteArray) (hm : s.size ≤ 1000) (w : World) :
    Calls Tryz.prog 102 #[.string s] w fun e w' => ∃ v, e = .returned v ∧ Own w.heap.size v (textKey s.toList) w' ∧ Below w.heap.size w w' := by
  induction hn : s.size using Nat.strongRecOn generalizing s w with
  | _ n ih =>
    by_cases h7 : 7 ≤ s.size
    · refine reftext_long s h7 hm w fun w' => ?_
      have := ih (s.extract 7 s.size).size (by simp; omega) (s.extract 7 s.size) (by simp; omega) w' rfl
      rwa [extract_back] at this
    · exact reftext_short s (by omega) w

/-- A literal of one byte behind a box. -/
theorem own_lit (w : World) (o : Obj) (b : UInt8) (c : Int) (hc : c = b.toNat) : Own w.heap.size (.slice (some ⟨w.heap.size + 1, 0, none⟩) 1 1) [b] ((w.alloc o).alloc (.cells #[.int .u8 c] 5)) := by
  subst hc
  refine .inr ⟨w.heap.size + 1, 1, rfl, by omega, by simp, by simp, by decide, ?_, ?_⟩
  · intro j u hj
    match j, hj with
    | 0, hj => simp [cellsB] at hj; subst hj; simp
    | (j + 1), hj => simp [cellsB] at hj
  · intro j hj hj'
    simp at hj
    omega

theorem below_ab (w : World) (o o' : Obj) : Below w.heap.size w ((w.alloc o).alloc o') := since_on (since_new w o) (since_new _ o')

set_option maxRecDepth 20000 in
set_option maxHeartbeats 2000000 in
theorem one_num (num : Int) (text : ByteArray) (re im : Int) (hn : -9007199254740992 ≤ num) (hn' : num ≤ 9007199254740992) (w : World) :
    Calls Tryz.prog 75 #[.agg #[.int .i64 1, .int .i64 num, .string text, .int .i64 re, .int .i64 im]] w fun e w' => ∃ v, e = .returned v ∧ Own w.heap.size v (V.key ⟨1, num, text, re, im⟩) w' ∧ Below w.heap.size w w' := by
  have hnum := number_any num (num + 4611686018427387904).toNat (by omega) hn hn'
  have hul := upper_length (num + 4611686018427387904).toNat 8
  have hne : upper (num + 4611686018427387904).toNat 8 ≠ [] := by intro e; rw [e] at hul; simp at hul
  have hkey : V.key ⟨1, num, text, re, im⟩ = [1] ++ upper (num + 4611686018427387904).toNat 8 := by simp [V.key]
  generalize upper (num + 4611686018427387904).toNat 8 = L at *
  have HK : Hid (V.key ⟨1, num, text, re, im⟩ = [1] ++ L ∧ L.length = 8) := ⟨hkey, hul⟩
  clear hkey hul
  have hlit := own_lit w (.cells #[.int .i64 1, .int .i64 num, .string text, .int .i64 re, .int .i64 im] 87) 1 1 rfl
  have hba := below_ab w (.cells #[.int .i64 1, .int .i64 num, .string text, .int .i64 re, .int .i64 im] 87) (.cells #[.int .u8 1] 5)
  go_enter Tryz.func75, Tryz.ntmps75
  go_wp2_with (first
    | (go_at_call 101; refine (hnum _).mono ?_; rintro e w1 ⟨v1, rfl, hown1, hb1⟩; obtain ⟨g1, c1, rfl, hsrc⟩ := hown1.src hne; have hs1 := (since_on hba hb1).size)
    | (at_builtin; refine own_list rfl (.tmp 12) (.tmp 15) rfl (B := w.heap.size) (hlit.below hb1) rfl L rfl rfl hsrc (by rw [HK.out.2]; decide) hs1 ?_; intro v2 w2 hown2 hgrow2))
  have hb2 := below_own (since_on hba hb1) hs1 (hlit.below hb1) hgrow2
  go_ret
  exact ⟨_, rfl, by rw [HK.out.1]; exact hown2, hb2⟩

set_option maxRecDepth 20000 in
set_option maxHeartbeats 2000000 in
theorem one_text (num : Int) (text : ByteArray) (re im : Int) (ht : text.size ≤ 256) (w : World) :
    Calls Tryz.prog 75 #[.agg #[.int .i64 2, .int .i64 num, .string text, .int .i64 re, .int .i64 im]] w fun e w' => ∃ v, e = .returned v ∧ Own w.heap.size v (V.key ⟨2, num, text, re, im⟩) w' ∧ Below w.heap.size w w' := by
  have htx := reftext_any text (by omega)
  have hul := textKey_length text.toList
  rw [toList_length] at hul
  have hne : textKey text.toList ≠ [] := by intro e; rw [e] at hul; simp at hul
  have hkey : V.key ⟨2, num, text, re, im⟩ = [2] ++ textKey text.toList := by simp [V.key]
  have hul2 : (textKey text.toList).length ≤ 300 := by omega
  generalize textKey text.toList = L at *
  have HK : Hid (V.key ⟨2, num, text, re, im⟩ = [2] ++ L ∧ L.length ≤ 300) := ⟨hkey, hul2⟩
  clear hkey hul hul2
  have hlit := own_lit w (.cells #[.int .i64 2, .int .i64 num, .string text, .int .i64 re, .int .i64 im] 87) 2 2 rfl
  have hba := below_ab w (.cells #[.int .i64 2, .int .i64 num, .string text, .int .i64 re, .int .i64 im] 87) (.cells #[.int .u8 2] 5)
  go_enter Tryz.func75, Tryz.ntmps75
  go_wp2_with (first
    | (go_at_call 102; refine (htx _).mono ?_; rintro e w1 ⟨v1, rfl, hown1, hb1⟩; obtain ⟨g1, c1, rfl, hsrc⟩ := hown1.src hne; have hs1 := (since_on hba hb1).size)
    | (at_builtin; refine own_list rfl (.tmp 19) (.tmp 22) rfl (B := w.heap.size) (hlit.below hb1) rfl L rfl rfl hsrc (by have := HK.out.2; simp; omega) hs1 ?_; intro v2 w2 hown2 hgrow2))
  have hb2 := below_own (since_on hba hb1) hs1 (hlit.below hb1) hgrow2
  go_ret
  exact ⟨_, rfl, by rw [HK.out.1]; exact hown2, hb2⟩

theorem box_at {w : World} {a b c d e : Value} (o : Obj) : ((w.alloc (.cells #[a, b, c, d, e] 87)).alloc o).heap[w.heap.size]? = some (Obj.cells #[a, b, c, d, e] 87 (0, 0)) := block_old (block_at w _) _

set_option maxRecDepth 20000 in
set_option maxHeartbeats 4000000 in
theorem one_point (num : Int) (text : ByteArray) (re im : Int) (hr : -1048576 ≤ re ∧ re ≤ 1048576) (hm : -1048576 ≤ im ∧ im ≤ 1048576) (w : World) :
    Calls Tryz.prog 75 #[.agg #[.int .i64 3, .int .i64 num, .string text, .int .i64 re, .int .i64 im]] w fun e w' => ∃ v, e = .returned v ∧ Own w.heap.size v (V.key ⟨3, num, text, re, im⟩) w' ∧ Below w.heap.size w w' := by
  have hre := number_any re (re + 4611686018427387904).toNat (by omega) (by omega) (by omega)
  have him := number_any im (im + 4611686018427387904).toNat (by omega) (by omega) (by omega)
  have hl1 := upper_length (re + 4611686018427387904).toNat 8
  have hl2 := upper_length (im + 4611686018427387904).toNat 8
  have hne1 : upper (re + 4611686018427387904).toNat 8 ≠ [] := by intro e; rw [e] at hl1; simp at hl1
  have hne2 : upper (im + 4611686018427387904).toNat 8 ≠ [] := by intro e; rw [e] at hl2; simp at hl2
  have hkey : V.key ⟨3, num, text, re, im⟩ = [3] ++ upper (re + 4611686018427387904).toNat 8 ++ upper (im + 4611686018427387904).toNat 8 := by simp [V.key]
  generalize upper (re + 4611686018427387904).toNat 8 = L1 at *
  generalize upper (im + 4611686018427387904).toNat 8 = L2 at *
  have HK : Hid (V.key ⟨3, num, text, re, im⟩ = [3] ++ L1 ++ L2 ∧ L1.length = 8 ∧ L2.length = 8) := ⟨hkey, hl1, hl2⟩
  clear hkey hl1 hl2
  have hlit := own_lit w (.cells #[.int .i64 3, .int .i64 num, .string text, .int .i64 re, .int .i64 im] 87) 3 3 rfl
  have hba := below_ab w (.cells #[.int .i64 3, .int .i64 num, .string text, .int .i64 re, .int .i64 im] 87) (.cells #[.int .u8 3] 5)
  have hbox := box_at (w := w) (a := .int .i64 3) (b := .int .i64 num) (c := .string text) (d := .int .i64 re) (e := .int .i64 im) (.cells #[.int .u8 3] 5)
  go_enter Tryz.func75, Tryz.ntmps75
  go_wp2
  go_region_law (first
    | (refine call_step rfl 101 (.tmp 27) 3 rfl _ rfl (hre _) (by go_simp) ?_; rintro v1 w1 ⟨hown1, hb1⟩; obtain ⟨g1, c1, rfl, hsrc1⟩ := hown1.src hne1; have hs1 := (since_on hba (since_on (since_drew _) hb1)).size; have hbx1 := later_block (w := World.drew _) hbox hb1; obtain ⟨⟨p0, p1, p2, p3, p4⟩, -⟩ := cells_frozen5 hbx1)
    | (refine own_step rfl (.tmp 24) (.tmp 28) rfl (B := w.heap.size) (hlit.below (since_on (since_drew _) hb1)) rfl L1 rfl rfl hsrc1 (by rw [HK.out.2.1]; decide) hs1 ?_; intro v2 w2 hown2 hgrow2; have hb2 := below_own (since_on hba (since_on (since_drew _) hb1)) hs1 (hlit.below (since_on (since_drew _) hb1)) hgrow2; have hbx2 := (hgrow2.block w.heap.size (by have := hb1.size; simp at this; omega) (by simp [Value.ownBlock])).trans hbx1; obtain ⟨⟨q0, q1, q2, q3, q4⟩, -⟩ := cells_frozen5 hbx2)
    | (refine call_step rfl 101 (.tmp 32) 3 rfl _ rfl (him _) (by go_simp) ?_; rintro v3 w3 ⟨hown3, hb3⟩; obtain ⟨g3, c3, rfl, hsrc3⟩ := hown3.src hne2; have hs3 := (hb2.trans (hb3.mono hb2.size)).size)
    | (refine own_step rfl (.tmp 29) (.tmp 33) rfl (B := w.heap.size) (hown2.below hb3) rfl L2 rfl rfl hsrc3 (by simp [HK.out.2.1, HK.out.2.2]) hs3 ?_; intro v4 w4 hown4 hgrow4))
  all_goals
    have hb4 := below_own (hb2.trans (hb3.mono hb2.size)) hs3 (hown2.below hb3) hgrow4
    go_wp2
    refine bodyPost_ret (v := v4) (by simp [results, Tryz.results75, go_sem]) rfl ⟨_, rfl, ?_, hb4⟩
    rw [HK.out.1]
    exact hown4

theorem one_any (x : V) (hf : x.check = 0) (w : World) :
    Calls Tryz.prog 75 #[x.val] w fun e w' => ∃ v, e = .returned v ∧ Own w.heap.size v x.key w' ∧ Below w.heap.size w w' := by
  have hfit : x.fits = true := by
    unfold V.check at hf
    split at hf
    · cases hf
    · split at hf
      · assumption
      · cases hf
  obtain ⟨kind, num, text, re, im⟩ := x
  rcases V.fits_kind hfit with h | h | h
  · subst h
    have hn : -9007199254740992 ≤ num ∧ num ≤ 9007199254740992 := by simp [V.fits] at hfit; omega
    exact one_num num text re im hn.1 hn.2 w
  · subst h
    refine one_text num text re im ?_ w
    have : ¬ (256 < text.size) := by
      intro hc
      simp [V.check, hc] at hf
    omega
  · subst h
    have hn : (-1048576 ≤ re ∧ re ≤ 1048576) ∧ -1048576 ≤ im ∧ im ≤ 1048576 := by simp [V.fits] at hfit; omega
    exact one_point num text re im hn.1 hn.2 w

theorem Own.string {B : Nat} {v : Value} {l : List UInt8} {w : World} (h : Own B v l w) : (convert 120 9 v).run Tryz.prog w = .ok (.string ⟨l.toArray⟩) w := by
  rcases h with ⟨rfl, rfl⟩ | ⟨g, cap, rfl, _, _, _, _, hc, _⟩
  · exact Lib.run_convert_nil_bytes w 120 9 5 0 Tryz.underlying120 Tryz.underlying5 Tryz.underlying9
  · have := Lib.run_convert_whole (P := Tryz.prog) w 120 5 9 Tryz.underlying120 Tryz.underlying5 Tryz.underlying9 g 0 ⟨l.toArray⟩ (fun i hi => by
      have hi' : i < l.length := hi
      have h3 := hc i (.int .u8 (l[i].toNat : Int)) (by simp [cellsB, hi'])
      rw [Nat.zero_add, h3]
      rfl) cap
    exact this

theorem V.key_ne (v : V) : v.key ≠ [] := by simp [V.key]

set_option maxRecDepth 20000 in
set_option maxHeartbeats 1000000 in
theorem refkey_full (ao : Option Addr) (cap : Nat) (vs : List V) (w : World) (hlo : vs = [] ∨ ∃ b off, ao = some ⟨b, off, none⟩ ∧ b < w.heap.size ∧ LiesV w b off vs) (hlen : vs.length ≤ 16) :
    Calls Tryz.prog 55 #[.slice ao vs.length cap] w fun e w' => e = .returned (.tuple #[.string (keyStr vs), .int .i64 (firstBad vs)]) ∧ Below w.heap.size w w' := by
  go_enter Tryz.func55, Tryz.ntmps55
  go_wp2
  go_loopw [4, 5] (fun v i wr => ∃ k : Nat, k ≤ vs.length ∧ i = .int .i64 k ∧ (∀ x ∈ vs.take k, x.check = 0) ∧ Own w.heap.size v (keyBytes (vs.take k)) wr ∧ Below w.heap.size w wr) (fun _ i _ => vs.length - (intOf i).toNat)
  case atStart => exact ⟨0, Nat.zero_le _, rfl, by simp, .inr ⟨w.heap.size, 0, rfl, Nat.le_refl _, by simp, by simp [keyBytes], by decide, by intro j u hj; simp [keyBytes, cellsB] at hj, by intro j _ h; omega⟩, since_new _ _⟩
  case round =>
    obtain ⟨k, hk, rfl, hok, hown, hbl⟩ := hrel
    by_cases hlt : k < vs.length
    · rcases hlo with rfl | ⟨b, off, rfl, hb, hl⟩
      · simp at hlt
      have hc := fun W (hW : Below w.heap.size w W) => hl.below hW hb k hlt
      obtain ⟨x, hx⟩ : ∃ x, x = vs[k] := ⟨_, rfl⟩
      have HX : Hid (x = vs[k]) := hx
      rw [← hx] at hc
      clear hx
      obtain ⟨q, hq⟩ : ∃ q, x.check = q := ⟨_, rfl⟩
      have hchk := fun W => (refCheck_any x W).mono (R' := fun e w' => e = .returned (.int .i64 x.check) ∧ Below W.heap.size W w') (by rintro e w' ⟨he, hA⟩; exact ⟨he, hA.below⟩)
      rw [hq] at hchk
      have HQ : Hid (x.check = q) := hq
      clear hq
      have hkl := keyBytes_length hok
      have hkl2 : (vs.take k).length ≤ 16 := by simp; omega
      obtain ⟨c0, c1, c2, c3, c4⟩ := hc wr hbl
      obtain ⟨kind, num, text, re, im⟩ := x
      simp only [V.val] at hchk
      have hi1 : (k : Int) < (vs.length : Int) := by omega
      by_cases hq0 : q = 0
      · subst hq0
        have hone := one_any ⟨kind, num, text, re, im⟩ HQ.out
        have hkey := V.key_length HQ.out
        have hkne := V.key_ne ⟨kind, num, text, re, im⟩
        simp only [V.val] at hone
        obtain ⟨KV, hKV⟩ : ∃ KV, KV = V.key ⟨kind, num, text, re, im⟩ := ⟨_, rfl⟩
        rw [← hKV] at hone hkey hkne
        have HKV : Hid (KV = V.key ⟨kind, num, text, re, im⟩) := hKV
        clear hKV
        go_wp2_with (first
          | (go_at_call 40; refine (hchk _).mono ?_; rintro e w1 ⟨rfl, hb1⟩; obtain ⟨d0, d1, d2, d3, d4⟩ := hc w1 (since_on hbl hb1))
          | (go_at_call 75; refine (hone _).mono ?_; rintro e w2 ⟨v2, rfl, hown2, hb2⟩; obtain ⟨g2, cp2, rfl, hsrc⟩ := hown2.src hkne; have hs2 := (since_on (since_on hbl hb1) hb2).size)
          | (at_builtin; refine own_list rfl (.tmp 25) (.tmp 30) rfl (B := w.heap.size) ((hown.below hb1).below hb2) rfl KV rfl rfl hsrc (by omega) hs2 ?_; intro v3 w3 hown3 hgrow3))
        have hb3 := below_own (since_on (since_on hbl hb1) hb2) hs2 ((hown.below hb1).below hb2) hgrow3
        go_roundw
        case rel =>
          have hx := HX.out
          refine ⟨k + 1, by omega, by go_num, ?_, ?_, hb3⟩
          · intro y hy
            rw [List.take_succ_eq_append_getElem hlt] at hy
            rcases List.mem_append.1 hy with h | h
            · exact hok y h
            · simp at h
              subst h
              rw [← hx]
              exact HQ.out
          · rw [List.take_succ_eq_append_getElem hlt, ← hx]
            have e : keyBytes (vs.take k ++ [⟨kind, num, text, re, im⟩]) = keyBytes (vs.take k) ++ KV := by rw [HKV.out]; simp [keyBytes]
            rw [e]
            exact hown3
        case measure => simp [intOf]; omega
      · go_wp2_with (go_at_call 40; refine (hchk _).mono ?_; rintro e w1 ⟨rfl, hb1⟩)
        have hx := HX.out
        have hbad := firstBad_at hlt hok (by rw [← hx, HQ.out]; exact hq0)
        rw [← hx, HQ.out] at hbad
        have hstr : keyStr vs = ⟨#[]⟩ := by simp [keyStr, hbad, hq0]
        rw [hstr, hbad]
        go_ret2
        exact ⟨rfl, since_on hbl hb1⟩
    · have hk' : k = vs.length := by omega
      have hcv := hown.string
      subst hk'
      rw [List.take_length] at hcv hok
      go_wp2
      have hbad := firstBad_none hok
      have hstr : keyStr vs = ⟨(keyBytes vs).toArray⟩ := by simp [keyStr, hbad]
      rw [hstr, hbad]
      go_ret2
      exact ⟨rfl, hbl⟩

theorem refkey_any (s : Value) (vs : List V) (w : World) (h : LstV w s vs) (hlen : vs.length ≤ 16) :
    Calls Tryz.prog 55 #[s] w fun e w' => e = .returned (.tuple #[.string (keyStr vs), .int .i64 (firstBad vs)]) ∧ Below w.heap.size w w' := by
  obtain ⟨ao, cap, rfl, hlo⟩ := h
  exact refkey_full ao cap vs w hlo hlen

end Go.Proofs.YtiacnmcdfpmcfaaGreatDoor.Rk
