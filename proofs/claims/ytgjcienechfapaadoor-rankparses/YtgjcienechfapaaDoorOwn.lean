/-
  A row of bytes that a call owns, said of its cells alone (its last cell may bear a mark behind it): what append does to it.
-/
import Derived.Test.YtgjcienechfapaaDoorParse
import Derived.ArgAppend
import Derived.Laws.IdiomCopy
import Derived.Deep.Upon
import Derived.Lib.ConvBytes
namespace Go.Proofs.YtgjcienechfapaaDoor
open Go.RowKit

/-- The slice v has the bytes l, in a block from B on that the call owns, or it is nil; what lies between its length and its capacity may be written. -/
def Own (B : Nat) (v : Value) (l : List UInt8) (w : World) : Prop :=
  (v = .slice none 0 0 ∧ l = []) ∨
  ∃ g cap, v = .slice (some ⟨g, 0, none⟩) l.length cap ∧ B ≤ g ∧ g < w.heap.size ∧ l.length ≤ cap ∧ cap ≤ maxLen ∧
    (∀ j u, (cells l)[j]? = some u → w.cell? ⟨g, j, none⟩ = some u) ∧ (∀ j, l.length ≤ j → j < cap → (w.cell? ⟨g, j, none⟩).isSome = true ∧ w.frozen? ⟨g, j, none⟩ = false)

theorem cells_length (l : List UInt8) : (cells l).length = l.length := by simp [cells]
theorem cells_append (l t : List UInt8) : cells (l ++ t) = cells l ++ cells t := by simp [cells]
theorem cells_one (l : List UInt8) : ∀ u ∈ cells l, u.oneCell' = true := by
  intro u hu
  simp only [cells, List.mem_map] at hu
  obtain ⟨b, _, rfl⟩ := hu
  rfl

theorem own_of_row {w : World} {B B' : Nat} {v : Value} {l : List UInt8} (h : w.ownsRow B' 5 1 v l.length (cells l)) (hB : B ≤ B') : Own B v l w := by
  rcases h.2 with ⟨rfl, hn⟩ | ⟨g, cap, cur, rfl, hb, hg, hnc, hcm, hcs, htk⟩
  · exact .inl ⟨rfl, List.eq_nil_of_length_eq_zero hn⟩
  · refine .inr ⟨g, cap, rfl, Nat.le_trans hB hb, ?_, hnc, hcm, ?_, ?_⟩
    · by_cases hlt : g < w.heap.size
      · exact hlt
      · rw [Array.getElem?_eq_none (by omega)] at hg
        cases hg
    · intro j u hu
      have := h.cells (g := g) rfl j u hu
      rwa [Addr.add_lit, Nat.zero_add] at this
    · intro j hj hjc
      have hjs : j < cur.size := by omega
      simp [World.cell?, World.frozen?, hg, hjs]

theorem own_lt {w : World} {B : Nat} {v : Value} {l : List UInt8} (h : Own B v l w) : ∀ k, v.ownBlock = some k → B ≤ k ∧ k < w.heap.size := by
  intro k hk
  rcases h with ⟨rfl, _⟩ | ⟨g, cap, rfl, hb, hlt, _⟩
  · cases hk
  · simp [Value.ownBlock] at hk
    omega

theorem Own.kept {w w' : World} {B : Nat} {v : Value} {l : List UInt8} {row : Option Nat} (h : Own B v l w) (hg : w.grownBy w' row) (hne : v.ownBlock = none ∨ v.ownBlock ≠ row) : Own B v l w' := by
  rcases h with ⟨rfl, rfl⟩ | ⟨g, cap, rfl, hb, hlt, hnc, hcm, hc, hs⟩
  · exact .inl ⟨rfl, rfl⟩
  · have hblk : w'.heap[g]? = w.heap[g]? := by
      apply hg.block g hlt
      rcases hne with hne | hne
      · cases hne
      · exact hne
    refine .inr ⟨g, cap, rfl, hb, Nat.lt_of_lt_of_le hlt hg.size, hnc, hcm, fun j u hu => ?_, fun j hj hjc => ?_⟩
    · rw [World.cell?_of_block (w := w) hblk]; exact hc j u hu
    · rw [World.cell?_of_block (w := w) hblk, World.frozen?_of_block (w := w) hblk]; exact hs j hj hjc

theorem Own.below {w w' : World} {B : Nat} {v : Value} {l : List UInt8} (h : Own B v l w) (hb : Below w.heap.size w w') : Own B v l w' := by
  refine h.kept (mv_below hb none) ?_
  cases v.ownBlock with
  | none => exact .inl rfl
  | some k => exact .inr (by simp)

theorem size_setCells (g : Nat) : ∀ (vs : List Value) (o : Nat) (w : World), (w.setCells g o vs).heap.size = w.heap.size
  | [], _, _ => rfl
  | v :: r, o, w => by
    show ((w.setCell ⟨g, o, none⟩ v).setCells g (o + 1) r).heap.size = _
    rw [size_setCells g r (o + 1), size_setCell]
theorem mv_setCells {a : World} (g : Nat) : ∀ (vs : List Value) (o : Nat) (w : World), a.grownBy w (some g) → a.grownBy (w.setCells g o vs) (some g)
  | [], _, _, h => h
  | v :: r, o, w, h => mv_setCells g r (o + 1) (w.setCell ⟨g, o, none⟩ v) (mv_set h (p := ⟨g, o, none⟩) (.inr rfl) v)

/-- append to such a row, of bytes that lie somewhere. -/
theorem own_append (w : World) (B : Nat) (ty : TypeId) (v : Value) (l : List UInt8) (h : Own B v l w) (ad : Addr) (c : Nat) (t : List UInt8) (hnews : ∀ j u, (cells t)[j]? = some u → w.cell? (ad.add j) = some u) (hlen : l.length + t.length ≤ 140737488355328) (hB : B ≤ w.heap.size) :
    ∃ v' w', (Builtin.append_ #[42, 42] ty #[v, .slice (some ad) t.length c]).run Tryd.prog w = .ok v' w' ∧ Own B v' (l ++ t) w' ∧ w.grownBy w' v.ownBlock := by
  obtain ⟨i0, hi, hz0, hz1, hz2⟩ := info_parts Tryd.info5
  rcases h with ⟨rfl, rfl⟩ | ⟨g, cap, rfl, hb, hlt, hnc, hcm, hc, hs⟩
  · obtain ⟨v', w', h1, h2, h3, _⟩ := run_append_own (P := Tryd.prog) w B 42 ty 5 i0 (.int .u8 0) 1 1 Tryd.underlying42 hi hz0 hz1 hz2 rfl (by decide) (.slice none 0 0) 0 [] (World.ownsRow_nil w _ _ _) ad t.length c (cells t) (by rw [cells_length, Nat.mul_one]) hnews (cells_one t) (by unfold maxLen; simp at hlen; omega) (by simp at hlen; omega) hB
    refine ⟨v', w', h1, own_of_row (B' := B) (by simpa using h2) (Nat.le_refl _), h3⟩
  · by_cases hr : l.length + t.length ≤ cap
    · have hrun := run_append_room_cells (P := Tryd.prog) w 42 ty 5 i0 Tryd.underlying42 hi g 0 l.length cap ad t.length c (cells t) (by rw [cells_length, hz1, Nat.mul_one]) hnews (cells_one t) hr
        (fun j hj => by rw [hz1, Nat.mul_one, Nat.zero_add]; rw [cells_length] at hj; exact (hs (l.length + j) (by omega) (by omega)).1)
        (fun j hj => by rw [hz1, Nat.mul_one, Nat.zero_add]; rw [cells_length] at hj; exact (hs (l.length + j) (by omega) (by omega)).2)
      rw [hz1, Nat.mul_one, Nat.zero_add] at hrun
      refine ⟨_, _, hrun, .inr ⟨g, cap, by simp, hb, ?_, by simpa using hr, hcm, ?_, ?_⟩, ?_⟩
      · rw [size_setCells]; exact hlt
      · intro j u hu
        rw [cells_append, List.getElem?_append] at hu
        split at hu
        · rename_i hj
          rw [cells_length] at hj
          rw [World.cell?_setCells_out g _ _ _ _ (fun _ _ => .inl hj)]
          exact hc j u hu
        · rename_i hj
          rw [cells_length] at hj hu
          have hjt : j - l.length < (cells t).length := by
            by_cases h' : j - l.length < (cells t).length
            · exact h'
            · rw [List.getElem?_eq_none (by omega)] at hu; cases hu
          have := World.cell?_setCells_in g (cells t) l.length w (fun j hj => (hs (l.length + j) (by omega) (by rw [cells_length] at hj; omega)).1) (j - l.length) hjt
          rw [show l.length + (j - l.length) = j from by omega] at this
          rw [this]
          rw [List.getElem?_eq_getElem hjt] at hu
          simpa using hu
      · intro j hj hjc
        rw [List.length_append] at hj
        rw [World.cell?_setCells_out g _ _ _ _ (fun _ _ => .inr (by rw [cells_length]; exact hj)), World.frozen?_setCells]
        exact hs j (by omega) hjc
      · exact mv_setCells g _ _ _ (mv_refl _ _)
    · obtain ⟨v', w', h1, h2, h3⟩ := run_append_arg_grows (P := Tryd.prog) w 42 ty 5 i0 (.int .u8 0) 1 1 Tryd.underlying42 hi hz0 hz1 hz2 rfl (by decide) ⟨g, 0, none⟩ l.length cap (cells l) (by rw [cells_length, Nat.mul_one]) (fun j u hj => by rw [Addr.add_lit, Nat.zero_add]; exact hc j u hj) ad t.length c (cells t) (by rw [cells_length, Nat.mul_one]) hnews (by omega) (by unfold maxLen; omega) (by omega)
      refine ⟨v', w', h1, own_of_row (by rw [cells_append, List.length_append]; exact h2) hB, ⟨h3.os, h3.tape, h3.output, h3.size, fun k hk _ => h3.block k hk (by simp)⟩⟩

theorem own_wp {o : Oper} {a : Act} {w : World} {K : Act → World → Prop} {Q : Exit → Act → World → Prop} (s x : Operand) (ho : o.op = .call { callee := .builtin .append, args := #[s, x], argTypes := #[42, 42] })
    {B : Nat} {v : Value} {l : List UInt8} (h : Own B v l w) (hs : a.eval s = v) {ad : Addr} {m c : Nat} (t : List UInt8) (hx : a.eval x = .slice (some ad) m c) (hm : m = t.length) (hnews : ∀ j u, (cells t)[j]? = some u → w.cell? (ad.add j) = some u)
    (hlen : l.length + t.length ≤ 140737488355328) (hB : B ≤ w.heap.size) (hk : ∀ v' w', Own B v' (l ++ t) w' → w.grownBy w' v.ownBlock → K (a.put o.dst v') w') : o.wp Tryd.prog a w K Q := by
  subst hm
  obtain ⟨v', w', hr, h2, h3⟩ := own_append w B o.type v l h ad c t hnews hlen hB
  unfold Oper.wp execOp
  simp only [ho, resolve, invoke, builtin, Sem.run_bind, Sem.run_pure, Result.andThen_ok, List.map_toArray, List.map_cons, List.map_nil, hs, hx, hr]
  exact hk v' w' h2 h3

theorem own_list {ops : Array Oper} {rest : List Oper} {o : Oper} {a : Act} {w : World} {Q : Exit → Act → World → Prop} (hgd : o.guard = none) (s x : Operand) (ho : o.op = .call { callee := .builtin .append, args := #[s, x], argTypes := #[42, 42] })
    {B : Nat} {v : Value} {l : List UInt8} (h : Own B v l w) (hs : a.eval s = v) {ad : Addr} {m c : Nat} (t : List UInt8) (hx : a.eval x = .slice (some ad) m c) (hm : m = t.length) (hnews : ∀ j u, (cells t)[j]? = some u → w.cell? (ad.add j) = some u)
    (hlen : l.length + t.length ≤ 140737488355328) (hB : B ≤ w.heap.size) (hk : ∀ v' w', Own B v' (l ++ t) w' → w.grownBy w' v.ownBlock → wpList Tryd.prog ops Q rest (a.put o.dst v') w') : wpList Tryd.prog ops Q (o :: rest) a w :=
  wpList_plain hgd fun _ hK => own_wp s x ho h hs t hx hm hnews hlen hB fun v' w' h1 h2 => hK _ _ (hk v' w' h1 h2)

theorem own_step {ops : Array Oper} {o : Oper} {a : Act} {w : World} {K : Act → World → Prop} {Q : Exit → Act → World → Prop} {E : Prop} (hg : o.guard = none) (s x : Operand) (ho : o.op = .call { callee := .builtin .append, args := #[s, x], argTypes := #[42, 42] })
    {B : Nat} {v : Value} {l : List UInt8} (h : Own B v l w) (hs : a.eval s = v) {ad : Addr} {m c : Nat} (t : List UInt8) (hx : a.eval x = .slice (some ad) m c) (hm : m = t.length) (hnews : ∀ j u, (cells t)[j]? = some u → w.cell? (ad.add j) = some u)
    (hlen : l.length + t.length ≤ 140737488355328) (hB : B ≤ w.heap.size) (hk : ∀ v' w', Own B v' (l ++ t) w' → w.grownBy w' v.ownBlock → K (a.put o.dst v') w') : if Region.wanted o (yielded ops a.tmps) = true then Oper.wp Tryd.prog o a w K Q else E := by
  have hw : Region.wanted o (yielded ops a.tmps) = true := by simp [Region.wanted, hg]
  rw [if_pos hw]
  exact own_wp s x ho h hs t hx hm hnews hlen hB hk

/-- One byte in a block of its own. -/
theorem byte_at (w : World) (b : UInt8) (c : Int) (hc : c = b.toNat) : ∀ j u, (cells [b])[j]? = some u → (w.alloc (.cells #[.int .u8 c] 5)).cell? ((⟨w.heap.size, 0, none⟩ : Addr).add j) = some u := by
  intro j u hj
  subst hc
  match j, hj with
  | 0, hj => simp [cells] at hj; subst hj; simp [Addr.add]
  | (j + 1), hj => simp [cells] at hj

/-- A row that is not empty, as what is appended. -/
theorem Own.src {w : World} {B : Nat} {v : Value} {t : List UInt8} (h : Own B v t w) (ht : t ≠ []) : ∃ g cap, v = .slice (some ⟨g, 0, none⟩) t.length cap ∧ ∀ j u, (cells t)[j]? = some u → w.cell? ((⟨g, 0, none⟩ : Addr).add j) = some u := by
  rcases h with ⟨_, h⟩ | ⟨g, cap, rfl, _, _, _, _, hc, _⟩
  · exact absurd h ht
  · exact ⟨g, cap, rfl, fun j u hu => by rw [Addr.add_lit, Nat.zero_add]; exact hc j u hu⟩

theorem grownCap_le9 (w : World) (n : Nat) (hn : n ≤ 1000000) : grownCap w n 0 5 ≤ maxLen := grownCap_le_maxLen w n 0 5 (by unfold maxLen; omega)

/-- The row that a conversion of a text makes. -/
theorem own_conv (w : World) (s : ByteArray) (hs : s.size ≤ 1000000) : Own w.heap.size (.slice (some ⟨w.heap.size, 0, none⟩) s.size (grownCap w s.size 0 5)) s.toList (Lib.bytesWorld w 5 s) := by
  have hge := grownCap_ge w s.size 0 5
  have hnew := Lib.bytesWorld_at_new w 5 s
  have hsz : (Lib.bytesCells w 5 s).size = grownCap w s.size 0 5 := by
    simp only [Lib.bytesCells, Array.size_append, Array.size_map, Array.size_replicate]
    show s.size + _ = _
    omega
  refine .inr ⟨w.heap.size, grownCap w s.size 0 5, by rw [toList_length], Nat.le_refl _, by rw [Lib.bytesWorld_size]; omega, by rw [toList_length]; exact hge, grownCap_le9 w s.size hs, ?_, ?_⟩
  · intro j u hu
    have hj : j < s.size := by
      by_cases h' : j < s.size
      · exact h'
      · rw [List.getElem?_eq_none (by rw [cells_length, toList_length]; omega)] at hu; cases hu
    rw [Lib.bytesWorld_cell w 5 s j hj]
    rw [ByteArray.toList_eq] at hu
    simp only [cells, List.getElem?_map, Option.map_eq_some_iff] at hu
    obtain ⟨b, hb, rfl⟩ := hu
    rw [List.getD, hb]
    rfl
  · intro j hj hjc
    have : j < (Lib.bytesCells w 5 s).size := by omega
    constructor
    · simp [World.cell?, hnew, this]
    · simp only [World.frozen?, hnew]
      simp
      omega

theorem below_conv (w : World) (s : ByteArray) : Below w.heap.size w (Lib.bytesWorld w 5 s) :=
  ⟨rfl, rfl, rfl, by rw [Lib.bytesWorld_size]; omega, fun k hk => Lib.bytesWorld_at_old w 5 s k hk⟩

end Go.Proofs.YtgjcienechfapaaDoor
