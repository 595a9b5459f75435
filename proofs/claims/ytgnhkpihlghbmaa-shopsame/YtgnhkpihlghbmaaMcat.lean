/-
  slices.Concat of documents, by contract. slices.Concat of documents, by contract: the call.
-/
import Derived.Test.YtgnhkpihlghbmaaSst
namespace Go.Proofs.Ytgnhkpihlghbmaa
open Go.RowKit
attribute [local go_sem] cell?_more frozen?_more setCell_more size_more tape_more drew_more drewN_more more_drew more_drewN one_out plus_out plus_end lt_one le_p2 le_p3 le_p4 le_p5 le_p6 le_p7 le_p8 le_p9 le_p10 le_p11 le_p12 le_p13 le_p14 le_p15 le_p16 le_p17 le_p18 le_p19 le_p20 le_p21 le_p22 le_p23 le_p24 le_q0 le_q1 lt_q1 le_q2 lt_q2 le_q3 lt_q3 le_q4 lt_q4 le_q5 lt_q5 le_q6 lt_q6 le_q7 lt_q7 le_q8 lt_q8 le_q9 lt_q9 le_q10 lt_q10 le_q11 lt_q11 le_q12 lt_q12 le_q13 lt_q13 le_q14 lt_q14 le_q15 lt_q15 le_q16 lt_q16 le_q17 lt_q17 le_q18 lt_q18 le_q19 lt_q19 le_q20 lt_q20 le_q21 lt_q21 le_q22 lt_q22 le_q23 lt_q23 le_q24 lt_q24

def LiesR (w : World) (b off : Nat) (rs : List Rn) : Prop := ∀ j (h : j < rs.length), w.cell? ⟨b, off + j * 2, none⟩ = some (.string rs[j].1.key) ∧ w.cell? ⟨b, off + j * 2 + 1, none⟩ = some rs[j].2

/-- The slice s reads as documents, each with its own slice. -/
def LstR (w : World) (s : Value) (rs : List Rn) : Prop :=
  (∃ ao cap, s = .slice ao rs.length cap ∧ rs.length ≤ cap ∧ (rs = [] ∨ ∃ b off, ao = some ⟨b, off, none⟩ ∧ b < w.heap.size ∧ LiesR w b off rs)) ∧ ∀ r ∈ rs, Lst w r.2 r.1.doc

theorem LstD.rows {w : World} {s : Value} {ds : List Dn} (h : LstD w s ds) : ∃ rs : List Rn, rs.map (·.1) = ds ∧ LstR w s rs := by
  obtain ⟨ao, cap, rfl, hc, rfl | ⟨b, off, rfl, hb, hl⟩⟩ := h
  · exact ⟨[], rfl, ⟨ao, cap, rfl, hc, .inl rfl⟩, fun r h => by cases h⟩
  · have hv := fun j (h : j < ds.length) => Classical.choose_spec (hl j h)
    generalize hf : (fun j (h : j < ds.length) => Classical.choose (hl j h)) = f at *
    have hv : ∀ j (h : j < ds.length), w.cell? ⟨b, off + j * 2, none⟩ = some (.string ds[j].key) ∧ w.cell? ⟨b, off + j * 2 + 1, none⟩ = some (f j h) ∧ Lst w (f j h) ds[j].doc := by
      intro j h
      rw [← hf]
      exact hv j h
    refine ⟨List.ofFn (fun i : Fin ds.length => (ds[i], f i.1 i.2)), ?_, ⟨_, cap, by simp, by simpa using hc, .inr ⟨b, off, rfl, hb, fun j hj => ?_⟩⟩, fun r hr => ?_⟩
    · apply List.ext_getElem
      · simp
      · intro i h1 h2
        simp
    · have hj' : j < ds.length := by simpa using hj
      simpa using ⟨(hv j hj').1, (hv j hj').2.1⟩
    · obtain ⟨i, rfl⟩ := List.mem_ofFn.1 hr
      exact (hv i.1 i.2).2.2

theorem LiesR.below {w w' : World} {b off : Nat} {rs : List Rn} (h : LiesR w b off rs) {B : Nat} (hb : Below B w w') (hB : b < B) : LiesR w' b off rs := fun j hj =>
  ⟨(hb.cell (p := ⟨b, off + j * 2, none⟩) hB).trans (h j hj).1, (hb.cell (p := ⟨b, off + j * 2 + 1, none⟩) hB).trans (h j hj).2⟩

theorem LiesR.cells {w : World} {b off : Nat} {fs : List Rn} (h : LiesR w b off fs) : ∀ j u, (cellsRn fs)[j]? = some u → w.cell? ((⟨b, off, none⟩ : Addr).add j) = some u := by
  intro j u hu
  have hj : j < fs.length * 2 := by
    by_cases hj : j < fs.length * 2
    · exact hj
    · rw [List.getElem?_eq_none (by rw [cellsRn_length]; omega)] at hu
      cases hu
  have hi : j / 2 < fs.length := by omega
  have he : j / 2 * 2 + j % 2 = j := by omega
  rw [← he, cellsRn_get fs (j / 2) hi (j % 2) (by omega)] at hu
  obtain ⟨h0, h1⟩ := h (j / 2) hi
  have ha : ((⟨b, off, none⟩ : Addr).add j) = ⟨b, off + j / 2 * 2 + j % 2, none⟩ := by
    rw [Addr.add_lit]
    congr 1
    omega
  rw [ha]
  have h6 : j % 2 = 0 ∨ j % 2 = 1 := by omega
  rcases h6 with h | h <;> rw [h] at hu ⊢ <;> simp at hu <;> subst hu <;> assumption

theorem cellsRn_one {w : World} (fs : List Rn) (hf : ∀ r ∈ fs, Lst w r.2 r.1.doc) : ∀ u ∈ cellsRn fs, u.oneCell' = true := by
  intro u hu
  simp only [cellsRn, List.mem_flatMap] at hu
  obtain ⟨r, hr, hu⟩ := hu
  simp only [List.mem_cons, List.mem_nil_iff, or_false] at hu
  rcases hu with rfl | rfl
  · rfl
  · obtain ⟨ao, cap, e, _⟩ := hf r hr
    rw [e]
    rfl

/-- append to such a row, of documents that lie in the world ahead. -/
theorem ownRn_more (w : World) (B : Nat) (ty : TypeId) (v : Value) (fs : List Rn) (W0 : World) (h : OwnRn B v fs W0 w) (hBW : B = W0.heap.size) (x : Value) (gs : List Rn) (hx : LstR W0 x gs) (hlen : fs.length + gs.length ≤ 100000) :
    ∃ v' w', (Builtin.append_ #[22, 22] ty #[v, x]).run Try.prog w = .ok v' w' ∧ OwnRn B v' (fs ++ gs) W0 w' := by
  obtain ⟨i0, hi, hz0, hz1, hz2⟩ := info_parts Try.info48
  obtain ⟨⟨ao, cap, rfl, hcap, hxs⟩, hdocs⟩ := hx
  have hmem : ∀ r ∈ fs ++ gs, Lst W0 r.2 r.1.doc := fun r hr => by
    rcases List.mem_append.1 hr with hr | hr
    · exact h.2.2.2 r hr
    · exact hdocs r hr
  have key : ∀ v' w', w'.ownsRow B 48 2 v' (fs.length + gs.length) (cellsRn fs ++ cellsRn gs) → w.grownBy w' v.ownBlock → OwnRn B v' (fs ++ gs) W0 w' := by
    intro v' w' h2 h3
    refine ⟨by rw [List.length_append, cellsRn_append]; exact h2, ?_, Nat.le_trans h.2.2.1 h3.size, hmem⟩
    refine ⟨h3.os.trans h.2.1.os, h3.tape.trans h.2.1.tape, h3.output.trans h.2.1.output, Nat.le_trans h.2.1.size h3.size, fun k hk => ?_⟩
    rw [h3.block k (Nat.lt_of_lt_of_le hk h.2.2.1) ?_]
    · exact h.2.1.block k hk
    · intro e
      have := h.1.lt k e.symm
      omega
  rcases hxs with rfl | ⟨b, off, rfl, hb, hl⟩
  · have hrun : (Builtin.append_ #[22, 22] ty #[v, .slice ao 0 cap]).run Try.prog w = .ok v w := by
      rcases h.1.2 with ⟨rfl, hn⟩ | ⟨g, cp, cur, rfl, hbb, hg, hnc, hcm, hcs, htk⟩
      · cases ao <;> simp [Builtin.append_, run_underlying Try.underlying22, sizeOf, typeInfo, hi, Builtin.lenOf, Builtin.firstCells, loadCells, loadCellsFrom]
      · cases ao <;> simp [Builtin.append_, run_underlying Try.underlying22, sizeOf, typeInfo, hi, Builtin.lenOf, Builtin.firstCells, loadCells, loadCellsFrom, hnc, storeCells]
    refine ⟨v, w, by simpa using hrun, ?_⟩
    rw [List.append_nil]
    exact h
  · have hl' := hl.below h.2.1 (by rw [hBW]; exact hb)
    obtain ⟨v', w', h1, h2, h3, _⟩ := run_append_own (P := Try.prog) w B 22 ty 48 i0 _ 2 40 Try.underlying22 hi hz0 hz1 hz2 rfl (by decide) v fs.length (cellsRn fs) h.1 ⟨b, off, none⟩ gs.length cap (cellsRn gs) (cellsRn_length gs) hl'.cells (cellsRn_one gs hdocs) (by unfold maxLen; omega) (by omega) h.2.2.1
    exact ⟨v', w', h1, key v' w' h2 h3⟩

end Go.Proofs.Ytgnhkpihlghbmaa

namespace Go.Proofs.Ytgnhkpihlghbmaa
open Go.RowKit
attribute [local go_sem] cell?_more frozen?_more setCell_more size_more tape_more drew_more drewN_more more_drew more_drewN one_out plus_out plus_end lt_one le_p2 le_p3 le_p4 le_p5 le_p6 le_p7 le_p8 le_p9 le_p10 le_p11 le_p12 le_p13 le_p14 le_p15 le_p16 le_p17 le_p18 le_p19 le_p20 le_p21 le_p22 le_p23 le_p24 le_q0 le_q1 lt_q1 le_q2 lt_q2 le_q3 lt_q3 le_q4 lt_q4 le_q5 lt_q5 le_q6 lt_q6 le_q7 lt_q7 le_q8 lt_q8 le_q9 lt_q9 le_q10 lt_q10 le_q11 lt_q11 le_q12 lt_q12 le_q13 lt_q13 le_q14 lt_q14 le_q15 lt_q15 le_q16 lt_q16 le_q17 lt_q17 le_q18 lt_q18 le_q19 lt_q19 le_q20 lt_q20 le_q21 lt_q21 le_q22 lt_q22 le_q23 lt_q23 le_q24 lt_q24

theorem OwnRn.nil (w : World) : OwnRn w.heap.size (.slice none 0 0) [] w w := ⟨World.ownsRow_nil _ _ _ _, Below.refl _ _, Nat.le_refl _, fun r h => by cases h⟩

theorem ownRn_mapp {ops : Array Oper} {rest : List Oper} {o : Oper} {a : Act} {w : World} {Q : Exit → Act → World → Prop} (hgd : o.guard = none) (s x : Operand) (ho : o.op = .call { callee := .builtin .append, args := #[s, x], argTypes := #[22, 22] })
    {B : Nat} {v : Value} {fs : List Rn} {W0 : World} (h : OwnRn B v fs W0 w) (hBW : B = W0.heap.size) (hs : a.eval s = v) {x' : Value} {gs : List Rn} (hg : LstR W0 x' gs) (hx : a.eval x = x') (hlen : fs.length + gs.length ≤ 100000)
    (hk : ∀ v' w', OwnRn B v' (fs ++ gs) W0 w' → wpList Try.prog ops Q rest (a.put o.dst v') w') : wpList Try.prog ops Q (o :: rest) a w := by
  obtain ⟨v', w', hr, h2⟩ := ownRn_more w B o.type v fs W0 h hBW x' gs hg hlen
  exact Lib.wpList_append_run w hgd s x 22 22 ho v x' hs hx v' w' hr (hk v' w' h2)

set_option maxHeartbeats 1000000 in
set_option maxRecDepth 20000 in
theorem grow_any (n : Nat) (hn : n ≤ 100000) (w : World) :
    Calls Try.prog 48 #[.slice none 0 0, .int .i64 n] w fun e w' => ∃ v, e = .returned v ∧ OwnRn w.heap.size v [] w w' := by
  obtain ⟨i0, hi, hz0, hz1, hz2⟩ := info_parts Try.info48
  by_cases h0 : n = 0
  · subst h0
    go_enter Try.func48, Try.ntmps48
    go_wp2
    go_ret
    exact ⟨_, rfl, OwnRn.nil _⟩
  · have hold : (Builtin.firstCells i0.size 0 (.slice none 0 0)).run Try.prog w.drew = .ok ([] : List Value).toArray w.drew := by
      simp [Builtin.firstCells]
    have hrun := fun ty => Lib.run_append_grow_zeros (P := Try.prog) w 22 3 ty 48 i0 _ .i64 .i64 Try.underlying22 Try.underlying3 hi hz0 none 0 0 [] hold n (by omega) (by omega) (by omega) (by omega) (by rw [hz2]; omega) (by rw [hz2]; exact growslice_fits (by omega) (by omega))
    simp only [Nat.zero_add] at hrun
    have hge := grownCap_ge w n 0 48
    have hle := grownCap_le_maxLen w n 0 48 (by unfold maxLen; omega)
    generalize grownCap w n 0 48 = G at *
    clear hold
    have hpos : (0 : Int) < (n : Int) := by omega
    have hG : (0 : Int) ≤ (G : Int) := by omega
    go_enter Try.func48, Try.ntmps48
    go_wp2_with (at_builtin; refine Lib.wpList_append_run _ rfl _ _ _ _ rfl _ _ rfl rfl _ _ (hrun _) ?_)
    go_ret
    refine ⟨.slice (some ⟨w.heap.size, 0, none⟩) 0 G, rfl, ?_, ((Adds.refl _).alloc _).drew.below, ?_, fun r h => by cases h⟩
    · refine ⟨by simp [cellsRn], .inr ⟨w.heap.size, G, _, rfl, Nat.le_refl _, new_block2 w _, Nat.zero_le _, hle, ?_, by simp [cellsRn]⟩⟩
      simp only [Array.size_append, size_zeroCells]
      simp
      omega
    · show w.heap.size ≤ (w.alloc _).heap.size
      simp

/-- The slices vs, one behind the other in a block, and what each reads as. -/
def Pile (w : World) (blk : Nat) (vs : List (Value × List Rn)) : Prop := blk < w.heap.size ∧ ∀ i (h : i < vs.length), w.cell? ⟨blk, i, none⟩ = some vs[i].1 ∧ LstR w vs[i].1 vs[i].2

def joined (vs : List (Value × List Rn)) : List Rn := vs.flatMap (·.2)

theorem joined_next {vs : List (Value × List Rn)} {k : Nat} (hk : k < vs.length) : joined (vs.take (k + 1)) = joined (vs.take k) ++ vs[k].2 := by
  unfold joined
  rw [List.take_succ_eq_append_getElem hk, List.flatMap_append]
  simp

theorem joined_le (vs : List (Value × List Rn)) (k : Nat) : (joined (vs.take k)).length ≤ (joined vs).length := by
  have h : joined vs = joined (vs.take k) ++ joined (vs.drop k) := by
    unfold joined
    rw [← List.flatMap_append, List.take_append_drop]
  rw [h, List.length_append]
  omega

set_option maxHeartbeats 2000000 in
theorem concat_any (blk cap : Nat) (vs : List (Value × List Rn)) (w : World) (h : Pile w blk vs) (hvs : vs.length ≤ 100) (hlen : (joined vs).length ≤ 1000) :
    Calls Try.prog 25 #[.slice (some ⟨blk, 0, none⟩) vs.length cap] w fun e w' => ∃ v, e = .returned v ∧ OwnRn w.heap.size v (joined vs) w w' := by
  obtain ⟨hblk, hpile⟩ := h
  go_enter Try.func25, Try.ntmps25
  go_wp2
  go_loopw [3, 11] (fun sz i wr => ∃ k : Nat, k ≤ vs.length ∧ i = .int .i64 k ∧ sz = .int .i64 ((joined (vs.take k)).length : Nat) ∧ wr = w) (fun _ i _ => vs.length - (intOf i).toNat)
  case atStart => exact ⟨0, Nat.zero_le _, rfl, rfl, rfl⟩
  case round =>
    obtain ⟨k, hk, rfl, rfl, hw⟩ := hrel
    subst wr
    by_cases hlt : k < vs.length
    · obtain ⟨hc, ⟨ao, cp, he, _, _⟩, _⟩ := hpile k hlt
      rw [he] at hc
      have HJ : Hid _ := joined_next hlt
      have hle := joined_le vs k
      have hle2 := joined_le vs (k + 1)
      rw [joined_next hlt, List.length_append] at hle2
      have HS : Hid (((joined (vs.take (k + 1))).length : Nat) = (joined (vs.take k)).length + (vs[k].2).length) := by
        show _ = _
        rw [joined_next hlt, List.length_append]
      generalize (joined (vs.take k)).length = S at *
      generalize (vs[k].2).length = T at *
      go_wp2
      go_roundw
      case rel => exact ⟨k + 1, by omega, by go_num, by rw [HS.out]; go_num, trivial⟩
      case measure => simp [intOf]; omega
    · have hk' : k = vs.length := by omega
      subst hk'
      rw [List.take_length]
      have hg := grow_any (joined vs).length (by omega) w
      go_wp2_with (go_at_call 48; refine hg.mono ?_; rintro e w1 ⟨v1, rfl, hown⟩)
      clear hg
      go_loopw [6, 27] (fun nv i w2 => ∃ k : Nat, k ≤ vs.length ∧ i = .int .i64 k ∧ OwnRn w.heap.size nv (joined (vs.take k)) w w2) (fun _ i _ => vs.length - (intOf i).toNat)
      case atStart => exact ⟨0, Nat.zero_le _, rfl, hown⟩
      case round =>
        clear hown
        obtain ⟨k, hk, rfl, hown⟩ := hrel
        by_cases hlt : k < vs.length
        · obtain ⟨hc, hl⟩ := hpile k hlt
          have hc := (hown.2.1.cell (p := ⟨blk, k, none⟩) hblk).trans hc
          have HJ : Hid _ := joined_next hlt
          have hle := joined_le vs (k + 1)
          rw [joined_next hlt, List.length_append] at hle
          generalize vs[k].1 = x at *
          generalize vs[k].2 = gs at *
          go_wp2_with (at_builtin; refine ownRn_mapp rfl (.tmp 31) (.tmp 32) rfl hown rfl rfl hl rfl (by omega) ?_; intro v2 w2 hown2)
          go_roundw
          case rel => exact ⟨k + 1, by omega, by go_num, by rw [HJ.out]; exact hown2⟩
          case measure => simp [intOf]; omega
        · have hk' : k = vs.length := by omega
          subst hk'
          rw [List.take_length] at hown
          go_wp2
          go_ret
          exact ⟨_, rfl, hown⟩

end Go.Proofs.Ytgnhkpihlghbmaa
