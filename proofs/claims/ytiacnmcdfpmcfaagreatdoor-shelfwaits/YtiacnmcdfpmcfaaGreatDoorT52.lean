/-
  Rows of changes of the call's own, appended to; a key, a change at a place, and the first changes folded, by contracts.
  The reference's Fold, by contract: what it hands back is new.
  A key, a change at a place, the first changes folded, by contracts; append as one step.
  A shelf in a box that is asked to load or to be fed, by contracts.
-/
import Derived.Test.YtiacnmcdfpmcfaaGreatDoorT51
import Derived.Test.YtiacnmcdfpmcfaaGreatDoorT41
import Derived.Deep.RegionLaw
import Derived.Lib.AppendZeros
import Derived.Test.YtiacnmcdfpmcfaaGreatDoorT50
namespace Go.Proofs.YtiacnmcdfpmcfaaGreatDoor
open Go.RowKit
attribute [local go_sem] cell?_more frozen?_more setCell_more size_more tape_more drew_more drewN_more more_drew more_drewN one_out plus_out plus_end lt_one le_p2 le_p3 le_p4 le_p5 le_p6 le_p7 le_p8 le_p9 le_p10 le_p11 le_p12 le_p13 le_p14 le_p15 le_p16 le_p17 le_p18 le_p19 le_p20 le_p21 le_p22 le_p23 le_p24 le_q0 le_q1 lt_q1 le_q2 lt_q2 le_q3 lt_q3 le_q4 lt_q4 le_q5 lt_q5 le_q6 lt_q6 le_q7 lt_q7 le_q8 lt_q8 le_q9 lt_q9 le_q10 lt_q10 le_q11 lt_q11 le_q12 lt_q12 le_q13 lt_q13 le_q14 lt_q14 le_q15 lt_q15 le_q16 lt_q16 le_q17 lt_q17 le_q18 lt_q18 le_q19 lt_q19 le_q20 lt_q20 le_q21 lt_q21 le_q22 lt_q22 le_q23 lt_q23 le_q24 lt_q24

theorem info36 : (Tryz.prog.info? 36).map (fun i => (i.zero, i.size, i.bytes)) = some (some (.agg #[.int .i64 0, .string ⟨#[]⟩, .bool false, .slice none 0 0]), 4, 56) := by kernel_rfl

/-- A change, and the slice that its document lies at. -/
abbrev Rh := Ch × Value

def cellsH (rs : List Rh) : List Value := rs.flatMap fun r => [.int .i64 r.1.pos, .string r.1.key, .bool r.1.has, r.2]

theorem cellsH_length (rs : List Rh) : (cellsH rs).length = rs.length * 4 := by
  induction rs with
  | nil => rfl
  | cons f r ih =>
    simp only [cellsH, List.flatMap_cons, List.length_append, List.length_cons] at *
    rw [ih]
    simp
    omega

theorem cellsH_append (l t : List Rh) : cellsH (l ++ t) = cellsH l ++ cellsH t := by simp [cellsH]

theorem cellsH_get (fs : List Rh) (i : Nat) (hi : i < fs.length) (r : Nat) (hr : r < 4) : (cellsH fs)[i * 4 + r]? = ([.int .i64 fs[i].1.pos, .string fs[i].1.key, .bool fs[i].1.has, fs[i].2] : List Value)[r]? := by
  induction fs generalizing i with
  | nil => simp at hi
  | cons f t ih =>
    cases i with
    | zero =>
      simp only [cellsH, List.flatMap_cons, Nat.zero_mul, Nat.zero_add, List.getElem_cons_zero]
      rw [List.getElem?_append_left (by simp; omega)]
    | succ i =>
      have hi' : i < t.length := by simpa using hi
      simp only [cellsH, List.flatMap_cons, List.getElem_cons_succ]
      rw [List.getElem?_append_right (by simp; omega)]
      have := ih i hi'
      simp only [cellsH] at this
      rw [← this]
      congr 1
      simp
      omega

/-- The slice v has the changes rs, in a block from B on that the call owns; below B nothing has turned since W0, and there the documents lie. -/
def OwnQ (B : Nat) (v : Value) (rs : List Rh) (W0 w : World) : Prop := w.ownsRow B 36 4 v rs.length (cellsH rs) ∧ Below B W0 w ∧ B ≤ w.heap.size ∧ ∀ r ∈ rs, Lst W0 r.2 r.1.doc

theorem OwnQ.adds {B : Nat} {v : Value} {fs : List Rh} {W0 w w' : World} (h : OwnQ B v fs W0 w) (ha : Adds w w') : OwnQ B v fs W0 w' := by
  have hb := ha.below
  have hg : w.grownBy w' none := ⟨hb.os, hb.tape, hb.output, hb.size, fun k hk _ => hb.block k hk⟩
  refine ⟨h.1.kept hg ?_, h.2.1.trans (hb.mono h.2.2.1), Nat.le_trans h.2.2.1 hb.size, h.2.2.2⟩
  cases v.ownBlock with
  | none => exact .inl rfl
  | some k => exact .inr (by simp)

theorem OwnQ.lit {W0 W : World} {k : Nat} (hA : Adds W0 W) (hk : W0.heap.size ≤ k) (h : W.heap[k]? = some (.cells #[] 36 (0, 0))) : OwnQ W0.heap.size (.slice (some ⟨k, 0, none⟩) 0 0) [] W0 W :=
  ⟨⟨rfl, .inr ⟨k, 0, #[], rfl, hk, h, Nat.le_refl _, by unfold maxLen; omega, rfl, rfl⟩⟩, hA.below, hA.below.size, fun r h => by cases h⟩

theorem OwnQ.lstH {v : Value} {fs : List Rh} {W0 w : World} (h : OwnQ W0.heap.size v fs W0 w) : LstH w v (fs.map (·.1)) := by
  have hA : Adds W0 w := Adds.of h.2.1
  have hc := fun g => h.1.cells (g := g)
  have hlt := h.1.lt
  rcases h.1.2 with ⟨rfl, hn⟩ | ⟨g, cap, cur, rfl, hb, hg, hnc, hcm, hcs, htk⟩
  · have : fs = [] := List.eq_nil_of_length_eq_zero hn
    subst this
    exact ⟨none, 0, rfl, Nat.le_refl _, .inl rfl⟩
  · refine ⟨_, cap, by rw [List.length_map], by rw [List.length_map]; exact hnc, .inr ⟨g, 0, rfl, (hlt g rfl).2, fun j hj => ?_⟩⟩
    have hj' : j < fs.length := by simpa using hj
    have hk := fun r hr u hu => hc g rfl (j * 4 + r) u ((cellsH_get fs j hj' r hr).trans hu)
    simp only [Addr.add_lit] at hk
    refine ⟨fs[j].2, ?_, ?_, ?_, ?_, ?_⟩
    · simpa using hk 0 (by omega) _ rfl
    · simpa [Nat.add_assoc] using hk 1 (by omega) _ rfl
    · simpa [Nat.add_assoc] using hk 2 (by omega) _ rfl
    · simpa [Nat.add_assoc] using hk 3 (by omega) _ rfl
    · rw [List.getElem_map]
      exact (h.2.2.2 _ (List.getElem_mem hj')).adds hA

/-- The rows of a list of changes. -/
theorem LstH.rows {w : World} {ao : Option Addr} {n cap : Nat} {cs : List Ch} (h : LstH w (.slice ao n cap) cs) : n = cs.length ∧ n ≤ cap ∧ ∃ rs : List Rh, rs.map (·.1) = cs ∧ (∀ r ∈ rs, Lst w r.2 r.1.doc) ∧ (cs = [] ∨ ∃ b off, ao = some ⟨b, off, none⟩ ∧ b < w.heap.size ∧ ∀ j u, (cellsH rs)[j]? = some u → w.cell? ⟨b, off + j, none⟩ = some u) := by
  obtain ⟨ao', cap', e, hc, hx⟩ := h
  simp only [Value.slice.injEq] at e
  obtain ⟨rfl, rfl, rfl⟩ := e
  refine ⟨rfl, hc, ?_⟩
  rcases hx with rfl | ⟨b, off, rfl, hb, hl⟩
  · exact ⟨[], rfl, fun r h => (by cases h), .inl rfl⟩
  · let X : Nat → Value := fun j => if h : j < cs.length then (hl j h).choose else .bool false
    have hX : ∀ j (h : j < cs.length), w.cell? ⟨b, off + j * 4, none⟩ = some (.int .i64 cs[j].pos) ∧ w.cell? ⟨b, off + j * 4 + 1, none⟩ = some (.string cs[j].key) ∧ w.cell? ⟨b, off + j * 4 + 2, none⟩ = some (.bool cs[j].has) ∧ w.cell? ⟨b, off + j * 4 + 3, none⟩ = some (X j) ∧ Lst w (X j) cs[j].doc := fun j h => by
      have : X j = (hl j h).choose := by simp [X, h]
      rw [this]
      exact (hl j h).choose_spec
    refine ⟨cs.mapIdx fun j c => (c, X j), ?_, ?_, .inr ⟨b, off, rfl, hb, ?_⟩⟩
    · apply List.ext_getElem
      · simp
      · intro i h1 h2
        simp
    · intro r hr
      obtain ⟨j, hj, rfl⟩ := List.mem_mapIdx.1 hr
      exact (hX j hj).2.2.2.2
    · intro j u hu
      have hlen : j < cs.length * 4 := by
        have := (List.getElem?_eq_some_iff.1 hu).1
        rw [cellsH_length] at this
        simpa using this
      have hq : j / 4 < cs.length := by omega
      have hr : j % 4 < 4 := by omega
      have hg := cellsH_get (cs.mapIdx fun j c => (c, X j)) (j / 4) (by simpa using hq) (j % 4) hr
      rw [show j / 4 * 4 + j % 4 = j by omega, hu] at hg
      simp only [List.getElem_mapIdx] at hg
      obtain ⟨x0, x1, x2, x3, _⟩ := hX (j / 4) hq
      have hj4 : j % 4 = 0 ∨ j % 4 = 1 ∨ j % 4 = 2 ∨ j % 4 = 3 := by omega
      rcases hj4 with e | e | e | e
      · rw [e] at hg; simp at hg; subst hg; rw [show off + j = off + j / 4 * 4 by omega]; exact x0
      · rw [e] at hg; simp at hg; subst hg; rw [show off + j = off + j / 4 * 4 + 1 by omega]; exact x1
      · rw [e] at hg; simp at hg; subst hg; rw [show off + j = off + j / 4 * 4 + 2 by omega]; exact x2
      · rw [e] at hg; simp at hg; subst hg; rw [show off + j = off + j / 4 * 4 + 3 by omega]; exact x3

theorem cellsH_one {w : World} (rs : List Rh) (h : ∀ r ∈ rs, Lst w r.2 r.1.doc) : ∀ u ∈ cellsH rs, u.oneCell' = true := by
  intro u hu
  simp only [cellsH, List.mem_flatMap] at hu
  obtain ⟨f, hm, hf⟩ := hu
  simp only [List.mem_cons, List.mem_nil_iff, or_false] at hf
  rcases hf with rfl | rfl | rfl | rfl
  · rfl
  · rfl
  · rfl
  · obtain ⟨ao, cap, e, _⟩ := h f hm
    rw [e]
    rfl

/-- append to such a row of changes that lie at an address. -/
theorem ownQ_append (w : World) (B : Nat) (ty : TypeId) (v : Value) (fs : List Rh) (W0 : World) (h : OwnQ B v fs W0 w) (a : Addr) (n cap : Nat) (gs : List Rh) (hn : gs.length = n) (hcl : ∀ j u, (cellsH gs)[j]? = some u → w.cell? (a.add j) = some u) (hr : ∀ r ∈ gs, Lst W0 r.2 r.1.doc) (hlen : fs.length + gs.length ≤ 100000) :
    ∃ v' w', (Builtin.append_ #[29, 29] ty #[v, .slice (some a) n cap]).run Tryz.prog w = .ok v' w' ∧ OwnQ B v' (fs ++ gs) W0 w' ∧ w.grownBy w' v.ownBlock := by
  subst hn
  obtain ⟨i0, hi, hz0, hz1, hz2⟩ := info_parts info36
  obtain ⟨v', w', h1, h2, h3, _⟩ := run_append_own (P := Tryz.prog) w B 29 ty 36 i0 _ 4 56 Tryz.underlying29 hi hz0 hz1 hz2 rfl (by decide) v fs.length (cellsH fs) h.1 a gs.length cap (cellsH gs) (cellsH_length gs) hcl (cellsH_one gs hr) (by unfold maxLen; omega) (by omega) h.2.2.1
  refine ⟨v', w', h1, ?_, h3⟩
  refine ⟨by rw [List.length_append, cellsH_append]; exact h2, ?_, Nat.le_trans h.2.2.1 h3.size, fun x hx => ?_⟩
  · refine ⟨h3.os.trans h.2.1.os, h3.tape.trans h.2.1.tape, h3.output.trans h.2.1.output, Nat.le_trans h.2.1.size h3.size, fun q hq => ?_⟩
    rw [h3.block q (Nat.lt_of_lt_of_le hq h.2.2.1) ?_]
    · exact h.2.1.block q hq
    · intro e
      have := h.1.lt q e.symm
      omega
  · rcases List.mem_append.1 hx with hx | hx
    · exact h.2.2.2 x hx
    · exact hr x hx

/-- A slice that lies in no block that was there. -/
def FreshD (w : World) (v : Value) : Prop := ∀ a n c, v = .slice (some a) n c → w.heap.size ≤ a.block

theorem fresh_own {B : Nat} {v : Value} {rs : List Rn} {W0 W w : World} (h : OwnRn B v rs W0 w) (hB : W.heap.size ≤ B) : FreshD W v := by
  intro a n c e
  rcases h.1.2 with ⟨rfl, _⟩ | ⟨g, cap, cur, rfl, hb, _⟩
  · cases e
  · simp only [Value.slice.injEq, Option.some.injEq] at e
    obtain ⟨rfl, _, _⟩ := e
    exact Nat.le_trans hB hb

set_option maxHeartbeats 4000000 in
set_option maxRecDepth 20000 in
theorem fold_fresh (s : Value) (ds : List Dn) (pos : Int) (key : ByteArray) (has : Bool) (dv : Value) (doc : List F) (w : World) (h : LstD w s ds) (hd : Lst w dv doc) (hle : ds.length ≤ 500) :
    Calls Tryz.prog 41 #[s, .agg #[.int .i64 pos, .string key, .bool has, dv]] w fun e w' => (∃ v, e = .returned v ∧ LstD w' v (foldD ds key has doc) ∧ FreshD w v) ∧ Adds w w' := by
  have hd1 := fun o => hd.adds ((Adds.refl w).alloc o)
  have HD : Hid (∀ o, Lst (w.alloc o) dv doc) := hd1
  obtain ⟨ao, cap, rfl, hcap, hlo⟩ := h
  obtain ⟨vo, vc, rfl, _, _⟩ := hd
  clear hd1
  have HF : Hid (foldD ds key has doc = foldGo key doc (!has) ds) := rfl
  generalize doc.length = nd at *
  go_enter Tryz.func41, Tryz.ntmps41
  go_wp2
  obtain ⟨W, hW⟩ : ∃ W, W = w.alloc (.cells #[.int .i64 pos, .string key, .bool has, .slice vo nd vc] 36) := ⟨_, rfl⟩
  have hdW : Lst W (.slice vo nd vc) doc := by rw [hW]; exact HD.out _
  have hWs : W.heap.size = w.heap.size + 1 := by rw [hW]; simp
  have e1 : W.cell? ⟨w.heap.size, 1, none⟩ = some (.string key) := by rw [hW]; simp
  have e2 : W.cell? ⟨w.heap.size, 2, none⟩ = some (.bool has) := by rw [hW]; simp
  have e3 : W.cell? ⟨w.heap.size, 3, none⟩ = some (.slice vo nd vc) := by rw [hW]; simp
  have hWA : Adds w W := by rw [hW]; exact (Adds.refl w).alloc _
  rw [← hW]
  have HS : Hid (W.heap.size = w.heap.size + 1) := hWs
  have HWA : Hid (Adds w W) := hWA
  clear hW HD hWs hWA
  go_loopw [5, 6, 7] (fun nv pv i wr => ∃ (j : Nat) (put : Bool) (rs : List Rn), j ≤ ds.length ∧ i = .int .i64 j ∧ pv = .bool put ∧ OwnRn W.heap.size nv rs W wr ∧ Hid (foldD ds key has doc = rs.map (·.1) ++ foldGo key doc put (ds.drop j)) ∧ rs.length ≤ 2 * j) (fun _ _ i _ => ds.length - (intOf i).toNat)
  case atStart => exact ⟨0, !has, [], Nat.zero_le _, rfl, by simp, by first | (have := OwnRn.empty W; rw [HS.out] at this ⊢; exact this) | (have := OwnRn.empty W; exact this), by simpa using HF, by simp⟩
  case round =>
    obtain ⟨j, put, rs, hj, rfl, rfl, hown, HI, hrl⟩ := hrel
    have hAr : Adds W wr := Adds.of hown.2.1
    have hwl : w.heap.size < wr.heap.size := by
      have h1 := HS.out
      have := hAr.below.size
      omega
    have d1 : wr.cell? ⟨w.heap.size, 1, none⟩ = some (.string key) := (hAr.below.cell (p := ⟨w.heap.size, 1, none⟩) (by show w.heap.size < W.heap.size; rw [HS.out]; omega)).trans e1
    have d3 : wr.cell? ⟨w.heap.size, 3, none⟩ = some (.slice vo nd vc) := (hAr.below.cell (p := ⟨w.heap.size, 3, none⟩) (by show w.heap.size < W.heap.size; rw [HS.out]; omega)).trans e3
    have HAr : Hid (Adds W wr) := hAr
    clear hAr
    by_cases hlt : j < ds.length
    · rcases hlo with rfl | ⟨b, off, rfl, hbb, hl⟩
      · simp at hlt
      have hlW := hl.adds HWA.out hbb
      obtain ⟨v, c0', c1', hdoc⟩ := hlW j hlt
      have hbW : b < W.heap.size := by rw [HS.out]; omega
      have c0 := (HAr.out.below.cell (p := ⟨b, off + j * 2, none⟩) hbW).trans c0'
      have c1 := (HAr.out.below.cell (p := ⟨b, off + j * 2 + 1, none⟩) hbW).trans c1'
      have HG0 : Hid (W.cell? ⟨b, off + j * 2, none⟩ = some (.string ds[j].key)) := c0'
      have HG1 : Hid (W.cell? ⟨b, off + j * 2 + 1, none⟩ = some v) := c1'
      have hbl : b < wr.heap.size := Nat.lt_of_lt_of_le hbW HAr.out.below.size
      have HDOC : Hid (Lst W v ds[j].doc) := hdoc
      obtain ⟨uo, uc, rfl, _, _⟩ := hdoc
      have HN := foldGo_next (key := key) (doc := doc) (put := put) hlt
      have HI2 : Hid (foldD ds key has doc = rs.map (·.1) ++ ((if !put && !lessP ds[j].key key then [⟨key, doc⟩] else []) ++ (if ds[j].key.toList = key.toList then [] else [ds[j]]) ++ foldGo key doc (put || !lessP ds[j].key key) (ds.drop (j + 1)))) := by
        show _ = _
        rw [HI.out, HN]
      clear HN HI hlW c0' c1'
      have hlt' : (j : Int) < (ds.length : Int) := by omega
      generalize ds[j] = x at *
      obtain ⟨b1, h1⟩ : ∃ b1, Op.bytesLess x.key.toList key.toList = b1 := ⟨_, rfl⟩
      have HL : Hid (lessP x.key key = b1) := h1
      rw [HL.out] at HI2
      generalize x.doc.length = nx at *
      by_cases he : x.key.toList = key.toList
      · have he1 : (x.key.toList == key.toList) = true := by simpa using he
        have he2 : (x.key.toList != key.toList) = false := by simpa using he
        have HE : Hid _ := he
        clear he
        cases put
        · cases b1
          · go_wp2
            go_quiet (fail)
            go_wp2_with (at_builtin; refine ownRn_app rfl (.tmp 30) (.tmp 36) rfl (hown.adds (by repeat (first | with_reducible exact Adds.refl _ | with_reducible refine Adds.alloc ?_ _ | with_reducible refine Adds.more ?_ _ _ | with_reducible refine Adds.drew ?_ | with_reducible refine Adds.drewN ?_ _))) rfl ((⟨key, doc⟩ : Dn), Value.slice vo nd vc) rfl (at_new49 _ _ _ _ (by simp [go_sem])) hdW (by omega) ?_; intro v2 w2 hown2)
            have HA2 : Hid (Adds W w2) := Adds.of hown2.2.1
            have f1 : w2.cell? ⟨w.heap.size, 1, none⟩ = some (.string key) := (HA2.out.below.cell (p := ⟨w.heap.size, 1, none⟩) (by show w.heap.size < W.heap.size; rw [HS.out]; omega)).trans e1
            have f2 : w2.cell? ⟨b, off + j * 2, none⟩ = some (.string x.key) := (HA2.out.below.cell (p := ⟨b, off + j * 2, none⟩) hbW).trans HG0.out
            have f3 : w2.cell? ⟨b, off + j * 2 + 1, none⟩ = some (.slice uo nx uc) := (HA2.out.below.cell (p := ⟨b, off + j * 2 + 1, none⟩) hbW).trans HG1.out
            have f4 : b < w2.heap.size := Nat.lt_of_lt_of_le hbW HA2.out.below.size
            have f5 : w.heap.size < w2.heap.size := by have h1 := HS.out; have := HA2.out.below.size; omega
            go_quiet (fail)
            go_wp2
            go_roundw
            case rel =>
              refine ⟨j + 1, true, (rs ++ [((⟨key, doc⟩ : Dn), Value.slice vo nd vc)]), by omega, by go_num, by first | rfl | trivial, hown2.adds (by repeat (first | with_reducible exact Adds.refl _ | with_reducible refine Adds.alloc ?_ _ | with_reducible refine Adds.more ?_ _ _ | with_reducible refine Adds.drew ?_ | with_reducible refine Adds.drewN ?_ _)), ?_, by first | omega | (simp only [List.length_append, List.length_singleton]; omega)⟩
              show _ = _
              rw [HI2.out, if_pos HE.out]
              simp
            case measure => simp [intOf]; omega
          · exfalso
            rw [lessP_irr HE.out] at HL
            exact absurd HL.out (by simp)
        · cases b1
          · go_wp2
            go_quiet (fail)
            go_wp2
            go_quiet (fail)
            go_wp2
            go_roundw
            case rel =>
              refine ⟨j + 1, true, rs, by omega, by go_num, by first | rfl | trivial, hown.adds (by repeat (first | with_reducible exact Adds.refl _ | with_reducible refine Adds.alloc ?_ _ | with_reducible refine Adds.more ?_ _ _ | with_reducible refine Adds.drew ?_ | with_reducible refine Adds.drewN ?_ _)), ?_, by first | omega | (simp only [List.length_append, List.length_singleton]; omega)⟩
              show _ = _
              rw [HI2.out, if_pos HE.out]
              simp
            case measure => simp [intOf]; omega
          · exfalso
            rw [lessP_irr HE.out] at HL
            exact absurd HL.out (by simp)
      · have he1 : (x.key.toList == key.toList) = false := by simpa using he
        have he2 : (x.key.toList != key.toList) = true := by simpa using he
        have HE : Hid _ := he
        clear he
        cases put
        · cases b1
          · go_wp2
            go_quiet (fail)
            go_wp2_with (at_builtin; refine ownRn_app rfl (.tmp 30) (.tmp 36) rfl (hown.adds (by repeat (first | with_reducible exact Adds.refl _ | with_reducible refine Adds.alloc ?_ _ | with_reducible refine Adds.more ?_ _ _ | with_reducible refine Adds.drew ?_ | with_reducible refine Adds.drewN ?_ _))) rfl ((⟨key, doc⟩ : Dn), Value.slice vo nd vc) rfl (at_new49 _ _ _ _ (by simp [go_sem])) hdW (by omega) ?_; intro v2 w2 hown2)
            have HA2 : Hid (Adds W w2) := Adds.of hown2.2.1
            have f1 : w2.cell? ⟨w.heap.size, 1, none⟩ = some (.string key) := (HA2.out.below.cell (p := ⟨w.heap.size, 1, none⟩) (by show w.heap.size < W.heap.size; rw [HS.out]; omega)).trans e1
            have f2 : w2.cell? ⟨b, off + j * 2, none⟩ = some (.string x.key) := (HA2.out.below.cell (p := ⟨b, off + j * 2, none⟩) hbW).trans HG0.out
            have f3 : w2.cell? ⟨b, off + j * 2 + 1, none⟩ = some (.slice uo nx uc) := (HA2.out.below.cell (p := ⟨b, off + j * 2 + 1, none⟩) hbW).trans HG1.out
            have f4 : b < w2.heap.size := Nat.lt_of_lt_of_le hbW HA2.out.below.size
            have f5 : w.heap.size < w2.heap.size := by have h1 := HS.out; have := HA2.out.below.size; omega
            go_quiet (fail)
            go_wp2_with (at_builtin; refine ownRn_app rfl (.tmp 46) (.tmp 51) rfl (hown2.adds (by repeat (first | with_reducible exact Adds.refl _ | with_reducible refine Adds.alloc ?_ _ | with_reducible refine Adds.more ?_ _ _ | with_reducible refine Adds.drew ?_ | with_reducible refine Adds.drewN ?_ _))) rfl (x, Value.slice uo nx uc) rfl (at_new49 _ _ _ _ (by simp [go_sem])) HDOC.out (by first | omega | (simp only [List.length_append, List.length_singleton]; omega)) ?_; intro v3 w3 hown3)
            go_roundw
            case rel =>
              refine ⟨j + 1, true, ((rs ++ [((⟨key, doc⟩ : Dn), Value.slice vo nd vc)]) ++ [(x, Value.slice uo nx uc)]), by omega, by go_num, by first | rfl | trivial, hown3, ?_, by first | omega | (simp only [List.length_append, List.length_singleton]; omega)⟩
              show _ = _
              rw [HI2.out, if_neg HE.out]
              simp
            case measure => simp [intOf]; omega
          · go_wp2
            go_quiet (fail)
            go_wp2
            go_quiet (fail)
            go_wp2_with (at_builtin; refine ownRn_app rfl (.tmp 46) (.tmp 51) rfl (hown.adds (by repeat (first | with_reducible exact Adds.refl _ | with_reducible refine Adds.alloc ?_ _ | with_reducible refine Adds.more ?_ _ _ | with_reducible refine Adds.drew ?_ | with_reducible refine Adds.drewN ?_ _))) rfl (x, Value.slice uo nx uc) rfl (at_new49 _ _ _ _ (by simp [go_sem])) HDOC.out (by first | omega | (simp only [List.length_append, List.length_singleton]; omega)) ?_; intro v3 w3 hown3)
            go_roundw
            case rel =>
              refine ⟨j + 1, false, (rs ++ [(x, Value.slice uo nx uc)]), by omega, by go_num, by first | rfl | trivial, hown3, ?_, by first | omega | (simp only [List.length_append, List.length_singleton]; omega)⟩
              show _ = _
              rw [HI2.out, if_neg HE.out]
              simp
            case measure => simp [intOf]; omega
        · cases b1
          · go_wp2
            go_quiet (fail)
            go_wp2
            go_quiet (fail)
            go_wp2_with (at_builtin; refine ownRn_app rfl (.tmp 46) (.tmp 51) rfl (hown.adds (by repeat (first | with_reducible exact Adds.refl _ | with_reducible refine Adds.alloc ?_ _ | with_reducible refine Adds.more ?_ _ _ | with_reducible refine Adds.drew ?_ | with_reducible refine Adds.drewN ?_ _))) rfl (x, Value.slice uo nx uc) rfl (at_new49 _ _ _ _ (by simp [go_sem])) HDOC.out (by first | omega | (simp only [List.length_append, List.length_singleton]; omega)) ?_; intro v3 w3 hown3)
            go_roundw
            case rel =>
              refine ⟨j + 1, true, (rs ++ [(x, Value.slice uo nx uc)]), by omega, by go_num, by first | rfl | trivial, hown3, ?_, by first | omega | (simp only [List.length_append, List.length_singleton]; omega)⟩
              show _ = _
              rw [HI2.out, if_neg HE.out]
              simp
            case measure => simp [intOf]; omega
          · go_wp2
            go_quiet (fail)
            go_wp2
            go_quiet (fail)
            go_wp2_with (at_builtin; refine ownRn_app rfl (.tmp 46) (.tmp 51) rfl (hown.adds (by repeat (first | with_reducible exact Adds.refl _ | with_reducible refine Adds.alloc ?_ _ | with_reducible refine Adds.more ?_ _ _ | with_reducible refine Adds.drew ?_ | with_reducible refine Adds.drewN ?_ _))) rfl (x, Value.slice uo nx uc) rfl (at_new49 _ _ _ _ (by simp [go_sem])) HDOC.out (by first | omega | (simp only [List.length_append, List.length_singleton]; omega)) ?_; intro v3 w3 hown3)
            go_roundw
            case rel =>
              refine ⟨j + 1, true, (rs ++ [(x, Value.slice uo nx uc)]), by omega, by go_num, by first | rfl | trivial, hown3, ?_, by first | omega | (simp only [List.length_append, List.length_singleton]; omega)⟩
              show _ = _
              rw [HI2.out, if_neg HE.out]
              simp
            case measure => simp [intOf]; omega
    · have hj' : j = ds.length := by omega
      have hlt' : ¬ (j : Int) < (ds.length : Int) := by omega
      rw [hj', List.drop_length] at HI
      cases put
      · go_wp2_with (at_builtin; refine ownRn_app rfl (.tmp 55) (.tmp 61) rfl (hown.adds (by repeat (first | with_reducible exact Adds.refl _ | with_reducible refine Adds.alloc ?_ _ | with_reducible refine Adds.more ?_ _ _ | with_reducible refine Adds.drew ?_ | with_reducible refine Adds.drewN ?_ _))) rfl ((⟨key, doc⟩ : Dn), Value.slice vo nd vc) rfl (at_new49 _ _ _ _ (by simp [go_sem])) hdW (by omega) ?_; intro v2 w2 hown2)
        go_ret
        refine ⟨⟨_, rfl, ?_, fresh_own hown2 (by have := HS.out; omega)⟩, HWA.out.trans (Adds.of hown2.2.1)⟩
        rw [HI.out]
        have := hown2.lstD
        rw [map_fst_one] at this
        exact this
      · go_wp2
        go_ret
        refine ⟨⟨_, rfl, ?_, fresh_own hown (by have := HS.out; omega)⟩, HWA.out.trans (Adds.of hown.2.1)⟩
        rw [HI.out]
        have := hown.lstD
        simpa [foldGo] using this

theorem rkey_any (s : ByteArray) (w : World) : Calls Tryz.prog 19 #[.string s] w fun e w' => e = .returned (.bool (isKey s)) ∧ Adds w w' := by
  unfold isKey
  by_cases h1 : 1 ≤ s.size
  · by_cases h2 : s.size ≤ 64
    · have h1' : (1 : Int) ≤ (s.size : Int) := by omega
      have h2' : (s.size : Int) ≤ 64 := by omega
      rw [decide_eq_true ⟨h1, h2⟩]
      clear h1 h2
      go_enter Tryz.func19, Tryz.ntmps19
      go_wp2
      go_ret
      exact ⟨rfl, (by repeat (first | with_reducible exact Adds.refl _ | with_reducible refine Adds.alloc ?_ _ | with_reducible refine Adds.more ?_ _ _ | with_reducible refine Adds.drew ?_ | with_reducible refine Adds.drewN ?_ _))⟩
    · have h1' : (1 : Int) ≤ (s.size : Int) := by omega
      have h2' : ¬ (s.size : Int) ≤ 64 := by omega
      rw [decide_eq_false (fun h : 1 ≤ s.size ∧ s.size ≤ 64 => h2 h.2)]
      clear h1 h2
      go_enter Tryz.func19, Tryz.ntmps19
      go_wp2
      go_ret
      exact ⟨rfl, (by repeat (first | with_reducible exact Adds.refl _ | with_reducible refine Adds.alloc ?_ _ | with_reducible refine Adds.more ?_ _ _ | with_reducible refine Adds.drew ?_ | with_reducible refine Adds.drewN ?_ _))⟩
  · have h1' : ¬ (1 : Int) ≤ (s.size : Int) := by omega
    rw [decide_eq_false (fun h : 1 ≤ s.size ∧ s.size ≤ 64 => h1 h.1)]
    clear h1
    go_enter Tryz.func19, Tryz.ntmps19
    go_wp2
    go_ret
    exact ⟨rfl, (by repeat (first | with_reducible exact Adds.refl _ | with_reducible refine Adds.alloc ?_ _ | with_reducible refine Adds.more ?_ _ _ | with_reducible refine Adds.drew ?_ | with_reducible refine Adds.drewN ?_ _))⟩

theorem at_any (pos n : Int) (key : ByteArray) (has : Bool) (vo : Option Addr) (vn vc : Nat) (w : World) :
    Calls Tryz.prog 21 #[.agg #[.int .i64 pos, .string key, .bool has, .slice vo vn vc], .int .i64 n] w fun e w' => e = .returned (.agg #[.int .i64 n, .string key, .bool has, .slice vo vn vc]) ∧ Adds w w' := by
  go_enter Tryz.func21, Tryz.ntmps21
  go_wp2
  refine bodyPost_ret (v := .agg #[.int .i64 n, .string key, .bool has, .slice vo vn vc]) (by simp [results, Tryz.results21, go_sem]) rfl ⟨rfl, (by repeat (first | with_reducible exact Adds.refl _ | with_reducible refine Adds.alloc ?_ _ | with_reducible refine Adds.more ?_ _ _ | with_reducible refine Adds.drew ?_ | with_reducible refine Adds.drewN ?_ _))⟩

theorem appQ_step {ops : Array Oper} {o : Oper} {a : Act} {w : World} {K : Act → World → Prop} {Q : Exit → Act → World → Prop} {E : Prop} (hg : o.guard = none) (s x : Operand) (ho : o.op = .call { callee := .builtin .append, args := #[s, x], argTypes := #[29, 29] })
    {B : Nat} {v : Value} {fs : List Rh} {W0 : World} (h : OwnQ B v fs W0 w) (hs : a.eval s = v) {A : Addr} {n cap : Nat} (gs : List Rh) (hx : a.eval x = .slice (some A) n cap) (hn : gs.length = n) (hcl : ∀ j u, (cellsH gs)[j]? = some u → w.cell? (A.add j) = some u) (hr : ∀ r ∈ gs, Lst W0 r.2 r.1.doc) (hlen : fs.length + gs.length ≤ 100000)
    (hK : ∀ v' w', OwnQ B v' (fs ++ gs) W0 w' → w.grownBy w' v.ownBlock → K (a.put o.dst v') w') : if Region.wanted o (yielded ops a.tmps) = true then Oper.wp Tryz.prog o a w K Q else E := by
  rw [if_pos (by simp [Region.wanted, hg])]
  obtain ⟨v', w', hrun, h2, h3⟩ := ownQ_append w B o.type v fs W0 h A n cap gs hn hcl hr hlen
  exact Lib.wp_append_run w s x 29 29 ho v _ hs hx v' w' hrun (hK v' w' h2 h3)

set_option maxRecDepth 20000 in
set_option maxHeartbeats 2000000 in
theorem rFoldN_any (s : Value) (cs : List Ch) (m : Nat) (w : World) (h : LstH w s cs) (hle : cs.length ≤ 100) (hm : m ≤ cs.length) :
    Calls Tryz.prog 22 #[s, .int .i64 m] w fun e w' => (∃ vo vn vc, e = .returned (.slice vo vn vc) ∧ Hid (LstD w' (.slice vo vn vc) (foldN [] (cs.take m))) ∧ Hid (FreshD w (.slice vo vn vc))) ∧ Adds w w' := by
  obtain ⟨ao, cap, rfl, hcap, hlo⟩ := h
  go_enter Tryz.func22, Tryz.ntmps22
  go_wp2
  go_loopw [5, 6] (fun dv i wr => ∃ k : Nat, k ≤ m ∧ i = .int .i64 k ∧ Slc dv ∧ Hid (LstD wr dv (foldN [] (cs.take k))) ∧ Hid (FreshD w dv) ∧ Adds w wr) (fun _ i _ => m - (intOf i).toNat)
  case atStart => exact ⟨0, Nat.zero_le _, rfl, ⟨_, _, _, rfl⟩, ⟨_, _, rfl, Nat.le_refl _, .inl rfl⟩, (fun a n c e => by simp only [Value.slice.injEq, Option.some.injEq] at e; obtain ⟨rfl, _, _⟩ := e; simp [go_sem]), (by repeat (first | with_reducible exact Adds.refl _ | with_reducible refine Adds.alloc ?_ _ | with_reducible refine Adds.more ?_ _ _ | with_reducible refine Adds.drew ?_ | with_reducible refine Adds.drewN ?_ _))⟩
  case round =>
    obtain ⟨k, hk, rfl, ⟨da, dn, dc, rfl⟩, hD, hFr, hA⟩ := hrel
    have HA : Hid (Adds w wr) := hA
    clear hA
    by_cases hlt : k < m
    · have hltc : k < cs.length := by omega
      rcases hlo with rfl | ⟨b, off, rfl, hb, hll⟩
      · simp at hltc
      obtain ⟨v, c0, c1, c2, c3, hdoc⟩ := hll.adds HA.out hb k hltc
      have hbl : b < wr.heap.size := Nat.lt_of_lt_of_le hb HA.out.below.size
      have h1 : (k : Int) < (cs.length : Int) := by omega
      have h2 : (k : Int) < (m : Int) := by omega
      have hln : (foldN [] (cs.take k)).length ≤ 500 := by
        have := foldN_length [] (cs.take k)
        simp only [List.length_take, List.length_nil] at this
        omega
      have kF := fun W (hA : Adds wr W) => fold_fresh (.slice da dn dc) (foldN [] (cs.take k)) cs[k].pos cs[k].key cs[k].has v cs[k].doc W (hD.out.adds hA) (hdoc.adds hA) hln
      rw [← foldN_take (ds := []) hltc] at kF
      have kF' : ∀ W, Adds wr W → Calls Tryz.prog 41 #[.slice da dn dc, .agg #[.int .i64 cs[k].pos, .string cs[k].key, .bool cs[k].has, v]] W fun e w' => (∃ vo vn vc, e = .returned (.slice vo vn vc) ∧ Hid (LstD w' (.slice vo vn vc) (foldN [] (cs.take (k + 1)))) ∧ Hid (FreshD w (.slice vo vn vc))) ∧ Adds W w' := fun W hA =>
        (kF W hA).mono (by
          rintro e w' ⟨⟨v, rfl, hv, hf⟩, hA2⟩
          obtain ⟨ao, cap, rfl, _, _⟩ := id hv
          exact ⟨⟨ao, _, cap, rfl, hv, fun a n c e => Nat.le_trans (HA.out.trans hA).below.size (hf a n c e)⟩, hA2⟩)
      obtain ⟨vo, vc, rfl, _, _⟩ := hdoc
      clear kF hln hll hD hFr
      generalize cs[k].pos = ps at *
      generalize cs[k].key = ky at *
      generalize cs[k].has = hs at *
      generalize cs[k].doc.length = nd at *
      go_wp2_with (go_at_call 41; refine (kF' _ (by repeat (first | with_reducible exact Adds.refl _ | with_reducible refine Adds.alloc ?_ _ | with_reducible refine Adds.more ?_ _ _ | with_reducible refine Adds.drew ?_ | with_reducible refine Adds.drewN ?_ _))).mono ?_; rintro e w2 ⟨⟨fo, fn, fc, rfl, H2, H3⟩, os2, n2, rfl⟩)
      go_roundw
      case rel => exact ⟨k + 1, by omega, by go_num, ⟨_, _, _, rfl⟩, (by show LstD _ _ _; exact H2.out.adds (by repeat (first | with_reducible exact Adds.refl _ | with_reducible refine Adds.alloc ?_ _ | with_reducible refine Adds.more ?_ _ _ | with_reducible refine Adds.drew ?_ | with_reducible refine Adds.drewN ?_ _))), H3, HA.out.trans (by repeat (first | with_reducible exact Adds.refl _ | with_reducible refine Adds.alloc ?_ _ | with_reducible refine Adds.more ?_ _ _ | with_reducible refine Adds.drew ?_ | with_reducible refine Adds.drewN ?_ _))⟩
      case measure => simp [intOf]; omega
    · have hk' : k = m := by omega
      subst hk'
      have h2 : ¬ (k : Int) < (k : Int) := by omega
      clear hlo
      by_cases h3 : (k : Int) < (cs.length : Int)
      · go_wp2
        go_ret
        exact ⟨⟨_, _, _, rfl, hD, hFr⟩, HA.out.trans (by repeat (first | with_reducible exact Adds.refl _ | with_reducible refine Adds.alloc ?_ _ | with_reducible refine Adds.more ?_ _ _ | with_reducible refine Adds.drew ?_ | with_reducible refine Adds.drewN ?_ _))⟩
      · go_wp2
        go_ret
        exact ⟨⟨_, _, _, rfl, hD, hFr⟩, HA.out.trans (by repeat (first | with_reducible exact Adds.refl _ | with_reducible refine Adds.alloc ?_ _ | with_reducible refine Adds.more ?_ _ _ | with_reducible refine Adds.drew ?_ | with_reducible refine Adds.drewN ?_ _))⟩

/-- The shelf behind a loading, and behind a feeding. -/
def loadS (s : Shl) (n : Int) (es : List Sh.F) : Shl := if n < s.mark then s else ⟨s.df, s.rdy, n, es⟩
def loadC (s : Shl) (n : Int) : Int := if n < s.mark then 8 else 0
def feedS (s : Shl) (n m : Int) (es : List Sh.F) : Shl := if n = s.mark then ⟨s.df, s.rdy, n + m, es⟩ else s
def feedC (s : Shl) (n : Int) : Int := if n = s.mark then 0 else 8

theorem load_told (s : Shl) (v : Value) (g : Nat) (o : Ov) (ds : List Dn) (xs : List E) (w : World) (hb : ShlBox w g s v) (hv : Sh.Lst w v s.es) (ho : o.Sl) (hs : s.df.size ≤ 2000) (hp : parseA s.df.toList = .ok xs) (hd : LstD w o.sv ds) (hl : ds.length ≤ 200) (hM : MayD ds) (hc : countB o.n = true) :
    Calls Tryz.prog 43 #[ptrS g, o.val] w fun e w' => e = .returned (.int .i64 (loadC s o.n)) ∧ BoxT w g (loadS s o.n (Sh.sortE (ents xs ds))) w' := by
  have hu : Slc v := by
    obtain ⟨a, c, rfl, _⟩ := hv
    exact ⟨_, _, _, rfl⟩
  unfold loadS loadC
  by_cases h : o.n < s.mark
  · rw [if_pos h, if_pos h]
    exact (load_old s v g o ds xs w hb ho hs hp hd hl hM hc h).mono (by
      rintro e w' ⟨rfl, hA⟩
      exact ⟨rfl, grown_by hA _, v, hu, hb.adds hA, hv.adds hA⟩)
  · rw [if_neg h, if_neg h]
    exact (load_new s v g o ds xs w hb ho hs hp hd hl hM hc hu h).mono (by
      rintro e w' ⟨rfl, hG, v', h1, h2⟩
      obtain ⟨a, c, rfl, _⟩ := id h2
      exact ⟨rfl, hG, _, ⟨_, _, _, rfl⟩, h1, h2⟩)

theorem feed_told (s : Shl) (v : Value) (g : Nat) (o : Ov) (cs : List Ch) (xs : List E) (ds : List Dn) (w : World) (hb : ShlBox w g s v) (ho : o.Sl) (hs : s.df.size ≤ 2000) (hp : parseA s.df.toList = .ok xs) (hes : s.es = Sh.sortE (ents xs ds)) (hv : Sh.Lst w v s.es) (hM : MayD ds) (hdl : ds.length ≤ 100) (hc : LstH w o.nv cs) (hn : Fed o.n cs) (h16 : cs.length ≤ 16) (h0 : 0 ≤ o.n) (h1 : o.n ≤ 100000) :
    Calls Tryz.prog 44 #[ptrS g, o.val] w fun e w' => e = .returned (.int .i64 (feedC s o.n)) ∧ BoxT w g (feedS s o.n cs.length (Sh.sortE (ents xs (foldN ds cs)))) w' := by
  have hu : Slc v := by
    obtain ⟨a, c, rfl, _⟩ := hv
    exact ⟨_, _, _, rfl⟩
  unfold feedS feedC
  by_cases h : o.n = s.mark
  · rw [if_pos h, if_pos h]
    exact (feed_new s v g o cs xs ds w hb ho hs hp hes hv hM hdl hc hn h16 h0 h1 h).mono (by
      rintro e w' ⟨rfl, hG, v', h1, h2, h3⟩
      exact ⟨rfl, hG, v', h1, h2, h3⟩)
  · rw [if_neg h, if_neg h]
    exact (feed_old s v g o cs w hb ho hc hn h16 h0 h1 h).mono (by
      rintro e w' ⟨rfl, hA⟩
      exact ⟨rfl, grown_by hA _, v, hu, hb.adds hA, hv.adds hA⟩)

/-- The answer laid into its box. -/
def setAns (w : World) (r : Nat) (c : Int) : World := ((((((((w.setCell ⟨r, 0, none⟩ (.int .i64 c)).setCell ⟨r, 1, none⟩ (.bool false)).setCell ⟨r, 2, none⟩ (.slice none 0 0)).setCell ⟨r, 3, none⟩ (.slice none 0 0)).setCell ⟨r, 4, none⟩ (.slice none 0 0)).setCell ⟨r, 5, none⟩ (.int .i64 0)).setCell ⟨r, 6, none⟩ (.int .i64 0)).setCell ⟨r, 7, none⟩ (.slice none 0 0))

theorem setAns_oth (w : World) (r : Nat) (c : Int) : Oth r w (setAns w r c) := by
  unfold setAns
  exact (((((((((Oth.refl r w).set).set).set).set).set).set).set).set)

theorem setAns_more (w : World) (r : Nat) (c : Int) : (setAns w r c).os = w.os ∧ (setAns w r c).tape = w.tape ∧ (setAns w r c).output = w.output := by
  unfold setAns
  have h1 : ∀ (X : World) (a : Addr) (v : Value), (X.setCell a v).os = X.os := fun _ _ _ => rfl
  have h2 : ∀ (X : World) (a : Addr) (v : Value), (X.setCell a v).tape = X.tape := fun _ _ _ => rfl
  have h3 : ∀ (X : World) (a : Addr) (v : Value), (X.setCell a v).output = X.output := fun _ _ _ => rfl
  exact ⟨by simp only [h1], by simp only [h2], by simp only [h3]⟩

theorem at_second (w : World) (a b : Obj) : ((w.alloc a).alloc b).heap[w.heap.size + 1]? = some b := by
  have := Sh.new_block2 (w.alloc a) b
  simpa using this

theorem boxT_end {w W w2 : World} {g r : Nat} {s' : Shl} {c : Int} (hA : Adds w W) (h : BoxT W g s' w2) (hr : W.heap[r]? = some ansBox) (hrw : w.heap.size ≤ r) (hg : g < w.heap.size) : BoxT w g s' (setAns w2 r c) := by
  have hlt := (Array.getElem?_eq_some_iff.1 hr).1
  have h2 : w2.heap[r]? = some ansBox := (h.1.block r hlt (fun e => by have := Option.some.inj e; omega)).trans hr
  exact (h.grown hA).oth (setAns_oth w2 r c) hrw (fun v' _ hl => pairs_rbox h2 hl (setAns_oth w2 r c)) (setAns_more w2 r c).1 (setAns_more w2 r c).2.1 (setAns_more w2 r c).2.2 hg

set_option maxRecDepth 20000 in
set_option maxHeartbeats 4000000 in
theorem ask_load (s : Shl) (v : Value) (g : Nat) (o : Ov) (ds : List Dn) (xs : List E) (w : World) (hb : ShlBox w g s v) (hv : Sh.Lst w v s.es) (ho : o.Sl) (hk : o.kind = 101) (hs : s.df.size ≤ 2000) (hp : parseA s.df.toList = .ok xs) (hd : LstD w o.sv ds) (hl : ds.length ≤ 200) (hM : MayD ds) (hc : countB o.n = true) :
    Calls Tryz.prog 27 #[ptrS g, o.val] w fun e w' => e = .returned (ansV (loadC s o.n) 0 (.slice none 0 0)) ∧ BoxT w g (loadS s o.n (Sh.sortE (ents xs ds))) w' := by
  have kL := fun W (hA : Adds w W) => load_told s v g o ds xs W (hb.adds hA) (hv.adds hA) ho hs hp (hd.adds hA) hl hM hc
  obtain ⟨hg, _⟩ := hb.cells
  generalize loadC s o.n = c at *
  generalize loadS s o.n (Sh.sortE (ents xs ds)) = s' at *
  obtain ⟨kind, key, to, dv, wv, has, n, most, lv, sv, nv⟩ := o
  simp only [Ov.val, Ov.Sl, Slc] at *
  obtain ⟨⟨_, _, _, rfl⟩, ⟨_, _, _, rfl⟩, ⟨_, _, _, rfl⟩, ⟨_, _, _, rfl⟩, ⟨_, _, _, rfl⟩⟩ := ho
  subst hk
  clear hb hv hd hp hM hc hs hl
  go_enter Tryz.func27, Tryz.ntmps27
  go_wp2_with (go_at_call 43; refine (kL _ (by repeat (first | with_reducible exact Adds.refl _ | with_reducible refine Adds.alloc ?_ _ | with_reducible refine Adds.more ?_ _ _ | with_reducible refine Adds.drew ?_ | with_reducible refine Adds.drewN ?_ _))).mono ?_; rintro e w2 ⟨rfl, h2⟩; obtain ⟨hlt2, ⟨z0, z1, z2, z3, z4, z5, z6, z7⟩, y0, y1, y2, y3, y4, y5, y6, y7⟩ := rbox_kept (r := w.heap.size + 1) h2.1 (at_second _ _ _) (by omega); have H2 : Hid _ := h2; clear h2)
  refine bodyPost_ret (v := ansV c 0 (.slice none 0 0)) (by simp [results, Tryz.results27, go_sem, ansV, z0, z1, z2, z3, z4, z5, z6, z7]) rfl ⟨rfl, ?_⟩
  exact boxT_end (r := w.heap.size + 1) (c := c) (by repeat (first | with_reducible exact Adds.refl _ | with_reducible refine Adds.alloc ?_ _ | with_reducible refine Adds.more ?_ _ _ | with_reducible refine Adds.drew ?_ | with_reducible refine Adds.drewN ?_ _)) H2.out (at_second _ _ _) (by omega) hg

set_option maxRecDepth 20000 in
set_option maxHeartbeats 4000000 in
theorem ask_feed (s : Shl) (v : Value) (g : Nat) (o : Ov) (cs : List Ch) (xs : List E) (ds : List Dn) (w : World) (hb : ShlBox w g s v) (hv : Sh.Lst w v s.es) (ho : o.Sl) (hk : o.kind = 102) (hs : s.df.size ≤ 2000) (hp : parseA s.df.toList = .ok xs) (hes : s.es = Sh.sortE (ents xs ds)) (hM : MayD ds) (hdl : ds.length ≤ 100) (hc : LstH w o.nv cs) (hn : Fed o.n cs) (h16 : cs.length ≤ 16) (h0 : 0 ≤ o.n) (h1 : o.n ≤ 100000) :
    Calls Tryz.prog 27 #[ptrS g, o.val] w fun e w' => e = .returned (ansV (feedC s o.n) 0 (.slice none 0 0)) ∧ BoxT w g (feedS s o.n cs.length (Sh.sortE (ents xs (foldN ds cs)))) w' := by
  have kL := fun W (hA : Adds w W) => feed_told s v g o cs xs ds W (hb.adds hA) ho hs hp hes (hv.adds hA) hM hdl (hc.adds hA) hn h16 h0 h1
  obtain ⟨hg, _⟩ := hb.cells
  generalize feedC s o.n = c at *
  generalize feedS s o.n cs.length (Sh.sortE (ents xs (foldN ds cs))) = s' at *
  obtain ⟨kind, key, to, dv, wv, has, n, most, lv, sv, nv⟩ := o
  simp only [Ov.val, Ov.Sl, Slc] at *
  obtain ⟨⟨_, _, _, rfl⟩, ⟨_, _, _, rfl⟩, ⟨_, _, _, rfl⟩, ⟨_, _, _, rfl⟩, ⟨_, _, _, rfl⟩⟩ := ho
  subst hk
  clear hb hv hp hM hc hs hes hn h16 h0 h1 hdl
  go_enter Tryz.func27, Tryz.ntmps27
  go_wp2_with (go_at_call 44; refine (kL _ (by repeat (first | with_reducible exact Adds.refl _ | with_reducible refine Adds.alloc ?_ _ | with_reducible refine Adds.more ?_ _ _ | with_reducible refine Adds.drew ?_ | with_reducible refine Adds.drewN ?_ _))).mono ?_; rintro e w2 ⟨rfl, h2⟩; obtain ⟨hlt2, ⟨z0, z1, z2, z3, z4, z5, z6, z7⟩, y0, y1, y2, y3, y4, y5, y6, y7⟩ := rbox_kept (r := w.heap.size + 1) h2.1 (at_second _ _ _) (by omega); have H2 : Hid _ := h2; clear h2)
  refine bodyPost_ret (v := ansV c 0 (.slice none 0 0)) (by simp [results, Tryz.results27, go_sem, ansV, z0, z1, z2, z3, z4, z5, z6, z7]) rfl ⟨rfl, ?_⟩
  exact boxT_end (r := w.heap.size + 1) (c := c) (by repeat (first | with_reducible exact Adds.refl _ | with_reducible refine Adds.alloc ?_ _ | with_reducible refine Adds.more ?_ _ _ | with_reducible refine Adds.drew ?_ | with_reducible refine Adds.drewN ?_ _)) H2.out (at_second _ _ _) (by omega) hg

end Go.Proofs.YtiacnmcdfpmcfaaGreatDoor
