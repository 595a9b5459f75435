/-
  The statements' own measures: Docs and Light of the laws of layer 12. The measure Light of the laws of layer 12, of anything that is asked as it is handed in.
-/
import Derived.Test.YtgnhkpihlghbmaaSex
namespace Go.Proofs.Ytgnhkpihlghbmaa
open Go.RowKit
attribute [local go_sem] cell?_more frozen?_more setCell_more size_more tape_more drew_more drewN_more more_drew more_drewN one_out plus_out plus_end lt_one le_p2 le_p3 le_p4 le_p5 le_p6 le_p7 le_p8 le_p9 le_p10 le_p11 le_p12 le_p13 le_p14 le_p15 le_p16 le_p17 le_p18 le_p19 le_p20 le_p21 le_p22 le_p23 le_p24 le_q0 le_q1 lt_q1 le_q2 lt_q2 le_q3 lt_q3 le_q4 lt_q4 le_q5 lt_q5 le_q6 lt_q6 le_q7 lt_q7 le_q8 lt_q8 le_q9 lt_q9 le_q10 lt_q10 le_q11 lt_q11 le_q12 lt_q12 le_q13 lt_q13 le_q14 lt_q14 le_q15 lt_q15 le_q16 lt_q16 le_q17 lt_q17 le_q18 lt_q18 le_q19 lt_q19 le_q20 lt_q20 le_q21 lt_q21 le_q22 lt_q22 le_q23 lt_q23 le_q24 lt_q24

/-- Are documents not too many? -/
def docsL (ds : List Dn) : Bool := (ds.take 40).all (fun d => decide (d.doc.length ≤ 20)) && decide (ds.length ≤ 40)

theorem docsL_true {ds : List Dn} (h : docsL ds = true) : ds.length ≤ 40 ∧ ∀ d ∈ ds, d.doc.length ≤ 20 := by
  unfold docsL at h
  rw [Bool.and_eq_true, decide_eq_true_iff] at h
  refine ⟨h.2, fun d hd => ?_⟩
  have h1 := List.all_eq_true.1 h.1 d (by rw [List.take_of_length_le h.2]; exact hd)
  simpa using h1

theorem docsL_bad {ds : List Dn} {k : Nat} (hk : k < ds.length) (h4 : k < 40) (h : 20 < ds[k].doc.length) : docsL ds = false := by
  unfold docsL
  have hm : ds[k] ∈ ds.take 40 := by
    rw [List.mem_take_iff_getElem]
    exact ⟨k, by omega, rfl⟩
  have : (ds.take 40).all (fun d => decide (d.doc.length ≤ 20)) = false := by
    rw [Bool.eq_false_iff]
    intro hall
    have := List.all_eq_true.1 hall _ hm
    simp at this
    omega
  rw [this]
  rfl

theorem docsL_end {ds : List Dn} {k : Nat} (hb : ∀ j (hj : j < ds.length), j < k → ds[j].doc.length ≤ 20) (hk : ds.length ≤ k ∨ 40 ≤ k) : docsL ds = decide (ds.length ≤ 40) := by
  unfold docsL
  have : (ds.take 40).all (fun d => decide (d.doc.length ≤ 20)) = true := by
    rw [List.all_eq_true]
    intro d hd
    obtain ⟨j, hj, rfl⟩ := List.mem_take_iff_getElem.1 hd
    simp only [decide_eq_true_iff]
    exact hb j (by omega) (by omega)
  rw [this]
  rfl

set_option maxRecDepth 20000 in
set_option maxHeartbeats 1000000 in
theorem docsL_any (s : Value) (ds : List Dn) (w : World) (hl : LstD w s ds) :
    Calls Try.prog 7 #[s] w fun e w' => e = .returned (.bool (docsL ds)) ∧ Adds w w' := by
  obtain ⟨ao, cap, rfl, hcap, hlo⟩ := hl
  go_enter Try.func7, Try.ntmps7
  go_wp2
  go_loopw [3] (fun i wr => ∃ k : Nat, k ≤ 40 ∧ i = .int .i64 k ∧ Hid (∀ j (hj : j < ds.length), j < k → ds[j].doc.length ≤ 20) ∧ Adds w wr) (fun i _ => (41 - intOf i).toNat)
  case atStart => exact ⟨0, by omega, rfl, fun j _ hj => absurd hj (by omega), Adds.refl _⟩
  case round =>
    obtain ⟨k, hk, rfl, hb, os1, n1, rfl⟩ := hrel
    by_cases hlt : k < ds.length ∧ k < 40
    · obtain ⟨hlt, h40⟩ := hlt
      rcases hlo with rfl | ⟨b, off, rfl, hbb, hll⟩
      · simp at hlt
      obtain ⟨v, c0, c1, hd⟩ := hll k hlt
      have HB : Hid (20 < ds[k].doc.length → docsL ds = false) := fun h => docsL_bad hlt h40 h
      have HN : Hid (ds[k].doc.length ≤ 20 → ∀ j (hj : j < ds.length), j < k + 1 → ds[j].doc.length ≤ 20) := by
        intro h j hj hjk
        by_cases e : j = k
        · subst e; exact h
        · exact hb.out j hj (by omega)
      obtain ⟨vo, vc, rfl, _, _⟩ := hd
      clear hll
      generalize ds[k].doc.length = n at *
      generalize ds[k].key = ky at *
      by_cases hn : n ≤ 20
      · have hn' : (n : Int) ≤ 20 := by omega
        have HN' : Hid _ := HN.out hn
        clear HB HN
        go_wp2
        go_roundw
        case rel => exact ⟨k + 1, by omega, by go_num, HN'.out, (by repeat (first | with_reducible exact Adds.refl _ | with_reducible refine Adds.alloc ?_ _ | with_reducible refine Adds.more ?_ _ _ | with_reducible refine Adds.drew ?_ | with_reducible refine Adds.drewN ?_ _))⟩
        case measure => simp [intOf]; omega
      · have hn' : ¬ (n : Int) ≤ 20 := by omega
        have HB' : Hid (docsL ds = false) := HB.out (by omega)
        clear HB HN
        go_wp2
        go_ret
        exact ⟨by rw [HB'.out]; rfl, (by repeat (first | with_reducible exact Adds.refl _ | with_reducible refine Adds.alloc ?_ _ | with_reducible refine Adds.more ?_ _ _ | with_reducible refine Adds.drew ?_ | with_reducible refine Adds.drewN ?_ _))⟩
    · have HE : Hid (docsL ds = decide (ds.length ≤ 40)) := docsL_end hb.out (by omega)
      have HE2 : Hid (decide (ds.length ≤ 40) = decide ((ds.length : Int) ≤ 40)) := decide_eq_decide.2 (by omega)
      by_cases h1 : k < ds.length
      · have h2 : ¬ (k : Int) < 40 := by omega
        go_wp2
        go_ret
        exact ⟨by rw [HE.out, HE2.out]; rfl, (by repeat (first | with_reducible exact Adds.refl _ | with_reducible refine Adds.alloc ?_ _ | with_reducible refine Adds.more ?_ _ _ | with_reducible refine Adds.drew ?_ | with_reducible refine Adds.drewN ?_ _))⟩
      · have h2 : ¬ (k : Int) < (ds.length : Int) := by omega
        go_wp2
        go_ret
        exact ⟨by rw [HE.out, HE2.out]; rfl, (by repeat (first | with_reducible exact Adds.refl _ | with_reducible refine Adds.alloc ?_ _ | with_reducible refine Adds.more ?_ _ _ | with_reducible refine Adds.drew ?_ | with_reducible refine Adds.drewN ?_ _))⟩

end Go.Proofs.Ytgnhkpihlghbmaa

namespace Go.Proofs.Ytgnhkpihlghbmaa
open Go.RowKit
attribute [local go_sem] cell?_more frozen?_more setCell_more size_more tape_more drew_more drewN_more more_drew more_drewN one_out plus_out plus_end lt_one le_p2 le_p3 le_p4 le_p5 le_p6 le_p7 le_p8 le_p9 le_p10 le_p11 le_p12 le_p13 le_p14 le_p15 le_p16 le_p17 le_p18 le_p19 le_p20 le_p21 le_p22 le_p23 le_p24 le_q0 le_q1 lt_q1 le_q2 lt_q2 le_q3 lt_q3 le_q4 lt_q4 le_q5 lt_q5 le_q6 lt_q6 le_q7 lt_q7 le_q8 lt_q8 le_q9 lt_q9 le_q10 lt_q10 le_q11 lt_q11 le_q12 lt_q12 le_q13 lt_q13 le_q14 lt_q14 le_q15 lt_q15 le_q16 lt_q16 le_q17 lt_q17 le_q18 lt_q18 le_q19 lt_q19 le_q20 lt_q20 le_q21 lt_q21 le_q22 lt_q22 le_q23 lt_q23 le_q24 lt_q24

/-- What one that is asked lies upon, as it is handed in. -/
def QvRaw (w : World) (v : Qv) : Prop := Lst w v.dv v.q.doc ∧ Lst w v.wv v.q.want ∧ (∃ a n c, v.lv = .slice a n c) ∧ (∃ a n c, v.sv = .slice a n c) ∧ (∃ a n c, v.nv = .slice a n c)

theorem QvRaw.adds {w w' : World} {v : Qv} (h : QvRaw w v) (hA : Adds w w') : QvRaw w' v := ⟨h.1.adds hA, h.2.1.adds hA, h.2.2⟩

theorem QvRaw.ok {w : World} {v : Qv} (h : QvRaw w v) (h1 : v.q.doc.length ≤ 1000) (h2 : v.q.want.length ≤ 1000) : QvOk w v := ⟨h.1, h1, h.2.1, h2, h.2.2⟩

def LiesP (w : World) (b off : Nat) (os : List Qv) : Prop := ∀ j (h : j < os.length),
  (w.cell? ⟨b, off + j * 11, none⟩ = some (.int .i64 os[j].q.kind) ∧ w.cell? ⟨b, off + j * 11 + 1, none⟩ = some (.string os[j].q.key) ∧ w.cell? ⟨b, off + j * 11 + 2, none⟩ = some (.string os[j].q.to) ∧
   w.cell? ⟨b, off + j * 11 + 3, none⟩ = some os[j].dv ∧ w.cell? ⟨b, off + j * 11 + 4, none⟩ = some os[j].wv ∧ w.cell? ⟨b, off + j * 11 + 5, none⟩ = some (.bool os[j].q.has) ∧
   w.cell? ⟨b, off + j * 11 + 6, none⟩ = some (.int .i64 os[j].q.n) ∧ w.cell? ⟨b, off + j * 11 + 7, none⟩ = some (.int .i64 os[j].q.most) ∧ w.cell? ⟨b, off + j * 11 + 8, none⟩ = some os[j].lv ∧
   w.cell? ⟨b, off + j * 11 + 9, none⟩ = some os[j].sv ∧ w.cell? ⟨b, off + j * 11 + 10, none⟩ = some os[j].nv) ∧ QvRaw w os[j]

/-- The slice s has those that are asked, as they are handed in. -/
def LstP (w : World) (s : Value) (os : List Qv) : Prop :=
  ∃ ao cap, s = .slice ao os.length cap ∧ os.length ≤ cap ∧ (os = [] ∨ ∃ b off, ao = some ⟨b, off, none⟩ ∧ b < w.heap.size ∧ LiesP w b off os)

theorem LiesP.adds {w w' : World} {b off : Nat} {os : List Qv} (h : LiesP w b off os) (hA : Adds w w') (hb : b < w.heap.size) : LiesP w' b off os := by
  intro j hj
  obtain ⟨⟨h0, h1, h2, h3, h4, h5, h6, h7, h8, h9, h10⟩, hq⟩ := h j hj
  have q := hA.below
  exact ⟨⟨(q.cell (by exact hb)).trans h0, (q.cell (by exact hb)).trans h1, (q.cell (by exact hb)).trans h2, (q.cell (by exact hb)).trans h3, (q.cell (by exact hb)).trans h4, (q.cell (by exact hb)).trans h5, (q.cell (by exact hb)).trans h6, (q.cell (by exact hb)).trans h7, (q.cell (by exact hb)).trans h8, (q.cell (by exact hb)).trans h9, (q.cell (by exact hb)).trans h10⟩, hq.adds hA⟩

theorem LstP.adds {w w' : World} {s : Value} {os : List Qv} (h : LstP w s os) (hA : Adds w w') : LstP w' s os := by
  obtain ⟨ao, cap, rfl, hc, h⟩ := h
  refine ⟨ao, cap, rfl, hc, ?_⟩
  rcases h with h | ⟨b, off, rfl, hb, hl⟩
  · exact .inl h
  · exact .inr ⟨b, off, rfl, Nat.lt_of_lt_of_le hb hA.below.size, hl.adds hA hb⟩

theorem LstP.ok {w : World} {s : Value} {os : List Qv} (h : LstP w s os) (hb : ∀ v ∈ os, v.q.doc.length ≤ 1000 ∧ v.q.want.length ≤ 1000) : LstO w s os := by
  obtain ⟨ao, cap, rfl, hc, h⟩ := h
  refine ⟨ao, cap, rfl, hc, ?_⟩
  rcases h with h | ⟨b, off, rfl, hlt, hl⟩
  · exact .inl h
  · exact .inr ⟨b, off, rfl, hlt, fun j hj => ⟨(hl j hj).1, (hl j hj).2.ok (hb _ (List.getElem_mem hj)).1 (hb _ (List.getElem_mem hj)).2⟩⟩

/-- What Light tells. -/
def LightTold (v : Qv) (os : List Qv) (w : World) (e : Ending) (w' : World) : Prop :=
  ∃ b : Bool, e = .returned (.bool b) ∧ Adds w w' ∧ Hid (b = true → v.q.doc.length ≤ 20 ∧ v.q.want.length ≤ 20 ∧ os.length ≤ 6 ∧ ∀ x ∈ os, x.q.doc.length ≤ 20 ∧ x.q.want.length ≤ 20)

theorem light_no {v : Qv} {os : List Qv} {w w' : World} (hA : Adds w w') : LightTold v os w (.returned (.bool false)) w' := ⟨false, rfl, hA, fun h => by cases h⟩

theorem light_end {v : Qv} {os : List Qv} {w w' : World} {b : Bool} (hA : Adds w w') (h : b = true → v.q.doc.length ≤ 20 ∧ v.q.want.length ≤ 20 ∧ os.length ≤ 6 ∧ ∀ x ∈ os, x.q.doc.length ≤ 20 ∧ x.q.want.length ≤ 20) : LightTold v os w (.returned (.bool b)) w' := ⟨b, rfl, hA, h⟩

set_option maxRecDepth 20000 in
set_option maxHeartbeats 2000000 in
theorem lightL_any (v : Qv) (os : List Qv) (w : World) (hv : QvRaw w v) (ho : LstP w v.lv os) :
    Calls Try.prog 10 #[v.val] w fun e w' => LightTold v os w e w' := by
  have HNO : Hid (∀ w', Adds w w' → LightTold v os w (.returned (.bool false)) w') := fun w' hA => light_no hA
  have HEND : Hid (∀ b w', Adds w w' → (b = true → v.q.doc.length ≤ 20 ∧ v.q.want.length ≤ 20 ∧ os.length ≤ 6 ∧ ∀ x ∈ os, x.q.doc.length ≤ 20 ∧ x.q.want.length ≤ 20) → LightTold v os w (.returned (.bool b)) w') := fun b w' hA h => light_end hA h
  obtain ⟨hd1, hw1, ⟨la, ln, lc, h51⟩, ⟨sa, sn, sc', h52⟩, ⟨na, nn, nc, h53⟩⟩ := hv
  obtain ⟨q, dv, wv, lv, sv, nv⟩ := v
  simp only at h51 h52 h53 hd1 hw1 ho HEND
  subst h51 h52 h53
  obtain ⟨da, dc, rfl, _, _⟩ := hd1
  obtain ⟨wa, wc, rfl, _, _⟩ := hw1
  have HO : Hid _ := ho
  obtain ⟨lo, lcc, he, hcap, hlo⟩ := ho
  simp only [Value.slice.injEq] at he
  obtain ⟨rfl, rfl, rfl⟩ := he
  simp only [Qv.val, opV]
  generalize q.doc.length = dn at *
  generalize q.want.length = wn at *
  go_enter Try.func10, Try.ntmps10
  go_wp2_with fail
  go_loopw [3] (fun i wr => ∃ k : Nat, k ≤ 6 ∧ i = .int .i64 k ∧ Hid (∀ j (hj : j < os.length), j < k → os[j].q.doc.length ≤ 20 ∧ os[j].q.want.length ≤ 20) ∧ Adds (w.alloc (.cells #[.int .i64 q.kind, .string q.key, .string q.to, .slice da dn dc, .slice wa wn wc, .bool q.has, .int .i64 q.n, .int .i64 q.most, .slice la os.length lc, .slice sa sn sc', .slice na nn nc] 31)) wr) (fun i _ => (7 - intOf i).toNat)
  case atStart => exact ⟨0, by omega, rfl, fun j _ hj => absurd hj (by omega), Adds.refl _⟩
  case round =>
    obtain ⟨k, hk, rfl, hb, os1, n1, rfl⟩ := hrel
    by_cases hlt : k < os.length ∧ k < 6
    · obtain ⟨hlt, h6⟩ := hlt
      rcases hlo with rfl | ⟨b, off, rfl, hbb, hll⟩
      · simp at hlt
      obtain ⟨⟨_, _, _, c3, c4, _, _, _, c8, _, _⟩, hq1, hq2, hq3, _, _⟩ := hll k hlt
      have HN : Hid (os[k].q.doc.length ≤ 20 → os[k].q.want.length ≤ 20 → ∀ j (hj : j < os.length), j < k + 1 → os[j].q.doc.length ≤ 20 ∧ os[j].q.want.length ≤ 20) := by
        intro h h' j hj hjk
        by_cases e : j = k
        · subst e; exact ⟨h, h'⟩
        · exact hb.out j hj (by omega)
      obtain ⟨xo, xc, hx, _, _⟩ := hq1
      obtain ⟨yo, yc, hy, _, _⟩ := hq2
      obtain ⟨zo, zn, zc, hz⟩ := hq3
      rw [hx] at c3
      rw [hy] at c4
      rw [hz] at c8
      have hbs : b < w.heap.size := hbb
      clear hll hx hy hz
      generalize os[k].q.doc.length = n at *
      generalize os[k].q.want.length = m at *
      by_cases hn : n ≤ 20
      · have hn' : (n : Int) ≤ 20 := by omega
        by_cases hm : m ≤ 20
        · have hm' : (m : Int) ≤ 20 := by omega
          have HN' : Hid _ := HN.out hn hm
          clear HN
          by_cases hz5 : zn ≤ 5
          · have hz' : (zn : Int) ≤ 5 := by omega
            go_wp2
            go_roundw
            case rel => exact ⟨k + 1, by omega, by go_num, HN'.out, (by repeat (first | with_reducible exact Adds.refl _ | with_reducible refine Adds.alloc ?_ _ | with_reducible refine Adds.more ?_ _ _ | with_reducible refine Adds.drew ?_ | with_reducible refine Adds.drewN ?_ _))⟩
            case measure => simp [intOf]; omega
          · have hz' : ¬ (zn : Int) ≤ 5 := by omega
            go_wp2
            go_ret
            exact HNO.out _ (by repeat (first | with_reducible exact Adds.refl _ | with_reducible refine Adds.alloc ?_ _ | with_reducible refine Adds.more ?_ _ _ | with_reducible refine Adds.drew ?_ | with_reducible refine Adds.drewN ?_ _))
        · have hm' : ¬ (m : Int) ≤ 20 := by omega
          clear HN
          go_wp2
          go_ret
          exact HNO.out _ (by repeat (first | with_reducible exact Adds.refl _ | with_reducible refine Adds.alloc ?_ _ | with_reducible refine Adds.more ?_ _ _ | with_reducible refine Adds.drew ?_ | with_reducible refine Adds.drewN ?_ _))
      · have hn' : ¬ (n : Int) ≤ 20 := by omega
        clear HN
        go_wp2
        go_ret
        exact HNO.out _ (by repeat (first | with_reducible exact Adds.refl _ | with_reducible refine Adds.alloc ?_ _ | with_reducible refine Adds.more ?_ _ _ | with_reducible refine Adds.drew ?_ | with_reducible refine Adds.drewN ?_ _))
    · have HE : Hid (os.length ≤ 6 → ∀ x ∈ os, x.q.doc.length ≤ 20 ∧ x.q.want.length ≤ 20) := by
        intro h x hx
        obtain ⟨j, hj, rfl⟩ := List.mem_iff_getElem.1 hx
        exact hb.out j hj (by omega)
      have HF : Hid (¬ (k < os.length ∧ k < 6)) := hlt
      have hfin : ∀ (B : Bool) w', Adds w w' → (B = true → (dn : Int) ≤ 20 ∧ (wn : Int) ≤ 20 ∧ (os.length : Int) ≤ 6) → LightTold ⟨q, .slice da dn dc, .slice wa wn wc, .slice la os.length lc, .slice sa sn sc', .slice na nn nc⟩ os w (.returned (.bool B)) w' := fun B w' hA h => HEND.out B w' hA (fun hB => by
        obtain ⟨a1, a2, a3⟩ := h hB
        exact ⟨by omega, by omega, by omega, HE.out (by omega)⟩)
      have HFIN : Hid _ := hfin
      clear hfin
      by_cases h1 : k < os.length
      · have h2 : ¬ (k : Int) < 6 := by omega
        go_wp2
        all_goals
          go_ret
          refine HFIN.out _ _ (by repeat (first | with_reducible exact Adds.refl _ | with_reducible refine Adds.alloc ?_ _ | with_reducible refine Adds.more ?_ _ _ | with_reducible refine Adds.drew ?_ | with_reducible refine Adds.drewN ?_ _)) (fun hB => ?_)
          simp at hB <;> omega
      · have h2 : ¬ (k : Int) < (os.length : Int) := by omega
        go_wp2
        all_goals
          go_ret
          refine HFIN.out _ _ (by repeat (first | with_reducible exact Adds.refl _ | with_reducible refine Adds.alloc ?_ _ | with_reducible refine Adds.more ?_ _ _ | with_reducible refine Adds.drew ?_ | with_reducible refine Adds.drewN ?_ _)) (fun hB => ?_)
          simp at hB <;> omega

end Go.Proofs.Ytgnhkpihlghbmaa
