/-
  Acts in memory; the function Light by contract.
-/
import Derived.Test.YtdcbepdghiafhaaRestarts
namespace Go.Proofs.Ytdcbepdghiafhaa
open Go.RowKit Go.Maps
attribute [local go_sem] cell?_more frozen?_more setCell_more size_more tape_more drew_more drewN_more more_drew more_drewN more_more one_out plus_out plus_end lt_one le_p2 le_p3 le_p4 le_p5 le_p6 le_p7 le_p8 le_p9 le_p10 le_p11 le_p12 le_p13 le_p14 le_p15 le_p16 le_p17 le_p18 le_p19 le_p20 le_p21 le_p22 le_p23 le_p24 le_q0 le_q1 lt_q1 le_q2 lt_q2 le_q3 lt_q3 le_q4 lt_q4 le_q5 lt_q5 le_q6 lt_q6 le_q7 lt_q7 le_q8 lt_q8 le_q9 lt_q9 le_q10 lt_q10 le_q11 lt_q11 le_q12 lt_q12 le_q13 lt_q13 le_q14 lt_q14 le_q15 lt_q15 le_q16 lt_q16 le_q17 lt_q17 le_q18 lt_q18 le_q19 lt_q19 le_q20 lt_q20 le_q21 lt_q21 le_q22 lt_q22 le_q23 lt_q23 le_q24 lt_q24

/-- Something that is done with a tape, or its reel. -/
structure A where
  act : Int
  bv : Value
  b : List UInt8
  lv : Value
  l : List (List UInt8)
  n : Int

def A.size (a : A) : Nat := a.b.length + tot a.l
def asum (l : List A) : Nat := (l.map A.size).sum

theorem asum_next {l : List A} {k : Nat} (h : k < l.length) : asum (l.take (k + 1)) = asum (l.take k) + l[k].size := by
  unfold asum
  rw [List.take_succ_eq_append_getElem h, List.map_append, List.sum_append]
  simp

/-- A row of acts from off on. -/
def LiesA (w : World) (b off : Nat) (l : List A) : Prop := ∀ j (h : j < l.length), w.cell? ⟨b, off + j * 4, none⟩ = some (.int .i64 l[j].act) ∧ w.cell? ⟨b, off + j * 4 + 1, none⟩ = some l[j].bv ∧ w.cell? ⟨b, off + j * 4 + 2, none⟩ = some l[j].lv ∧ w.cell? ⟨b, off + j * 4 + 3, none⟩ = some (.int .i64 l[j].n)

def LstA (w : World) (v : Value) (l : List A) : Prop :=
  (∃ ao cap, v = .slice ao l.length cap ∧ l.length ≤ cap ∧ l.length ≤ 9223372036854775807 ∧ (l = [] ∨ ∃ b off, ao = some ⟨b, off, none⟩ ∧ b < w.heap.size ∧ LiesA w b off l)) ∧
  ∀ a ∈ l, BytA w (fun i => w.heap.size ≤ i) a.bv a.b ∧ RwsA w (fun i => w.heap.size ≤ i) a.lv a.l

theorem high_adds {w w' : World} (ha : Adds w w') : Mv w (fun i => w.heap.size ≤ i) w' (fun i => w'.heap.size ≤ i) := by
  have hb := ha.below
  exact ⟨hb.os, hb.tape, hb.output, hb.size, fun i hi _ => ⟨hb.block i hi, by have := hb.size; omega⟩⟩

theorem LstA.adds {w w' : World} {v : Value} {l : List A} (h : LstA w v l) (ha : Adds w w') : LstA w' v l := by
  obtain ⟨⟨ao, cap, rfl, hc, hm, h⟩, h2⟩ := h
  refine ⟨⟨ao, cap, rfl, hc, hm, ?_⟩, fun a hm => ⟨(h2 a hm).1.mv (high_adds ha), (h2 a hm).2.mv (high_adds ha)⟩⟩
  rcases h with h | ⟨b, off, rfl, hb, hl⟩
  · exact .inl h
  · refine .inr ⟨b, off, rfl, Nat.lt_of_lt_of_le hb ha.below.size, fun j hj => ?_⟩
    have e : ∀ i, w'.cell? ⟨b, i, none⟩ = w.cell? ⟨b, i, none⟩ := fun i => World.cell?_of_block (ha.below.block b hb)
    rw [e, e, e, e]
    exact hl j hj

/-- At act j. -/
theorem LstA.at {w : World} {v : Value} {l : List A} (h : LstA w v l) {j : Nat} (hj : j < l.length) :
    ∃ b off cap, v = .slice (some ⟨b, off, none⟩) l.length cap ∧ l.length ≤ cap ∧ b < w.heap.size ∧ w.cell? ⟨b, off + j * 4, none⟩ = some (.int .i64 l[j].act) ∧ w.cell? ⟨b, off + j * 4 + 1, none⟩ = some l[j].bv ∧ w.cell? ⟨b, off + j * 4 + 2, none⟩ = some l[j].lv ∧
      BytA w (fun i => w.heap.size ≤ i) l[j].bv l[j].b ∧ RwsA w (fun i => w.heap.size ≤ i) l[j].lv l[j].l := by
  obtain ⟨⟨ao, cap, rfl, hc, _, h⟩, h2⟩ := h
  rcases h with rfl | ⟨b, off, rfl, hb, hl⟩
  · simp at hj
  · obtain ⟨e0, e1, e2, _⟩ := hl j hj
    exact ⟨b, off, cap, rfl, hc, hb, e0, e1, e2, h2 _ (List.getElem_mem hj)⟩

/-- Few bytes, and no list of more than forty. -/
def Lit40 (l : List A) (k : Nat) : Prop := asum (l.take k) ≤ 1500 ∧ ∀ j (h : j < l.length), j < k → l[j].l.length ≤ 40

theorem light_any (v : Value) (l : List A) (w : World) (h : LstA w v l) :
    Calls Try.prog 9 #[v] w fun e w' => ∃ t, e = .returned (.bool t) ∧ Adds w w' ∧ (t = true → Lit40 l (min 40 l.length)) := by
  have h' := h
  obtain ⟨⟨ao, cap, rfl, hcap, hmx, _⟩, _⟩ := h
  go_enter Try.func9, Try.ntmps9
  go_wp2
  go_loopw [3, 4] (fun n i W => ∃ j : Nat, n = .int .i64 (asum (l.take j) : Nat) ∧ i = .int .i64 (j : Int) ∧ j ≤ l.length ∧ j ≤ 40 ∧ Lit40 l j ∧ W = w) (fun _ i _ => (40 - intOf i).toNat)
  case atStart => exact ⟨0, rfl, rfl, by omega, by omega, ⟨by simp [asum], fun j _ hj => by omega⟩, rfl⟩
  case round =>
    obtain ⟨j, rfl, rfl, hj, hj4, hL, rfl⟩ := hrel
    have hs := hL.1
    have HL : Hid (Lit40 l j) := hL
    clear hL
    by_cases hlt : j < l.length ∧ j < 40
    · obtain ⟨hlt, h40⟩ := hlt
      obtain ⟨b, off, cap', hv, _, hb, e0, e1, e2, hbyt, hrws⟩ := h'.at hlt
      simp only [Value.slice.injEq, true_and] at hv
      obtain ⟨rfl, x2⟩ := hv
      clear x2
      obtain ⟨bo, bc, hbv, hbc, _⟩ := hbyt.byt.open
      obtain ⟨lo, lc, hlv, hlc⟩ := hrws.rws.slice
      have hrw := hrws.rws
      rw [hbv] at e1
      rw [hlv] at e2 hrw
      have hnx := asum_next hlt
      have HN : Hid (asum (l.take (j + 1)) = asum (l.take j) + (l[j].b.length + tot l[j].l)) := hnx
      have HK : Hid (∀ n', n' = asum (l.take (j + 1)) → n' ≤ 1500 → l[j].l.length ≤ 40 → Lit40 l (j + 1)) := fun n' e1 e2 e3 => by
        subst e1
        refine ⟨e2, fun i hi hij => ?_⟩
        by_cases e : i = j
        · subst e
          exact e3
        · exact HL.out.2 i hi (by omega)
      have HR : Hid (Rws wr (.slice lo l[j].l.length lc) l[j].l) := hrw
      have i1 : (j : Int) < (l.length : Int) := by omega
      clear hnx hrw hbyt hrws hbv hlv
      generalize l[j].b.length = L at *
      generalize l[j].l = ls at *
      generalize asum (l.take j) = S at *
      clear h'
      by_cases hbig : L + S ≤ 1500
      · by_cases h4 : ls.length ≤ 40
        · have i2 : (L : Int) ≤ 1500 - (S : Int) := by omega
          go_wp2
          rename World => W0
          go_loopw [3, 5] (fun n k W => ∃ q : Nat, q ≤ ls.length ∧ k = .int .i64 (q : Int) ∧ n = .int .i64 ((S : Int) + (L : Int) + (tot (ls.take q) : Nat)) ∧ S + L + tot (ls.take q) ≤ 1500 ∧ W = W0) (fun _ k _ => (ls.length - intOf k).toNat)
          case atStart => exact ⟨0, by omega, rfl, by simp [tot], by simp [tot]; omega, rfl⟩
          case round =>
            obtain ⟨q, hq, rfl, rfl, hq5, rfl⟩ := hrel
            by_cases hql : q < ls.length
            · obtain ⟨gb, goff, gx, rfl, hgb, hgc, hgx⟩ := HR.out.at hql
              obtain ⟨xo, xc, rfl, hxc, _⟩ := hgx.open
              have htn := tot_next hql
              have HT : Hid _ := htn
              have i5 : (q : Int) < (ls.length : Int) := by omega
              clear htn
              generalize ls[q].length = M at *
              generalize tot (ls.take q) = Z at *
              by_cases hM : M + (S + L + Z) ≤ 1500
              · have i6 : (M : Int) ≤ 1500 - ((S : Int) + (L : Int) + (Z : Int)) := by omega
                go_wp2
                go_roundw
                case rel => exact ⟨q + 1, by omega, by go_num, by rw [HT.out]; go_num, by rw [HT.out]; omega, trivial⟩
                case measure => simp [intOf]; omega
              · have i6 : 1500 - ((S : Int) + (L : Int) + (Z : Int)) < (M : Int) := by omega
                go_wp2
                go_ret
                exact ⟨false, rfl, Adds.refl _, by simp⟩
            · obtain rfl : q = ls.length := by omega
              rw [List.take_length] at hq5
              simp only [List.take_length]
              have i5 : ¬ ((ls.length : Int) < (ls.length : Int)) := by omega
              have HN2 : Hid (asum (l.take (j + 1)) = S + L + tot ls) := by
                show _ = _
                rw [HN.out]
                omega
              go_wp2
              go_roundw
              case rel => exact ⟨j + 1, by rw [HN2.out]; go_num, by go_num, by omega, by omega, HK.out _ HN2.out.symm hq5 h4, trivial⟩
              case measure => simp [intOf]; omega
        · have i2 : (L : Int) ≤ 1500 - (S : Int) := by omega
          have i3 : (40 : Int) < (ls.length : Int) := by omega
          generalize ls.length = M at *
          go_wp2
          go_ret
          exact ⟨false, rfl, Adds.refl _, by simp⟩
      · have i2 : (1500 : Int) - (S : Int) < (L : Int) := by omega
        go_wp2
        go_ret
        exact ⟨false, rfl, Adds.refl _, by simp⟩
    · have hm : min 40 l.length = j := by omega
      have hcase : (j < l.length ∧ j = 40) ∨ j = l.length := by omega
      clear h'
      rcases hcase with ⟨h1, rfl⟩ | rfl
      · have i1 : ((40 : Nat) : Int) < (l.length : Int) := by omega
        go_wp2
        go_ret
        exact ⟨true, rfl, Adds.refl _, fun _ => by rw [hm]; exact HL.out⟩
      · go_wp2
        go_ret
        exact ⟨true, rfl, Adds.refl _, fun _ => by rw [hm]; exact HL.out⟩

end Go.Proofs.Ytdcbepdghiafhaa
