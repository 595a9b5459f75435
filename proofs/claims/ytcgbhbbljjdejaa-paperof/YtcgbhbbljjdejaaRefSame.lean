/-
  The document's own Same on cells, by a contract: it tells whether two trees are one.
-/
import Derived.Test.YtcgbhbbljjdejaaTree
namespace Go.Proofs.Ytcgbhbbljjdejaa
open Go.RowKit
attribute [local go_sem] cell?_more frozen?_more setCell_more size_more tape_more drew_more drewN_more more_drew more_drewN one_out plus_out plus_end lt_one le_p2 le_p3 le_p4 le_p5 le_p6 le_p7 le_p8 le_p9 le_p10 le_p11 le_p12 le_p13 le_p14 le_p15 le_p16 le_p17 le_p18 le_p19 le_p20 le_p21 le_p22 le_p23 le_p24 le_q0 le_q1 lt_q1 le_q2 lt_q2 le_q3 lt_q3 le_q4 lt_q4 le_q5 lt_q5 le_q6 lt_q6 le_q7 lt_q7 le_q8 lt_q8 le_q9 lt_q9 le_q10 lt_q10 le_q11 lt_q11 le_q12 lt_q12 le_q13 lt_q13 le_q14 lt_q14 le_q15 lt_q15 le_q16 lt_q16 le_q17 lt_q17 le_q18 lt_q18 le_q19 lt_q19 le_q20 lt_q20 le_q21 lt_q21 le_q22 lt_q22 le_q23 lt_q23 le_q24 lt_q24

/-- A tree no deeper than that, all of whose lists are short. -/
def Slim : Nat → T → Prop
  | 0, t => t.list = []
  | d + 1, t => t.list.length ≤ 1000 ∧ ∀ x ∈ t.list, Slim d x

theorem Slim.short {d : Nat} {t : T} (h : Slim d t) : t.list.length ≤ 1000 := by
  cases d with
  | zero => rw [h]; simp
  | succ d => exact h.1

theorem Tr.elem {ok : Nat → Prop} {d : Nat} {w : World} {ao : Option Addr} {n cap : Nat} {ts : List T} (h : Tr ok d w (.slice ao n cap) ts) {k : Nat} (hk : k < ts.length) :
    ∃ d' b off x, d = d' + 1 ∧ ao = some ⟨b, off, none⟩ ∧ b < w.heap.size ∧ (w.cell? ⟨b, off + k * 4, none⟩ = some (.int .i64 ts[k].kind) ∧ w.cell? ⟨b, off + k * 4 + 1, none⟩ = some (.int .i64 ts[k].num) ∧ w.cell? ⟨b, off + k * 4 + 2, none⟩ = some (.string ts[k].text) ∧ w.cell? ⟨b, off + k * 4 + 3, none⟩ = some x) ∧ Tr ok d' w x ts[k].list := by
  cases d with
  | zero =>
    obtain ⟨rfl, _⟩ := h
    simp at hk
  | succ d =>
    obtain ⟨ao', cap', he, _, rfl | ⟨b, off, rfl, hlt, _, hx⟩⟩ := h
    · simp at hk
    · simp only [Value.slice.injEq] at he
      obtain ⟨x, hc, _, ht⟩ := hx k hk
      exact ⟨d, b, off, x, rfl, he.1, hlt, hc, ht⟩

set_option maxHeartbeats 4000000 in
theorem refSame_tree {ok ok' : Nat → Prop} (d : Nat) : ∀ (d' : Nat) (a b : T) (sa sb : Value) (w : World), Tr ok d w sa a.list → Tr ok' d' w sb b.list → Slim d a →
    Calls Try.prog 27 #[cellV a sa, cellV b sb] w fun e w' => ∃ q : Bool, e = .returned (.bool q) ∧ (q = true ↔ a = b) ∧ Adds w w' := by
  induction d using Nat.strongRecOn with
  | _ d ih =>
    intro d' a b sa sb w ha hb hS
    obtain ⟨ao, ca, rfl⟩ := ha.shape
    obtain ⟨bo, cb, rfl⟩ := hb.shape
    have hsh := hS.short
    have hE := T.ext_iff' a b
    simp only [cellV]
    by_cases hT : a.kind = b.kind ∧ a.num = b.num ∧ a.text.toList = b.text.toList ∧ a.list.length = b.list.length
    · obtain ⟨h1, h2, h3, h4⟩ := hT
      have HE : Hid (a = b ↔ a.list = b.list) := by
        show a = b ↔ a.list = b.list
        rw [hE]
        exact ⟨fun h => h.2.2.2, fun h => ⟨h1, h2, h3, h⟩⟩
      have h3' : (a.text.toList == b.text.toList) = true := by simpa using h3
      have hS2 : ∀ e, d = e + 1 → ∀ x ∈ a.list, Slim e x := by
        rintro e rfl
        exact hS.2
      clear hE hS
      rw [← h1, ← h2, ← h4]
      generalize a.kind = ak at *
      generalize a.num = an at *
      generalize a.text = ax at *
      generalize b.text = bx at *
      clear h1 h2
      rw [← h4] at hb
      obtain ⟨la, hla⟩ : ∃ l, l = a.list := ⟨_, rfl⟩
      obtain ⟨lb, hlb⟩ : ∃ l, l = b.list := ⟨_, rfl⟩
      rw [← hla] at ha hb h4 hsh hS2 HE ⊢
      rw [← hlb] at hb h4 HE
      clear hla hlb
      have H4 : Hid _ := h4
      clear h4
      go_enter Try.func27, Try.ntmps27
      go_wp2
      go_loopw [5] (fun iv wr => ∃ k : Nat, k ≤ la.length ∧ iv = .int .i64 k ∧ (∀ j (hj : j < la.length) (hj' : j < lb.length), j < k → la[j] = lb[j]) ∧ Adds ((w.alloc (.cells #[.int .i64 ak, .int .i64 an, .string ax, .slice ao la.length ca] 50)).alloc (.cells #[.int .i64 ak, .int .i64 an, .string bx, .slice bo la.length cb] 50)) wr) (fun iv _ => la.length - (intOf iv).toNat)
      case atStart => exact ⟨0, Nat.zero_le _, rfl, fun j _ _ h => absurd h (by omega), Adds.refl _⟩
      case round =>
        obtain ⟨k, hk, rfl, hsame, os, n, rfl⟩ := hrel
        by_cases hlt : k < la.length
        · have hlt' : k < lb.length := by have := H4.out; omega
          obtain ⟨e, b1, o1, x, he, rfl, hb1, ⟨c0, c1, c2, c3⟩, htx⟩ := ha.elem hlt
          obtain ⟨e', b2, o2, y, he', rfl, hb2, ⟨d0, d1, d2, d3⟩, hty⟩ := hb.elem hlt'
          have hsl := hS2 e he la[k] (List.getElem_mem hlt)
          have kR := fun W (hA : Adds w W) => ih e (by omega) e' la[k] lb[k] x y W (htx.adds hA) (hty.adds hA) hsl
          have HN : Hid (la[k] = lb[k] → ∀ j (hj : j < la.length) (hj' : j < lb.length), j < k + 1 → la[j] = lb[j]) := by
            intro h j hj hj' hjk
            by_cases ej : j = k
            · subst ej; exact h
            · exact hsame j hj hj' (by omega)
          have HF : Hid (¬ la[k] = lb[k] → ¬ la = lb) := by
            intro h h'
            subst h'
            exact h rfl
          obtain ⟨xo, xc, rfl⟩ := htx.shape
          obtain ⟨yo, yc, rfl⟩ := hty.shape
          simp only [cellV] at kR
          clear htx hty hsl hS2 ih hsame he he' ha hb
          generalize la[k] = p at *
          generalize lb[k] = q at *
          go_wp2
          go_region_with (go_at_call 27; refine (kR _ (by repeat (first | with_reducible exact Adds.refl _ | with_reducible refine Adds.alloc ?_ _ | with_reducible refine Adds.more ?_ _ _ | with_reducible refine Adds.drew ?_ | with_reducible refine Adds.drewN ?_ _))).mono ?_; rintro e w1 ⟨q1, rfl, hq1, os1, n1, rfl⟩)
          all_goals
            have HQ : Hid _ := hq1
            clear hq1
            cases q1
            · go_wp2
              go_ret
              refine ⟨false, rfl, ?_, ?_⟩
              · rw [HE.out]
                exact ⟨fun h => (by cases h), fun h => absurd h (HF.out (fun h' => (by have := HQ.out.2 h'; simp at this)))⟩
              · repeat (first | with_reducible exact Adds.refl _ | with_reducible refine Adds.alloc ?_ _ | with_reducible refine Adds.more ?_ _ _ | with_reducible refine Adds.drew ?_ | with_reducible refine Adds.drewN ?_ _)
            · go_wp2
              go_roundw
              case rel =>
                refine ⟨k + 1, by omega, by go_num, HN.out (HQ.out.1 (by simp)), ?_⟩
                repeat (first | with_reducible exact Adds.refl _ | with_reducible refine Adds.alloc ?_ _ | with_reducible refine Adds.more ?_ _ _ | with_reducible refine Adds.drew ?_ | with_reducible refine Adds.drewN ?_ _)
              case measure => simp [intOf]; omega
        · have hk' : k = la.length := by omega
          subst hk'
          go_wp2
          go_ret
          refine ⟨true, rfl, ?_, ?_⟩
          · rw [HE.out]
            exact ⟨fun _ => List.ext_getElem H4.out (fun i h1 h2 => hsame i h1 h2 h1), fun _ => rfl⟩
          · repeat (first | with_reducible exact Adds.refl _ | with_reducible refine Adds.alloc ?_ _ | with_reducible refine Adds.more ?_ _ _ | with_reducible refine Adds.drew ?_ | with_reducible refine Adds.drewN ?_ _)
    · have hne : ¬ a = b := fun h => hT (by rw [h]; exact ⟨rfl, rfl, rfl, rfl⟩)
      have HN : Hid _ := hne
      clear hne hE hS ih ha hb hsh
      by_cases h1 : a.kind = b.kind
      · by_cases h2 : a.num = b.num
        · by_cases h3 : a.text.toList = b.text.toList
          · have h4 : ¬ a.list.length = b.list.length := fun h => hT ⟨h1, h2, h3, h⟩
            have h4' : ((a.list.length : Int) != (b.list.length : Int)) = true := by simp; omega
            have h3' : (a.text.toList == b.text.toList) = true := by simpa using h3
            rw [← h1, ← h2]
            clear hT h4 h1 h2
            generalize a.list.length = al at *
            generalize b.list.length = bl at *
            generalize a.kind = ak at *
            generalize a.num = an at *
            generalize a.text = ax at *
            generalize b.text = bx at *
            go_enter Try.func27, Try.ntmps27
            go_wp2
            go_ret
            refine ⟨false, rfl, ⟨fun h => by (cases h), fun h => absurd h HN.out⟩, ?_⟩
            repeat (first | with_reducible exact Adds.refl _ | with_reducible refine Adds.alloc ?_ _ | with_reducible refine Adds.more ?_ _ _ | with_reducible refine Adds.drew ?_ | with_reducible refine Adds.drewN ?_ _)
          · have h3' : (a.text.toList == b.text.toList) = false := by simpa using h3
            rw [← h1, ← h2]
            clear hT h1 h2
            generalize a.list.length = al at *
            generalize b.list.length = bl at *
            generalize a.kind = ak at *
            generalize a.num = an at *
            generalize a.text = ax at *
            generalize b.text = bx at *
            go_enter Try.func27, Try.ntmps27
            go_wp2
            go_ret
            refine ⟨false, rfl, ⟨fun h => by (cases h), fun h => absurd h HN.out⟩, ?_⟩
            repeat (first | with_reducible exact Adds.refl _ | with_reducible refine Adds.alloc ?_ _ | with_reducible refine Adds.more ?_ _ _ | with_reducible refine Adds.drew ?_ | with_reducible refine Adds.drewN ?_ _)
        · have h2' : (a.num != b.num) = true := by simp [h2]
          rw [← h1]
          clear hT h1
          generalize a.list.length = al at *
          generalize b.list.length = bl at *
          generalize a.kind = ak at *
          generalize a.num = an at *
          generalize b.num = bn at *
          generalize a.text = ax at *
          generalize b.text = bx at *
          go_enter Try.func27, Try.ntmps27
          go_wp2
          go_ret
          refine ⟨false, rfl, ⟨fun h => by (cases h), fun h => absurd h HN.out⟩, ?_⟩
          repeat (first | with_reducible exact Adds.refl _ | with_reducible refine Adds.alloc ?_ _ | with_reducible refine Adds.more ?_ _ _ | with_reducible refine Adds.drew ?_ | with_reducible refine Adds.drewN ?_ _)
      · have h1' : (a.kind != b.kind) = true := by simp [h1]
        clear hT
        generalize a.list.length = al at *
        generalize b.list.length = bl at *
        generalize a.kind = ak at *
        generalize b.kind = bk at *
        generalize a.num = an at *
        generalize b.num = bn at *
        generalize a.text = ax at *
        generalize b.text = bx at *
        go_enter Try.func27, Try.ntmps27
        go_wp2
        go_ret
        refine ⟨false, rfl, ⟨fun h => by (cases h), fun h => absurd h HN.out⟩, ?_⟩
        repeat (first | with_reducible exact Adds.refl _ | with_reducible refine Adds.alloc ?_ _ | with_reducible refine Adds.more ?_ _ _ | with_reducible refine Adds.drew ?_ | with_reducible refine Adds.drewN ?_ _)

end Go.Proofs.Ytcgbhbbljjdejaa
