/-
  The reference's Same by contract.
-/
import Derived.Test.YtmbnpglnanfdoaaRowFn
namespace Go.Proofs.Ytmbnpglnanfdoaa
open Go.RowKit
attribute [local go_sem] cell?_more frozen?_more setCell_more size_more tape_more drew_more drewN_more more_drew more_drewN more_more one_out plus_out plus_end lt_one le_p2 le_p3 le_p4 le_p5 le_p6 le_p7 le_p8 le_p9 le_p10 le_p11 le_p12 le_p13 le_p14 le_p15 le_p16 le_p17 le_p18 le_p19 le_p20 le_p21 le_p22 le_p23 le_p24 le_q0 le_q1 lt_q1 le_q2 lt_q2 le_q3 lt_q3 le_q4 lt_q4 le_q5 lt_q5 le_q6 lt_q6 le_q7 lt_q7 le_q8 lt_q8 le_q9 lt_q9 le_q10 lt_q10 le_q11 lt_q11 le_q12 lt_q12 le_q13 lt_q13 le_q14 lt_q14 le_q15 lt_q15 le_q16 lt_q16 le_q17 lt_q17 le_q18 lt_q18 le_q19 lt_q19 le_q20 lt_q20 le_q21 lt_q21 le_q22 lt_q22 le_q23 lt_q23 le_q24 lt_q24

theorem take_next {ls ms : List (List UInt8)} {k : Nat} (h1 : k < ls.length) (h2 : k < ms.length) (h : ls.take k = ms.take k) (he : ls[k] = ms[k]) : ls.take (k + 1) = ms.take (k + 1) := by
  rw [List.take_succ_eq_append_getElem h1, List.take_succ_eq_append_getElem h2, h, he]

theorem differ {ls ms : List (List UInt8)} {k : Nat} (h1 : k < ls.length) (h2 : k < ms.length) (he : ls[k] ≠ ms[k]) : ls ≠ ms := by
  rintro rfl
  exact he rfl

theorem same_any (v u : Value) (ls ms : List (List UInt8)) (w : World) (h : Rws w v ls) (g : Rws w u ms) (hlen : ls.length ≤ 1000000) (hmen : ms.length ≤ 1000000) :
    Calls Try.prog 17 #[v, u] w fun e w' => e = .returned (.bool (decide (ls = ms))) ∧ Adds w w' := by
  obtain ⟨xs, ⟨ao, cap, rfl, hcap, ho⟩, hx⟩ := h
  obtain ⟨ys, ⟨bo, dap, rfl, hdap, go⟩, hy⟩ := g
  have ex := hx.length
  have ey := hy.length
  by_cases hl : ls.length = ms.length
  · go_enter Try.func17, Try.ntmps17
    go_wp2
    go_loopw [5] (fun i W => ∃ k : Nat, k ≤ ls.length ∧ i = .int .i64 k ∧ ls.take k = ms.take k ∧ Adds w W) (fun i _ => (ls.length - intOf i).toNat)
    case atStart => exact ⟨0, by omega, rfl, by simp, Adds.refl _⟩
    case round =>
      obtain ⟨k, hk, rfl, hp, ha⟩ := hrel
      by_cases hlt : k < ls.length
      · have hlt' : k < ms.length := by omega
        have bx := ((hx.get k (by omega) hlt).adds ha).byt
        have by' := ((hy.get k (by omega) hlt').adds ha).byt
        rcases ho with rfl | ⟨b, off, rfl, hb, hc⟩
        · simp at ex; omega
        rcases go with rfl | ⟨b', off', rfl, hb', hc'⟩
        · simp at ey; omega
        have c1 := (hc.adds hb ha) k (by omega)
        have c2 := (hc'.adds hb' ha) k (by omega)
        have s1 := fun q => (bx.adds ((Adds.refl wr).drewN q)).str
        have s2 := fun q => (by'.adds ((Adds.refl wr).drewN q)).str
        have hd := differ hlt hlt'
        have hn := take_next hlt hlt' hp
        generalize ls[k] = x at *
        generalize ms[k] = y at *
        generalize xs[k] = p at *
        generalize ys[k] = q at *
        by_cases hE : x = y
        · have HN : Hid _ := hn hE
          have hq : (!(x == y)) = false := by simp [hE]
          clear hd hn hE hp
          go_wp2
          go_quiet (fail)
          go_wp2
          go_roundw
          case rel =>
            refine ⟨k + 1, by omega, by go_num, HN.out, ha.trans ?_⟩
            repeat (first | with_reducible exact Adds.refl _ | with_reducible refine Adds.alloc ?_ _ | with_reducible refine Adds.more ?_ _ _ | with_reducible refine Adds.drew ?_ | with_reducible refine Adds.drewN ?_ _)
          case measure => simp [intOf]; omega
        · have HD : Hid _ := hd hE
          have hq : (!(x == y)) = true := by simp [hE]
          clear hd hn hp
          go_wp2
          go_quiet (fail)
          go_wp2
          go_ret
          refine ⟨by rw [decide_eq_false HD.out]; rfl, ha.trans ?_⟩
          repeat (first | with_reducible exact Adds.refl _ | with_reducible refine Adds.alloc ?_ _ | with_reducible refine Adds.more ?_ _ _ | with_reducible refine Adds.drew ?_ | with_reducible refine Adds.drewN ?_ _)
      · have hk' : k = ls.length := by omega
        subst hk'
        have hE : ls = ms := by
          rw [List.take_length, hl, List.take_length] at hp
          exact hp
        subst hE
        clear hp
        go_wp2
        go_ret
        refine ⟨by simp, ha⟩
  · have hne : ls ≠ ms := fun e => hl (by rw [e])
    have hne' : ((xs.length : Int) != (ys.length : Int)) = true := by simp; omega
    go_enter Try.func17, Try.ntmps17
    go_wp2
    all_goals first
      | (go_ret
         exact ⟨by rw [decide_eq_false hne]; rfl, Adds.refl _⟩)
      | (exfalso; omega)

end Go.Proofs.Ytmbnpglnanfdoaa
