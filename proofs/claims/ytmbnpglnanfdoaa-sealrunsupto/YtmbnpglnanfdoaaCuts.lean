/-
  SealCuts: the law's walk.
-/
import Derived.Test.YtmbnpglnanfdoaaTwo
import Derived.Test.YtmbnpglnanfdoaaSame
namespace Go.Proofs.Ytmbnpglnanfdoaa
open Go.RowKit
attribute [local go_sem] cell?_more frozen?_more setCell_more size_more tape_more drew_more drewN_more more_drew more_drewN more_more one_out plus_out plus_end lt_one le_p2 le_p3 le_p4 le_p5 le_p6 le_p7 le_p8 le_p9 le_p10 le_p11 le_p12 le_p13 le_p14 le_p15 le_p16 le_p17 le_p18 le_p19 le_p20 le_p21 le_p22 le_p23 le_p24 le_q0 le_q1 lt_q1 le_q2 lt_q2 le_q3 lt_q3 le_q4 lt_q4 le_q5 lt_q5 le_q6 lt_q6 le_q7 lt_q7 le_q8 lt_q8 le_q9 lt_q9 le_q10 lt_q10 le_q11 lt_q11 le_q12 lt_q12 le_q13 lt_q13 le_q14 lt_q14 le_q15 lt_q15 le_q16 lt_q16 le_q17 lt_q17 le_q18 lt_q18 le_q19 lt_q19 le_q20 lt_q20 le_q21 lt_q21 le_q22 lt_q22 le_q23 lt_q23 le_q24 lt_q24

theorem ownV_new {B : Nat} {W0 w : World} (hb : Below B W0 w) (hB : B ≤ w.heap.size) (e : TypeId) : OwnV B e (.slice (some ⟨w.heap.size, 0, none⟩) 0 0) [] W0 (w.alloc (.cells #[] e)) := by
  refine ⟨⟨rfl, .inr ⟨w.heap.size, 0, #[], rfl, hB, new_block _ _, Nat.le_refl _, by decide, rfl, rfl⟩⟩, hb.trans (((Adds.refl w).alloc _).below.mono hB), by simp; omega⟩

theorem Rws.take {w : World} {ao : Option Addr} {cap n k : Nat} {ls : List (List UInt8)} (h : Rws w (.slice ao n cap) ls) (hk : k ≤ ls.length) : Rws w (.slice ao k cap) (ls.take k) := by
  obtain ⟨xs, hl, he⟩ := h
  have hlen := he.length
  have hn : n = xs.length := by
    obtain ⟨a, c, e, _⟩ := hl
    cases e
    rfl
  subst hn
  have := LstV.cut (lo := 0) (hi := k) hl (by omega) (by omega)
  rw [List.drop_zero, Nat.sub_zero, Nat.sub_zero] at this
  have e : ao.map (·.add 0) = ao := by cases ao <;> simp [Addr.add]
  rw [e] at this
  exact ⟨xs.take k, by simpa using this, he.take k⟩

set_option maxHeartbeats 4000000 in
set_option maxRecDepth 20000 in
theorem sealCuts_any (v : Value) (ls : List (List UInt8)) (C : Nat) (w : World) (h : Rws w v ls) (hC : C < 65536) (hlen : ls.length ≤ 9223372036854775807) :
    Calls Try.prog 5 #[v, .int .u16 C] w fun e w' => e = .returned (.bool true) ∧ Adds w w' := by
  have h' := h
  obtain ⟨xs, ⟨ao, cap, rfl, hcap, ho⟩, hx⟩ := h
  have ex := hx.length
  rw [ex] at h' hcap ⊢
  go_enter Try.func5, Try.ntmps5
  go_wp2
  go_loopw [5, 6] (fun n i W => ∃ k : Nat, k ≤ ls.length ∧ k ≤ 40 ∧ i = .int .i64 k ∧ n = .int .i64 (tot (ls.take k) : Nat) ∧ tot (ls.take k) ≤ 3000 ∧ W = w) (fun _ i _ => (41 - intOf i).toNat)
  case atStart => exact ⟨0, by omega, by omega, rfl, rfl, by simp [tot], rfl⟩
  case round =>
    obtain ⟨k, hk, hk40, rfl, rfl, ht, rfl⟩ := hrel
    by_cases hlt : k < ls.length ∧ k < 40
    · have hlt1 := hlt.1
      rcases ho with rfl | ⟨b, off, rfl, hb, hc⟩
      · simp at ex; omega
      have hn := tot_next hlt1
      have hc0 := hc k (by omega)
      obtain ⟨eo, ec, hxe, _⟩ := hx.get k (by omega) hlt1
      rw [hxe] at hc0
      generalize ls[k].length = m at *
      by_cases hgt : tot (ls.take k) + m ≤ 3000
      · generalize tot (ls.take k) = t at *
        go_wp2_with (go_at_call 8; (with_reducible refine (awake_any _).mono ?_); rintro e w8 ⟨rfl, a8⟩)
        go_roundw
        case rel => exact ⟨k + 1, by omega, by omega, by go_num, by rw [hn]; go_num, by omega, trivial⟩
        case measure => simp [intOf]; omega
      · generalize tot (ls.take k) = t at *
        go_wp2_with (go_at_call 8; (with_reducible refine (awake_any _).mono ?_); rintro e w8 ⟨rfl, a8⟩)
        go_ret
        exact ⟨rfl, a8⟩
    · by_cases h40 : 40 < ls.length
      · have hk' : k = 40 := by omega
        subst hk'
        generalize tot (ls.take 40) = t at *
        go_wp2_with (go_at_call 8; (with_reducible refine (awake_any _).mono ?_); rintro e w8 ⟨rfl, a8⟩)
        go_ret
        exact ⟨rfl, a8⟩
      · have hk' : k = ls.length := by omega
        subst hk'
        rw [List.take_length] at ht ⊢
        have hle : ∀ b ∈ ls, b.length ≤ 3000 := fun b hb => Nat.le_trans (le_tot hb) ht
        have hpre : ∀ k, (recs (ls.take k)).length ≤ 4000 := fun k => by
          have h1 := recs_tot (ls.take k)
          have h2 := tot_take ls k
          have h3 : (ls.take k).length ≤ 40 := by simp; omega
          omega
        generalize tot ls = t at *
        clear hlt hk hk40
        go_wp2
        rename World => w0
        go_loopw [7, 8, 9] (fun bv wv i W => ∃ k : Nat, k ≤ ls.length ∧ i = .int .i64 k ∧ OwnV w0.heap.size 5 bv (cellsB (recs (ls.take k))) w0 W ∧ OwnV w0.heap.size 3 wv (cellsI ((List.range k).map fun j => pre ls (j + 1))) w0 W) (fun _ _ i _ => (ls.length - intOf i).toNat)
        case atStart =>
          refine ⟨0, by omega, rfl, (ownV_new (Below.refl _ _) (Nat.le_refl _) 5).alloc _, ?_⟩
          have := ownV_new (B := w0.heap.size) (W0 := w0) (w := w0.alloc (.cells #[] 5)) ((Adds.refl w0).alloc _).below (by simp) 3
          have e : (w0.alloc (.cells #[] 5)).heap.size = w0.heap.size + 1 := by simp
          rw [e] at this
          exact this
        case round =>
          obtain ⟨k, hk, rfl, hob, how⟩ := hrel
          by_cases hlt : k < ls.length
          · rcases ho with rfl | ⟨b, off, rfl, hb, hc⟩
            · simp at ex; omega
            have hc0 := (hc.adds hb hob.added) k (by omega)
            have hxk := (hx.get k (by omega) hlt).byt.adds hob.added
            have hle1 := hle ls[k] (List.getElem_mem _)
            have k1 := record_any _ _ _ hxk (by omega)
            have hL : (recs (ls.take k) ++ record ls[k]).length = pre ls (k + 1) := by rw [pre, recs_next hlt]
            have hrn := recs_next hlt
            have hp1 := hpre k
            have hmap : (List.range (k + 1)).map (fun j => pre ls (j + 1)) = (List.range k).map (fun j => pre ls (j + 1)) ++ [pre ls (k + 1)] := by rw [List.range_succ]; simp
            generalize xs[k] = xv at *
            generalize ls[k] = lk at *
            have hrl := record_length lk
            go_wp2_with (first
              | (go_at_call 9; (with_reducible refine k1.mono ?_); rintro e w1 ⟨r1, rfl, h1⟩)
              | (at_builtin; refine byt_app2 rfl (.tmp 64) (.tmp 65) rfl (hob.adds h1.added) rfl h1.byt rfl (by omega) ?_; intro v2 w2 h2 g2; have how2 := (how.adds h1.added).other (hob.adds h1.added) (by decide) g2; obtain ⟨b2, c2, hv2, _⟩ := h2.byt.open; rw [hL] at hv2; subst hv2)
              | (at_builtin; refine int_app rfl (.tmp 67) (.tmp 70) rfl (how2.alloc _) rfl (lst_new rfl) rfl (by simp; omega) ?_; intro v3 w3 h3 g3))
            go_roundw
            case rel =>
              refine ⟨k + 1, by omega, by go_num, ?_, by rw [hmap]; exact h3⟩
              rw [hrn]
              exact (h2.alloc _).other (how2.alloc _) (by decide) g3
            case measure => simp [intOf]; omega
          · have hk' : k = ls.length := by omega
            subst hk'
            have hp1 := hpre ls.length
            rw [List.take_length] at hob hp1
            obtain ⟨N, hN⟩ : ∃ N, N = (recs ls).length := ⟨_, rfl⟩
            obtain ⟨bo, bc, hbv, hbc, _⟩ := hob.byt.open
            subst hbv
            rw [← hN] at hob hp1 hbc ⊢
            obtain ⟨T, hT⟩ : ∃ T : Nat, (C : Int) % ((N : Int) + 1) = (T : Int) := ⟨C % (N + 1), by
              rw [show (N : Int) + 1 = ((N + 1 : Nat) : Int) by omega, Int.natCast_emod]⟩
            have hTN : T ≤ N := by
              have h1 := Int.emod_lt_of_pos (C : Int) (show 0 < (N : Int) + 1 by omega)
              rw [hT] at h1
              omega
            have HN : Hid (N = (recs ls).length) := hN
            clear hN
            obtain ⟨wo, wc, hwv, hwc, hwo⟩ := how.lst
            have hwl : (cellsI ((List.range ls.length).map fun j => pre ls (j + 1))).length = ls.length := by simp [cellsI]
            rw [hwl] at hwv hwc
            subst hwv
            go_wp2
            rw [hT]
            rename World => w2
            go_loopw [13] (fun kv W => ∃ k : Nat, k ≤ ls.length ∧ kv = .int .i64 k ∧ pre ls k ≤ T ∧ W = w2) (fun kv _ => (ls.length - intOf kv).toNat)
            case atStart => exact ⟨0, by omega, rfl, by simp [pre, recs], rfl⟩
            case round =>
              obtain ⟨k, hk, rfl, hpk, rfl⟩ := hrel
              by_cases hgo : k < ls.length ∧ pre ls (k + 1) ≤ T
              · rcases hwo with hwo | ⟨b', off', rfl, hb', hl'⟩
                · rw [hwo] at hwl; simp at hwl; omega
                have hcell := hl' k (by omega)
                have hce : (cellsI ((List.range ls.length).map fun j => pre ls (j + 1)))[k]'(by omega) = .int .i64 ((pre ls (k + 1) : Nat) : Int) := by simp [cellsI]
                rw [hce] at hcell
                have hgo1 := hgo.1
                have hgo2 := hgo.2
                clear hce
                go_wp2
                go_roundw
                case rel => exact ⟨k + 1, by omega, by go_num, hgo2, trivial⟩
                case measure => simp [intOf]; omega
              · have hwh : whole ls T = k := whole_spec ls T k hk hpk (by omega)
                have hcut := rows_cut ls T (fun b hb => Nat.le_trans (hle b hb) (by decide))
                rw [hwh] at hcut
                have hb3 := hob.byt.take (hi := T) (by rw [← HN.out]; exact hTN)
                have k1 := row_any _ _ _ hb3 (by simp; omega)
                rw [hcut] at k1
                have h3 := (h'.take hk).adds hob.added
                have hlk : (ls.take k).length ≤ 1000000 := by simp; omega
                generalize (rows ((recs ls).take T)).2 = R2 at *
                by_cases hkl : k < ls.length
                · have hgo2 : ¬ pre ls (k + 1) ≤ T := by omega
                  rcases hwo with hwo | ⟨b', off', rfl, hb', hl'⟩
                  · rw [hwo] at hwl; simp at hwl; omega
                  have hcell := hl' k (by omega)
                  have hce : (cellsI ((List.range ls.length).map fun j => pre ls (j + 1)))[k]'(by omega) = .int .i64 ((pre ls (k + 1) : Nat) : Int) := by simp [cellsI]
                  rw [hce] at hcell
                  clear hce
                  go_wp2_with (first
                    | (go_at_call 15; (with_reducible refine k1.mono ?_); rintro e w3 ⟨r3, rfl, h4, a3⟩)
                    | (go_at_call 17; (with_reducible refine (same_any _ _ _ _ _ h4 (h3.adds a3) hlk hlk).mono ?_); rintro e w4 ⟨rfl, a4⟩)
                    | (go_at_call 8; (with_reducible refine (awake_any _).mono ?_); rintro e w8 ⟨rfl, a8⟩))
                  go_ret
                  exact ⟨by simp, ((hob.added.trans a3).trans a4).trans a8⟩
                · have hk' : k = ls.length := by omega
                  subst hk'
                  go_wp2_with (first
                    | (go_at_call 15; (with_reducible refine k1.mono ?_); rintro e w3 ⟨r3, rfl, h4, a3⟩)
                    | (go_at_call 17; (with_reducible refine (same_any _ _ _ _ _ h4 (h3.adds a3) hlk hlk).mono ?_); rintro e w4 ⟨rfl, a4⟩)
                    | (go_at_call 8; (with_reducible refine (awake_any _).mono ?_); rintro e w8 ⟨rfl, a8⟩))
                  go_ret
                  exact ⟨by simp, ((hob.added.trans a3).trans a4).trans a8⟩

end Go.Proofs.Ytmbnpglnanfdoaa
