/-
  The law KeepGrows.
-/
import Derived.Test.YtelkkpomehgcjaaKgrow
namespace Go.Proofs.Ytelkkpomehgcjaa
open Go.RowKit Go.Maps
attribute [local go_sem] cell?_more frozen?_more setCell_more size_more tape_more drew_more drewN_more more_drew more_drewN more_more one_out plus_out plus_end lt_one le_p2 le_p3 le_p4 le_p5 le_p6 le_p7 le_p8 le_p9 le_p10 le_p11 le_p12 le_p13 le_p14 le_p15 le_p16 le_p17 le_p18 le_p19 le_p20 le_p21 le_p22 le_p23 le_p24 le_q0 le_q1 lt_q1 le_q2 lt_q2 le_q3 lt_q3 le_q4 lt_q4 le_q5 lt_q5 le_q6 lt_q6 le_q7 lt_q7 le_q8 lt_q8 le_q9 lt_q9 le_q10 lt_q10 le_q11 lt_q11 le_q12 lt_q12 le_q13 lt_q13 le_q14 lt_q14 le_q15 lt_q15 le_q16 lt_q16 le_q17 lt_q17 le_q18 lt_q18 le_q19 lt_q19 le_q20 lt_q20 le_q21 lt_q21 le_q22 lt_q22 le_q23 lt_q23 le_q24 lt_q24

theorem each_snoc {B : Nat} {w : World} {xs : List Value} {ls : List (List UInt8)} {x : Value} {l : List UInt8} (h : Each B w xs ls) (hx : BytO B w x l) : Each B w (xs ++ [x]) (ls ++ [l]) := h.append ⟨hx, trivial⟩

/-- The first k entries that are added. -/
def wants (ls : List (List UInt8)) (k : Nat) : List (List UInt8) := (List.range k).map fun i => ls.getD (i % ls.length) []

theorem wants_length (ls : List (List UInt8)) (k : Nat) : (wants ls k).length = k := by simp [wants]

theorem wants_next {ls : List (List UInt8)} {k : Nat} (h : k % ls.length < ls.length) : wants ls (k + 1) = wants ls k ++ [ls[k % ls.length]] := by
  unfold wants
  rw [List.range_succ, List.map_append, List.map_singleton, List.getD_eq_getElem?_getD, List.getElem?_eq_getElem h]
  rfl

/-- What stands ahead of each round. -/
structure Gr (w : World) (ls : List (List UInt8)) (p : Nat) (v : Value) (k : Nat) (W : World) : Prop where
  ex : ∃ T K n base xs, CalK w W T K n base (zeroed (wants ls k)) (zeroed (wants ls k), []) 60000 (1000000 * (k + 1)) ∧ K.p = p ∧ (0 ≤ n ∧ n ≤ (k : Int)) ∧ base ≤ k ∧ W.ownsRow w.heap.size 22 1 v xs.length xs ∧ Each w.heap.size w xs (wants ls k) ∧ (∀ i, v.ownBlock = some i → ¬ footK T K i)
  short : ∀ b ∈ wants ls k, b.length ≤ 100

theorem Gr.len {w : World} {ls : List (List UInt8)} {p : Nat} {v : Value} {k : Nat} {W : World} (h : Gr w ls p v k W) : ∃ xs, W.ownsRow w.heap.size 22 1 v xs.length xs ∧ xs.length = k ∧ Adds w W := by
  obtain ⟨T, K, n, base, xs, h1, h2, h3, h4, h5, h6, h7⟩ := h.ex
  exact ⟨xs, h5, by rw [h6.length, wants_length], h1.adds⟩

/-- A round: an entry is added; the list grows. -/
theorem Gr.next {w : World} {ls : List (List UInt8)} {p : Nat} {v : Value} {k : Nat} {W : World} (h : Gr w ls p v k W) (hk : k < 255) (hm : k % ls.length < ls.length) (hs : ls[k % ls.length].length ≤ 100) (x : Value) (hx : BytO w.heap.size w x ls[k % ls.length]) :
    Calls Try.prog 13 #[ptr p, x] W fun e w' => e = .returned (.int .i64 0) ∧ ∃ xs, w'.ownsRow w.heap.size 22 1 v xs.length xs ∧ xs.length = k ∧ w.heap.size ≤ w'.heap.size ∧
      ∀ W2 w7 v7 g, W2 = w'.alloc (.cells #[x] 22) → w7.ownsRow w.heap.size 22 1 v7 (xs ++ [x]).length (xs ++ [x]) → W2.grownBy w7 v.ownBlock → (v7.ownBlock = v.ownBlock ∨ v7.ownBlock = some W2.heap.size) → g = k + 1 → Gr w ls p v7 g w7 := by
  obtain ⟨T, K, n, base, xs, h1, h2, h3, h4, h5, h6, h7⟩ := h.ex
  have hl := wants_length ls k
  have hbx : Byt W x ls[k % ls.length] := (hx.adds h1.adds).byt
  have kk := calK_add h1 h.short (by omega) (by omega) (by omega) (by rw [hl]; exact Nat.le_refl _) x _ hbx hs
  rw [h2, ← wants_next hm, wants_length] at kk
  refine kk.mono ?_
  rintro e w' ⟨rfl, T', K', n', base', hp, k', hn', hb', m⟩
  have h5' : w'.ownsRow w.heap.size 22 1 v xs.length xs := row_below h5 m h7
  refine ⟨rfl, xs, h5', by rw [h6.length, hl], k'.adds.below.size, ?_⟩
  rintro W2 w7 v7 g rfl h8 h9 h10 rfl
  have hA : Adds w' (w'.alloc (.cells #[x] 22)) := (Adds.refl _).alloc _
  have hf' : ∀ i, v.ownBlock = some i → ¬ footK T' K' i := fun i hi => (m.block i (h5.lt i hi).2 (h7 i hi)).2
  refine ⟨⟨T', K', n', base', xs ++ [x], (k'.more hA).pushed (row_adds h5' hA) (Nat.le_refl _) hf' h9, hp, hn', hb', h8, ?_, ?_⟩, ?_⟩
  · rw [wants_next hm]
    exact each_snoc h6 hx
  · intro i hi hc
    rcases h10 with e | e
    · exact hf' i (e.symm.trans hi) hc
    · rw [e] at hi
      simp only [Option.some.injEq] at hi
      have h11 := (k'.kp.lt i hc).2
      have h12 := hA.below.size
      omega
  · intro b hb
    rw [wants_next hm] at hb
    simp only [List.mem_append, List.mem_singleton] at hb
    rcases hb with hb | rfl
    · exact h.short b hb
    · exact hs

/-- Opened again: both keeps have all entries. -/
theorem Gr.again {w : World} {ls : List (List UInt8)} {p : Nat} {v : Value} {k : Nat} {W : World} (h : Gr w ls p v k W) (hk : k ≤ 255) :
    Calls Try.prog 10 #[ptr (w.heap.size + 1)] W fun e w' => ∃ K1 K2, e = .returned (.tuple #[ptr K2.p, .int .i64 0]) ∧ K1.p = p ∧ Kr w' K1 ∧ Kr w' K2 ∧ K1.es = zeroed (wants ls k) ∧ K2.es = zeroed (wants ls k) ∧ Rws w' v (wants ls k) ∧ Adds w w' := by
  obtain ⟨T, K, n, base, xs, h1, h2, h3, h4, h5, h6, h7⟩ := h.ex
  have hw := zeroed_weight h.short
  have hl := wants_length ls k
  refine (calK_reopen h1.kp.tap.st h1.rp h1.room (by have := h1.bulk; omega) h1.adds (zeroed_fits h.short) (by rw [zeroed_length, hl]; exact h4) (by rw [hl] at hw; omega) (by decide) (zeroed_known _)).mono ?_
  rintro e w' ⟨K2, rfl, kr, st, ⟨F, m⟩, a⟩
  rw [zeroed_fold] at st
  have hfoot : ∀ i, T.R.foot i → footK T K i := fun i hi => .inl (.inl hi)
  refine ⟨K, K2, rfl, h2, ((h1.kp.ke.sub fun i hi => .inl hi).mv m).kr, kr, congrArg Prod.fst h1.st, congrArg Prod.fst st, ⟨xs, ?_, ?_⟩, a⟩
  · exact (show OwnV w.heap.size 22 v xs w' w' from ⟨row_below h5 m fun i hi hc => h7 i hi (hfoot i hc), Below.refl _ _, a.below.size⟩).lst
  · exact h6.imp fun x l hx => (hx.adds a).mono a.below.size

theorem rws_of {W w' : World} {r : Value} {xs : List Value} {ls : List (List UInt8)} (h : OwnV W.heap.size 22 r xs W w') (he : EachF W.heap.size w' xs ls) : Rws w' r ls :=
  (rwsA_own (F := fun _ => False) h.1 (he.eachA fun _ _ _ _ hf => hf) fun _ _ hf => hf).rws

set_option maxRecDepth 20000 in
set_option maxHeartbeats 1000000 in
theorem keepGrows_any (nn : UInt8) (v : Value) (ls : List (List UInt8)) (w : World) (hv : Rws w v ls) :
    Calls Try.prog 4 #[.int .u8 (nn.toNat : Int), v] w fun e w' => e = .returned (.bool true) ∧ Adds w w' := by
  have kN := st_new 60000 (by decide) w
  rw [show ((60000 : Nat) : Int) = 60000 from rfl] at kN
  have k1 : ∀ w1 R1, R1.p = w.heap.size + 1 → St w1 w.heap.size R1 (calm [] 0) → R1.room = 60000 → R1.bulk = 0 → Adds w w1 →
      Calls Try.prog 10 #[ptr (w.heap.size + 1)] w1 fun e w' => ∃ p, e = .returned (.tuple #[ptr p, .int .i64 0]) ∧ Adds w w' ∧ Gr w ls p (.slice (some ⟨w'.heap.size, 0, none⟩) 0 0) 0 (w'.alloc (.cells #[] 22)) := by
    intro w1 R1 hp hs hr hb ha
    refine (calK_open hs hp hr hb ha (by decide) (by decide)).mono ?_
    rintro e w' ⟨T, K, rfl, k⟩
    have ho := ownV_empty w' 22
    refine ⟨K.p, rfl, k.adds, ⟨T, K, 0, 0, [], (k.more ((Adds.refl _).alloc _)).mono (by decide), rfl, by decide, by decide, row_mono ho.1 k.adds.below.size, trivial, ?_⟩, fun b hb => by simp [wants] at hb⟩
    intro i hi hc
    have h1 := (k.kp.lt i hc).2
    simp only [Value.ownBlock, Option.some.injEq] at hi
    omega
  obtain ⟨al, cl, rfl, hcl⟩ := hv.slice
  by_cases h20 : ls.length ≤ 20
  · have i20 : ¬ (20 : Int) < (ls.length : Int) := by omega
    have hnn := nn.toNat_lt
    generalize nn.toNat = N at *
    have HV : Hid _ := hv
    go_enter Try.func4, Try.ntmps4
    go_wp2_with (first
      | (go_at_call 12; refine kN.mono ?_; rintro e w1 ⟨rfl, R1, p1, s1, r1, b1, a1⟩; have kA := k1 w1 R1 p1 s1 r1 b1 a1; clear p1 s1 r1 b1 a1)
      | (go_at_call 10; refine kA.mono ?_; clear kA; rintro e w2 ⟨p, rfl, a2, g2⟩))
    have HA2 : Hid _ := a2
    have HG2 : Hid _ := g2
    clear a2 g2 kN k1 hv
    go_loopw [9, 10] (fun v i W => ∃ k : Nat, k ≤ N ∧ i = .int .i64 k ∧ Gr w ls p v k W) (fun _ i _ => (N - intOf i).toNat)
    case atStart => exact ⟨0, by omega, rfl, HG2.out⟩
    case round =>
      obtain ⟨k, hk, rfl, hgr⟩ := hrel
      have HG : Hid _ := hgr
      clear hgr
      obtain ⟨xs0, hx0, hxl0, ha0⟩ := HG.out.len
      obtain ⟨aw, cw, rfl, _⟩ := row_slice_len hx0
      clear hx0
      have HA0 : Hid (Adds w wr) := ha0
      clear ha0
      by_cases hgo : k < N ∧ 0 < ls.length
      · obtain ⟨hkN, hl0⟩ := hgo
        have hm : k % ls.length < ls.length := Nat.mod_lt _ hl0
        obtain ⟨b, off, x, rfl, hb, hc, hx⟩ := Rws.at HV.out hm
        have hc' : wr.cell? ⟨b, off + k % ls.length, none⟩ = some x := (World.cell?_of_block (HA0.out.below.block b hb)).trans hc
        have hmod : Int.tmod (k : Int) (ls.length : Int) = ((k % ls.length : Nat) : Int) := Int.ofNat_tmod k ls.length
        obtain ⟨ax, cx, rfl, _⟩ := hx.open
        have j1 : (k : Int) < (N : Int) := by omega
        have j2 : (0 : Int) < (ls.length : Int) := by omega
        have j4 : ((k % ls.length : Nat) : Int) < (ls.length : Int) := by omega
        have j5 : (0 : Int) ≤ ((k % ls.length : Nat) : Int) := by omega
        by_cases h100 : ls[k % ls.length].length ≤ 100
        · have j3 : ¬ (100 : Int) < (ls[k % ls.length].length : Int) := by omega
          have kk := HG.out.next (by omega) hm h100 _ hx.old
          have hlen : xs0.length ≤ 1000000000 := by omega
          clear hx hc HG h100 hxl0
          generalize ls[k % ls.length].length = nb at *
          generalize k % ls.length = m at *
          go_wp2_with (first
            | (go_at_call 13; refine kk.mono ?_; clear kk; rintro e w3 ⟨rfl, xs3, h3, l3, s3, n3⟩)
            | (at_builtin; refine push_app rfl (.tmp 78) (.tmp 80) rfl (row_adds h3 ((Adds.refl _).alloc _)) (by simp; omega) rfl (.slice ax nb cx) rfl _ _ rfl (by simp [go_sem]) (by omega) ?_; intro v7 w7 h7 g7 e7; have g8 := n3 _ w7 v7 (k + 1) rfl h7 g7 e7 rfl; obtain ⟨ao7, l7, c7, rfl⟩ := row_slice h7))
          go_roundw
          case rel => exact ⟨k + 1, by omega, by go_num, g8⟩
          case measure => simp [intOf]; omega
        · have j3 : (100 : Int) < (ls[k % ls.length].length : Int) := by omega
          clear hx hc HG h100 hxl0
          generalize ls[k % ls.length].length = nb at *
          generalize k % ls.length = m at *
          go_wp2_with (go_at_call 11; refine (awake_any _).mono ?_; rintro e w3 ⟨rfl, a3⟩)
          go_ret
          exact ⟨rfl, HA0.out.trans a3⟩
      · have kA : Calls Try.prog 10 #[ptr (w.heap.size + 1)] wr fun e w' => ∃ p2, e = .returned (.tuple #[ptr p2, .int .i64 0]) ∧
            (∀ W, Adds w' W → Calls Try.prog 9 #[ptr p] W fun e w'' => ∃ ao l c, e = .returned (.slice ao l c) ∧ Rws w'' (.slice ao l c) (wants ls k) ∧ Adds W w'') ∧
            (∀ W, Adds w' W → Calls Try.prog 9 #[ptr p2] W fun e w'' => ∃ ao l c, e = .returned (.slice ao l c) ∧ Rws w'' (.slice ao l c) (wants ls k) ∧ Adds W w'') ∧
            (∀ W r, Adds w' W → Rws W r (wants ls k) → Calls Try.prog 14 #[r, .slice aw xs0.length cw] W fun e w'' => e = .returned (.bool true) ∧ Adds W w'') ∧ Adds w w' := by
          have hwl := wants_length ls k
          have all : ∀ w' K, Kr w' K → K.es = zeroed (wants ls k) → ∀ W, Adds w' W → Calls Try.prog 9 #[ptr K.p] W fun e w'' => ∃ ao l c, e = .returned (.slice ao l c) ∧ Rws w'' (.slice ao l c) (wants ls k) ∧ Adds W w'' := fun w' K kr he W hW => by
            refine (allK_any (kr.adds hW) (by rw [he]; exact zeroed_fits HG.out.short) (by rw [he, zeroed_length]; omega)).mono ?_
            rintro e w'' ⟨r, xs, rfl, o, f⟩
            obtain ⟨ao, l, c, rfl⟩ := row_slice o.1
            rw [he, zeroed_drop] at f
            exact ⟨ao, l, c, rfl, rws_of o f, o.added⟩
          refine (HG.out.again (by omega)).mono ?_
          rintro e w' ⟨K1, K2, rfl, hp, kr1, kr2, e1, e2, hrw, ha⟩
          refine ⟨K2.p, rfl, ?_, all w' K2 kr2 e2, ?_, ha⟩
          · have := all w' K1 kr1 e1
            rw [hp] at this
            exact this
          · intro W r hW hr
            have k := same_any r _ _ _ W hr (hrw.adds hW) (by omega) (by omega)
            rw [decide_eq_true rfl] at k
            exact k
        clear HG hxl0
        by_cases hkN : k < N
        · have hl0 : ls.length = 0 := by omega
          have j1 : (k : Int) < (N : Int) := by omega
          rw [hl0]
          go_wp2_with (first
            | (go_at_call 10; refine kA.mono ?_; clear kA; rintro e w5 ⟨p2, rfl, k51, k52, k53, a5⟩)
            | (go_at_call 9; refine (k51 _ (Adds.refl _)).mono ?_; clear k51; rintro e w6 ⟨ao6, l6, c6, rfl, r6, a6⟩)
            | (go_at_call 14; refine (k53 _ _ a6 r6).mono ?_; clear r6; rintro e w7 ⟨rfl, a7⟩)
            | (go_at_call 9; refine (k52 _ (a6.trans a7)).mono ?_; clear k52; rintro e w8 ⟨ao8, l8, c8, rfl, r8, a8⟩)
            | (go_at_call 14; refine (k53 _ _ ((a6.trans a7).trans a8) r8).mono ?_; clear k53; rintro e w9 ⟨rfl, a9⟩)
            | (go_at_call 11; refine (awake_any _).mono ?_; rintro e w10 ⟨rfl, a10⟩))
          go_ret
          exact ⟨rfl, a5.trans (a6.trans (a7.trans (a8.trans (a9.trans a10))))⟩
        · have j1 : ¬ (k : Int) < (N : Int) := by omega
          go_wp2_with (first
            | (go_at_call 10; refine kA.mono ?_; clear kA; rintro e w5 ⟨p2, rfl, k51, k52, k53, a5⟩)
            | (go_at_call 9; refine (k51 _ (Adds.refl _)).mono ?_; clear k51; rintro e w6 ⟨ao6, l6, c6, rfl, r6, a6⟩)
            | (go_at_call 14; refine (k53 _ _ a6 r6).mono ?_; clear r6; rintro e w7 ⟨rfl, a7⟩)
            | (go_at_call 9; refine (k52 _ (a6.trans a7)).mono ?_; clear k52; rintro e w8 ⟨ao8, l8, c8, rfl, r8, a8⟩)
            | (go_at_call 14; refine (k53 _ _ ((a6.trans a7).trans a8) r8).mono ?_; clear k53; rintro e w9 ⟨rfl, a9⟩)
            | (go_at_call 11; refine (awake_any _).mono ?_; rintro e w10 ⟨rfl, a10⟩))
          go_ret
          exact ⟨rfl, a5.trans (a6.trans (a7.trans (a8.trans (a9.trans a10))))⟩
  · have i20 : (20 : Int) < (ls.length : Int) := by omega
    go_enter Try.func4, Try.ntmps4
    go_wp2_with (first
      | (go_at_call 12; refine kN.mono ?_; rintro e w1 ⟨rfl, R1, p1, s1, r1, b1, a1⟩; have kA := k1 w1 R1 p1 s1 r1 b1 a1; clear p1 s1 r1 b1 a1)
      | (go_at_call 10; refine kA.mono ?_; clear kA; rintro e w2 ⟨p, rfl, a2, g2⟩)
      | (go_at_call 11; refine (awake_any _).mono ?_; rintro e w3 ⟨rfl, a3⟩))
    go_ret
    exact ⟨rfl, a2.trans a3⟩

end Go.Proofs.Ytelkkpomehgcjaa
