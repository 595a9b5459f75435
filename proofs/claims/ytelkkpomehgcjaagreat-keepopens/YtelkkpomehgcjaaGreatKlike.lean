/-
  The statements' own function like of keeps, by contracts.
-/
import Derived.Test.YtelkkpomehgcjaaGreatRapply
import Derived.Test.YtelkkpomehgcjaaGreatKone
import Derived.Deep.RegionHeld
import Derived.Deep.CutRange
namespace Go.Proofs.YtelkkpomehgcjaaGreat
open Go.RowKit Go.Maps
attribute [local go_sem] cell?_more frozen?_more setCell_more size_more tape_more drew_more drewN_more more_drew more_drewN more_more one_out plus_out plus_end lt_one le_p2 le_p3 le_p4 le_p5 le_p6 le_p7 le_p8 le_p9 le_p10 le_p11 le_p12 le_p13 le_p14 le_p15 le_p16 le_p17 le_p18 le_p19 le_p20 le_p21 le_p22 le_p23 le_p24 le_q0 le_q1 lt_q1 le_q2 lt_q2 le_q3 lt_q3 le_q4 lt_q4 le_q5 lt_q5 le_q6 lt_q6 le_q7 lt_q7 le_q8 lt_q8 le_q9 lt_q9 le_q10 lt_q10 le_q11 lt_q11 le_q12 lt_q12 le_q13 lt_q13 le_q14 lt_q14 le_q15 lt_q15 le_q16 lt_q16 le_q17 lt_q17 le_q18 lt_q18 le_q19 lt_q19 le_q20 lt_q20 le_q21 lt_q21 le_q22 lt_q22 le_q23 lt_q23 le_q24 lt_q24

theorem getK_none {w : World} {K : Kw} (h : Kr w K) (i : Int) (hi : i < 0 ∨ (K.es.length : Int) ≤ i) : Calls Tryz.prog 26 #[ptr K.p, .int .i64 i] w fun e w' => e = .returned (.tuple #[.slice none 0 0, .bool false]) ∧ w' = w := by
  have kL := lenK_any h
  generalize (K.es.length : Int) = n at *
  by_cases i0 : i < 0
  · go_enter Tryz.func26, Tryz.ntmps26
    go_wp2_with (go_at_call 27; refine kL.mono ?_; rintro e w1 ⟨rfl, rfl⟩)
    go_ret2
    exact ⟨rfl, rfl⟩
  · have i1 : n ≤ i := by omega
    go_enter Tryz.func26, Tryz.ntmps26
    go_wp2_with (go_at_call 27; refine kL.mono ?_; rintro e w1 ⟨rfl, rfl⟩)
    go_ret2
    exact ⟨rfl, rfl⟩

theorem rws_ofF {W w' : World} {r : Value} {xs : List Value} {ls : List (List UInt8)} (h : OwnV W.heap.size 40 r xs W w') (he : EachF W.heap.size w' xs ls) : Rws w' r ls :=
  (rwsA_own (F := fun _ => False) h.1 (he.eachA fun _ _ _ _ hf => hf) fun _ _ hf => hf).rws

set_option maxRecDepth 20000 in
set_option maxHeartbeats 4000000 in
theorem likeK_any {w : World} {K : Kw} (hk : Kr w K) (hfit : fits K.es) (hnl : K.nt.length ≤ 1000000) (hel : K.es.length ≤ 10000) {i0 i3 i5 i6 i8 : Int} {g4 : Bool} {ko dO l7 lo no : Option Addr} {kn kc dn dc n7 c7 lc nc : Nat} {ls : List (List UInt8)} {nt : List UInt8} (hv : viewK (K.es, K.nt) = (ls, nt)) (hL : Rws w (.slice lo ls.length lc) ls) (hN : Byt w (.slice no nt.length nc) nt) :
    Calls Tryz.prog 18 #[ptr K.p, .agg #[.int .i64 i0, .slice ko kn kc, .slice dO dn dc, .int .i64 i3, .bool g4, .int .i64 i5, .int .i64 i6, .slice l7 n7 c7, .int .i64 i8, .slice lo ls.length lc, .slice no nt.length nc]] w fun e w' => e = .returned (.bool true) ∧ Adds w w' := by
  have e1 : K.es.map (List.drop 1) = ls := congrArg Prod.fst hv
  have e2 : K.nt.drop 1 = nt := congrArg Prod.snd hv
  have hle : K.es.length = ls.length := by rw [← e1]; simp
  have HKr : Hid (Kr w K) := hk
  have HLs : Hid (Rws w (.slice lo ls.length lc) ls) := hL
  have HNt : Hid (Byt w (.slice no nt.length nc) nt) := hN
  have k27 : ∀ w1, Adds w w1 → Calls Tryz.prog 27 #[ptr K.p] w1 fun e w' => e = .returned (.int .i64 (ls.length : Int)) ∧ w' = w1 := fun w1 h1 => by
    have := lenK_any (hk.adds h1)
    rw [hle] at this
    exact this
  have k44 : ∀ w1, Adds w w1 → Calls Tryz.prog 44 #[ptr K.p] w1 fun e w' => ∃ ro rc, e = .returned (.slice ro nt.length rc) ∧ Byt w' (.slice ro nt.length rc) nt ∧ Adds w1 w' := fun w1 h1 => by
    refine (notedK_any (hk.adds h1) hnl).mono ?_
    rintro e w' ⟨r, rfl, h2, h3⟩
    rw [e2] at h2
    obtain ⟨ro, rc, rfl, _⟩ := row_slice_len h2
    exact ⟨ro, rc, rfl, row_byt h2, h3⟩
  have k46 : ∀ w1, Adds w w1 → Calls Tryz.prog 46 #[ptr K.p] w1 fun e w' => ∃ ro rc, e = .returned (.slice ro ls.length rc) ∧ Rws w' (.slice ro ls.length rc) ls ∧ Adds w1 w' := fun w1 h1 => by
    refine (allK_any (hk.adds h1) hfit (by omega)).mono ?_
    rintro e w' ⟨r, xs, rfl, o, f⟩
    rw [e1] at f
    have hr := rws_ofF o f
    obtain ⟨ro, rc, rfl, _⟩ := hr.slice
    exact ⟨ro, rc, rfl, hr, o.added⟩
  have k45 : ∀ w1 v, Adds w w1 → Rws w1 v ls → Calls Tryz.prog 45 #[v, .slice lo ls.length lc] w1 fun e w' => e = .returned (.bool true) ∧ Adds w1 w' := fun w1 v h1 hv => by
    have := same_any v (.slice lo ls.length lc) ls ls w1 hv (hL.adds h1) (by omega) (by omega)
    rw [decide_eq_true rfl] at this
    exact this
  have kG : ∀ w1 (j : Nat) (hj : j < ls.length), Adds w w1 → Calls Tryz.prog 26 #[ptr K.p, .int .i64 (j : Int)] w1 fun e w' => ∃ ro rc, e = .returned (.tuple #[.slice ro ls[j].length rc, .bool true]) ∧ Byt w' (.slice ro ls[j].length rc) ls[j] ∧ Adds w1 w' := fun w1 j hj h1 => by
    have hj' : j < K.es.length := by omega
    refine (getK_any (hk.adds h1) hj' (by have := hfit _ (List.getElem_mem hj'); omega)).mono ?_
    rintro e w' ⟨r, rfl, h2, h3⟩
    have e3 : K.es[j].drop 1 = ls[j] := by
      subst e1
      simp
    rw [e3] at h2
    obtain ⟨ro, rc, rfl, _⟩ := row_slice_len h2
    exact ⟨ro, rc, rfl, row_byt h2, h3⟩
  have kO : ∀ w1 (i : Int), Adds w w1 → (i < 0 ∨ (ls.length : Int) ≤ i) → Calls Tryz.prog 26 #[ptr K.p, .int .i64 i] w1 fun e w' => e = .returned (.tuple #[.slice none 0 0, .bool false]) ∧ w' = w1 := fun w1 i h1 hi => getK_none (hk.adds h1) i (by rw [hle]; exact hi)
  have hll : ls.length ≤ 10000 := by omega
  have HBX : Hid ((w.alloc (.cells #[.int .i64 i0, .slice ko kn kc, .slice dO dn dc, .int .i64 i3, .bool g4, .int .i64 i5, .int .i64 i6, .slice l7 n7 c7, .int .i64 i8, .slice lo ls.length lc, .slice no nt.length nc] 42)).heap[w.heap.size]? = some (.cells #[.int .i64 i0, .slice ko kn kc, .slice dO dn dc, .int .i64 i3, .bool g4, .int .i64 i5, .int .i64 i6, .slice l7 n7 c7, .int .i64 i8, .slice lo ls.length lc, .slice no nt.length nc] 42 (0, 0))) := new_block _ _
  have HX6 : Hid (Adds (w.alloc (.cells #[.int .i64 i0, .slice ko kn kc, .slice dO dn dc, .int .i64 i3, .bool g4, .int .i64 i5, .int .i64 i6, .slice l7 n7 c7, .int .i64 i8, .slice lo ls.length lc, .slice no nt.length nc] 42)) (w.alloc (.cells #[.int .i64 i0, .slice ko kn kc, .slice dO dn dc, .int .i64 i3, .bool g4, .int .i64 i5, .int .i64 i6, .slice l7 n7 c7, .int .i64 i8, .slice lo ls.length lc, .slice no nt.length nc] 42))) := Adds.refl _
  clear hk hfit hnl hel hv hL hN e1 e2 hle
  go_enter Tryz.func18, Tryz.ntmps18
  go_wp2
  obtain ⟨w6, hw6⟩ : ∃ w6, w6 = w.alloc (.cells #[.int .i64 i0, .slice ko kn kc, .slice dO dn dc, .int .i64 i3, .bool g4, .int .i64 i5, .int .i64 i6, .slice l7 n7 c7, .int .i64 i8, .slice lo ls.length lc, .slice no nt.length nc] 42) := ⟨_, rfl⟩
  rw [← hw6]
  have HX6 : Hid (Adds (w.alloc (.cells #[.int .i64 i0, .slice ko kn kc, .slice dO dn dc, .int .i64 i3, .bool g4, .int .i64 i5, .int .i64 i6, .slice l7 n7 c7, .int .i64 i8, .slice lo ls.length lc, .slice no nt.length nc] 42)) w6) := by rw [hw6]; exact Adds.refl _
  have HW6 : Hid (Adds w w6) := Adds.trans ((Adds.refl w).alloc _) HX6.out
  clear hw6
  have x69 : w6.cell? ⟨w.heap.size, 9, none⟩ = some (.slice lo ls.length lc) := cell_of_row w6 _ 9 _ _ _ (HX6.out.at HBX.out)
  have x610 : w6.cell? ⟨w.heap.size, 10, none⟩ = some (.slice no nt.length nc) := cell_of_row w6 _ 10 _ _ _ (HX6.out.at HBX.out)
  have s6 : w.heap.size < w6.heap.size := (Array.getElem?_eq_some_iff.1 (HX6.out.at HBX.out)).1
  have cvo6 : (convert 40 9 (.slice no nt.length nc)).run Tryz.prog w6 = .ok (.string ⟨nt.toArray⟩) w6 := (Byt.adds HNt.out HW6.out).str
  have cvd6 : (convert 40 9 (.slice no nt.length nc)).run Tryz.prog w6.drew = .ok (.string ⟨nt.toArray⟩) w6.drew := ((Byt.adds HNt.out HW6.out).adds ((Adds.refl _).drew)).str
  go_cut [30] from 8 (fun q wc => q = .bool false ∧ Adds w6 wc)
  case first =>
    go_region_held (fun w' => w'.cell? ⟨w.heap.size, 9, none⟩ = some (.slice lo ls.length lc) ∧ w'.cell? ⟨w.heap.size, 10, none⟩ = some (.slice no nt.length nc) ∧ w.heap.size < w'.heap.size ∧ (convert 40 9 (.slice no nt.length nc)).run Tryz.prog w' = .ok (.string ⟨nt.toArray⟩) w')
      (refine ⟨?_, ?_, ?_, ?_⟩ <;> simp [go_sem, *])
      (first
        | (go_at_call 27; refine (k27 _ (HW6.out.trans (by repeat (first | with_reducible exact Adds.refl _ | with_reducible refine Adds.alloc ?_ _ | with_reducible refine Adds.more ?_ _ _ | with_reducible refine Adds.drew ?_ | with_reducible refine Adds.drewN ?_ _)))).mono ?_; rintro e w7 ⟨rfl, hw7⟩; subst hw7)
        | (go_at_call 44; refine (k44 _ (HW6.out.trans (by repeat (first | with_reducible exact Adds.refl _ | with_reducible refine Adds.alloc ?_ _ | with_reducible refine Adds.more ?_ _ _ | with_reducible refine Adds.drew ?_ | with_reducible refine Adds.drewN ?_ _)))).mono ?_; rintro e w8 ⟨ro, rc, rfl, b8, a8⟩; have HB8 : Hid (Adds w6 w8) := Adds.trans (by repeat (first | with_reducible exact Adds.refl _ | with_reducible refine Adds.alloc ?_ _ | with_reducible refine Adds.more ?_ _ _ | with_reducible refine Adds.drew ?_ | with_reducible refine Adds.drewN ?_ _)) a8; have HX8 : Hid (Adds (w.alloc (.cells #[.int .i64 i0, .slice ko kn kc, .slice dO dn dc, .int .i64 i3, .bool g4, .int .i64 i5, .int .i64 i6, .slice l7 n7 c7, .int .i64 i8, .slice lo ls.length lc, .slice no nt.length nc] 42)) w8) := HX6.out.trans HB8.out; have x89 : w8.cell? ⟨w.heap.size, 9, none⟩ = some (.slice lo ls.length lc) := cell_of_row w8 _ 9 _ _ _ (HX8.out.at HBX.out); have x810 : w8.cell? ⟨w.heap.size, 10, none⟩ = some (.slice no nt.length nc) := cell_of_row w8 _ 10 _ _ _ (HX8.out.at HBX.out); have s8 : w.heap.size < w8.heap.size := (Array.getElem?_eq_some_iff.1 (HX8.out.at HBX.out)).1; have cw8 : (convert 40 9 (.slice ro nt.length rc)).run Tryz.prog w8 = .ok (.string ⟨nt.toArray⟩) w8 := b8.str; have cv8 : ∀ k, (convert 40 9 (.slice ro nt.length rc)).run Tryz.prog (w8.drewN k) = .ok (.string ⟨nt.toArray⟩) (w8.drewN k) := (fun k => (b8.adds ((Adds.refl _).drewN k)).str); have cvo8 : (convert 40 9 (.slice no nt.length nc)).run Tryz.prog w8 = .ok (.string ⟨nt.toArray⟩) w8 := (Byt.adds HNt.out (HW6.out.trans HB8.out)).str; have cvd8 : (convert 40 9 (.slice no nt.length nc)).run Tryz.prog w8.drew = .ok (.string ⟨nt.toArray⟩) w8.drew := ((Byt.adds HNt.out (HW6.out.trans HB8.out)).adds ((Adds.refl _).drew)).str; clear a8 b8)
        | (go_at_call 46; refine (k46 _ (HW6.out.trans (HB8.out.trans (by repeat (first | with_reducible exact Adds.refl _ | with_reducible refine Adds.alloc ?_ _ | with_reducible refine Adds.more ?_ _ _ | with_reducible refine Adds.drew ?_ | with_reducible refine Adds.drewN ?_ _))))).mono ?_; rintro e w9 ⟨rp, rd, rfl, rr9, a9⟩; have HR9 : Hid (Rws w9 (.slice rp ls.length rd) ls) := rr9; have HB9 : Hid (Adds w6 w9) := HB8.out.trans (Adds.trans (by repeat (first | with_reducible exact Adds.refl _ | with_reducible refine Adds.alloc ?_ _ | with_reducible refine Adds.more ?_ _ _ | with_reducible refine Adds.drew ?_ | with_reducible refine Adds.drewN ?_ _)) a9); have HX9 : Hid (Adds (w.alloc (.cells #[.int .i64 i0, .slice ko kn kc, .slice dO dn dc, .int .i64 i3, .bool g4, .int .i64 i5, .int .i64 i6, .slice l7 n7 c7, .int .i64 i8, .slice lo ls.length lc, .slice no nt.length nc] 42)) w9) := HX6.out.trans HB9.out; have x99 : w9.cell? ⟨w.heap.size, 9, none⟩ = some (.slice lo ls.length lc) := cell_of_row w9 _ 9 _ _ _ (HX9.out.at HBX.out); have x910 : w9.cell? ⟨w.heap.size, 10, none⟩ = some (.slice no nt.length nc) := cell_of_row w9 _ 10 _ _ _ (HX9.out.at HBX.out); have s9 : w.heap.size < w9.heap.size := (Array.getElem?_eq_some_iff.1 (HX9.out.at HBX.out)).1; have cvo9 : (convert 40 9 (.slice no nt.length nc)).run Tryz.prog w9 = .ok (.string ⟨nt.toArray⟩) w9 := (Byt.adds HNt.out (HW6.out.trans HB9.out)).str; have cvd9 : (convert 40 9 (.slice no nt.length nc)).run Tryz.prog w9.drew = .ok (.string ⟨nt.toArray⟩) w9.drew := ((Byt.adds HNt.out (HW6.out.trans HB9.out)).adds ((Adds.refl _).drew)).str; clear a9 rr9)
        | (go_at_call 45; refine (k45 _ _ (HW6.out.trans (HB9.out.trans (by repeat (first | with_reducible exact Adds.refl _ | with_reducible refine Adds.alloc ?_ _ | with_reducible refine Adds.more ?_ _ _ | with_reducible refine Adds.drew ?_ | with_reducible refine Adds.drewN ?_ _)))) (HR9.out.adds (by repeat (first | with_reducible exact Adds.refl _ | with_reducible refine Adds.alloc ?_ _ | with_reducible refine Adds.more ?_ _ _ | with_reducible refine Adds.drew ?_ | with_reducible refine Adds.drewN ?_ _)))).mono ?_; rintro e wA ⟨rfl, aA⟩; have HBA : Hid (Adds w6 wA) := HB9.out.trans (Adds.trans (by repeat (first | with_reducible exact Adds.refl _ | with_reducible refine Adds.alloc ?_ _ | with_reducible refine Adds.more ?_ _ _ | with_reducible refine Adds.drew ?_ | with_reducible refine Adds.drewN ?_ _)) aA); have HXA : Hid (Adds (w.alloc (.cells #[.int .i64 i0, .slice ko kn kc, .slice dO dn dc, .int .i64 i3, .bool g4, .int .i64 i5, .int .i64 i6, .slice l7 n7 c7, .int .i64 i8, .slice lo ls.length lc, .slice no nt.length nc] 42)) wA) := HX6.out.trans HBA.out; have xA9 : wA.cell? ⟨w.heap.size, 9, none⟩ = some (.slice lo ls.length lc) := cell_of_row wA _ 9 _ _ _ (HXA.out.at HBX.out); have xA10 : wA.cell? ⟨w.heap.size, 10, none⟩ = some (.slice no nt.length nc) := cell_of_row wA _ 10 _ _ _ (HXA.out.at HBX.out); have sA : w.heap.size < wA.heap.size := (Array.getElem?_eq_some_iff.1 (HXA.out.at HBX.out)).1; have cvoA : (convert 40 9 (.slice no nt.length nc)).run Tryz.prog wA = .ok (.string ⟨nt.toArray⟩) wA := (Byt.adds HNt.out (HW6.out.trans HBA.out)).str; have cvdA : (convert 40 9 (.slice no nt.length nc)).run Tryz.prog wA.drew = .ok (.string ⟨nt.toArray⟩) wA.drew := ((Byt.adds HNt.out (HW6.out.trans HBA.out)).adds ((Adds.refl _).drew)).str; clear aA))
    all_goals go_wp2
    all_goals go_meet
    all_goals exact ⟨rfl, HBA.out.trans (by repeat (first | with_reducible exact Adds.refl _ | with_reducible refine Adds.alloc ?_ _ | with_reducible refine Adds.more ?_ _ _ | with_reducible refine Adds.drew ?_ | with_reducible refine Adds.drewN ?_ _))⟩
  case rest =>
    obtain ⟨rfl, hac⟩ := hcut
    have HAc : Hid (Adds w6 wc) := hac
    clear hac k44 k46 k45 k27
    go_wp2
    go_loopw [5] (fun i W => ∃ j : Nat, j ≤ ls.length + 2 ∧ i = .int .i64 ((j : Int) - 1) ∧ Adds wc W) (fun i _ => (ls.length + 1 - intOf i).toNat)
    case atStart => exact ⟨0, by omega, rfl, Adds.refl _⟩
    case round =>
      obtain ⟨j, hj, rfl, hA⟩ := hrel
      have HBr : Hid (Adds w6 wr) := HAc.out.trans hA
      have HAr : Hid (Adds wc wr) := hA
      have HXr : Hid (Adds (w.alloc (.cells #[.int .i64 i0, .slice ko kn kc, .slice dO dn dc, .int .i64 i3, .bool g4, .int .i64 i5, .int .i64 i6, .slice l7 n7 c7, .int .i64 i8, .slice lo ls.length lc, .slice no nt.length nc] 42)) wr) := HX6.out.trans HBr.out
      have HWr : Hid (Adds w wr) := HW6.out.trans HBr.out
      clear hA
      have xr9 : wr.cell? ⟨w.heap.size, 9, none⟩ = some (.slice lo ls.length lc) := cell_of_row wr _ 9 _ _ _ (HXr.out.at HBX.out)
      have xr10 : wr.cell? ⟨w.heap.size, 10, none⟩ = some (.slice no nt.length nc) := cell_of_row wr _ 10 _ _ _ (HXr.out.at HBX.out)
      have sr : w.heap.size < wr.heap.size := (Array.getElem?_eq_some_iff.1 (HXr.out.at HBX.out)).1
      clear xr10
      cases j with
      | zero =>
        have kG0 := kO wr (-1) HWr.out (.inl (by decide))
        rw [show (((0 : Nat) : Int) - 1) = -1 from rfl]
        have i1 : (-1 : Int) ≤ (ls.length : Int) := by omega
        clear kG kO
        go_wp2_with (go_at_call 26; refine kG0.mono ?_; rintro e w8 ⟨rfl, hw8⟩; subst hw8)
        go_quiet (fail)
        go_wp2
        go_roundw
        case rel => exact ⟨1, by omega, by go_num, HAr.out.trans (by repeat (first | with_reducible exact Adds.refl _ | with_reducible refine Adds.alloc ?_ _ | with_reducible refine Adds.more ?_ _ _ | with_reducible refine Adds.drew ?_ | with_reducible refine Adds.drewN ?_ _))⟩
        case measure => simp [intOf]; omega
      | succ k =>
        rw [show (((k + 1 : Nat) : Int) - 1) = (k : Int) from by omega]
        by_cases h1 : k < ls.length
        · obtain ⟨b, off, x, rfl, hb, hc, hx⟩ := Rws.at HLs.out h1
          have hc' : wr.cell? ⟨b, off + k, none⟩ = some x := (World.cell?_of_block (HWr.out.below.block b hb)).trans hc
          obtain ⟨ax, cx, rfl, _⟩ := hx.open
          have kG1 := kG wr k h1 HWr.out
          have HXb : Hid (Byt w (.slice ax ls[k].length cx) ls[k]) := hx
          have hbr : b < wr.heap.size := Nat.lt_of_lt_of_le hb HWr.out.below.size
          have i1 : (k : Int) ≤ (ls.length : Int) := by omega
          have i2 : (k : Int) < (ls.length : Int) := by omega
          clear kG kO hc hx
          generalize ls[k] = m at *
          go_wp2_with fail
          refine kG1.mono ?_
          rintro e w8 ⟨ro, rc, rfl, b8, a8⟩
          have HB8 : Hid (Adds wr w8) := a8
          have HX8 : Hid (Adds (w.alloc (.cells #[.int .i64 i0, .slice ko kn kc, .slice dO dn dc, .int .i64 i3, .bool g4, .int .i64 i5, .int .i64 i6, .slice l7 n7 c7, .int .i64 i8, .slice (some ⟨b, off, none⟩) ls.length lc, .slice no nt.length nc] 42)) w8) := HXr.out.trans a8
          have x89 : w8.cell? ⟨w.heap.size, 9, none⟩ = some (.slice (some ⟨b, off, none⟩) ls.length lc) := cell_of_row w8 _ 9 _ _ _ (HX8.out.at HBX.out)
          have x810 : w8.cell? ⟨w.heap.size, 10, none⟩ = some (.slice no nt.length nc) := cell_of_row w8 _ 10 _ _ _ (HX8.out.at HBX.out)
          have s8 : w.heap.size < w8.heap.size := (Array.getElem?_eq_some_iff.1 (HX8.out.at HBX.out)).1
          have y8 : w8.cell? ⟨b, off + k, none⟩ = some (.slice ax m.length cx) := (World.cell?_of_block (a8.below.block b hbr)).trans hc'
          have cw8 : (convert 40 9 (.slice ro m.length rc)).run Tryz.prog w8 = .ok (.string ⟨m.toArray⟩) w8 := b8.str
          have cx8 : (convert 40 9 (.slice ax m.length cx)).run Tryz.prog w8 = .ok (.string ⟨m.toArray⟩) w8 := (Byt.adds HXb.out (HWr.out.trans a8)).str
          have cv8 : ∀ k, (convert 40 9 (.slice ro m.length rc)).run Tryz.prog (w8.drewN k) = .ok (.string ⟨m.toArray⟩) (w8.drewN k) := fun k => (b8.adds ((Adds.refl _).drewN k)).str
          have cy8 : ∀ k, (convert 40 9 (.slice ax m.length cx)).run Tryz.prog (w8.drewN k) = .ok (.string ⟨m.toArray⟩) (w8.drewN k) := fun k => ((Byt.adds HXb.out (HWr.out.trans a8)).adds ((Adds.refl _).drewN k)).str
          clear a8 b8
          go_wp2
          go_quiet (fail)
          go_wp2
          go_roundw
          case rel => exact ⟨k + 2, by omega, by go_num, HAr.out.trans (HB8.out.trans (by repeat (first | with_reducible exact Adds.refl _ | with_reducible refine Adds.alloc ?_ _ | with_reducible refine Adds.more ?_ _ _ | with_reducible refine Adds.drew ?_ | with_reducible refine Adds.drewN ?_ _)))⟩
          case measure => simp [intOf]; omega
        · by_cases h2 : k = ls.length
          · subst h2
            have kG0 := kO wr (ls.length : Int) HWr.out (.inr (Int.le_refl _))
            clear kG kO
            go_wp2_with (go_at_call 26; refine kG0.mono ?_; rintro e w8 ⟨rfl, hw8⟩; subst hw8)
            go_quiet (fail)
            go_wp2
            go_roundw
            case rel => exact ⟨ls.length + 2, by omega, by go_num, HAr.out.trans (by repeat (first | with_reducible exact Adds.refl _ | with_reducible refine Adds.alloc ?_ _ | with_reducible refine Adds.more ?_ _ _ | with_reducible refine Adds.drew ?_ | with_reducible refine Adds.drewN ?_ _))⟩
            case measure => simp [intOf]
          · have i1 : ¬ (k : Int) ≤ (ls.length : Int) := by omega
            clear kG kO
            go_wp2
            go_ret
            exact ⟨rfl, HWr.out⟩

end Go.Proofs.YtelkkpomehgcjaaGreat
