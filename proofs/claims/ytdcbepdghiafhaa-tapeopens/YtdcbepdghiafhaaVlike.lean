/-
  The statements' own function like by a contract: it returns true of a tape, its reel and the reference's that go together.
-/
import Derived.Test.YtdcbepdghiafhaaVopn2
import Derived.Test.YtdcbepdghiafhaaTread
import Derived.BigQuiet
import Derived.Deep.RegionHeld3
namespace Go.Proofs.Ytdcbepdghiafhaa
open Go.RowKit Go.Maps
attribute [local go_sem] cell?_more frozen?_more setCell_more size_more tape_more drew_more drewN_more more_drew more_drewN more_more one_out plus_out plus_end lt_one le_p2 le_p3 le_p4 le_p5 le_p6 le_p7 le_p8 le_p9 le_p10 le_p11 le_p12 le_p13 le_p14 le_p15 le_p16 le_p17 le_p18 le_p19 le_p20 le_p21 le_p22 le_p23 le_p24 le_q0 le_q1 lt_q1 le_q2 lt_q2 le_q3 lt_q3 le_q4 lt_q4 le_q5 lt_q5 le_q6 lt_q6 le_q7 lt_q7 le_q8 lt_q8 le_q9 lt_q9 le_q10 lt_q10 le_q11 lt_q11 le_q12 lt_q12 le_q13 lt_q13 le_q14 lt_q14 le_q15 lt_q15 le_q16 lt_q16 le_q17 lt_q17 le_q18 lt_q18 le_q19 lt_q19 le_q20 lt_q20 le_q21 lt_q21 le_q22 lt_q22 le_q23 lt_q23 le_q24 lt_q24
attribute [local go_sem] cell?_addTo

theorem key_atK {K : Kf} {l : List Fl} {w : World} {B zc : Nat} {zo : Option Addr} {n : Nat} (h : w.ownsRow B 3 1 (.slice zo n zc) n (cellsZ (keysK K))) (hn : n = (keysK K).length) (hk : kf l = K) {j : Nat} (hj : j < l.length) : ∃ g, zo = some ⟨g, 0, none⟩ ∧ n ≤ zc ∧ g < w.heap.size ∧ w.cell? ⟨g, j, none⟩ = some (.int .i64 l[j].1) := by
  subst hk
  have hlen : (cellsZ (keysK (kf l))).length = n := by simp [cellsZ, hn]
  have h' : w.ownsRow B 3 1 (.slice zo n zc) (cellsZ (keysK (kf l))).length (cellsZ (keysK (kf l))) := by rw [hlen]; exact h
  have hjl : j < (cellsZ (keysK (kf l))).length := by simpa [cellsZ, keysK, kf] using hj
  obtain ⟨g, cap, he, hc, _, hg, hx, _⟩ := row_at h' hjl
  simp only [Value.slice.injEq] at he
  obtain ⟨rfl, e2, rfl⟩ := he
  refine ⟨g, rfl, by omega, hg, ?_⟩
  rw [hx]
  simp [cellsZ, keysK, kf]

theorem getK_memK : ∀ {l : Kf} {k : Int} {b : List UInt8}, SrtK l → (k, b) ∈ l → getK k l = some b
  | [], _, _, _, h => by simp at h
  | p :: t, k, b, hs, h => by
    obtain ⟨h1, h2⟩ := List.pairwise_cons.1 hs
    rw [getK_cons]
    rcases List.mem_cons.1 h with e | h
    · subst e
      simp
    · have := h1 (k, b) h
      rw [if_neg (by simp only at this; omega)]
      exact getK_memK h2 h

theorem now_at {d : Dk} {K : Kf} (hK : SrtK K) (hf : filesK K = d.now) {l : List Fl} (hk : kf l = K) {j : Nat} (hj : j < l.length) : d.now l[j].1 = some l[j].2.2 := by
  rw [← hf]
  subst hk
  exact getK_memK hK (List.mem_map.2 ⟨_, List.getElem_mem hj, rfl⟩)

set_option maxRecDepth 20000 in
set_option maxHeartbeats 4000000 in
theorem like_any {w : World} {B : Nat} {T : Tw} {d : Dk} {room : Nat} {r : Rf} {ko dO lo : Option Addr} {kn kc dn dc lc : Nat} {kept : List Fl} {M : Nat} {K : Kf} {ls : List (List UInt8)} {base : Nat} (hT : Tap w B T d) (h : RefB w T.R r (.slice ko kn kc) (.slice dO dn dc) kept M) (hM : M ≤ 90000) (hlk : LikesD room d r) (hK : SrtK K) (hf : filesK K = d.now) (hKl : K.length ≤ 100000) (hls : T.ls = ls) (hbs : T.base = base) (file : Int) (hL : Rws w (.slice lo ls.length lc) ls) (hfit : fits ls) (hln : ls.length ≤ 10000) (hbl : base ≤ ls.length) (hbk : T.R.bulk ≤ 1099511627776) :
    Calls Try.prog 14 #[ptr T.p, ptr T.R.p, .agg #[.int .i64 r.room, .slice ko kn kc, .slice dO dn dc, .int .i64 (r.live : Int), .bool r.gone, .int .i64 r.armed, .int .i64 file, .slice lo ls.length lc, .int .i64 (base : Int)]] w fun e w' => e = .returned (.bool true) ∧ Adds w w' := by
  obtain ⟨g1, g2, g3⟩ := h.few hM
  have HB : Hid (RefB w T.R r (.slice ko kn kc) (.slice dO dn dc) kept M) := h
  have HT : Hid (Tap w B T d) := hT
  have HFt : Hid (∀ i, T.R.foot i → i < w.heap.size) := fun i hi => (hT.st.live.mem.lt hi).2
  have HKs : Hid (SrtK K ∧ filesK K = d.now) := ⟨hK, hf⟩
  have HS : Hid (r.done.foldl unitK (kf kept) = K) := by
    show r.done.foldl unitK (kf kept) = K
    rw [h.same]
    exact likesD_K hlk hK hf
  have k36 := fun (w1 : World) (h1 : Adds w w1) => refSeen_any (HB.out.adds h1).ref (fun i hi => Nat.lt_of_lt_of_le (HFt.out i hi) h1.below.size) g1 g2 (by omega) r.room (r.live : Int) r.armed r.gone
  have k39 := fun (w1 : World) (h1 : Adds w w1) => st_files (HT.out.adds h1).st hK hf
  have k31 : ∀ (w1 : World) (h1 : Adds w w1), Calls Try.prog 31 #[ptr T.p] w1 fun e w' => e = .returned (.int .i64 ((ls.length : Int) - (base : Int))) ∧ Adds w1 w' := fun w1 h1 => by
    have := grown_any (HT.out.adds h1) (by rw [hls]; omega) (by rw [hls, hbs]; exact hbl)
    rw [hls, hbs] at this
    exact this
  have k23 : ∀ (w1 : World) (h1 : Adds w w1), Calls Try.prog 23 #[ptr T.p] w1 fun e w' => ∃ ro rc, e = .returned (.slice ro ls.length rc) ∧ Rws w' (.slice ro ls.length rc) ls ∧ Adds w1 w' := fun w1 h1 => by
    refine (all_any (HT.out.adds h1) (by rw [hls]; exact hln) (by rw [hls]; exact hfit)).mono ?_
    rintro e w' ⟨rv, xs, rfl, o, ef⟩
    have hr : Rws w' rv ls := by rw [← hls]; exact ⟨xs, o.lst, ef.each⟩
    obtain ⟨ro, rc, rfl, _⟩ := hr.slice
    exact ⟨ro, rc, rfl, hr, o.added⟩
  have k24 : ∀ (w1 : World) (v : Value) (h1 : Adds w w1), Rws w1 v ls → Calls Try.prog 24 #[v, .slice lo ls.length lc] w1 fun e w' => e = .returned (.bool true) ∧ Adds w1 w' := fun w1 v h1 hv => by
    have := same_any v (.slice lo ls.length lc) ls ls w1 hv (hL.adds h1) (by omega) (by omega)
    rw [decide_eq_true rfl] at this
    exact this
  have k30 : ∀ (w1 : World) (h1 : Adds w w1), Calls Try.prog 30 #[ptr T.p] w1 fun e w' => e = .returned (.int .i64 (ls.length : Int)) ∧ w' = w1 := fun w1 h1 => by
    have := len_any (HT.out.adds h1)
    rw [hls] at this
    exact this
  have k29 : ∀ (w1 : World) (h1 : Adds w w1), Calls Try.prog 29 #[ptr T.p, .int .i64 (ls.length : Int)] w1 fun e w' => e = .returned (.tuple #[.slice none 0 0, .bool false]) ∧ Adds w1 w' := fun w1 h1 => by
    have := getT_none (HT.out.adds h1) (by rw [hls]; omega)
    rw [hls] at this
    exact this
  have HBX : Hid ((w.alloc (.cells #[.int .i64 r.room, .slice ko kn kc, .slice dO dn dc, .int .i64 (r.live : Int), .bool r.gone, .int .i64 r.armed, .int .i64 file, .slice lo ls.length lc, .int .i64 (base : Int)] 39)).heap[w.heap.size]? = some (.cells #[.int .i64 r.room, .slice ko kn kc, .slice dO dn dc, .int .i64 (r.live : Int), .bool r.gone, .int .i64 r.armed, .int .i64 file, .slice lo ls.length lc, .int .i64 (base : Int)] 39 (0, 0))) := new_block _ _
  clear h hT hK hf g1 g2 g3 hL hfit hls hbs hlk
  go_enter Try.func14, Try.ntmps14
  go_wp2_with (first
    | (go_at_call 36; refine (k36 _ (by repeat (first | with_reducible exact Adds.refl _ | with_reducible refine Adds.alloc ?_ _ | with_reducible refine Adds.more ?_ _ _ | with_reducible refine Adds.drew ?_ | with_reducible refine Adds.drewN ?_ _))).mono ?_; rintro e w5 ⟨r5, l5, rfl, f5, k5, a5⟩; obtain ⟨so, sc, rfl, _⟩ := f5.slice; have HA5 : Hid (Adds w w5) := Adds.trans (by repeat (first | with_reducible exact Adds.refl _ | with_reducible refine Adds.alloc ?_ _ | with_reducible refine Adds.more ?_ _ _ | with_reducible refine Adds.drew ?_ | with_reducible refine Adds.drewN ?_ _)) a5; have HX5 : Hid (Adds (w.alloc (.cells #[.int .i64 r.room, .slice ko kn kc, .slice dO dn dc, .int .i64 (r.live : Int), .bool r.gone, .int .i64 r.armed, .int .i64 file, .slice lo ls.length lc, .int .i64 (base : Int)] 39)) w5) := a5; have HF5 : Hid (FilesV w5 T.R (.slice so l5.length sc) l5 ∧ kf l5 = K) := ⟨f5, k5.trans HS.out⟩; clear f5 k5 a5 k36)
    | (go_at_call 39; refine (k39 _ (HA5.out.trans (by repeat (first | with_reducible exact Adds.refl _ | with_reducible refine Adds.alloc ?_ _ | with_reducible refine Adds.more ?_ _ _ | with_reducible refine Adds.drew ?_ | with_reducible refine Adds.drewN ?_ _)))).mono ?_; rintro e w6 ⟨fv, rfl, o6, a6⟩; obtain ⟨zo, zc, rfl, _⟩ := row_slice_any o6; have HZ : Hid _ := o6; have HA56 : Hid (Adds w5 w6) := Adds.trans (by repeat (first | with_reducible exact Adds.refl _ | with_reducible refine Adds.alloc ?_ _ | with_reducible refine Adds.more ?_ _ _ | with_reducible refine Adds.drew ?_ | with_reducible refine Adds.drewN ?_ _)) a6; clear o6 a6 k39))
  have hlen : (keysK K).length = l5.length := by rw [← HF5.out.2]; simp [keysK, kf]
  have HA6 : Hid (Adds (w.alloc (.cells #[.int .i64 r.room, .slice ko kn kc, .slice dO dn dc, .int .i64 (r.live : Int), .bool r.gone, .int .i64 r.armed, .int .i64 file, .slice lo ls.length lc, .int .i64 (base : Int)] 39)) w6) := Adds.trans HX5.out HA56.out
  have HW6 : Hid (Adds w w6) := HA5.out.trans HA56.out
  have HL5 : Hid (l5.length = (keysK K).length) := hlen.symm
  have hl5 : l5.length ≤ 100000 := by rw [← hlen]; simpa [keysK] using hKl
  rw [hlen]
  have HZ3 : Hid (∃ Bz, w6.ownsRow Bz 3 1 (.slice zo l5.length zc) l5.length (cellsZ (keysK K))) := ⟨_, by rw [← hlen]; exact HZ.out⟩
  have x67 : w6.cell? ⟨w.heap.size, 7, none⟩ = some (.slice lo ls.length lc) := cell_of_row w6 _ 7 _ _ _ ((Hid.out HA6).at HBX.out); have x68 : w6.cell? ⟨w.heap.size, 8, none⟩ = some (.int .i64 (base : Int)) := cell_of_row w6 _ 8 _ _ _ ((Hid.out HA6).at HBX.out); have s6 : w.heap.size < w6.heap.size := (Array.getElem?_eq_some_iff.1 ((Hid.out HA6).at HBX.out)).1
  have hwr : IntKind.i64.wrap ((ls.length : Int) - (base : Int)) = (ls.length : Int) - (base : Int) := by rw [IntKind.wrap_i64]; omega
  have HLn : Hid (ls.length ≤ 10000 ∧ l5.length ≤ 100000 ∧ T.R.bulk ≤ 1099511627776) := ⟨hln, hl5, hbk⟩
  clear hlen HZ hln hl5 hbk hM hKl hbl
  go_cut [50] from 19 (fun q wc => q = .bool false ∧ Adds w6 wc)
  case first =>
    go_region_held3 (fun w' => w'.cell? ⟨w.heap.size, 7, none⟩ = some (.slice lo ls.length lc) ∧ w'.cell? ⟨w.heap.size, 8, none⟩ = some (.int .i64 (base : Int)) ∧ w.heap.size < w'.heap.size)
      (refine ⟨?_, ?_, ?_⟩ <;> simp [go_sem, *])
      (first
        | (go_at_call 31; refine (k31 _ ((Hid.out HW6).trans (by repeat (first | with_reducible exact Adds.refl _ | with_reducible refine Adds.alloc ?_ _ | with_reducible refine Adds.more ?_ _ _ | with_reducible refine Adds.drew ?_ | with_reducible refine Adds.drewN ?_ _)))).mono ?_; rintro e w7 ⟨rfl, a7⟩; have HB7 : Hid (Adds w6 w7) := Adds.trans (by repeat (first | with_reducible exact Adds.refl _ | with_reducible refine Adds.alloc ?_ _ | with_reducible refine Adds.more ?_ _ _ | with_reducible refine Adds.drew ?_ | with_reducible refine Adds.drewN ?_ _)) a7; have HA7 : Hid (Adds (w.alloc (.cells #[.int .i64 r.room, .slice ko kn kc, .slice dO dn dc, .int .i64 (r.live : Int), .bool r.gone, .int .i64 r.armed, .int .i64 file, .slice lo ls.length lc, .int .i64 (base : Int)] 39)) w7) := (Hid.out HA6).trans (Hid.out HB7); have x77 : w7.cell? ⟨w.heap.size, 7, none⟩ = some (.slice lo ls.length lc) := cell_of_row w7 _ 7 _ _ _ ((Hid.out HA7).at HBX.out); have x78 : w7.cell? ⟨w.heap.size, 8, none⟩ = some (.int .i64 (base : Int)) := cell_of_row w7 _ 8 _ _ _ ((Hid.out HA7).at HBX.out); have s7 : w.heap.size < w7.heap.size := (Array.getElem?_eq_some_iff.1 ((Hid.out HA7).at HBX.out)).1; clear a7)
        | (go_at_call 23; refine (k23 _ ((Hid.out HW6).trans ((Hid.out HB7).trans (by repeat (first | with_reducible exact Adds.refl _ | with_reducible refine Adds.alloc ?_ _ | with_reducible refine Adds.more ?_ _ _ | with_reducible refine Adds.drew ?_ | with_reducible refine Adds.drewN ?_ _))))).mono ?_; rintro e w8 ⟨ro, rc, rfl, rr8, a8⟩; have HR8 : Hid (Rws w8 (.slice ro ls.length rc) ls) := rr8; have HB8 : Hid (Adds w6 w8) := (Hid.out HB7).trans (Adds.trans (by repeat (first | with_reducible exact Adds.refl _ | with_reducible refine Adds.alloc ?_ _ | with_reducible refine Adds.more ?_ _ _ | with_reducible refine Adds.drew ?_ | with_reducible refine Adds.drewN ?_ _)) a8); have HA8 : Hid (Adds (w.alloc (.cells #[.int .i64 r.room, .slice ko kn kc, .slice dO dn dc, .int .i64 (r.live : Int), .bool r.gone, .int .i64 r.armed, .int .i64 file, .slice lo ls.length lc, .int .i64 (base : Int)] 39)) w8) := (Hid.out HA6).trans (Hid.out HB8); have x87 : w8.cell? ⟨w.heap.size, 7, none⟩ = some (.slice lo ls.length lc) := cell_of_row w8 _ 7 _ _ _ ((Hid.out HA8).at HBX.out); have x88 : w8.cell? ⟨w.heap.size, 8, none⟩ = some (.int .i64 (base : Int)) := cell_of_row w8 _ 8 _ _ _ ((Hid.out HA8).at HBX.out); have s8 : w.heap.size < w8.heap.size := (Array.getElem?_eq_some_iff.1 ((Hid.out HA8).at HBX.out)).1; clear a8 rr8)
        | (go_at_call 24; refine (k24 _ _ ((Hid.out HW6).trans ((Hid.out HB8).trans (by repeat (first | with_reducible exact Adds.refl _ | with_reducible refine Adds.alloc ?_ _ | with_reducible refine Adds.more ?_ _ _ | with_reducible refine Adds.drew ?_ | with_reducible refine Adds.drewN ?_ _)))) ((Hid.out HR8).adds (by repeat (first | with_reducible exact Adds.refl _ | with_reducible refine Adds.alloc ?_ _ | with_reducible refine Adds.more ?_ _ _ | with_reducible refine Adds.drew ?_ | with_reducible refine Adds.drewN ?_ _)))).mono ?_; rintro e w9 ⟨rfl, a9⟩; have HB9 : Hid (Adds w6 w9) := (Hid.out HB8).trans (Adds.trans (by repeat (first | with_reducible exact Adds.refl _ | with_reducible refine Adds.alloc ?_ _ | with_reducible refine Adds.more ?_ _ _ | with_reducible refine Adds.drew ?_ | with_reducible refine Adds.drewN ?_ _)) a9); have HA9 : Hid (Adds (w.alloc (.cells #[.int .i64 r.room, .slice ko kn kc, .slice dO dn dc, .int .i64 (r.live : Int), .bool r.gone, .int .i64 r.armed, .int .i64 file, .slice lo ls.length lc, .int .i64 (base : Int)] 39)) w9) := (Hid.out HA6).trans (Hid.out HB9); have x97 : w9.cell? ⟨w.heap.size, 7, none⟩ = some (.slice lo ls.length lc) := cell_of_row w9 _ 7 _ _ _ ((Hid.out HA9).at HBX.out); have x98 : w9.cell? ⟨w.heap.size, 8, none⟩ = some (.int .i64 (base : Int)) := cell_of_row w9 _ 8 _ _ _ ((Hid.out HA9).at HBX.out); have s9 : w.heap.size < w9.heap.size := (Array.getElem?_eq_some_iff.1 ((Hid.out HA9).at HBX.out)).1; clear a9)
        | (go_at_call 30; refine (k30 _ ((Hid.out HW6).trans ((Hid.out HB9).trans (by repeat (first | with_reducible exact Adds.refl _ | with_reducible refine Adds.alloc ?_ _ | with_reducible refine Adds.more ?_ _ _ | with_reducible refine Adds.drew ?_ | with_reducible refine Adds.drewN ?_ _))))).mono ?_; rintro e wA ⟨rfl, rfl⟩))
    all_goals go_wp2
    all_goals go_meet
    all_goals
      refine ⟨rfl, HB9.out.trans ?_⟩
      repeat (first | with_reducible exact Adds.refl _ | with_reducible refine Adds.alloc ?_ _ | with_reducible refine Adds.more ?_ _ _ | with_reducible refine Adds.drew ?_ | with_reducible refine Adds.drewN ?_ _)
  case rest =>
    obtain ⟨rfl, hac⟩ := hcut
    have HAc : Hid (Adds w6 wc) := hac
    clear hac k31 k23 k24 x67 x68 hwr
    have hl5 : l5.length ≤ 100000 := HLn.out.2.1
    go_wp2
    go_loopw [9] (fun i W => ∃ j : Nat, j ≤ l5.length ∧ i = .int .i64 (j : Int) ∧ Adds wc W) (fun i _ => (l5.length - intOf i).toNat)
    case atStart => exact ⟨0, by omega, rfl, Adds.refl _⟩
    case round =>
      obtain ⟨j, hj, rfl, hA⟩ := hrel
      have HAr : Hid (Adds w6 wr) := HAc.out.trans hA
      have HA : Hid (Adds wc wr) := hA
      clear hA
      by_cases hlt : j < l5.length
      · obtain ⟨b, off, cap', he, _, hbl, e0, e1, hsf⟩ := FilesV.at (HF5.out.1.adds (HA56.out.trans HAr.out)) hlt
        simp only [Value.slice.injEq, true_and] at he
        obtain ⟨rfl, x2⟩ := he
        clear x2
        obtain ⟨Bz, hz⟩ := HZ3.out
        obtain ⟨g, rfl, hzc, hg, z0⟩ := key_atK hz HL5.out HF5.out.2 hlt
        have z0 := (World.cell?_of_block (HAr.out.below.block g hg)).trans z0
        have hgl : g < wr.heap.size := Nat.lt_of_lt_of_le hg HAr.out.below.size
        have kR := st_read (HT.out.adds (HW6.out.trans HAr.out)).st l5[j].1 l5[j].2.2 (now_at HKs.out.1 HKs.out.2 HF5.out.2 hlt) HLn.out.2.2
        have HSF : Hid _ := hsf
        obtain ⟨xo, xc, hval, _, _⟩ := hsf
        rw [hval] at e1 HSF
        clear hval
        generalize l5[j].1 = K at *
        generalize l5[j].2.2 = D at *
        have i1 : (j : Int) < (l5.length : Int) := by omega
        go_wp2_with (go_at_call 40; refine kR.mono ?_; rintro ee w8 ⟨r8, rfl, o8, a8⟩; obtain ⟨ro, rc, hr8, hrc⟩ := row_slice_any o8; subst hr8; have t0 : w8.cell? ⟨b, off + j * 2, none⟩ = some (.int .i64 K) := (World.cell?_of_block (a8.below.block b hbl)).trans e0; have t1 : w8.cell? ⟨b, off + j * 2 + 1, none⟩ = some (.slice xo D.length xc) := (World.cell?_of_block (a8.below.block b hbl)).trans e1; have t2 : w8.cell? ⟨g, j, none⟩ = some (.int .i64 K) := (World.cell?_of_block (a8.below.block g hgl)).trans z0; have cv1 : ∀ k, (convert 44 9 (.slice ro D.length rc)).run Try.prog (w8.drewN k) = .ok (.string ⟨D.toArray⟩) (w8.drewN k) := (fun k => ((row_byt o8).adds ((Adds.refl _).drewN k)).str); have cv2 : ∀ k, (convert 44 9 (.slice xo D.length xc)).run Try.prog (w8.drewN k) = .ok (.string ⟨D.toArray⟩) (w8.drewN k) := (fun k => ((Safe.byt (Safe.adds HSF.out a8)).adds ((Adds.refl _).drewN k)).str); have HA8 : Hid (Adds wc w8) := Adds.trans HA.out a8; clear o8 a8)
        go_quiet (fail)
        go_wp2
        go_roundw
        case rel => exact ⟨j + 1, by omega, by go_num, Adds.trans HA8.out ((Adds.refl _).drewN _)⟩
        case measure => simp [intOf]; omega
      · obtain rfl : j = l5.length := by omega
        have i1 : ¬ ((l5.length : Int) < (l5.length : Int)) := by omega
        have HWr : Hid (Adds w wr) := HW6.out.trans HAr.out
        go_wp2_with (first
          | (go_at_call 30; refine (k30 _ ((Hid.out HWr).trans (by repeat (first | with_reducible exact Adds.refl _ | with_reducible refine Adds.alloc ?_ _ | with_reducible refine Adds.more ?_ _ _ | with_reducible refine Adds.drew ?_ | with_reducible refine Adds.drewN ?_ _)))).mono ?_; rintro ee w8 ⟨rfl, rfl⟩)
          | (go_at_call 29; go_loud (refine (k29 _ ((Hid.out HWr).trans (by repeat (first | with_reducible exact Adds.refl _ | with_reducible refine Adds.alloc ?_ _ | with_reducible refine Adds.more ?_ _ _ | with_reducible refine Adds.drew ?_ | with_reducible refine Adds.drewN ?_ _)))).mono ?_; rintro ee w9 ⟨rfl, a9⟩; have HA9 : Hid (Adds w w9) := (Hid.out HWr).trans (Adds.trans (by repeat (first | with_reducible exact Adds.refl _ | with_reducible refine Adds.alloc ?_ _ | with_reducible refine Adds.more ?_ _ _ | with_reducible refine Adds.drew ?_ | with_reducible refine Adds.drewN ?_ _)) a9); clear a9)))
        go_ret
        exact ⟨rfl, HA9.out⟩

end Go.Proofs.Ytdcbepdghiafhaa
