/-
  The statements' own function like by a contract: it returns true of a reel and the reference's that go together.
-/
import Derived.Test.YtinfoblgojnjfaaUact
import Derived.BigQuiet
namespace Go.Proofs.Ytinfoblgojnjfaa
open Go.RowKit Go.Maps
attribute [local go_sem] cell?_more frozen?_more setCell_more size_more tape_more drew_more drewN_more more_drew more_drewN more_more one_out plus_out plus_end lt_one le_p2 le_p3 le_p4 le_p5 le_p6 le_p7 le_p8 le_p9 le_p10 le_p11 le_p12 le_p13 le_p14 le_p15 le_p16 le_p17 le_p18 le_p19 le_p20 le_p21 le_p22 le_p23 le_p24 le_q0 le_q1 lt_q1 le_q2 lt_q2 le_q3 lt_q3 le_q4 lt_q4 le_q5 lt_q5 le_q6 lt_q6 le_q7 lt_q7 le_q8 lt_q8 le_q9 lt_q9 le_q10 lt_q10 le_q11 lt_q11 le_q12 lt_q12 le_q13 lt_q13 le_q14 lt_q14 le_q15 lt_q15 le_q16 lt_q16 le_q17 lt_q17 le_q18 lt_q18 le_q19 lt_q19 le_q20 lt_q20 le_q21 lt_q21 le_q22 lt_q22 le_q23 lt_q23 le_q24 lt_q24
attribute [local go_sem] cell?_addTo

theorem Calls.adds_same {P : Program} {f : FuncId} {args : Array Value} {w : World} {v : Value} (h : Calls P f args w fun e w' => e = .returned v ∧ w' = w) : Calls P f args w fun e w' => e = .returned v ∧ Adds w w' :=
  h.mono fun _ _ ⟨he, hw⟩ => ⟨he, hw ▸ Adds.refl _⟩

theorem kf_fst {l t : List Fl} (h : kf l = kf t) : keysF t = l.map (·.1) := by
  have := congrArg (List.map Prod.fst) h
  simp only [kf, List.map_map] at this
  unfold keysF
  simpa [Function.comp_def] using this.symm

theorem getK_mem : ∀ {l : Kf} {k : Int} {b : List UInt8}, SrtK l → (k, b) ∈ l → getK k l = some b
  | [], _, _, _, h => by simp at h
  | p :: t, k, b, hs, h => by
    obtain ⟨h1, h2⟩ := List.pairwise_cons.1 hs
    rw [getK_cons]
    rcases List.mem_cons.1 h with e | h
    · subst e
      simp
    · have := h1 (k, b) h
      rw [if_neg (by simp only at this; omega)]
      exact getK_mem h2 h

theorem files_at {R : Rw} {l : List Fl} {w : World} {B : Nat} (hm : Mem w B R) (h : kf l = kf R.fs) {j : Nat} (hj : j < l.length) : filesF R.fs l[j].1 = some l[j].2.2 := by
  rw [← filesK_kf]
  refine getK_mem (srtK_kf hm.srt) ?_
  rw [← h]
  exact List.mem_map.2 ⟨_, List.getElem_mem hj, rfl⟩

theorem key_at {R : Rw} {l : List Fl} {w : World} {B zc : Nat} {zo : Option Addr} {n : Nat} (h : w.ownsRow B 3 1 (.slice zo n zc) n (cellsZ (keysF R.fs))) (hn : n = (keysF R.fs).length) (hk : kf l = kf R.fs) {j : Nat} (hj : j < l.length) : ∃ g, zo = some ⟨g, 0, none⟩ ∧ n ≤ zc ∧ g < w.heap.size ∧ w.cell? ⟨g, j, none⟩ = some (.int .i64 l[j].1) := by
  have hkeys := kf_fst hk
  have hlen : (cellsZ (keysF R.fs)).length = n := by simp [cellsZ, hn]
  have h' : w.ownsRow B 3 1 (.slice zo n zc) (cellsZ (keysF R.fs)).length (cellsZ (keysF R.fs)) := by rw [hlen]; exact h
  have hjl : j < (cellsZ (keysF R.fs)).length := by
    rw [hkeys]
    simpa [cellsZ] using hj
  obtain ⟨g, cap, he, hc, _, hg, hx, _⟩ := row_at h' hjl
  simp only [Value.slice.injEq] at he
  obtain ⟨rfl, e2, rfl⟩ := he
  refine ⟨g, rfl, by omega, hg, ?_⟩
  rw [hx]
  simp only [hkeys, cellsZ, List.getElem_map]

set_option maxHeartbeats 2000000 in
theorem like_any {w : World} {B : Nat} {f : Fs} {R : Rw} {r : Rf} {kv dv : Value} {kept : List Fl} {M : Nat} (hb : Both w B f R r kv dv kept M) (hM : M ≤ 90000) :
    Calls Try.prog 11 #[ptr R.p, .agg #[.int .i64 r.room, kv, dv, .int .i64 (r.live : Int), .bool r.gone, .int .i64 r.armed]] w fun e w' => e = .returned (.bool true) ∧ Adds w w' := by
  have HB : Hid (Both w B f R r kv dv kept M) := hb
  obtain ⟨ko, kn, kc, dO, dn, dc, rfl, rfl⟩ := hb.slices
  obtain ⟨g1, g2, g3, g4⟩ := hb.few hM
  have HS : Hid (r.done.foldl unitK (kf kept) = kf R.fs) := hb.seen
  have k27 := fun (w1 : World) (h1 : Adds w w1) => refSeen_any (HB.out.adds h1).ref (HB.out.adds h1).foot g1 g2 (by omega) r.room (r.live : Int) r.armed r.gone
  have k15 := fun (w1 : World) (h1 : Adds w w1) => files_any (HB.out.adds h1).live
  have k19 := fun (w1 : World) (h1 : Adds w w1) => Calls.adds_same (pending_any (HB.out.adds h1).live.mem)
  have k28 := fun (w1 : World) (h1 : Adds w w1) => refPending_any (HB.out.adds h1).ref (by omega) r.room r.armed r.live hb.likes.live r.gone
  have k21 := fun (w1 : World) (h1 : Adds w w1) => Calls.adds_same (gone_any (HB.out.adds h1).live.mem)
  have k20 := fun (w1 : World) (h1 : Adds w w1) => left_any (HB.out.adds h1).live.mem (by omega)
  have k29 := fun (w1 : World) (h1 : Adds w w1) => refLeft_any (HB.out.adds h1).ref (HB.out.adds h1).foot g1 g2 (by omega) r.room (r.live : Int) r.armed r.gone hb.room
  rw [← hb.likes.count] at k28
  rw [hb.left] at k29
  rw [← hb.likes.gone] at k21
  have k16n := fun (w1 : World) (h1 : Adds w w1) => live_read_none (HB.out.adds h1).live (-1) (by decide) (by
    unfold filesF
    have : get (-1) R.fs = none := by
      by_cases h : get (-1) R.fs = none
      · exact h
      · obtain ⟨q, hq, he⟩ := get_mem h
        obtain ⟨x, hx, rfl⟩ := List.mem_map.1 hq
        have := (hb.live.mem.keys x hx).1
        simp only at he
        omega
    rw [this]
    rfl)
  have HBX : Hid ((w.alloc (.cells #[.int .i64 r.room, .slice ko kn kc, .slice dO dn dc, .int .i64 (r.live : Int), .bool r.gone, .int .i64 r.armed] 32)).heap[w.heap.size]? = some (.cells #[.int .i64 r.room, .slice ko kn kc, .slice dO dn dc, .int .i64 (r.live : Int), .bool r.gone, .int .i64 r.armed] 32 (0, 0))) := new_block _ _
  have hRl := hb.live.mem.few
  clear hb g1 g2
  generalize r.room = room at *
  generalize r.live = live at *
  generalize r.gone = gone at *
  generalize r.armed = armed at *
  go_enter Try.func11, Try.ntmps11
  go_wp2_with (first
    | (go_at_call 27; refine (k27 _ (by repeat (first | with_reducible exact Adds.refl _ | with_reducible refine Adds.alloc ?_ _ | with_reducible refine Adds.more ?_ _ _ | with_reducible refine Adds.drew ?_ | with_reducible refine Adds.drewN ?_ _))).mono ?_; rintro e w5 ⟨r5, l5, rfl, f5, k5, a5⟩; obtain ⟨so, sc, rfl, _⟩ := f5.slice; have HA5 : Hid (Adds w w5) := Adds.trans (by repeat (first | with_reducible exact Adds.refl _ | with_reducible refine Adds.alloc ?_ _ | with_reducible refine Adds.more ?_ _ _ | with_reducible refine Adds.drew ?_ | with_reducible refine Adds.drewN ?_ _)) a5; have HX5 : Hid _ := a5.at HBX.out; have HF5 : Hid (FilesV w5 R (.slice so l5.length sc) l5 ∧ kf l5 = kf R.fs) := ⟨f5, k5.trans HS.out⟩; clear f5 k5 a5 k27)
    | (go_at_call 15; refine (k15 _ (HA5.out.trans (by repeat (first | with_reducible exact Adds.refl _ | with_reducible refine Adds.alloc ?_ _ | with_reducible refine Adds.more ?_ _ _ | with_reducible refine Adds.drew ?_ | with_reducible refine Adds.drewN ?_ _)))).mono ?_; rintro e w6 ⟨fv, rfl, o6, a6⟩; obtain ⟨zo, zc, rfl, _⟩ := row_slice_any o6; have HZ : Hid _ := o6; have HA6 : Hid (Adds w5 w6) := Adds.trans (by repeat (first | with_reducible exact Adds.refl _ | with_reducible refine Adds.alloc ?_ _ | with_reducible refine Adds.more ?_ _ _ | with_reducible refine Adds.drew ?_ | with_reducible refine Adds.drewN ?_ _)) a6; clear o6 a6 k15))
  have hlen : (keysF R.fs).length = l5.length := by rw [kf_fst HF5.out.2]; simp
  have HAw6 : Hid (Adds w w6) := HA5.out.trans HA6.out
  have b6 := HA6.out.at HX5.out
  have c0 : w6.cell? ⟨w.heap.size, 0, none⟩ = some (.int .i64 room) := cell_of_row w6 _ 0 _ _ _ b6
  have c1 : w6.cell? ⟨w.heap.size, 1, none⟩ = some (.slice ko kn kc) := cell_of_row w6 _ 1 _ _ _ b6
  have c2 : w6.cell? ⟨w.heap.size, 2, none⟩ = some (.slice dO dn dc) := cell_of_row w6 _ 2 _ _ _ b6
  have c3 : w6.cell? ⟨w.heap.size, 3, none⟩ = some (.int .i64 (live : Int)) := cell_of_row w6 _ 3 _ _ _ b6
  have c4 : w6.cell? ⟨w.heap.size, 4, none⟩ = some (.bool gone) := cell_of_row w6 _ 4 _ _ _ b6
  have c5 : w6.cell? ⟨w.heap.size, 5, none⟩ = some (.int .i64 armed) := cell_of_row w6 _ 5 _ _ _ b6
  have hs6 : w.heap.size < w6.heap.size := (Array.getElem?_eq_some_iff.1 b6).1
  clear b6
  have HZ2 : Hid ((keysF R.fs).length = (keysF R.fs).length) := rfl
  have HL5 : Hid ((keysF R.fs).length = l5.length) := hlen
  have hl5 : l5.length ≤ 1048577 := by rw [← hlen]; simpa [keysF] using hRl
  rw [hlen]
  have HZ3 : Hid (∃ Bz, w6.ownsRow Bz 3 1 (.slice zo l5.length zc) l5.length (cellsZ (keysF R.fs))) := ⟨_, by rw [← hlen]; exact HZ.out⟩
  clear hlen HZ HZ2
  refine wp_region_adds (by kernel_rfl) (by kernel_rfl) ?_
  repeat (go_big_quiet_step ((first
    | (go_at_call 19; exact Calls.adds_of (k19 _ (HAw6.out.trans ⟨_, _, rfl⟩)))
    | (go_at_call 28; exact Calls.adds_of (k28 _ (HAw6.out.trans ⟨_, _, rfl⟩)))
    | (go_at_call 21; exact Calls.adds_of (k21 _ (HAw6.out.trans ⟨_, _, rfl⟩)))
    | (go_at_call 20; exact Calls.adds_of (k20 _ (HAw6.out.trans ⟨_, _, rfl⟩)))
    | (go_at_call 29; exact Calls.adds_of (k29 _ (HAw6.out.trans ⟨_, _, rfl⟩))))))
  refine wpQuiet_nil ?_
  rintro _ ⟨pl, rfl⟩
  have HA7 : Hid (Adds w6 (addTo w6 pl)) := ⟨_, _, rfl⟩
  generalize addTo w6 pl = W7 at *
  clear c0 c1 c2 c3 c4 c5 k19 k28 k21 k20 k29
  go_wp2
  go_loopw [7] (fun i W => ∃ j : Nat, j ≤ l5.length ∧ i = .int .i64 (j : Int) ∧ Adds W7 W) (fun i _ => (l5.length - intOf i).toNat)
  case atStart => exact ⟨0, by omega, rfl, Adds.refl _⟩
  case round =>
    obtain ⟨j, hj, rfl, hA⟩ := hrel
    have HAr : Hid (Adds w6 wr) := HA7.out.trans hA
    have HA : Hid (Adds W7 wr) := hA
    clear hA
    by_cases hlt : j < l5.length
    · obtain ⟨b, off, cap', he, _, hbl, e0, e1, hsf⟩ := FilesV.at (HF5.out.1.adds (HA6.out.trans HAr.out)) hlt
      simp only [Value.slice.injEq, true_and] at he
      obtain ⟨rfl, x2⟩ := he
      clear x2
      obtain ⟨Bz, hz⟩ := HZ3.out
      obtain ⟨g, rfl, hzc, hg, z0⟩ := key_at hz HL5.out.symm HF5.out.2 hlt
      have z0 := (World.cell?_of_block (HAr.out.below.block g hg)).trans z0
      have hgl : g < wr.heap.size := Nat.lt_of_lt_of_le hg HAr.out.below.size
      have kR := live_read (HB.out.adds (HAw6.out.trans HAr.out)).live l5[j].1 l5[j].2.2 (files_at (HB.out.live.mem) HF5.out.2 hlt) (by omega)
      have HSF : Hid _ := hsf
      obtain ⟨xo, xc, hval, _, _⟩ := hsf
      rw [hval] at e1 HSF
      clear hval
      generalize l5[j].1 = K at *
      generalize l5[j].2.2 = D at *
      have i1 : (j : Int) < (l5.length : Int) := by omega
      go_wp2_with (go_at_call 16; refine kR.mono ?_; rintro ee w8 ⟨r8, rfl, o8, a8⟩; obtain ⟨ro, rc, hr8, hrc⟩ := row_slice_any o8; subst hr8; have t0 : w8.cell? ⟨b, off + j * 2, none⟩ = some (.int .i64 K) := (World.cell?_of_block (a8.below.block b hbl)).trans e0; have t1 : w8.cell? ⟨b, off + j * 2 + 1, none⟩ = some (.slice xo D.length xc) := (World.cell?_of_block (a8.below.block b hbl)).trans e1; have t2 : w8.cell? ⟨g, j, none⟩ = some (.int .i64 K) := (World.cell?_of_block (a8.below.block g hgl)).trans z0; have cv1 : ∀ k, (convert 36 9 (.slice ro D.length rc)).run Try.prog (w8.drewN k) = .ok (.string ⟨D.toArray⟩) (w8.drewN k) := (fun k => ((row_byt o8).adds ((Adds.refl _).drewN k)).str); have cv2 : ∀ k, (convert 36 9 (.slice xo D.length xc)).run Try.prog (w8.drewN k) = .ok (.string ⟨D.toArray⟩) (w8.drewN k) := (fun k => ((Safe.byt (Safe.adds HSF.out a8)).adds ((Adds.refl _).drewN k)).str); have HA8 : Hid (Adds W7 w8) := Adds.trans HA.out a8; clear o8 a8)
      go_quiet (fail)
      go_wp2
      go_roundw
      case rel => exact ⟨j + 1, by omega, by go_num, Adds.trans HA8.out ((Adds.refl _).drewN _)⟩
      case measure => simp [intOf]; omega
    · obtain rfl : j = l5.length := by omega
      have i1 : ¬ ((l5.length : Int) < (l5.length : Int)) := by omega
      have kN := k16n wr (HAw6.out.trans HAr.out)
      go_wp2_with (go_at_call 16; refine kN.mono ?_; rintro ee w8 ⟨rfl, hw8⟩; subst hw8)
      go_ret
      exact ⟨rfl, HAw6.out.trans HAr.out⟩

end Go.Proofs.Ytinfoblgojnjfaa
