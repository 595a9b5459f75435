/-
  The reference's function others by a contract.
-/
import Derived.Test.YtelkkpomehgcjaaGreatVpair
import Derived.Deep.RegionWith
namespace Go.Proofs.YtelkkpomehgcjaaGreat
open Go.RowKit Go.Maps
attribute [local go_sem] cell?_more frozen?_more setCell_more size_more tape_more drew_more drewN_more more_drew more_drewN more_more one_out plus_out plus_end lt_one le_p2 le_p3 le_p4 le_p5 le_p6 le_p7 le_p8 le_p9 le_p10 le_p11 le_p12 le_p13 le_p14 le_p15 le_p16 le_p17 le_p18 le_p19 le_p20 le_p21 le_p22 le_p23 le_p24 le_q0 le_q1 lt_q1 le_q2 lt_q2 le_q3 lt_q3 le_q4 lt_q4 le_q5 lt_q5 le_q6 lt_q6 le_q7 lt_q7 le_q8 lt_q8 le_q9 lt_q9 le_q10 lt_q10 le_q11 lt_q11 le_q12 lt_q12 le_q13 lt_q13 le_q14 lt_q14 le_q15 lt_q15 le_q16 lt_q16 le_q17 lt_q17 le_q18 lt_q18 le_q19 lt_q19 le_q20 lt_q20 le_q21 lt_q21 le_q22 lt_q22 le_q23 lt_q23 le_q24 lt_q24

theorem refDrop_there {w : World} {R : Rw} {kv dv : Value} {kept : List Fl} {r : Rf} {M : Nat} (h : RefB w R r kv dv kept M) (hF : ∀ i, R.foot i → i < w.heap.size) (hM : M ≤ 80000) (file : Int) (hex : ∃ p ∈ r.done.foldl unitK r.kept, p.1 = file) :
    Calls Tryz.prog 72 #[.agg #[.int .i64 r.room, kv, dv, .int .i64 (r.live : Int), .bool r.gone, .int .i64 r.armed], .int .i64 file] w fun e w' => ∃ dO dn dc, e = .returned (.tuple #[.agg #[.int .i64 r.room, kv, .slice dO dn dc, .int .i64 ((r.put ⟨file, 0, true, false⟩).live : Int), .bool (r.put ⟨file, 0, true, false⟩).gone, .int .i64 (r.put ⟨file, 0, true, false⟩).armed], .int .i64 0]) ∧ RefB w' R (r.put ⟨file, 0, true, false⟩) kv (.slice dO dn dc) kept (M + 1) ∧ Adds w w' := by
  obtain ⟨g1, g2, g3⟩ := h.few (by omega)
  refine (refDrop_any h.ref hF g1 g2 (by omega) h.armed.1 h.armed.2 file).mono ?_
  rintro e w7 (⟨hno, _, _⟩ | ⟨_, dv', rfl, rv', h7⟩)
  · rw [h.same] at hno
    obtain ⟨p, hp1, hp2⟩ := hex
    exact absurd hp2 (hno p hp1)
  · obtain ⟨dO', dc', rfl, _, _, _⟩ := rv'.done
    have hdn := put_done r ⟨file, 0, true, false⟩
    obtain ⟨X, x1, x2, x3⟩ := h.bytes
    have hmany := h.many
    refine ⟨dO', _, dc', rfl, ⟨rv', by rw [put_kept]; exact h.same, put_armed r _ h.armed.1 h.armed.2, ?_, ⟨X, x1, ?_, x3⟩⟩, h7⟩
    · rw [hdn, List.length_append, List.length_singleton]; omega
    · rw [hdn, List.length_append, List.length_singleton]; omega

/-- The files that are kept anew. -/
theorem kept_anew {kept l' : List Fl} {us : List Un} {M X n : Nat} (hk : kf l' = (us.take n).foldl unitK (kf kept)) (hm : kept.length + us.length ≤ M) (x1 : 1 ≤ X) (x2 : X + us.length ≤ M + 1) (x3 : ∀ p ∈ kept, p.2.2.length ≤ X) : l'.length ≤ M ∧ ∃ Y, 1 ≤ Y ∧ Y + 0 ≤ M + 1 ∧ ∀ p ∈ l', p.2.2.length ≤ Y := by
  have htl : (us.take n).length ≤ us.length := by rw [List.length_take]; omega
  constructor
  · have h1 := foldl_length (us.take n) (kf kept)
    rw [← hk, kf_length, kf_length] at h1
    omega
  · refine ⟨X + us.length, by omega, by omega, fun p hp => ?_⟩
    have h1 := foldl_bytes (us.take n) (kf kept) X x1 (fun q hq => by
      obtain ⟨x, hx, rfl⟩ := List.mem_map.1 hq
      exact x3 x hx) (p.1, p.2.2) (by rw [← hk]; exact List.mem_map.2 ⟨p, hp, rfl⟩)
    simp only at h1
    omega

theorem lie_nil (w : World) : Lie w 83 4 (.slice none 0 0) ([] : List Un).length (cellsU []) := ⟨none, 0, rfl, Nat.le_refl _, rfl, .inl rfl⟩

/-- The reference's Sync, whatever its power. -/
theorem refSync_B {w : World} {R : Rw} {kv dv : Value} {kept : List Fl} {r : Rf} {M : Nat} (h : RefB w R r kv dv kept M) (hF : ∀ i, R.foot i → i < w.heap.size) (hM : M ≤ 80000) :
    Calls Tryz.prog 51 #[.agg #[.int .i64 r.room, kv, dv, .int .i64 (r.live : Int), .bool r.gone, .int .i64 r.armed]] w fun e w' => ∃ ko kn kc dO dn dc kept', e = .returned (.agg #[.int .i64 r.sync.room, .slice ko kn kc, .slice dO dn dc, .int .i64 (r.sync.live : Int), .bool r.sync.gone, .int .i64 r.sync.armed]) ∧ RefB w' R r.sync (.slice ko kn kc) (.slice dO dn dc) kept' M ∧ Adds w w' := by
  obtain ⟨g1, g2, g3⟩ := h.few (by omega)
  obtain ⟨ko, kn, kc, dO, dn, dc, rfl, rfl⟩ := h.slices
  cases hg : r.gone
  · have e1 : r.sync = ⟨r.room, r.done.foldl unitK r.kept, [], 0, false, r.armed⟩ := by simp [Rf.sync, hg]
    rw [e1]
    refine (refSync_any h.ref hF g1 g2 (by omega) r.room (r.live : Int) r.armed).mono ?_
    rintro e w7 ⟨v7, l7, rfl, fv, k7, h7⟩
    obtain ⟨ko', kc', rfl, _⟩ := fv.slice
    obtain ⟨X, x1, x2, x3⟩ := h.bytes
    obtain ⟨m1, m2⟩ := kept_anew (n := r.done.length) (by rw [k7, List.take_length]) h.many x1 x2 x3
    exact ⟨ko', _, kc', none, 0, 0, l7, rfl, ⟨⟨fv, lie_nil _⟩, by rw [k7, h.same], h.armed, by simpa using m1, m2⟩, h7⟩
  · have e1 : r.sync = r := by simp [Rf.sync, hg]
    rw [e1, hg]
    refine (refSync_gone w r.room (r.live : Int) r.armed ko dO kn kc dn dc).mono ?_
    rintro e w7 ⟨rfl, h7⟩
    exact ⟨ko, kn, kc, dO, dn, dc, kept, rfl, h.adds h7, h7⟩

theorem key_of {l : List Fl} {K : Kf} (h : kf l = K) {j : Nat} (hj : j < l.length) (hj' : j < (keysK K).length) : (keysK K)[j] = l[j].1 := by
  subst h
  simp [keysK, kf]

/-- Where the loop stands. -/
structure OthM (w : World) (R : Rw) (room : Nat) (d : Dk) (K : Kf) (file : Int) (Lv : Value) (base : Int) (kv : Value) (kept : List Fl) (M : Nat) (fv : Value) (l : List Fl) (j : Nat) (W : World) (r : Rf) (dv : Value) : Prop where
  box : W.heap[w.heap.size]? = some (.cells #[.int .i64 r.room, kv, dv, .int .i64 (r.live : Int), .bool r.gone, .int .i64 r.armed, .int .i64 file, Lv, .int .i64 base] 39 (0, 0))
  res : W.heap[w.heap.size + 1]? = some (.cells #[.int .i64 0, .slice none 0 0, .slice none 0 0, .int .i64 0, .bool false, .int .i64 0, .int .i64 0, .slice none 0 0, .int .i64 0] 39 (0, 0))
  refb : RefB W R r kv dv kept (M + j)
  likes : LikesD room (d.drops file ((keysK K).take j)) r
  files : FilesV W R fv l
  adds : Adds w W

section
variable {w : World} {R : Rw} {room : Nat} {d : Dk} {K : Kf} {file : Int} {Lv : Value} {base : Int} {kv : Value} {kept : List Fl} {M : Nat} {fv : Value} {l : List Fl} {j : Nat} {W W' : World} {r : Rf} {dv : Value}
theorem OthM.more (h : OthM w R room d K file Lv base kv kept M fv l j W r dv) (ha : Adds W W') : OthM w R room d K file Lv base kv kept M fv l j W' r dv :=
  ⟨ha.at h.box, ha.at h.res, h.refb.adds ha, h.likes, h.files.adds ha, h.adds.trans ha⟩

theorem OthM.skip (h : OthM w R room d K file Lv base kv kept M fv l j W r dv) (hd : d.drops file ((keysK K).take (j + 1)) = d.drops file ((keysK K).take j)) : OthM w R room d K file Lv base kv kept M fv l (j + 1) W r dv :=
  ⟨h.box, h.res, h.refb.mono (by omega), by rw [hd]; exact h.likes, h.files, h.adds⟩

theorem OthM.next {w7 : World} {r' : Rf} {dv' : Value} (h : OthM w R room d K file Lv base kv kept M fv l j W r dv) (ha : Adds W w7) (hb : RefB w7 R r' kv dv' kept (M + j + 1)) (hr : r'.room = r.room) (hl : LikesD room (d.drops file ((keysK K).take (j + 1))) r') :
    OthM w R room d K file Lv base kv kept M fv l (j + 1) ((((((w7.setCell ⟨w.heap.size, 0, none⟩ (.int .i64 r.room)).setCell ⟨w.heap.size, 1, none⟩ kv).setCell ⟨w.heap.size, 2, none⟩ dv').setCell ⟨w.heap.size, 3, none⟩ (.int .i64 (r'.live : Int))).setCell ⟨w.heap.size, 4, none⟩ (.bool r'.gone)).setCell ⟨w.heap.size, 5, none⟩ (.int .i64 r'.armed)) r' dv' := by
  have h7 := h.more ha
  have ht : Turn2 w.heap.size w.heap.size w7 ((((((w7.setCell ⟨w.heap.size, 0, none⟩ (.int .i64 r.room)).setCell ⟨w.heap.size, 1, none⟩ kv).setCell ⟨w.heap.size, 2, none⟩ dv').setCell ⟨w.heap.size, 3, none⟩ (.int .i64 (r'.live : Int))).setCell ⟨w.heap.size, 4, none⟩ (.bool r'.gone)).setCell ⟨w.heap.size, 5, none⟩ (.int .i64 r'.armed)) := (((((((Turn2.refl _ _ _).set1 _ _).set1 _ _).set1 _ _).set1 _ _).set1 _ _).set1 _ _)
  refine ⟨?_, ?_, hb.turn (.inr rfl) ⟨_, h7.box⟩ ht, hl, h7.files.turn1 (.inr rfl) ⟨_, h7.box⟩ ht, turn2_adds h7.adds (Nat.le_refl _) (Nat.le_refl _) ht⟩
  · rw [hr]
    exact box_set9 h7.box _ _ _ _ _ _
  · rw [ht.block _ (Array.getElem?_eq_some_iff.1 h7.res).1 (by omega) (by omega)]
    exact h7.res
end

/-- What others tells. -/
def OthTold (w : World) (R : Rw) (room : Nat) (d : Dk) (K : Kf) (file : Int) (Lv : Value) (base : Int) (M : Nat) (e : Ending) (w' : World) : Prop :=
  ∃ r ko kn kc dO dn dc kept, e = .returned (.agg #[.int .i64 r.room, .slice ko kn kc, .slice dO dn dc, .int .i64 (r.live : Int), .bool r.gone, .int .i64 r.armed, .int .i64 file, Lv, .int .i64 base]) ∧ RefB w' R r (.slice ko kn kc) (.slice dO dn dc) kept M ∧ LikesD room (d.others file (keysK K)) r ∧ Adds w w'

set_option maxHeartbeats 2000000 in
theorem refOthers_any {w : World} {R : Rw} {kv dv : Value} {kept : List Fl} {r : Rf} {M : Nat} (h : RefB w R r kv dv kept M) (hF : ∀ i, R.foot i → i < w.heap.size) (hM : M ≤ 70000) {room : Nat} {d : Dk} (hl : LikesD room d r) {K : Kf} (hK : SrtK K) (hf : filesK K = d.now) (file base : Int) (hfile : file ∈ keysK K) (hKl : K.length ≤ 5000) (lo : Option Addr) (ln lc : Nat) :
    Calls Tryz.prog 48 #[.agg #[.int .i64 r.room, kv, dv, .int .i64 (r.live : Int), .bool r.gone, .int .i64 r.armed, .int .i64 file, .slice lo ln lc, .int .i64 base]] w (OthTold w R room d K file (.slice lo ln lc) base (M + K.length)) := by
  have HB : Hid (RefB w R r kv dv kept M) := h
  have HFt : Hid (∀ i, R.foot i → i < w.heap.size) := hF
  have HLk : Hid (LikesD room d r) := hl
  have HKs : Hid (SrtK K ∧ filesK K = d.now ∧ file ∈ keysK K) := ⟨hK, hf, hfile⟩
  obtain ⟨g1, g2, g3⟩ := h.few (by omega)
  have HS : Hid (r.done.foldl unitK (kf kept) = K) := by
    show r.done.foldl unitK (kf kept) = K
    rw [h.same]
    exact likesD_K hl hK hf
  obtain ⟨ko, kn, kc, dO, dn, dc, rfl, rfl⟩ := h.slices
  have k36 := fun (w1 : World) (h1 : Adds w w1) => refSeen_any (HB.out.adds h1).ref (fun i hi => Nat.lt_of_lt_of_le (HFt.out i hi) h1.below.size) g1 g2 (by omega) r.room (r.live : Int) r.armed r.gone
  have HB1 : Hid (((w.alloc (.cells #[.int .i64 r.room, .slice ko kn kc, .slice dO dn dc, .int .i64 (r.live : Int), .bool r.gone, .int .i64 r.armed, .int .i64 file, .slice lo ln lc, .int .i64 base] 39)).alloc (.cells #[.int .i64 0, .slice none 0 0, .slice none 0 0, .int .i64 0, .bool false, .int .i64 0, .int .i64 0, .slice none 0 0, .int .i64 0] 39)).heap[w.heap.size]? = some (.cells #[.int .i64 r.room, .slice ko kn kc, .slice dO dn dc, .int .i64 (r.live : Int), .bool r.gone, .int .i64 r.armed, .int .i64 file, .slice lo ln lc, .int .i64 base] 39 (0, 0))) := blk_old
  have HB2 : Hid (((w.alloc (.cells #[.int .i64 r.room, .slice ko kn kc, .slice dO dn dc, .int .i64 (r.live : Int), .bool r.gone, .int .i64 r.armed, .int .i64 file, .slice lo ln lc, .int .i64 base] 39)).alloc (.cells #[.int .i64 0, .slice none 0 0, .slice none 0 0, .int .i64 0, .bool false, .int .i64 0, .int .i64 0, .slice none 0 0, .int .i64 0] 39)).heap[w.heap.size + 1]? = some (.cells #[.int .i64 0, .slice none 0 0, .slice none 0 0, .int .i64 0, .bool false, .int .i64 0, .int .i64 0, .slice none 0 0, .int .i64 0] 39 (0, 0))) := blk_new
  clear h hF hl hK hf hfile g1 g2

  go_enter Tryz.func48, Tryz.ntmps48
  go_wp2_with (go_at_call 21; refine (k36 _ (by repeat (first | with_reducible exact Adds.refl _ | with_reducible refine Adds.alloc ?_ _ | with_reducible refine Adds.more ?_ _ _ | with_reducible refine Adds.drew ?_ | with_reducible refine Adds.drewN ?_ _))).mono ?_; rintro e w5 ⟨r5, l5, rfl, f5, k5, a5⟩; obtain ⟨so, sc, rfl, _⟩ := f5.slice; have HM0 : Hid (OthM w R room d K file (.slice lo ln lc) base (.slice ko kn kc) kept M (.slice so l5.length sc) l5 0 w5 r (.slice dO dn dc)) := ⟨a5.at HB1.out, a5.at HB2.out, (HB.out.adds (Adds.trans (by repeat (first | with_reducible exact Adds.refl _ | with_reducible refine Adds.alloc ?_ _ | with_reducible refine Adds.more ?_ _ _ | with_reducible refine Adds.drew ?_ | with_reducible refine Adds.drewN ?_ _)) a5)).mono (by omega), by simpa [Dk.drops] using HLk.out, f5, Adds.trans (by repeat (first | with_reducible exact Adds.refl _ | with_reducible refine Adds.alloc ?_ _ | with_reducible refine Adds.more ?_ _ _ | with_reducible refine Adds.drew ?_ | with_reducible refine Adds.drewN ?_ _)) a5⟩; have HK5 : Hid (kf l5 = K) := k5.trans HS.out; clear f5 k5 a5 k36)
  have HL5K : Hid (l5.length = K.length) := by show l5.length = K.length; rw [← HK5.out, kf_length]
  have hl5b : l5.length ≤ 5000 := by rw [HL5K.out]; exact hKl
  go_loopw [4] (fun i W => ∃ (j : Nat) (rj : Rf) (dvj : Value), j ≤ l5.length ∧ i = .int .i64 (j : Int) ∧ OthM w R room d K file (.slice lo ln lc) base (.slice ko kn kc) kept M (.slice so l5.length sc) l5 j W rj dvj) (fun i _ => (l5.length - intOf i).toNat)
  case atStart => exact ⟨0, r, _, by omega, rfl, HM0.out⟩
  case round =>
    obtain ⟨j, rj, dvj, hj, rfl, hm⟩ := hrel
    clear HM0 HB1 HB2
    have HM : Hid (OthM w R room d K file (.slice lo ln lc) base (.slice ko kn kc) kept M (.slice so l5.length sc) l5 j wr rj dvj) := hm
    obtain ⟨_, _, _, dO2, dn2, dc2, _, rfl⟩ := hm.refb.slices
    have hbx := hm.box
    have c0 : wr.cell? ⟨w.heap.size, 0, none⟩ = some (.int .i64 rj.room) := cell_of_row wr _ 0 _ _ _ hbx
    have c1 : wr.cell? ⟨w.heap.size, 1, none⟩ = some (.slice ko kn kc) := cell_of_row wr _ 1 _ _ _ hbx
    have c2 : wr.cell? ⟨w.heap.size, 2, none⟩ = some (.slice dO2 dn2 dc2) := cell_of_row wr _ 2 _ _ _ hbx
    have c3 : wr.cell? ⟨w.heap.size, 3, none⟩ = some (.int .i64 (rj.live : Int)) := cell_of_row wr _ 3 _ _ _ hbx
    have c4 : wr.cell? ⟨w.heap.size, 4, none⟩ = some (.bool rj.gone) := cell_of_row wr _ 4 _ _ _ hbx
    have c5 : wr.cell? ⟨w.heap.size, 5, none⟩ = some (.int .i64 rj.armed) := cell_of_row wr _ 5 _ _ _ hbx
    have c6 : wr.cell? ⟨w.heap.size, 6, none⟩ = some (.int .i64 file) := cell_of_row wr _ 6 _ _ _ hbx
    have c7 : wr.cell? ⟨w.heap.size, 7, none⟩ = some (.slice lo ln lc) := cell_of_row wr _ 7 _ _ _ hbx
    have c8 : wr.cell? ⟨w.heap.size, 8, none⟩ = some (.int .i64 base) := cell_of_row wr _ 8 _ _ _ hbx
    have f1 : ∀ i, wr.frozen? ⟨w.heap.size, i, none⟩ = false := fun i => frozen_of hbx
    have hsz : w.heap.size + 1 < wr.heap.size := (Array.getElem?_eq_some_iff.1 hm.res).1
    by_cases hlt : j < l5.length
    · obtain ⟨b, off, cap', he, _, hbl, e0, e1, hsf⟩ := FilesV.at hm.files hlt
      simp only [Value.slice.injEq, true_and] at he
      obtain ⟨rfl, x2⟩ := he
      clear x2 e1 hsf
      have hjk : j < (keysK K).length := by have := HL5K.out; simp [keysK]; omega
      have hkey : (keysK K)[j] = l5[j].1 := key_of HK5.out hlt hjk
      have hnext := drops_next d file hjk
      rw [hkey] at hnext
      have hex : ∃ p ∈ rj.done.foldl unitK rj.kept, p.1 = l5[j].1 := by
        obtain ⟨s1, s2⟩ := likesD_seen hm.likes
        have es : rj.seen = rj.done.foldl unitK rj.kept := by
          unfold Rf.seen Rf.files
          rw [List.take_length]
        rw [es] at s2
        obtain ⟨⟨bb, hkb⟩, hnin⟩ := keys_at HKs.out.1 hjk
        rw [hkey] at hkb hnin
        have hnow : (d.drops file ((keysK K).take j)).now l5[j].1 = some bb := by
          rw [drops_now, if_neg (fun hh => hnin hh.1), ← HKs.out.2.1]
          exact hkb
        rw [← s2] at hnow
        by_cases hx : ∃ p ∈ rj.done.foldl unitK rj.kept, p.1 = l5[j].1
        · exact hx
        · exfalso
          have : filesK (rj.done.foldl unitK rj.kept) l5[j].1 = none := getK_none_of (fun hm => by
            obtain ⟨p, hp, e⟩ := List.mem_map.1 hm
            exact hx ⟨p, hp, e⟩)
          rw [this] at hnow
          cases hnow
      have kD := fun (W1 : World) (h1 : Adds wr W1) => refDrop_there (HM.out.refb.adds h1) (fun i hi => Nat.lt_of_lt_of_le (HFt.out i hi) (HM.out.adds.trans h1).below.size) (by omega) l5[j].1 hex
      have HNx : Hid _ := hnext
      have HLd : Hid (LikesD room ((d.drops file ((keysK K).take j)).drop l5[j].1) (rj.put ⟨l5[j].1, 0, true, false⟩)) := likesD_drop hm.likes _
      have HRm : Hid ((rj.put ⟨l5[j].1, 0, true, false⟩).room = rj.room) := put_room _ _
      clear hm hbx hnext hex hkey hjk
      generalize hkk : l5[j].1 = kk at *
      clear hkk
      have i1 : (j : Int) < (l5.length : Int) := by omega
      by_cases hE : kk = file
      · have HN2 : Hid (d.drops file ((keysK K).take (j + 1)) = d.drops file ((keysK K).take j)) := by show _ = _; rw [HNx.out, if_pos hE]
        subst hE
        clear kD HNx HLd HRm
        go_wp2
        go_quiet (fail)
        go_wp2
        go_roundw
        case rel => exact ⟨j + 1, rj, _, by omega, by go_num, (HM.out.skip HN2.out).more ((Adds.refl _).drewN _)⟩
        case measure => simp [intOf]; omega
      · have HN2 : Hid (d.drops file ((keysK K).take (j + 1)) = (d.drops file ((keysK K).take j)).drop kk) := by show _ = _; rw [HNx.out, if_neg hE]
        have hne : (kk != file) = true := by simpa using hE
        clear HNx hE
        generalize hu : Rf.put rj ⟨kk, 0, true, false⟩ = rn at *
        clear hu
        go_wp2
        go_quiet (fail)
        go_wp2
        go_region_with (go_at_call 72; refine (kD _ (by repeat (first | with_reducible exact Adds.refl _ | with_reducible refine Adds.alloc ?_ _ | with_reducible refine Adds.more ?_ _ _ | with_reducible refine Adds.drew ?_ | with_reducible refine Adds.drewN ?_ _))).mono ?_; rintro e w7 ⟨dO7, dn7, dc7, rfl, rb7, a7⟩; have HA7 : Hid (Adds wr w7) := Adds.trans (by repeat (first | with_reducible exact Adds.refl _ | with_reducible refine Adds.alloc ?_ _ | with_reducible refine Adds.more ?_ _ _ | with_reducible refine Adds.drew ?_ | with_reducible refine Adds.drewN ?_ _)) a7; have b7 := HA7.out.at (OthM.box HM.out); have g0 : w7.cell? ⟨w.heap.size, 0, none⟩ = some (.int .i64 rj.room) := cell_of_row w7 _ 0 _ _ _ b7; have g1 : w7.cell? ⟨w.heap.size, 1, none⟩ = some (.slice ko kn kc) := cell_of_row w7 _ 1 _ _ _ b7; have g2 : w7.cell? ⟨w.heap.size, 2, none⟩ = some (.slice dO2 dn2 dc2) := cell_of_row w7 _ 2 _ _ _ b7; have g3 : w7.cell? ⟨w.heap.size, 3, none⟩ = some (.int .i64 (rj.live : Int)) := cell_of_row w7 _ 3 _ _ _ b7; have g4 : w7.cell? ⟨w.heap.size, 4, none⟩ = some (.bool rj.gone) := cell_of_row w7 _ 4 _ _ _ b7; have g5 : w7.cell? ⟨w.heap.size, 5, none⟩ = some (.int .i64 rj.armed) := cell_of_row w7 _ 5 _ _ _ b7; have g6 : w7.cell? ⟨w.heap.size, 6, none⟩ = some (.int .i64 file) := cell_of_row w7 _ 6 _ _ _ b7; have g7 : w7.cell? ⟨w.heap.size, 7, none⟩ = some (.slice lo ln lc) := cell_of_row w7 _ 7 _ _ _ b7; have g8 : w7.cell? ⟨w.heap.size, 8, none⟩ = some (.int .i64 base) := cell_of_row w7 _ 8 _ _ _ b7; have f7 : ∀ i, w7.frozen? ⟨w.heap.size, i, none⟩ = false := fun i => frozen_of b7; have s7 : w.heap.size < w7.heap.size := (Array.getElem?_eq_some_iff.1 b7).1; have HR7 : Hid (RefB w7 R rn (.slice ko kn kc) (.slice dO7 dn7 dc7) kept (M + j + 1)) := rb7; clear b7 a7 rb7 kD)
        all_goals
          go_wp2
          go_roundw
          case rel => exact ⟨j + 1, rn, _, by omega, by go_num, HM.out.next HA7.out HR7.out HRm.out (by rw [HN2.out]; exact HLd.out)⟩
          case measure => simp [intOf]; omega
    · obtain rfl : j = l5.length := by omega
      have hlk := hm.likes
      rw [List.take_of_length_le (by have := HL5K.out; simp [keysK]; omega)] at hlk
      have HLe : Hid (LikesD room (d.drops file (keysK K)) rj) := hlk
      have hrs := hm.res
      have d0 : wr.cell? ⟨w.heap.size + 1, 0, none⟩ = some (.int .i64 0) := cell_of_row wr _ 0 _ _ _ hrs
      have d1 : wr.cell? ⟨w.heap.size + 1, 1, none⟩ = some (.slice none 0 0) := cell_of_row wr _ 1 _ _ _ hrs
      have d2 : wr.cell? ⟨w.heap.size + 1, 2, none⟩ = some (.slice none 0 0) := cell_of_row wr _ 2 _ _ _ hrs
      have d3 : wr.cell? ⟨w.heap.size + 1, 3, none⟩ = some (.int .i64 0) := cell_of_row wr _ 3 _ _ _ hrs
      have d4 : wr.cell? ⟨w.heap.size + 1, 4, none⟩ = some (.bool false) := cell_of_row wr _ 4 _ _ _ hrs
      have d5 : wr.cell? ⟨w.heap.size + 1, 5, none⟩ = some (.int .i64 0) := cell_of_row wr _ 5 _ _ _ hrs
      have d6 : wr.cell? ⟨w.heap.size + 1, 6, none⟩ = some (.int .i64 0) := cell_of_row wr _ 6 _ _ _ hrs
      have d7 : wr.cell? ⟨w.heap.size + 1, 7, none⟩ = some (.slice none 0 0) := cell_of_row wr _ 7 _ _ _ hrs
      have d8 : wr.cell? ⟨w.heap.size + 1, 8, none⟩ = some (.int .i64 0) := cell_of_row wr _ 8 _ _ _ hrs
      have f3 : ∀ i, wr.frozen? ⟨w.heap.size + 1, i, none⟩ = false := fun i => frozen_of hrs
      clear hm hbx hlk hrs
      have i1 : ¬ ((l5.length : Int) < (l5.length : Int)) := by omega
      by_cases h1 : 1 < l5.length
      · have i2 : (1 : Int) < (l5.length : Int) := by omega
        have HO : Hid (LikesD room (d.others file (keysK K)) rj.sync) := by
          show LikesD room (d.others file (keysK K)) rj.sync
          unfold Dk.others
          rw [if_neg (by have := HL5K.out; simp [keysK]; omega)]
          exact likesD_sync HLe.out
        have kS := refSync_B HM.out.refb (fun i hi => Nat.lt_of_lt_of_le (HFt.out i hi) HM.out.adds.below.size) (by omega)
        go_wp2_with (go_at_call 51; refine kS.mono ?_; rintro e w7 ⟨ko7, kn7, kc7, dO7, dn7, dc7, kept7, rfl, rb7, a7⟩; have b7 := a7.at (OthM.box HM.out); have e7 := a7.at (OthM.res HM.out); have g0 : w7.cell? ⟨w.heap.size, 0, none⟩ = some (.int .i64 rj.room) := cell_of_row w7 _ 0 _ _ _ b7; have g1 : w7.cell? ⟨w.heap.size, 1, none⟩ = some (.slice ko kn kc) := cell_of_row w7 _ 1 _ _ _ b7; have g2 : w7.cell? ⟨w.heap.size, 2, none⟩ = some (.slice dO2 dn2 dc2) := cell_of_row w7 _ 2 _ _ _ b7; have g3 : w7.cell? ⟨w.heap.size, 3, none⟩ = some (.int .i64 (rj.live : Int)) := cell_of_row w7 _ 3 _ _ _ b7; have g4 : w7.cell? ⟨w.heap.size, 4, none⟩ = some (.bool rj.gone) := cell_of_row w7 _ 4 _ _ _ b7; have g5 : w7.cell? ⟨w.heap.size, 5, none⟩ = some (.int .i64 rj.armed) := cell_of_row w7 _ 5 _ _ _ b7; have g6 : w7.cell? ⟨w.heap.size, 6, none⟩ = some (.int .i64 file) := cell_of_row w7 _ 6 _ _ _ b7; have g7 : w7.cell? ⟨w.heap.size, 7, none⟩ = some (.slice lo ln lc) := cell_of_row w7 _ 7 _ _ _ b7; have g8 : w7.cell? ⟨w.heap.size, 8, none⟩ = some (.int .i64 base) := cell_of_row w7 _ 8 _ _ _ b7; have f7 : ∀ i, w7.frozen? ⟨w.heap.size, i, none⟩ = false := fun i => frozen_of b7; have s7 : w.heap.size < w7.heap.size := (Array.getElem?_eq_some_iff.1 b7).1; have h0 : w7.cell? ⟨w.heap.size + 1, 0, none⟩ = some (.int .i64 0) := cell_of_row w7 _ 0 _ _ _ e7; have h1 : w7.cell? ⟨w.heap.size + 1, 1, none⟩ = some (.slice none 0 0) := cell_of_row w7 _ 1 _ _ _ e7; have h2 : w7.cell? ⟨w.heap.size + 1, 2, none⟩ = some (.slice none 0 0) := cell_of_row w7 _ 2 _ _ _ e7; have h3 : w7.cell? ⟨w.heap.size + 1, 3, none⟩ = some (.int .i64 0) := cell_of_row w7 _ 3 _ _ _ e7; have h4 : w7.cell? ⟨w.heap.size + 1, 4, none⟩ = some (.bool false) := cell_of_row w7 _ 4 _ _ _ e7; have h5 : w7.cell? ⟨w.heap.size + 1, 5, none⟩ = some (.int .i64 0) := cell_of_row w7 _ 5 _ _ _ e7; have h6 : w7.cell? ⟨w.heap.size + 1, 6, none⟩ = some (.int .i64 0) := cell_of_row w7 _ 6 _ _ _ e7; have h7 : w7.cell? ⟨w.heap.size + 1, 7, none⟩ = some (.slice none 0 0) := cell_of_row w7 _ 7 _ _ _ e7; have h8 : w7.cell? ⟨w.heap.size + 1, 8, none⟩ = some (.int .i64 0) := cell_of_row w7 _ 8 _ _ _ e7; have f9 : ∀ i, w7.frozen? ⟨w.heap.size + 1, i, none⟩ = false := fun i => frozen_of e7; have s9 : w.heap.size + 1 < w7.heap.size := (Array.getElem?_eq_some_iff.1 e7).1; have HR7 : Hid (RefB w7 R rj.sync (.slice ko7 kn7 kc7) (.slice dO7 dn7 dc7) kept7 (M + l5.length)) := rb7; have HA7 : Hid (Adds w w7) := HM.out.adds.trans a7; have HX7 : Hid _ := And.intro b7 e7; clear b7 e7 a7 rb7 kS)
        refine bodyPost_ret (v := .agg #[.int .i64 rj.sync.room, .slice ko7 kn7 kc7, .slice dO7 dn7 dc7, .int .i64 (rj.sync.live : Int), .bool rj.sync.gone, .int .i64 rj.sync.armed, .int .i64 file, .slice lo ln lc, .int .i64 base]) (by simp [results, Tryz.results48, go_sem, h0, h1, h2, h3, h4, h5, h6, h7, h8]) rfl ⟨rj.sync, _, _, _, _, _, _, kept7, rfl, ?_, HO.out, ?_⟩
        · rw [← HL5K.out]
          exact HR7.out.turn2 ⟨_, HX7.out.1⟩ ⟨_, HX7.out.2⟩ (by repeat (first | with_reducible exact Turn2.refl _ _ _ | with_reducible refine Turn2.set1 ?_ _ _ | with_reducible refine Turn2.set2 ?_ _ _))
        · exact turn2_adds HA7.out (Nat.le_refl _) (Nat.le_succ _) (by repeat (first | with_reducible exact Turn2.refl _ _ _ | with_reducible refine Turn2.set1 ?_ _ _ | with_reducible refine Turn2.set2 ?_ _ _))
      · have i2 : ¬ (1 : Int) < (l5.length : Int) := by omega
        have HO : Hid (LikesD room (d.others file (keysK K)) rj) := by
          show LikesD room (d.others file (keysK K)) rj
          have hkl : (keysK K).length < 2 := by have := HL5K.out; simp [keysK]; omega
          unfold Dk.others
          rw [if_pos hkl]
          have hd : d.drops file (keysK K) = d := by
            have : keysK K = [file] := by
              have hm := HKs.out.2.2
              match keysK K, hkl, hm with
              | [x], _, hm => simp at hm; rw [hm]
            rw [this]
            simp [Dk.drops]
          have := HLe.out
          rwa [hd] at this
        go_wp2
        refine bodyPost_ret (v := .agg #[.int .i64 rj.room, .slice ko kn kc, .slice dO2 dn2 dc2, .int .i64 (rj.live : Int), .bool rj.gone, .int .i64 rj.armed, .int .i64 file, .slice lo ln lc, .int .i64 base]) (by simp [results, Tryz.results48, go_sem, d0, d1, d2, d3, d4, d5, d6, d7, d8]) rfl ⟨rj, _, _, _, _, _, _, kept, rfl, ?_, HO.out, ?_⟩
        · rw [← HL5K.out]
          exact HM.out.refb.turn2 ⟨_, HM.out.box⟩ ⟨_, HM.out.res⟩ (by repeat (first | with_reducible exact Turn2.refl _ _ _ | with_reducible refine Turn2.set1 ?_ _ _ | with_reducible refine Turn2.set2 ?_ _ _))
        · exact turn2_adds HM.out.adds (Nat.le_refl _) (Nat.le_succ _) (by repeat (first | with_reducible exact Turn2.refl _ _ _ | with_reducible refine Turn2.set1 ?_ _ _ | with_reducible refine Turn2.set2 ?_ _ _))

end Go.Proofs.YtelkkpomehgcjaaGreat
