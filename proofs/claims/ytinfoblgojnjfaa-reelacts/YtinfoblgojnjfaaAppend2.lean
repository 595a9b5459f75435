/-
  The method Append by contract: the walk.
-/
import Derived.Test.YtinfoblgojnjfaaAppend
namespace Go.Proofs.Ytinfoblgojnjfaa
open Go.RowKit Go.Maps

def nilS : Value := .slice none 0 0

/-- The reel with bytes behind file k's. -/
def Rw.grown (R : Rw) (k : Int) (v1 : Value) (b m : List UInt8) (dn : Value) : Rw := ({ R with fs := put k v1 (b ++ m) R.fs } : Rw).noted ⟨k, false, (get k R.fs).isNone, m⟩ (.slice none 0 0) dn

theorem Near.moves {w w' : World} {R R' : Rw} (h : Near w R (.slice none 0 0) w' R') : Moves w R w' R' :=
  ⟨h.os, h.tape, h.output, h.size, fun i hi hn => ⟨(h.block i hi hn).1, (h.block i hi hn).2 (by simp [Value.ownBlock])⟩⟩

theorem bulk_put {w : World} {B : Nat} {R : Rw} (h : Mem w B R) {k : Int} {v v1 : Value} {b m : List UInt8} (hat : R.at k v b) : ({ R with fs := put k v1 (b ++ m) R.fs } : Rw).bulk = R.bulk + m.length := by
  obtain ⟨_, _, _, hsz, _⟩ := Rw.at_rest h hat
  unfold Rw.bulk
  rw [size_perm (rows_put R k v1 (b ++ m)), size_cons, hsz]
  simp only [List.length_append]
  omega

set_option maxHeartbeats 1000000 in
theorem append_any {w : World} {B : Nat} {R : Rw} (h : Mem w B R) (hdead : R.dead = []) (k : Int) (hk : 0 ≤ k ∧ k ≤ 1048576) (x : Value) (m : List UInt8) (hx : Byt w x m) (hroom : (m.length : Int) ≤ (R.room : Int) - (total R.fs : Int))
    (hb : R.bulk ≤ 274877906944) (hB : B ≤ w.heap.size) :
    Calls Try.prog 12 #[ptr R.p, .int .i64 k, x] w fun e w' => e = .returned (.int .i64 0) ∧ ∃ v v1 b dn, R.at k v b ∧ Mem w' B (R.grown k v1 b m dn) ∧ Moves w R w' (R.grown k v1 b m dn) := by
  obtain ⟨c0, c1, c2, c3, c4, c5, c6, c7⟩ := h.cells8
  have hr := h.room
  have hml : m.length ≤ 1048576 := by omega
  obtain ⟨ao, cap, rfl, hcap, _⟩ := hx.open
  obtain ⟨v, b, hat, hav⟩ := R.at_any k
  have hfew := h.few
  have hbl : b.length ≤ R.bulk := by
    obtain ⟨_, _, _, hsz, _⟩ := Rw.at_rest h hat
    unfold Rw.bulk
    omega
  have H : Hid (Mem w B R) := h
  have HX : Hid (Byt w (.slice ao m.length cap) m) := hx
  have kL := left_any h (by omega)
  have hrow : ∀ W, Adds w W → W.ownsRow B 5 1 v b.length (cellsB b) := fun W hW => Rw.at_row (h.adds hW) hat
  have hbyt : ∀ W, Adds w W → Byt W (.slice ao m.length cap) m := fun W hW => hx.adds hW
  have hB0 : ∀ W, Adds w W → B ≤ W.heap.size := fun W hW => Nat.le_trans hB hW.below.size
  have hhas := dOf_has k R.fs
  clear c0 c1 c3 c4 c5 c6 c7
  go_enter Try.func12, Try.ntmps12
  go_wp2_with (first
    | (go_at_call 30; refine (given_any H.out).mono ?_; rintro e w1 ⟨rfl, rfl⟩)
    | (go_at_call 20; refine kL.mono ?_; rintro e wl ⟨rfl, hal⟩; have cl2 : wl.cell? ⟨R.p, 2, none⟩ = some (.map (some R.m)) := (H.out.adds hal).cell 2)
    | (at_lookup; refine wpList_lookup_own_ok _ rfl _ _ 52 rfl 3 36 law3 Try.underlying52 raw (zero36 _) (.held (.slice none 0 0)) [] rfl R.m _ (dOf R.fs) rfl (H.out.adds hal).hm _ (.int .i64 k) rfl (key3 hk) ?_; intro v' ps hv'; obtain rfl : v = v' := by (symm; have e1 := hv'; rw [hav] at e1; simp [raw] at e1; exact e1.1)))
  refine wp_region_any (by kernel_rfl) ?_
  change wpAny _ _ _ _ _ _ _ (World.drew _)
  refine wpAny_take (i := 0) (v := ?_) rfl (by kernel_rfl) (by kernel_rfl) (by kernel_rfl) (fun _ _ _ h => h) (Or.inl ⟨by rfl, fun _ => ?_⟩) ?_
  rotate_left
  · (go_simp; try with_reducible rfl)
  go_simp
  refine wpAny_take (i := 1) (v := ?_) rfl (by kernel_rfl) (by kernel_rfl) (by kernel_rfl) (fun _ _ _ h => h) (Or.inl ⟨by rfl, fun _ => ?_⟩) ?_
  rotate_left
  · (go_simp; try with_reducible rfl)
  go_simp
  refine wpAny_take (i := 2) (v := ?_) rfl (by kernel_rfl) (by kernel_rfl) (by kernel_rfl) (fun _ _ _ h => h) (Or.inl ⟨by rfl, fun _ => ?_⟩) ?_
  rotate_left
  · (go_simp; try with_reducible rfl)
  go_simp
  refine wpAny_take (i := 4) (v := ?_) rfl (by kernel_rfl) (by kernel_rfl) (by kernel_rfl) (fun _ _ _ h => h) (Or.inl ⟨by rfl, fun _ => ?_⟩) ?_
  rotate_left
  · (go_simp; try with_reducible rfl)
  go_simp
  refine wpAny_take (i := 5) (v := ?_) rfl (by kernel_rfl) (by kernel_rfl) (by kernel_rfl) (fun _ _ _ h => h) (Or.inl ⟨by rfl, fun _ => ?_⟩) ?_
  rotate_left
  · (go_simp; try with_reducible rfl)
  go_simp
  refine wpAny_take (i := 6) (v := ?_) rfl (by kernel_rfl) (by kernel_rfl) (by kernel_rfl) (fun _ _ _ h => h) (Or.inl ⟨by rfl, fun _ => ?_⟩) ?_
  rotate_left
  · (go_simp; try with_reducible rfl)
  go_simp
  refine wpAny_ready (rs := [3, 7]) (by kernel_rfl) (by simp) ?_
  refine AllReady.cons rfl (fun K hK => ?_) ?_
  · go_simp
    refine hK _ _ ?_
    clear hK K
    go_simp
    refine wpAny_ready (rs := [7]) (by kernel_rfl) (by simp) ?_
    refine AllReady.cons rfl (fun K hK => ?_) ?_
    · rw [if_pos (by rfl)]
      obtain ⟨v1, w2, hr2, h2, g2, l2⟩ := byte_append wl.drew B 36 v b (hrow _ (hal.trans (by repeat (first | with_reducible exact Adds.refl _ | with_reducible refine Adds.alloc ?_ _ | with_reducible refine Adds.more ?_ _ _ | with_reducible refine Adds.drew ?_ | with_reducible refine Adds.drewN ?_ _)))) (hB0 _ (hal.trans (by repeat (first | with_reducible exact Adds.refl _ | with_reducible refine Adds.alloc ?_ _ | with_reducible refine Adds.more ?_ _ _ | with_reducible refine Adds.drew ?_ | with_reducible refine Adds.drewN ?_ _)))) (.slice ao m.length cap) m (hbyt _ (hal.trans (by repeat (first | with_reducible exact Adds.refl _ | with_reducible refine Adds.alloc ?_ _ | with_reducible refine Adds.more ?_ _ _ | with_reducible refine Adds.drew ?_ | with_reducible refine Adds.drewN ?_ _)))) (by omega)
      obtain ⟨m2, p2, q2⟩ := put_pre H.out (hal.trans (by repeat (first | with_reducible exact Adds.refl _ | with_reducible refine Adds.alloc ?_ _ | with_reducible refine Adds.more ?_ _ _ | with_reducible refine Adds.drew ?_ | with_reducible refine Adds.drewN ?_ _))) hat g2
      obtain ⟨w3, r3, m3, t3⟩ := m2.store (val := v1) law3 Try.underlying52 (by unfold maxLen; omega) (key3 hk) (d := .held v1) (ps := []) rfl
      obtain ⟨p3, x3, y3⟩ := put_post H.out p2 t3
      have HM : Hid _ := mem_put H.out (hal.trans (by repeat (first | with_reducible exact Adds.refl _ | with_reducible refine Adds.alloc ?_ _ | with_reducible refine Adds.more ?_ _ _ | with_reducible refine Adds.drew ?_ | with_reducible refine Adds.drewN ?_ _))) hk hat v1 h2 g2 l2 m3 t3
      clear h2 g2 l2 m2 p2 m3 t3 p3
      refine Lib.wp_append_run _ (.tmp 39) (.tmp 40) 36 36 rfl _ _ rfl rfl v1 w2 hr2 ?_
      clear hr2
      refine hK _ _ ?_
      clear hK K
      go_simp
      refine wpAny_ready (rs := [8]) (by kernel_rfl) (by simp) ?_
      refine AllReady.cons rfl (fun K hK => ?_) ?_
      · go_simp
        refine hK _ _ ?_
        clear hK K
        go_simp
        refine wpAny_done (by kernel_rfl) ?_ _
        have HM1 := HM.out.1
        have HM2 := HM.out.2
        have kN := note_any (d := ⟨k, false, (get k R.fs).isNone, m⟩) (v := .slice none 0 0) HM1 hdead hk (World.ownsRow_nil _ _ _ _) (by intro i hi; cases hi) rfl (by rw [bulk_put H.out hat]; omega) (Nat.le_trans (hB0 _ (Adds.refl _)) HM2.size) hml
        have kN : Calls Try.prog 31 #[ptr R.p, .agg #[.int .i64 k, .int .i64 (m.length : Int), .bool ((get k R.fs).isNone), .bool false, .slice none 0 0]] _ _ := kN
        have HH : Hid _ := HM2
        clear HM HM1 HM2
        go_wp2_with (go_at_call 31; refine kN.mono ?_; rintro e w9 ⟨rfl, dn, hm9, hn9⟩)
        go_ret
        exact ⟨rfl, v, v1, b, dn, hat, hm9, HH.out.trans hn9.moves⟩
      exact AllReady.nil
    exact AllReady.nil
  refine AllReady.cons rfl (fun K hK => ?_) ?_
  · rw [if_pos (by rfl)]
    obtain ⟨v1, w2, hr2, h2, g2, l2⟩ := byte_append wl.drew B 36 v b (hrow _ (hal.trans (by repeat (first | with_reducible exact Adds.refl _ | with_reducible refine Adds.alloc ?_ _ | with_reducible refine Adds.more ?_ _ _ | with_reducible refine Adds.drew ?_ | with_reducible refine Adds.drewN ?_ _)))) (hB0 _ (hal.trans (by repeat (first | with_reducible exact Adds.refl _ | with_reducible refine Adds.alloc ?_ _ | with_reducible refine Adds.more ?_ _ _ | with_reducible refine Adds.drew ?_ | with_reducible refine Adds.drewN ?_ _)))) (.slice ao m.length cap) m (hbyt _ (hal.trans (by repeat (first | with_reducible exact Adds.refl _ | with_reducible refine Adds.alloc ?_ _ | with_reducible refine Adds.more ?_ _ _ | with_reducible refine Adds.drew ?_ | with_reducible refine Adds.drewN ?_ _)))) (by omega)
    obtain ⟨m2, p2, q2⟩ := put_pre H.out (hal.trans (by repeat (first | with_reducible exact Adds.refl _ | with_reducible refine Adds.alloc ?_ _ | with_reducible refine Adds.more ?_ _ _ | with_reducible refine Adds.drew ?_ | with_reducible refine Adds.drewN ?_ _))) hat g2
    obtain ⟨w3, r3, m3, t3⟩ := m2.store (val := v1) law3 Try.underlying52 (by unfold maxLen; omega) (key3 hk) (d := .held v1) (ps := []) rfl
    obtain ⟨p3, x3, y3⟩ := put_post H.out p2 t3
    have HM : Hid _ := mem_put H.out (hal.trans (by repeat (first | with_reducible exact Adds.refl _ | with_reducible refine Adds.alloc ?_ _ | with_reducible refine Adds.more ?_ _ _ | with_reducible refine Adds.drew ?_ | with_reducible refine Adds.drewN ?_ _))) hk hat v1 h2 g2 l2 m3 t3
    clear h2 g2 l2 m2 p2 m3 t3 p3
    refine Lib.wp_append_run _ (.tmp 39) (.tmp 40) 36 36 rfl _ _ rfl rfl v1 w2 hr2 ?_
    clear hr2
    refine hK _ _ ?_
    clear hK K
    go_simp
    refine wpAny_ready (rs := [3]) (by kernel_rfl) (by simp) ?_
    refine AllReady.cons rfl (fun K hK => ?_) ?_
    · go_simp
      refine hK _ _ ?_
      clear hK K
      go_simp
      refine wpAny_ready (rs := [8]) (by kernel_rfl) (by simp) ?_
      refine AllReady.cons rfl (fun K hK => ?_) ?_
      · go_simp
        refine hK _ _ ?_
        clear hK K
        go_simp
        refine wpAny_done (by kernel_rfl) ?_ _
        have HM1 := HM.out.1
        have HM2 := HM.out.2
        have kN := note_any (d := ⟨k, false, (get k R.fs).isNone, m⟩) (v := .slice none 0 0) HM1 hdead hk (World.ownsRow_nil _ _ _ _) (by intro i hi; cases hi) rfl (by rw [bulk_put H.out hat]; omega) (Nat.le_trans (hB0 _ (Adds.refl _)) HM2.size) hml
        have kN : Calls Try.prog 31 #[ptr R.p, .agg #[.int .i64 k, .int .i64 (m.length : Int), .bool ((get k R.fs).isNone), .bool false, .slice none 0 0]] _ _ := kN
        have HH : Hid _ := HM2
        clear HM HM1 HM2
        go_wp2_with (go_at_call 31; refine kN.mono ?_; rintro e w9 ⟨rfl, dn, hm9, hn9⟩)
        go_ret
        exact ⟨rfl, v, v1, b, dn, hat, hm9, HH.out.trans hn9.moves⟩
      exact AllReady.nil
    exact AllReady.nil
  exact AllReady.nil

end Go.Proofs.Ytinfoblgojnjfaa
