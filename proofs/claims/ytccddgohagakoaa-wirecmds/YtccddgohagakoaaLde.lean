/-
  The reader of cells, by contract: a list, over what reads one.
-/
import Derived.Test.YtccddgohagakoaaLrg
namespace Go.Proofs.Ytccddgohagakoaa
open Go.RowKit
attribute [local go_sem] cell?_more frozen?_more setCell_more size_more tape_more drew_more drewN_more more_drew more_drewN one_out plus_out plus_end lt_one le_p2 le_p3 le_p4 le_p5 le_p6 le_p7 le_p8 le_p9 le_p10 le_p11 le_p12 le_p13 le_p14 le_p15 le_p16 le_p17 le_p18 le_p19 le_p20 le_p21 le_p22 le_p23 le_p24 le_q0 le_q1 lt_q1 le_q2 lt_q2 le_q3 lt_q3 le_q4 lt_q4 le_q5 lt_q5 le_q6 lt_q6 le_q7 lt_q7 le_q8 lt_q8 le_q9 lt_q9 le_q10 lt_q10 le_q11 lt_q11 le_q12 lt_q12 le_q13 lt_q13 le_q14 lt_q14 le_q15 lt_q15 le_q16 lt_q16 le_q17 lt_q17 le_q18 lt_q18 le_q19 lt_q19 le_q20 lt_q20 le_q21 lt_q21 le_q22 lt_q22 le_q23 lt_q23 le_q24 lt_q24

/-- What the reader tells of a cell. -/
def GaveC (P : Nat) (o : Option (T × Nat × List UInt8)) (d : Nat) (w : World) (e : Ending) (w' : World) : Prop :=
  match o with
  | some (t, c', r) => (∃ ao n cap, e = .returned (.tuple #[.agg #[.int .i64 t.kind, .int .i64 t.num, .string t.text, .slice ao n cap], .bool true]) ∧ Hid (Tr (fun b => w.heap.size ≤ b) d w' (.slice ao n cap) t.list)) ∧ Rd P w' r c' ∧ w.grownBy w' (some P)
  | none => (∃ k n s a x y, e = .returned (.tuple #[.agg #[.int .i64 k, .int .i64 n, .string s, .slice a x y], .bool false])) ∧ w.grownBy w' (some P)

def CellOk (lv : Nat) : Prop := ∀ (P : Nat) (l : List UInt8) (c level : Nat) (w : World), level + lv = 13 → Rd P w l c → P < w.heap.size → c ≤ 4096 → l.length ≤ 65536 →
  Calls Try.prog 45 #[.pointer (some ⟨P, 0, none⟩), .int .i64 (level : Int)] w (GaveC P (rdC lv c l) (lv - 1) w)

/-- What the reader tells of a list. -/
def GaveL (P : Nat) (o : Option (List T × Nat × List UInt8)) (d : Nat) (w : World) (e : Ending) (w' : World) : Prop :=
  match o with
  | some (ts, c', r) => (∃ ao n cap, e = .returned (.tuple #[.agg #[.int .i64 3, .int .i64 0, .string ⟨#[]⟩, .slice ao n cap], .bool true]) ∧ Hid (Tr (fun b => w.heap.size ≤ b) d w' (.slice ao n cap) ts)) ∧ Rd P w' r c' ∧ w.grownBy w' (some P)
  | none => (∃ k n s a x y, e = .returned (.tuple #[.agg #[.int .i64 k, .int .i64 n, .string s, .slice a x y], .bool false])) ∧ w.grownBy w' (some P)

/-- What is read ahead, and what is read then. -/
def pre (ts : List T) (o : Option (List T × Nat × List UInt8)) : Option (List T × Nat × List UInt8) := match o with
  | none => none
  | some (us, c, r) => some (ts ++ us, c, r)

theorem pre_nil (o : Option (List T × Nat × List UInt8)) : pre [] o = o := by cases o <;> rfl

theorem pre_next {lv n c c' : Nat} {l r : List UInt8} {ts : List T} {t : T} (h : rdC lv c l = some (t, c', r)) : pre ts (rdN (rdC lv) (n + 1) c l) = pre (ts ++ [t]) (rdN (rdC lv) n c' r) := by
  conv => lhs; unfold rdN
  rw [h]
  simp only
  cases rdN (rdC lv) n c' r with
  | none => rfl
  | some q => simp [pre]

theorem pre_stop {lv n c : Nat} {l : List UInt8} {ts : List T} (h : rdC lv c l = none) : pre ts (rdN (rdC lv) (n + 1) c l) = none := by
  unfold rdN
  rw [h]
  rfl

theorem gaveL_no {P d : Nat} {w w' : World} {k n : Int} {s : ByteArray} {a : Option Addr} {x y : Nat} (hg : w.grownBy w' (some P)) : GaveL P none d w (.returned (.tuple #[.agg #[.int .i64 k, .int .i64 n, .string s, .slice a x y], .bool false])) w' := ⟨⟨k, n, s, a, x, y, rfl⟩, hg⟩

theorem size_of {a b : World} (h : Adds a b) : a.heap.size ≤ b.heap.size := h.below.size

theorem okT_text {lv : Nat} {t : T} (h : okT lv t) : t.text.size ≤ 9223372036854775807 := by
  cases lv with
  | zero => exact h.elim
  | succ lv =>
    rcases h with ⟨_, _, _, h, _⟩ | ⟨_, _, h, _⟩ | ⟨_, _, h, _⟩
    · rw [h]; exact Nat.zero_le _
    · omega
    · rw [h]; exact Nat.zero_le _

theorem made_no (n : Nat) : ∀ u ∈ (madeCells (Value.agg #[.int .i64 0, .int .i64 0, .string ⟨#[]⟩, .slice none 0 0]).cells (n * 4)).toList, ∀ x, u ≠ .int .u8 x := by
  intro u hu x hx
  subst hx
  have h := Array.mem_toList_iff.1 hu
  obtain ⟨i, hi, he⟩ := Array.mem_iff_getElem.1 h
  simp [madeCells, Value.cells] at he
  have h4 : i % 4 = 0 ∨ i % 4 = 1 ∨ i % 4 = 2 ∨ i % 4 = 3 := by omega
  rcases h4 with e | e | e | e <;> rw [e] at he <;> simp at he

/-- What reading leaves, behind the results' box. -/
theorem gaveL_end {P c' d g : Nat} {w W1 w3 F : World} {ts : List T} {r : List UInt8} {n : Nat} (hw1 : w.grownBy W1 (some P)) (hP : P < w.heap.size) (hbox : W1.heap[w.heap.size]? = some cBox) (hg3 : W1.grownBy w3 (some P)) (hR : Rd P w3 r c') (hT : Tr (fun b => w.heap.size < b) d w3 (.slice (some ⟨g, 0, none⟩) n n) ts)
    (hF : Adds ((((w3.setCell ⟨w.heap.size, 0, none⟩ (.int .i64 3)).setCell ⟨w.heap.size, 1, none⟩ (.int .i64 0)).setCell ⟨w.heap.size, 2, none⟩ (.string ⟨#[]⟩)).setCell ⟨w.heap.size, 3, none⟩ (.slice (some ⟨g, 0, none⟩) n n)) F) :
    GaveL P (some (ts, c', r)) d w (.returned (.tuple #[.agg #[.int .i64 3, .int .i64 0, .string ⟨#[]⟩, .slice (some ⟨g, 0, none⟩) n n], .bool true])) F := by
  have hO : Oth w.heap.size w3 ((((w3.setCell ⟨w.heap.size, 0, none⟩ (.int .i64 3)).setCell ⟨w.heap.size, 1, none⟩ (.int .i64 0)).setCell ⟨w.heap.size, 2, none⟩ (.string ⟨#[]⟩)).setCell ⟨w.heap.size, 3, none⟩ (.slice (some ⟨g, 0, none⟩) n n)) := (((Oth.set _ _ _ _).trans (Oth.set _ _ _ _)).trans (Oth.set _ _ _ _)).trans (Oth.set _ _ _ _)
  obtain ⟨hh, hl, _⟩ := cbox_kept hg3 hbox (by omega)
  refine ⟨⟨_, _, _, rfl, ?_⟩, (hR.stay hO (cbox_no hh) (by omega)).adds ?_ hF, grownBy_adds (grown_set (grown_set (grown_set (grown_set (grown_tr hw1 hg3) (Nat.le_refl _)) (Nat.le_refl _)) (Nat.le_refl _)) (Nat.le_refl _)) hF⟩
  · exact (hT.frame (ok' := fun b => w.heap.size ≤ b) (by rw [hO.1]; omega) (fun b hb _ => hO.2 b (by omega)) (fun b hb => by omega)).adds hF
  · have := (grown_tr hw1 hg3).size
    rw [hO.1]
    omega

set_option maxRecDepth 20000 in
set_option maxHeartbeats 4000000 in
theorem rlist_any (lv : Nat) (ih : CellOk lv) (P : Nat) (l : List UInt8) (c n level : Nat) (w : World) (hlv : level + lv = 12) (h : Rd P w l c) (hP : P < w.heap.size) (hc : c ≤ 4096) (hL : l.length ≤ 65536) (hn : n ≤ 9223372036854775807) :
    Calls Try.prog 58 #[.pointer (some ⟨P, 0, none⟩), .int .i64 (n : Int), .int .i64 (level : Int)] w (GaveL P (if n ≤ 4096 - c then rdN (rdC lv) n c l else none) lv w) := by
  have HR : Hid (Rd P w l c) := h
  obtain ⟨v, hq, hB⟩ := h
  have q1 : w.cell? ⟨P, 1, none⟩ = some (.int .i64 (c : Int)) := by simp [World.cell?, hq]
  clear hq hB
  by_cases hin : n ≤ 4096 - c
  rotate_left
  · rw [if_neg hin]
    have hin' : (4096 : Int) - (c : Int) < (n : Int) := by omega
    clear hin HR ih
    go_enter Try.func58, Try.ntmps58
    go_wp2
    refine bodyPost_ret (v := .tuple #[.agg #[.int .i64 0, .int .i64 0, .string ⟨#[]⟩, .slice none 0 0], .bool false]) (by simp [results, Try.results58, go_sem]) rfl (gaveL_no ?_)
    exact grownBy_adds ⟨rfl, rfl, rfl, Nat.le_refl _, fun _ _ _ => rfl⟩ (by repeat (first | with_reducible exact Adds.refl _ | with_reducible refine Adds.alloc ?_ _ | with_reducible refine Adds.more ?_ _ _ | with_reducible refine Adds.drew ?_ | with_reducible refine Adds.drewN ?_ _))
  · rw [if_pos hin]
    have hin' : ¬ (4096 : Int) - (c : Int) < (n : Int) := by omega
    obtain ⟨i0, hi, hz0, hz1, hz2⟩ := info_parts Try.info43
    have HI : Hid _ := ih
    clear ih
    go_enter Try.func58, Try.ntmps58
    go_wp2_with (at_make; refine wpList_make_full _ rfl (.tmp 20) (.tmp 20) 41 rfl 0 43 i0 _ 4 Try.underlying41 hi hz0 hz1 .i64 .i64 _ _ n rfl rfl rfl rfl (by rw [hz2]; omega) (by unfold maxLen; omega) (Nat.zero_le _) ?_; intro w2 hrow hgrow)
    have hsz : (w.alloc (.cells #[.int .i64 0, .int .i64 0, .string ⟨#[]⟩, .slice none 0 0] 43)).heap.size = w.heap.size + 1 := by simp
    have hgr : (w.alloc (.cells #[.int .i64 0, .int .i64 0, .string ⟨#[]⟩, .slice none 0 0] 43)).grownBy w2 (some P) := ⟨hgrow.os, hgrow.tape, hgrow.output, hgrow.size, fun k hk _ => hgrow.block k hk (by simp)⟩
    have hbox : (w.alloc (.cells #[.int .i64 0, .int .i64 0, .string ⟨#[]⟩, .slice none 0 0] 43)).heap[w.heap.size]? = some (.cells #[.int .i64 0, .int .i64 0, .string ⟨#[]⟩, .slice none 0 0] 43 (0, 0)) := new_block _ _
    have hgw : w.grownBy (w.alloc (.cells #[.int .i64 0, .int .i64 0, .string ⟨#[]⟩, .slice none 0 0] 43)) (some P) := grownBy_adds ⟨rfl, rfl, rfl, Nat.le_refl _, fun _ _ _ => rfl⟩ (by repeat (first | with_reducible exact Adds.refl _ | with_reducible refine Adds.alloc ?_ _ | with_reducible refine Adds.more ?_ _ _ | with_reducible refine Adds.drew ?_ | with_reducible refine Adds.drewN ?_ _))
    rw [hsz] at hrow
    go_simp
    have hr0 : Rowg (fun b => w.heap.size < b) (lv - 1) (w.heap.size + 1) n [] w2 := rowg_new hrow (made_no n)
    have hR2 : Rd P w2 l c := by
      obtain ⟨v, a, b⟩ := HR.out.adds hP (show Adds w (w.alloc (.cells #[.int .i64 0, .int .i64 0, .string ⟨#[]⟩, .slice none 0 0] 43)) from (by repeat (first | with_reducible exact Adds.refl _ | with_reducible refine Adds.alloc ?_ _ | with_reducible refine Adds.more ?_ _ _ | with_reducible refine Adds.drew ?_ | with_reducible refine Adds.drewN ?_ _)))
      refine ⟨v, (hgrow.block P (by rw [hsz]; omega) (by simp)).trans a, ?_⟩
      refine LstV.below (w := (w.alloc (.cells #[.int .i64 0, .int .i64 0, .string ⟨#[]⟩, .slice none 0 0] 43))) b ⟨hgrow.os, hgrow.tape, hgrow.output, hgrow.size, fun k hk => hgrow.block k hk (by simp)⟩
    clear hrow hgrow hi hz0 hz1 hz2 q1
    generalize w.alloc (.cells #[.int .i64 0, .int .i64 0, .string ⟨#[]⟩, .slice none 0 0] 43) = W1 at *
    obtain ⟨g, hg⟩ : ∃ g, g = w.heap.size + 1 := ⟨_, rfl⟩
    rw [← hg] at hr0 hsz ⊢
    have hwg : w.heap.size < g := by omega
    have HG : Hid _ := hg
    clear hg
    go_loopw [24] (fun iv wr => ∃ (k : Nat) (ts : List T) (ck : Nat) (lk : List UInt8), k = ts.length ∧ k ≤ n ∧ iv = .int .i64 k ∧ Hid (Rd P wr lk ck) ∧ ck ≤ 4096 ∧ lk.length ≤ 65536 ∧ Hid (rdN (rdC lv) n c l = pre ts (rdN (rdC lv) (n - k) ck lk)) ∧ Hid (Rowg (fun b => w.heap.size < b) (lv - 1) g n ts wr) ∧ Hid (W1.grownBy wr (some P))) (fun iv _ => n - (intOf iv).toNat)
    case atStart => exact ⟨0, [], c, l, rfl, by omega, rfl, hR2, hc, hL, (pre_nil _).symm, hr0, hgr⟩
    case round =>
      obtain ⟨k, ts, ck, lk, hk, hkn, rfl, hRk, hck, hLk, hrd, hrow, hgk⟩ := hrel
      subst hk
      clear hr0 hgr hR2
      have hsg := hgk.out.size
      have hPr : P < wr.heap.size := by omega
      have hgs : g < wr.heap.size := hrow.out.1
      by_cases hlt : ts.length < n
      · have hltI : (ts.length : Int) < (n : Int) := by omega
        have HX : Hid (∀ W, Adds wr W → Calls Try.prog 45 #[.pointer (some ⟨P, 0, none⟩), .int .i64 ((level : Int) + 1)] W (GaveC P (rdC lv ck lk) (lv - 1) W)) := fun W hA => HI.out P lk ck (level + 1) W (by omega) (hRk.out.adds hPr hA) (Nat.lt_of_lt_of_le hPr hA.below.size) hck hLk
        obtain ⟨z0, e0, f0⟩ := hrow.out.2.1 (ts.length * 4) (by omega)
        obtain ⟨z1, e1, f1⟩ := hrow.out.2.1 (ts.length * 4 + 1) (by omega)
        obtain ⟨z2, e2, f2⟩ := hrow.out.2.1 (ts.length * 4 + 2) (by omega)
        obtain ⟨z3, e3, f3⟩ := hrow.out.2.1 (ts.length * 4 + 3) (by omega)
        obtain ⟨n', hn'⟩ : ∃ n', n - ts.length = n' + 1 := ⟨n - ts.length - 1, by omega⟩
        cases hrc : rdC lv ck lk with
        | none =>
          rw [hrc] at HX
          have HN : Hid (rdN (rdC lv) n c l = none) := by
            show _ = _
            rw [hrd.out, hn', pre_stop hrc]
          clear e0 e1 e2 e3 f0 f1 f2 f3
          go_wp2_with (go_at_call 45; refine (HX.out _ (by repeat (first | with_reducible exact Adds.refl _ | with_reducible refine Adds.alloc ?_ _ | with_reducible refine Adds.more ?_ _ _ | with_reducible refine Adds.drew ?_ | with_reducible refine Adds.drewN ?_ _))).mono ?_; rintro e w3 ⟨⟨k3, n3, s3, a3, x3, y3, rfl⟩, hg3⟩; have hG3 : W1.grownBy w3 (some P) := grown_tr (grownBy_adds hgk.out (by repeat (first | with_reducible exact Adds.refl _ | with_reducible refine Adds.alloc ?_ _ | with_reducible refine Adds.more ?_ _ _ | with_reducible refine Adds.drew ?_ | with_reducible refine Adds.drewN ?_ _))) hg3; obtain ⟨_, hl3, ⟨x0, x1, x2, x3'⟩, u0, u1, u2, u3⟩ := cbox_kept hG3 hbox (by omega); clear hg3)
          refine bodyPost_ret (v := .tuple #[.agg #[.int .i64 0, .int .i64 0, .string ⟨#[]⟩, .slice none 0 0], .bool false]) (by simp [results, Try.results58, go_sem, hl3, x0, x1, x2, x3']) rfl ?_
          rw [HN.out]
          refine gaveL_no ?_
          exact grownBy_adds (grown_set (grown_set (grown_set (grown_set (grown_tr hgw hG3) (Nat.le_refl _)) (Nat.le_refl _)) (Nat.le_refl _)) (Nat.le_refl _)) (by repeat (first | with_reducible exact Adds.refl _ | with_reducible refine Adds.alloc ?_ _ | with_reducible refine Adds.more ?_ _ _ | with_reducible refine Adds.drew ?_ | with_reducible refine Adds.drewN ?_ _))
        | some q =>
          obtain ⟨t, c', r⟩ := q
          rw [hrc] at HX
          have HN : Hid (rdN (rdC lv) n c l = pre (ts ++ [t]) (rdN (rdC lv) (n - (ts.length + 1)) c' r)) := by
            show _ = _
            rw [hrd.out, hn', pre_next hrc, show n - (ts.length + 1) = n' by omega]
          obtain ⟨hs1, hs2, hs3, hs4⟩ := rdC_sound lv ck lk t c' r hLk hck hrc
          have hLr : r.length ≤ 65536 := by
            rw [hs1] at hLk
            simp at hLk
            omega
          clear e0 e1 e2 e3 f0 f1 f2 f3
          go_wp2_with (go_at_call 45; refine (HX.out _ (by repeat (first | with_reducible exact Adds.refl _ | with_reducible refine Adds.alloc ?_ _ | with_reducible refine Adds.more ?_ _ _ | with_reducible refine Adds.drew ?_ | with_reducible refine Adds.drewN ?_ _))).mono ?_; rintro e w3 ⟨⟨a3, x3, y3, rfl, hT3⟩, hR3, hg3⟩; have hG3 : W1.grownBy w3 (some P) := grown_tr (grownBy_adds hgk.out (by repeat (first | with_reducible exact Adds.refl _ | with_reducible refine Adds.alloc ?_ _ | with_reducible refine Adds.more ?_ _ _ | with_reducible refine Adds.drew ?_ | with_reducible refine Adds.drewN ?_ _))) hg3; have hrow3 : Hid (Rowg (fun b => w.heap.size < b) (lv - 1) g n ts w3) := Rowg.kept (hrow.out.adds (by repeat (first | with_reducible exact Adds.refl _ | with_reducible refine Adds.alloc ?_ _ | with_reducible refine Adds.more ?_ _ _ | with_reducible refine Adds.drew ?_ | with_reducible refine Adds.drewN ?_ _))) hg3 (by omega) (fun b hb => by omega); have hT4 : Hid (Tr (fun b => wr.heap.size ≤ b) (lv - 1) w3 (.slice a3 x3 y3) t.list) := hT3.out.frame (Nat.le_refl _) (fun _ _ _ => rfl) (fun b hb => Nat.le_trans (size_of (by repeat (first | with_reducible exact Adds.refl _ | with_reducible refine Adds.alloc ?_ _ | with_reducible refine Adds.more ?_ _ _ | with_reducible refine Adds.drew ?_ | with_reducible refine Adds.drewN ?_ _))) hb); clear hT3 hg3; have hgs3 : g < w3.heap.size := hrow3.out.1; obtain ⟨z0, e0, f0⟩ := hrow3.out.2.1 (ts.length * 4) (by omega); obtain ⟨z1, e1, f1⟩ := hrow3.out.2.1 (ts.length * 4 + 1) (by omega); obtain ⟨z2, e2, f2⟩ := hrow3.out.2.1 (ts.length * 4 + 2) (by omega); obtain ⟨z3, e3, f3⟩ := hrow3.out.2.1 (ts.length * 4 + 3) (by omega))
          go_roundw
          case rel =>
            have hg1 : W1.heap.size ≤ g := by have := HG.out; omega
            refine ⟨ts.length + 1, ts ++ [t], c', r, by simp, by omega, by go_num, (hR3.stay (put4_oth w3 g (ts.length * 4) t (.slice a3 x3 y3)) hrow3.out.2.2.1 (by omega)).adds ?_ (by repeat (first | with_reducible exact Adds.refl _ | with_reducible refine Adds.alloc ?_ _ | with_reducible refine Adds.more ?_ _ _ | with_reducible refine Adds.drew ?_ | with_reducible refine Adds.drewN ?_ _)), hs3, hLr, HN, (hrow3.out.next hlt (okT_text hs4) (hT4.out.frame (Nat.le_refl _) (fun _ _ _ => rfl) (fun b hb => ⟨by omega, by omega⟩))).adds (by repeat (first | with_reducible exact Adds.refl _ | with_reducible refine Adds.alloc ?_ _ | with_reducible refine Adds.more ?_ _ _ | with_reducible refine Adds.drew ?_ | with_reducible refine Adds.drewN ?_ _)), grownBy_adds (grown_set (grown_set (grown_set (grown_set hG3 hg1) hg1) hg1) hg1) (by repeat (first | with_reducible exact Adds.refl _ | with_reducible refine Adds.alloc ?_ _ | with_reducible refine Adds.more ?_ _ _ | with_reducible refine Adds.drew ?_ | with_reducible refine Adds.drewN ?_ _))⟩
            rw [(put4_oth w3 g (ts.length * 4) t (.slice a3 x3 y3)).1]
            have := hG3.size
            omega
          case measure => simp [intOf]; omega
      · have hkn' : ts.length = n := by omega
        have hkI : ¬ (ts.length : Int) < (n : Int) := by omega
        obtain ⟨_, hl3, ⟨x0, x1, x2, x3'⟩, u0, u1, u2, u3⟩ := cbox_kept hgk.out hbox (by omega)
        have hT : Tr (fun b => w.heap.size < b) lv wr (.slice (some ⟨g, 0, none⟩) n n) ts := by
          cases lv with
          | zero =>
            have hn0 : n = 0 := by
              cases n with
              | zero => rfl
              | succ m =>
                have h1 := hrd.out
                rw [show m + 1 - ts.length = 0 by omega] at h1
                simp [rdN, rdC, pre] at h1
            obtain rfl : ts = [] := List.length_eq_zero_iff.1 (by omega)
            exact rowg_zero hn0
          | succ d => exact rowg_tr hrow.out hkn'.symm hwg
        have HD : Hid (rdN (rdC lv) n c l = some (ts, ck, lk)) := by
          show _ = _
          rw [hrd.out, show n - ts.length = 0 by omega]
          simp [rdN, pre]
        have HT : Hid _ := hT
        clear hT
        go_wp2
        refine bodyPost_ret (v := .tuple #[.agg #[.int .i64 3, .int .i64 0, .string ⟨#[]⟩, .slice (some ⟨g, 0, none⟩) n n], .bool true]) (by simp [results, Try.results58, go_sem, x0, x1, x2, x3']) rfl ?_
        rw [HD.out]
        exact gaveL_end hgw hP hbox hgk.out hRk.out HT.out (Adds.refl _)

end Go.Proofs.Ytccddgohagakoaa
