/-
  The functions recordOf and CmdOf of package wire, where the bytes are a command's, by contracts.
-/
import Derived.Test.YtccddgohagakoaaWrl
import Derived.Test.YtccddgohagakoaaWre
namespace Go.Proofs.Ytccddgohagakoaa
open Go.RowKit
attribute [local go_sem] cell?_more frozen?_more setCell_more size_more tape_more drew_more drewN_more more_drew more_drewN one_out plus_out plus_end lt_one le_p2 le_p3 le_p4 le_p5 le_p6 le_p7 le_p8 le_p9 le_p10 le_p11 le_p12 le_p13 le_p14 le_p15 le_p16 le_p17 le_p18 le_p19 le_p20 le_p21 le_p22 le_p23 le_p24 le_q0 le_q1 lt_q1 le_q2 lt_q2 le_q3 lt_q3 le_q4 lt_q4 le_q5 lt_q5 le_q6 lt_q6 le_q7 lt_q7 le_q8 lt_q8 le_q9 lt_q9 le_q10 lt_q10 le_q11 lt_q11 le_q12 lt_q12 le_q13 lt_q13 le_q14 lt_q14 le_q15 lt_q15 le_q16 lt_q16 le_q17 lt_q17 le_q18 lt_q18 le_q19 lt_q19 le_q20 lt_q20 le_q21 lt_q21 le_q22 lt_q22 le_q23 lt_q23 le_q24 lt_q24

theorem up_ok : ∀ (lv : Nat) (t : T), okT lv t → okT (lv + 1) t ∧ bytesT (lv + 1) t = bytesT lv t ∧ sizeT (lv + 1) t = sizeT lv t
  | 0, _, h => h.elim
  | lv + 1, t, h => by
    obtain ⟨k, n, x, l⟩ := t
    have ih := up_ok lv
    rcases h with ⟨hk, h1, h2, hx, hl⟩ | ⟨hk, hn, hs, hl⟩ | ⟨hk, hn, hx, hall⟩
    · simp only [T.kind, T.text, T.list] at hk hx hl
      subst hk hx hl
      exact ⟨.inl ⟨rfl, h1, h2, rfl, rfl⟩, rfl, rfl⟩
    · simp only [T.kind, T.num, T.list] at hk hn hl
      subst hk hn hl
      exact ⟨.inr (.inl ⟨rfl, rfl, hs, rfl⟩), rfl, rfl⟩
    · simp only [T.kind, T.num, T.text, T.list] at hk hn hx hall
      subst hk hn hx
      have eb : l.flatMap (bytesT (lv + 1)) = l.flatMap (bytesT lv) := by
        rw [List.flatMap_def, List.flatMap_def, List.map_congr_left (fun x hx => (ih x (hall x hx)).2.1)]
      have es : l.map (sizeT (lv + 1)) = l.map (sizeT lv) := List.map_congr_left (fun x hx => (ih x (hall x hx)).2.2)
      refine ⟨.inr (.inr ⟨rfl, rfl, rfl, fun x hx => (ih x (hall x hx)).1⟩), ?_, ?_⟩
      · show 3 :: (number l.length ++ l.flatMap (bytesT (lv + 1))) = 3 :: (number l.length ++ l.flatMap (bytesT lv))
        rw [eb]
      · show 1 + (l.map (sizeT (lv + 1))).sum = 1 + (l.map (sizeT lv)).sum
        rw [es]

theorem ups_ok (lv : Nat) (t : T) (h : okT lv t) : ∀ d, okT (lv + d) t ∧ bytesT (lv + d) t = bytesT lv t ∧ sizeT (lv + d) t = sizeT lv t
  | 0 => ⟨h, rfl, rfl⟩
  | d + 1 => by
    obtain ⟨h1, h2, h3⟩ := ups_ok lv t h d
    obtain ⟨k1, k2, k3⟩ := up_ok (lv + d) t h1
    exact ⟨k1, k2.trans h2, k3.trans h3⟩

theorem cmd_is (c : Cm) (h100 : c.ns.length ≤ 100) (hd : c.df.size ≤ 3000) (ho : oddT 3 (cmdT c) = false) : Is (bytesT 3 (cmdT c)) (cmdT c) := by
  obtain ⟨h1, h2, h3⟩ := ups_ok 3 (cmdT c) (okT_of 3 _ (cmdT_pl c hd) ho) 9
  exact ⟨h1, by have := cmdT_size c h100; rw [h3]; exact this, h2⟩

theorem dec_is {l : List UInt8} {t : T} {w w' : World} {e : Ending} (hI : Is l t) (hL : l.length ≤ 65536) (h : DecT l w e w') : ∃ ao n cap, e = .returned (.tuple #[.agg #[.int .i64 t.kind, .int .i64 t.num, .string t.text, .slice ao n cap], .int .i64 0]) ∧ Hid (Tr (fun b => w.heap.size ≤ b) 11 w' (.slice ao n cap) t.list) := by
  obtain ⟨c, hc⟩ := (decode_iff l hL t).2 hI
  unfold DecT at h
  rw [hc] at h
  exact h

theorem lst_stay {w w' : World} {a : Option Addr} {n k : Nat} {ns : List Int} {g : Nat} (h : LstI w (.slice a n k) ns) (hg : ∀ b off, a = some ⟨b, off, none⟩ → b ≠ g) (ho : Oth g w w') : LstI w' (.slice a n k) ns := by
  obtain ⟨ao, cap, e, hc, hx⟩ := h
  simp only [Value.slice.injEq] at e
  obtain ⟨rfl, rfl, rfl⟩ := e
  refine ⟨_, _, rfl, hc, ?_⟩
  rcases hx with hx | ⟨b, off, rfl, hb, hl⟩
  · exact .inl hx
  · refine .inr ⟨b, off, rfl, by rw [ho.1]; exact hb, fun j hj => ?_⟩
    rw [← hl j hj]
    exact World.cell?_of_block (w := w) (a := ⟨b, off + j, none⟩) (ho.2 b (hg b off rfl))

theorem rec_fin {w w3 F : World} {a : Option Addr} {n k : Nat} {ns : List Int} {v0 v1 v2 v3 v4 v5 : Value} {r : Nat} (hr : w.heap.size ≤ r) (hA : Adds w w3) (h : LstI w3 (.slice a n k) ns) (hg : ∀ b off, a = some ⟨b, off, none⟩ → b ≠ r)
    (hF : Adds ((((((w3.setCell ⟨r, 0, none⟩ v0).setCell ⟨r, 1, none⟩ v1).setCell ⟨r, 2, none⟩ v2).setCell ⟨r, 3, none⟩ v3).setCell ⟨r, 4, none⟩ v4).setCell ⟨r, 5, none⟩ v5) F) : LstI F (.slice a n k) ns ∧ Adds w F :=
  ⟨(lst_stay h hg ((((((Oth.set _ _ _ _).trans (Oth.set _ _ _ _)).trans (Oth.set _ _ _ _)).trans (Oth.set _ _ _ _)).trans (Oth.set _ _ _ _)).trans (Oth.set _ _ _ _))).adds hF,
    adds_out (r := none) (grownBy_adds (grown_set (grown_set (grown_set (grown_set (grown_set (grown_set (grown_by hA _) hr) hr) hr) hr) hr) hr) hF) (fun k h => by cases h)⟩

theorem rb_new {X : World} {fv : Value} {P : Nat} (h : X.heap.size = P) : Rb P (X.alloc (.cells #[fv, .bool false] 64)) fv := by
  subst h
  exact new_block _ _

set_option maxRecDepth 20000 in
set_option maxHeartbeats 4000000 in
theorem recordOf_any (c : Cm) (v : Value) (l : List UInt8) (w : World) (hB : Byt w v l) (hL : l.length ≤ 16384) (hI : Is l (cmdT c)) (h100 : c.ns.length ≤ 100) :
    Calls Try.prog 13 #[v, .func (.func 14) #[] #[]] w fun e w' => (∃ a k, e = .returned (.tuple #[c.val (.slice a c.ns.length k), .int .i64 0]) ∧ Hid (LstI w' (.slice a c.ns.length k) c.ns ∧ ∀ b off, a = some ⟨b, off, none⟩ → w.heap.size ≤ b)) ∧ Adds w w' := by
  have kD := fun W (hA : Adds w W) => decode_any l v W (hB.adds hA) (by omega)
  have kC := fun (P : Nat) fv s W (hR : Rb P W fv) (hT : Tr (fun _ => True) 11 W s (cmdT c).list) => cmdP_any 9 P fv c s _ W hR hT h100
  have kI := fun W e w' (h : DecT l W e w') => dec_is hI (by omega) h
  obtain ⟨ao, cap, rfl, _, _⟩ := hB.open
  have hL' : ¬ (16384 : Int) < (l.length : Int) := by omega
  have hk : (cmdT c).kind = 3 ∧ (cmdT c).num = 0 ∧ (cmdT c).text = ⟨#[]⟩ := ⟨rfl, rfl, rfl⟩
  rw [hk.1, hk.2.1, hk.2.2] at kI
  generalize (cmdT c).list = tl at *
  obtain ⟨kind, chain, epoch, node, df, ns⟩ := c
  simp only [Cm.val] at *
  clear hB hI hk
  go_enter Try.func13, Try.ntmps13
  go_wp2_with (go_at_call 28; refine (kD _ (by repeat (first | with_reducible exact Adds.refl _ | with_reducible refine Adds.alloc ?_ _ | with_reducible refine Adds.more ?_ _ _ | with_reducible refine Adds.drew ?_ | with_reducible refine Adds.drewN ?_ _))).mono ?_; rintro e w2 ⟨hD, hA2⟩; obtain ⟨a2, n2, c2, rfl, hT2⟩ := kI _ _ _ hD; have HA2 : Hid (Adds _ w2) := hA2; clear hD hA2)
  go_at_call 14
  refine Calls.mono (kC (w2.heap.size + 1) (.func (.func 29) #[] #[]) _ _ ?_ ?_) ?_
  · exact rb_new (by simp)
  · exact (hT2.out.frame (ok' := fun _ => True) (Nat.le_refl _) (fun _ _ _ => rfl) (fun _ _ => trivial)).adds (by repeat (first | with_reducible exact Adds.refl _ | with_reducible refine Adds.alloc ?_ _ | with_reducible refine Adds.more ?_ _ _ | with_reducible refine Adds.drew ?_ | with_reducible refine Adds.drewN ?_ _))
  rintro e w3 ⟨⟨a3, c3, rfl, hL3, hF3⟩, hA3⟩
  have hR3 : Rb (w2.heap.size + 1) w3 (.func (.func 29) #[] #[]) := Rb.adds (rb_new (by simp)) hA3
  obtain ⟨hl3, q3, _⟩ := hR3.cells
  have HL3 : Hid (LstI w3 (.slice a3 ns.length c3) ns) := hL3
  have HF3 : Hid (∀ b off, a3 = some ⟨b, off, none⟩ → w.heap.size + 1 ≤ b) := fun b off h => by have := hF3 b off h; have := HA2.out.below.size; simp at *; omega
  have hA03 : Adds w w3 := Adds.trans (Adds.trans (by repeat (first | with_reducible exact Adds.refl _ | with_reducible refine Adds.alloc ?_ _ | with_reducible refine Adds.more ?_ _ _ | with_reducible refine Adds.drew ?_ | with_reducible refine Adds.drewN ?_ _)) HA2.out) (Adds.trans (by repeat (first | with_reducible exact Adds.refl _ | with_reducible refine Adds.alloc ?_ _ | with_reducible refine Adds.more ?_ _ _ | with_reducible refine Adds.drew ?_ | with_reducible refine Adds.drewN ?_ _)) hA3)
  have HA03 : Hid (Adds w w3) := hA03
  have hAB : Adds _ w3 := Adds.trans HA2.out (Adds.trans (by repeat (first | with_reducible exact Adds.refl _ | with_reducible refine Adds.alloc ?_ _ | with_reducible refine Adds.more ?_ _ _ | with_reducible refine Adds.drew ?_ | with_reducible refine Adds.drewN ?_ _)) hA3)
  have hrb : w3.heap[w.heap.size]? = some (.cells #[.int .i64 0, .int .i64 0, .int .i64 0, .int .i64 0, .string ⟨#[]⟩, .slice none 0 0] 24 (0, 0)) := (hAB.below.block _ (by simp; omega)).trans (in_two _ _ _)
  have hrs : w.heap.size < w3.heap.size := (Array.getElem?_eq_some_iff.1 hrb).1
  have hrc : w3.cell? ⟨w.heap.size, 0, none⟩ = some (.int .i64 0) ∧ w3.cell? ⟨w.heap.size, 1, none⟩ = some (.int .i64 0) ∧ w3.cell? ⟨w.heap.size, 2, none⟩ = some (.int .i64 0) ∧ w3.cell? ⟨w.heap.size, 3, none⟩ = some (.int .i64 0) ∧ w3.cell? ⟨w.heap.size, 4, none⟩ = some (.string ⟨#[]⟩) ∧ w3.cell? ⟨w.heap.size, 5, none⟩ = some (.slice none 0 0) := by simp [World.cell?, hrb]
  have hrf : w3.frozen? ⟨w.heap.size, 0, none⟩ = false ∧ w3.frozen? ⟨w.heap.size, 1, none⟩ = false ∧ w3.frozen? ⟨w.heap.size, 2, none⟩ = false ∧ w3.frozen? ⟨w.heap.size, 3, none⟩ = false ∧ w3.frozen? ⟨w.heap.size, 4, none⟩ = false ∧ w3.frozen? ⟨w.heap.size, 5, none⟩ = false := by simp [World.frozen?, hrb]
  obtain ⟨x0, x1, x2, x3, x4, x5⟩ := hrc
  obtain ⟨u0, u1, u2, u3, u4, u5⟩ := hrf
  clear hrb hAB
  clear hL3 hF3 hA3 hA03 hR3 kC kD kI hT2
  go_wp2
  refine bodyPost_ret (v := .tuple #[.agg #[.int .i64 kind, .int .i64 chain, .int .i64 epoch, .int .i64 node, .string df, .slice a3 ns.length c3], .int .i64 0]) (by simp [results, Try.results13, go_sem, *]) rfl ?_
  have hE := rec_fin (v0 := .int .i64 kind) (v1 := .int .i64 chain) (v2 := .int .i64 epoch) (v3 := .int .i64 node) (v4 := .string df) (v5 := .slice a3 ns.length c3) (Nat.le_refl _) HA03.out HL3.out (fun b off h => by have := HF3.out b off h; omega) ((Adds.refl _).alloc (.cells #[.int .i64 kind, .int .i64 chain, .int .i64 epoch, .int .i64 node, .string df, .slice a3 ns.length c3] 24))
  exact ⟨⟨_, _, rfl, hE.1, fun b off h => by have := HF3.out b off h; omega⟩, hE.2⟩

set_option maxRecDepth 20000 in
set_option maxHeartbeats 4000000 in
theorem cmdOf_any (c : Cm) (v : Value) (l : List UInt8) (w : World) (hB : Byt w v l) (hL : l.length ≤ 16384) (hI : Is l (cmdT c)) (h100 : c.ns.length ≤ 100) :
    Calls Try.prog 7 #[v] w fun e w' => (∃ a k, e = .returned (.tuple #[c.val (.slice a c.ns.length k), .int .i64 0]) ∧ Hid (LstI w' (.slice a c.ns.length k) c.ns)) ∧ Adds w w' := by
  have kR := fun W (hA : Adds w W) => recordOf_any c v l W (hB.adds hA) hL hI h100
  obtain ⟨ao, cap, rfl, _, _⟩ := hB.open
  clear hB hI
  obtain ⟨kind, chain, epoch, node, df, ns⟩ := c
  simp only [Cm.val] at *
  go_enter Try.func7, Try.ntmps7
  go_wp2_with (go_at_call 13; refine (kR _ (by repeat (first | with_reducible exact Adds.refl _ | with_reducible refine Adds.alloc ?_ _ | with_reducible refine Adds.more ?_ _ _ | with_reducible refine Adds.drew ?_ | with_reducible refine Adds.drewN ?_ _))).mono ?_; rintro e w2 ⟨⟨a2, c2, rfl, hL2⟩, hA2⟩; have HL2 : Hid _ := hL2.out; have hs2 := hA2.below.size; obtain ⟨os2, n2, rfl⟩ := hA2)
  refine bodyPost_ret (v := .tuple #[.agg #[.int .i64 kind, .int .i64 chain, .int .i64 epoch, .int .i64 node, .string df, .slice a2 ns.length c2], .int .i64 0]) (by simp [results, Try.results7, go_sem]) rfl ?_
  exact ⟨⟨_, _, rfl, lst_stay HL2.out.1 (fun b off h => by have := HL2.out.2 b off h; simp at this; omega) ((Oth.box w _ _ rfl).more os2 n2)⟩, (by repeat (first | with_reducible exact Adds.refl _ | with_reducible refine Adds.alloc ?_ _ | with_reducible refine Adds.more ?_ _ _ | with_reducible refine Adds.drew ?_ | with_reducible refine Adds.drewN ?_ _))⟩

end Go.Proofs.Ytccddgohagakoaa
