/-
  The function Key, by a contract: a list's key, or what is refused of it; and the statements' own function awake.
  A document's entry, by contract.
  Which lists are documents, by contract.
-/
import Derived.Test.YtiacnmcdfpmcfaaGreatDoorRput
import Derived.Test.YtiacnmcdfpmcfaaGreatDoorQ48
import Derived.Test.YtiacnmcdfpmcfaaGreatDoorIxe
import Derived.Test.YtiacnmcdfpmcfaaGreatDoorQ37
namespace Go.Proofs.YtiacnmcdfpmcfaaGreatDoor
open Go.RowKit

theorem since_on {a b c : World} (h : Below a.heap.size a b) (k : Below b.heap.size b c) : Below a.heap.size a c := h.trans (k.mono h.size)
theorem since_new (w : World) (o : Obj) : Below w.heap.size w (w.alloc o) := (Below.refl _ _).alloc (Nat.le_refl _) _

theorem Buf.below {B : Nat} {v : Value} {l : List UInt8} {W0 w w' : World} (h : Buf B v l W0 w) (hb : Below w.heap.size w w') : Buf B v l W0 w' := by
  have hg : w.grownBy w' none := ⟨hb.os, hb.tape, hb.output, hb.size, fun k hk _ => hb.block k hk⟩
  refine ⟨⟨h.1.1.kept hg ?_, h.1.2.1.trans (hb.mono h.1.2.2), Nat.le_trans h.1.2.2 hb.size⟩, h.2.trans (Keep.below hb)⟩
  cases v.ownBlock with
  | none => exact .inl rfl
  | some k => exact .inr (by simp)

/-- The cells of the values vs, from ⟨b, off⟩ on. -/
def LiesV (w : World) (b off : Nat) (vs : List V) : Prop := ∀ j (h : j < vs.length),
  w.cell? ⟨b, off + j * 5, none⟩ = some (.int .i64 vs[j].kind) ∧ w.cell? ⟨b, off + j * 5 + 1, none⟩ = some (.int .i64 vs[j].num) ∧ w.cell? ⟨b, off + j * 5 + 2, none⟩ = some (.string vs[j].text) ∧
  w.cell? ⟨b, off + j * 5 + 3, none⟩ = some (.int .i64 vs[j].re) ∧ w.cell? ⟨b, off + j * 5 + 4, none⟩ = some (.int .i64 vs[j].im)

/-- The slice value s reads as the values vs. -/
def LstV (w : World) (s : Value) (vs : List V) : Prop :=
  ∃ ao cap, s = .slice ao vs.length cap ∧ (vs = [] ∨ ∃ b off, ao = some ⟨b, off, none⟩ ∧ b < w.heap.size ∧ LiesV w b off vs)

theorem LiesV.below {w w' : World} {B b off : Nat} {vs : List V} (h : LiesV w b off vs) (hb : Below B w w') (hB : b < B) : LiesV w' b off vs := by
  intro j hj
  obtain ⟨h0, h1, h2, h3, h4⟩ := h j hj
  exact ⟨(hb.cell (by exact hB)).trans h0, (hb.cell (by exact hB)).trans h1, (hb.cell (by exact hB)).trans h2, (hb.cell (by exact hB)).trans h3, (hb.cell (by exact hB)).trans h4⟩

theorem LstV.below {w w' : World} {s : Value} {vs : List V} (h : LstV w s vs) (hb : Below w.heap.size w w') : LstV w' s vs := by
  obtain ⟨ao, cap, rfl, h | ⟨b, off, rfl, hlt, hl⟩⟩ := h
  · exact ⟨ao, cap, rfl, .inl h⟩
  · exact ⟨_, cap, rfl, .inr ⟨b, off, rfl, Nat.lt_of_lt_of_le hlt hb.size, hl.below hb hlt⟩⟩

theorem textKey_length (s : List UInt8) : (textKey s).length = (s.length / 7 + 1) * 8 := by
  induction h : s.length using Nat.strongRecOn generalizing s with
  | _ n ih =>
    by_cases h7 : 7 ≤ s.length
    · rw [textKey_long h7]
      have := ih (s.drop 7).length (by simp; omega) (s.drop 7) rfl
      simp only [List.length_append, List.length_take, List.length_cons, this, List.length_drop]
      omega
    · rw [textKey_short (by omega)]
      simp
      omega

theorem V.key_length {v : V} (h : v.check = 0) : v.key.length ≤ 300 := by
  unfold V.key
  split
  · simp [upper_length]
  · split
    · have : v.text.size ≤ 256 := by
        unfold V.check at h
        split at h
        · cases h
        · omega
      simp only [List.length_cons, textKey_length, toList_length]
      omega
    · simp [upper_length]

def keyBytes (vs : List V) : List UInt8 := vs.flatMap V.key

/-- What Key tells of a list: nought, or why it has no key. -/
def firstBad : List V → Int
  | [] => 0
  | v :: r => if v.check = 0 then firstBad r else v.check

def keyErr (vs : List V) : Int := if 16 < vs.length then 3 else firstBad vs

theorem keyBytes_length {vs : List V} (h : ∀ v ∈ vs, v.check = 0) : (keyBytes vs).length ≤ 300 * vs.length := by
  induction vs with
  | nil => simp [keyBytes]
  | cons v r ih =>
    have h1 := V.key_length (h v (by simp))
    have h2 := ih (fun x hx => h x (by simp [hx]))
    simp only [keyBytes, List.flatMap_cons, List.length_append, List.length_cons] at *
    omega

theorem firstBad_at {vs : List V} {k : Nat} (hk : k < vs.length) (h : ∀ v ∈ vs.take k, v.check = 0) (hb : vs[k].check ≠ 0) : firstBad vs = vs[k].check := by
  induction vs generalizing k with
  | nil => simp at hk
  | cons v r ih =>
    cases k with
    | zero => simp [firstBad] at *; intro h'; exact absurd h' hb
    | succ k =>
      have h0 : v.check = 0 := h v (by simp)
      have := ih (k := k) (by simpa using hk) (fun x hx => h x (by simp [hx])) (by simpa using hb)
      simpa [firstBad, h0] using this

theorem firstBad_none {vs : List V} (h : ∀ v ∈ vs, v.check = 0) : firstBad vs = 0 := by
  induction vs with
  | nil => rfl
  | cons v r ih => simp [firstBad, h v (by simp), ih (fun x hx => h x (by simp [hx]))]

theorem Buf.string {B : Nat} {v : Value} {l : List UInt8} {W0 w : World} (h : Buf B v l W0 w) : (convert 120 9 v).run Tryz.prog w = .ok (.string ⟨l.toArray⟩) w := by
  obtain ⟨hl, h1 | ⟨g, cap, cur, fz, rfl, hB, hg, hn, hcm, hcs, hfz, htk⟩⟩ := h.1.1
  · obtain ⟨rfl, hn⟩ := h1
    have : l = [] := List.eq_nil_of_length_eq_zero hn
    subst this
    exact Lib.run_convert_nil_bytes w 120 9 5 0 Tryz.underlying120 Tryz.underlying5 Tryz.underlying9
  · have hc := h.1.1.cells (g := g) rfl
    have := Lib.run_convert_whole (P := Tryz.prog) w 120 5 9 Tryz.underlying120 Tryz.underlying5 Tryz.underlying9 g 0 ⟨l.toArray⟩ (fun i hi => by
      have hi' : i < l.length := hi
      have h3 := hc i (.int .u8 (l[i].toNat : Int)) (by simp [cellsB, hi'])
      rw [show (⟨g, 0, none⟩ : Addr).add i = ⟨g, 0 + i, none⟩ from by simp [Addr.add]; omega] at h3
      rw [h3]
      rfl) cap
    exact this

theorem key_empty (ao : Option Addr) (cap : Nat) (w : World) :
    Calls Tryz.prog 106 #[.slice ao 0 cap] w fun e w' => e = .returned (.tuple #[.string ⟨#[]⟩, .int .i64 0]) ∧ Below w.heap.size w w' := by
  have hc := Lib.run_convert_nil_bytes (P := Tryz.prog) w 120 9 5 0 Tryz.underlying120 Tryz.underlying5 Tryz.underlying9
  go_enter Tryz.func106, Tryz.ntmps106
  go_wp2
  go_loopw [4, 13] (fun v i wr => v = .slice none 0 0 ∧ i = .int .i64 0 ∧ wr = w) (fun _ _ _ => 0)
  case atStart => exact ⟨rfl, rfl, rfl⟩
  case round =>
    obtain ⟨rfl, rfl, rfl⟩ := hrel
    go_wp2
    go_ret2
    exact ⟨rfl, Below.refl _ _⟩

/-- What Key tells beside the error: the key, or nothing. -/
def keyStr (vs : List V) : ByteArray := ⟨(if firstBad vs = 0 then keyBytes vs else []).toArray⟩

theorem key_full (b off cap : Nat) (vs : List V) (w : World) (hb : b < w.heap.size) (hl : LiesV w b off vs) (hlen : vs.length ≤ 16) :
    Calls Tryz.prog 106 #[.slice (some ⟨b, off, none⟩) vs.length cap] w fun e w' => e = .returned (.tuple #[.string (keyStr vs), .int .i64 (firstBad vs)]) ∧ Below w.heap.size w w' := by
  go_enter Tryz.func106, Tryz.ntmps106
  go_wp2
  go_loopw [4, 13] (fun v i wr => ∃ k : Nat, k ≤ vs.length ∧ i = .int .i64 k ∧ (∀ x ∈ vs.take k, x.check = 0) ∧ Buf w.heap.size v (keyBytes (vs.take k)) w wr) (fun _ i _ => vs.length - (intOf i).toNat)
  case atStart => exact ⟨0, Nat.zero_le _, rfl, by simp, by simpa [keyBytes] using Buf.nil w.heap.size w (Nat.le_refl _)⟩
  case round =>
    obtain ⟨k, hk, rfl, hok, hbuf⟩ := hrel
    have hbl := hbuf.1.2.1
    by_cases hlt : k < vs.length
    · have hc := hl.below hbl hb k hlt
      obtain ⟨x, hx⟩ : ∃ x, x = vs[k] := ⟨_, rfl⟩
      have HX : Hid (x = vs[k]) := hx
      rw [← hx] at hc
      clear hx
      obtain ⟨c0, c1, c2, c3, c4⟩ := hc
      obtain ⟨q, hq⟩ : ∃ q, x.check = q := ⟨_, rfl⟩
      have hchk := fun W => (check_any x W).mono (R' := fun e w' => e = .returned (.int .i64 x.check) ∧ Below W.heap.size W w') (by rintro e w' ⟨he, hA⟩; exact ⟨he, hA.below⟩)
      rw [hq] at hchk
      have HQ : Hid (x.check = q) := hq
      clear hq
      have hkl := keyBytes_length hok
      have hkl2 : (vs.take k).length ≤ 16 := by simp; omega
      obtain ⟨kind, num, text, re, im⟩ := x
      simp only [V.val] at hchk
      by_cases hq0 : q = 0
      · subst hq0
        go_wp2_with (first
          | (go_at_call 127; refine (hchk _).mono ?_; rintro e w1 ⟨rfl, hb1⟩; obtain ⟨b0, b1, b2, b3, b4⟩ := box5_at hb1)
          | (go_at_call 129; refine (putValue_any w.heap.size _ _ _ _ ⟨kind, num, text, re, im⟩ HQ.out (by omega) ((hbuf.alloc _).below hb1)).mono ?_; rintro e w2 ⟨v2, rfl, hb2⟩))
        go_roundw
        case rel =>
          have hx := HX.out
          refine ⟨k + 1, by omega, by go_num, ?_, ?_⟩
          · intro y hy
            rw [List.take_succ_eq_append_getElem hlt] at hy
            rcases List.mem_append.1 hy with h | h
            · exact hok y h
            · simp at h
              subst h
              rw [← hx]
              exact HQ.out
          · rw [List.take_succ_eq_append_getElem hlt, ← hx]
            simpa [keyBytes] using hb2
        case measure => simp [intOf]; omega
      · go_wp2_with (first
          | (go_at_call 127; refine (hchk _).mono ?_; rintro e w1 ⟨rfl, hb1⟩; obtain ⟨b0, b1, b2, b3, b4⟩ := box5_at hb1))
        have hx := HX.out
        have hbad := firstBad_at hlt hok (by rw [← hx, HQ.out]; exact hq0)
        rw [← hx, HQ.out] at hbad
        have hstr : keyStr vs = ⟨#[]⟩ := by simp [keyStr, hbad, hq0]
        rw [hstr, hbad]
        go_ret2
        exact ⟨rfl, (((hbuf.alloc _).below hb1).1.2.1)⟩
    · have hk' : k = vs.length := by omega
      have hcv := hbuf.string
      subst hk'
      rw [List.take_length] at hcv hok
      go_wp2
      have hbad := firstBad_none hok
      have hstr : keyStr vs = ⟨(keyBytes vs).toArray⟩ := by simp [keyStr, hbad]
      rw [hstr, hbad]
      go_ret2
      exact ⟨rfl, hbl⟩

theorem rankKey_any (s : Value) (vs : List V) (w : World) (h : LstV w s vs) (hlen : vs.length ≤ 16) :
    Calls Tryz.prog 106 #[s] w fun e w' => e = .returned (.tuple #[.string (keyStr vs), .int .i64 (firstBad vs)]) ∧ Below w.heap.size w w' := by
  obtain ⟨ao, cap, rfl, rfl | ⟨b, off, rfl, hb, hl⟩⟩ := h
  · exact key_empty ao cap w
  · exact key_full b off cap vs w hb hl hlen

end Go.Proofs.YtiacnmcdfpmcfaaGreatDoor

namespace Go.Proofs.YtiacnmcdfpmcfaaGreatDoor
open Go.RowKit
attribute [local go_sem] cell?_more frozen?_more setCell_more size_more tape_more drew_more drewN_more more_drew more_drewN one_out plus_out plus_end lt_one le_p2 le_p3 le_p4 le_p5 le_p6 le_p7 le_p8 le_p9 le_p10 le_p11 le_p12 le_p13 le_p14 le_p15 le_p16 le_p17 le_p18 le_p19 le_p20 le_p21 le_p22 le_p23 le_p24 le_q0 le_q1 lt_q1 le_q2 lt_q2 le_q3 lt_q3 le_q4 lt_q4 le_q5 lt_q5 le_q6 lt_q6 le_q7 lt_q7 le_q8 lt_q8 le_q9 lt_q9 le_q10 lt_q10 le_q11 lt_q11 le_q12 lt_q12 le_q13 lt_q13 le_q14 lt_q14 le_q15 lt_q15 le_q16 lt_q16 le_q17 lt_q17 le_q18 lt_q18 le_q19 lt_q19 le_q20 lt_q20 le_q21 lt_q21 le_q22 lt_q22 le_q23 lt_q23 le_q24 lt_q24




theorem cellsV_get (fs : List V) (i : Nat) (hi : i < fs.length) (r : Nat) (hr : r < 5) : (cellsV fs)[i * 5 + r]? = fs[i].cells[r]? := by
  induction fs generalizing i with
  | nil => simp at hi
  | cons f t ih =>
    cases i with
    | zero =>
      simp only [cellsV, List.flatMap_cons, Nat.zero_mul, Nat.zero_add, List.getElem_cons_zero]
      rw [List.getElem?_append_left (by simp [V.cells]; omega)]
    | succ i =>
      have hi' : i < t.length := by simpa using hi
      simp only [cellsV, List.flatMap_cons, List.getElem_cons_succ]
      rw [List.getElem?_append_right (by simp [V.cells]; omega)]
      have := ih i hi'
      simp only [cellsV] at this
      rw [← this]
      congr 1
      simp [V.cells]
      omega

theorem lstV_of {w : World} {g cap : Nat} {vs : List V} (hg : g < w.heap.size) (h : w.rangeAt g 0 (cellsV vs)) : LstV w (.slice (some ⟨g, 0, none⟩) vs.length cap) vs := by
  refine ⟨_, cap, rfl, .inr ⟨g, 0, rfl, hg, fun j hj => ?_⟩⟩
  have k := fun r hr u hu => h (j * 5 + r) u ((cellsV_get vs j hj r hr).trans hu)
  exact ⟨k 0 (by omega) _ rfl, k 1 (by omega) _ rfl, k 2 (by omega) _ rfl, k 3 (by omega) _ rfl, k 4 (by omega) _ rfl⟩

theorem evs_ok {fs : List F} {xs : List E} {vs : List V} (h : evs fs xs = some vs) : vs.length = xs.length ∧ ∀ v ∈ vs, v.check = 0 := by
  induction xs generalizing vs with
  | nil => cases h; exact ⟨rfl, fun v h => by cases h⟩
  | cons x r ih =>
    rw [evs] at h
    cases hv : evO fs x.toN with
    | none => rw [hv] at h; cases h
    | some v =>
      rw [hv] at h
      cases hl : evs fs r with
      | none => rw [hl] at h; cases h
      | some l =>
        rw [hl] at h
        cases h
        obtain ⟨h1, h2⟩ := ih hl
        refine ⟨by simp [h1], fun u hu => ?_⟩
        rcases List.mem_cons.1 hu with rfl | hu
        · exact evO_ok hv
        · exact h2 u hu

theorem evA_ok {fs : List F} {xs : List E} {vs : List V} (h : evA fs xs = some vs) : vs.length ≤ 4 ∧ ∀ v ∈ vs, v.check = 0 := by
  unfold evA at h
  by_cases hx : xs.length = 0 ∨ 4 < xs.length
  · rw [if_pos hx] at h; cases h
  · rw [if_neg hx] at h
    obtain ⟨h1, h2⟩ := evs_ok h
    exact ⟨by omega, h2⟩

/-- A document's entry. -/
noncomputable def entryOf (xs : List E) (key : ByteArray) (fs : List F) : Option Sh.F := (evA fs xs).map fun vs => ⟨keyStr vs, key⟩

def GaveE (o : Option Sh.F) (e : Ending) : Prop :=
  match o with
  | none => e = .returned (.tuple #[.agg #[.string ⟨#[]⟩, .string ⟨#[]⟩], .bool false])
  | some f => e = .returned (.tuple #[.agg #[.string f.path, .string f.val], .bool true])

set_option maxHeartbeats 2000000 in
set_option maxRecDepth 20000 in
theorem entry_any {D : Nat} (xs : List E) (ao : Option Addr) (cap : Nat) (key : ByteArray) (dv : Value) (fs : List F) (w : World) (hT : Tn (fun _ => True) D w (.slice ao xs.length cap) (xs.map E.toN)) (hok : ∀ x ∈ xs, x.ok ∧ ∀ d, cntN d [x.toN] ≤ 256) (hL : Lst w dv fs) :
    Calls Tryz.prog 77 #[.slice ao xs.length cap, .string key, dv] w fun e w' => GaveE (entryOf xs key fs) e ∧ Adds w w' := by
  have kE := fun w' hA => evalAll_any xs ao cap dv fs w' (hT.adds hA) hok (hL.adds hA)
  unfold entryOf
  cases hv : evA fs xs with
  | none =>
    rw [hv] at kE
    simp only [GaveV] at kE
    simp only [Option.map_none, GaveE]
    clear hT hok hL hv
    generalize xs.length = n at *
    go_enter Tryz.func77, Tryz.ntmps77
    go_wp2_with (go_at_call 105; refine (kE _ (by repeat (first | with_reducible exact Adds.refl _ | with_reducible refine Adds.alloc ?_ _ | with_reducible refine Adds.more ?_ _ _ | with_reducible refine Adds.drew ?_ | with_reducible refine Adds.drewN ?_ _))).mono ?_; rintro e w1 ⟨rfl, os1, n1, rfl⟩)
    refine bodyPost_ret (v := .tuple #[.agg #[.string ⟨#[]⟩, .string ⟨#[]⟩], .bool false]) (by simp [results, Tryz.results77, go_sem]) rfl ⟨rfl, ?_⟩
    repeat (first | with_reducible exact Adds.refl _ | with_reducible refine Adds.alloc ?_ _ | with_reducible refine Adds.more ?_ _ _ | with_reducible refine Adds.drew ?_ | with_reducible refine Adds.drewN ?_ _)
  | some vs =>
    obtain ⟨hl4, hch⟩ := evA_ok hv
    rw [hv] at kE
    simp only [GaveV] at kE
    simp only [Option.map_some, GaveE]
    have hfb : firstBad vs = 0 := firstBad_none hch
    have kK := fun (W : World) (g cap : Nat) (hg : g < W.heap.size) (hr : W.rangeAt g 0 (cellsV vs)) => rankKey_any _ vs W (lstV_of (cap := cap) hg hr) (by omega)
    rw [hfb] at kK
    generalize keyStr vs = ks at *
    clear hT hok hL hv hch hfb
    generalize xs.length = n at *
    go_enter Tryz.func77, Tryz.ntmps77
    go_wp2_with (first
      | (go_at_call 105; refine (kE _ (by repeat (first | with_reducible exact Adds.refl _ | with_reducible refine Adds.alloc ?_ _ | with_reducible refine Adds.more ?_ _ _ | with_reducible refine Adds.drew ?_ | with_reducible refine Adds.drewN ?_ _))).mono ?_; rintro e w1 ⟨⟨g, c, rfl, hg, hr⟩, os1, n1, rfl⟩)
      | (go_at_call 106; refine (kK _ g c hg hr).mono ?_; rintro e w2 ⟨rfl, hB2⟩; obtain ⟨os2, n2, rfl⟩ := Adds.of hB2; clear hB2))
    refine bodyPost_ret (v := .tuple #[.agg #[.string ks, .string key], .bool true]) (by simp [results, Tryz.results77, go_sem]) rfl ⟨rfl, ?_⟩
    repeat (first | with_reducible exact Adds.refl _ | with_reducible refine Adds.alloc ?_ _ | with_reducible refine Adds.more ?_ _ _ | with_reducible refine Adds.drew ?_ | with_reducible refine Adds.drewN ?_ _)

end Go.Proofs.YtiacnmcdfpmcfaaGreatDoor

namespace Go.Proofs.YtiacnmcdfpmcfaaGreatDoor
open Go.RowKit
attribute [local go_sem] cell?_more frozen?_more setCell_more size_more tape_more drew_more drewN_more more_drew more_drewN one_out plus_out plus_end lt_one le_p2 le_p3 le_p4 le_p5 le_p6 le_p7 le_p8 le_p9 le_p10 le_p11 le_p12 le_p13 le_p14 le_p15 le_p16 le_p17 le_p18 le_p19 le_p20 le_p21 le_p22 le_p23 le_p24 le_q0 le_q1 lt_q1 le_q2 lt_q2 le_q3 lt_q3 le_q4 lt_q4 le_q5 lt_q5 le_q6 lt_q6 le_q7 lt_q7 le_q8 lt_q8 le_q9 lt_q9 le_q10 lt_q10 le_q11 lt_q11 le_q12 lt_q12 le_q13 lt_q13 le_q14 lt_q14 le_q15 lt_q15 le_q16 lt_q16 le_q17 lt_q17 le_q18 lt_q18 le_q19 lt_q19 le_q20 lt_q20 le_q21 lt_q21 le_q22 lt_q22 le_q23 lt_q23 le_q24 lt_q24


/-- A document and its key. -/
structure Dn where
  key : ByteArray
  doc : List F

def LiesD (w : World) (b off : Nat) (ds : List Dn) : Prop := ∀ j (h : j < ds.length), ∃ v,
  w.cell? ⟨b, off + j * 2, none⟩ = some (.string ds[j].key) ∧ w.cell? ⟨b, off + j * 2 + 1, none⟩ = some v ∧ Lst w v ds[j].doc

def LstD (w : World) (s : Value) (ds : List Dn) : Prop :=
  ∃ ao cap, s = .slice ao ds.length cap ∧ ds.length ≤ cap ∧ (ds = [] ∨ ∃ b off, ao = some ⟨b, off, none⟩ ∧ b < w.heap.size ∧ LiesD w b off ds)

theorem LiesD.adds {w w' : World} {b off : Nat} {ds : List Dn} (h : LiesD w b off ds) (hA : Adds w w') (hb : b < w.heap.size) : LiesD w' b off ds := by
  intro j hj
  obtain ⟨v, h0, h1, h2⟩ := h j hj
  exact ⟨v, (hA.below.cell (by exact hb)).trans h0, (hA.below.cell (by exact hb)).trans h1, h2.adds hA⟩

theorem LstD.adds {w w' : World} {s : Value} {ds : List Dn} (h : LstD w s ds) (hA : Adds w w') : LstD w' s ds := by
  obtain ⟨ao, cap, rfl, hc, h | ⟨b, off, rfl, hlt, hl⟩⟩ := h
  · exact ⟨ao, cap, rfl, hc, .inl h⟩
  · exact ⟨_, cap, rfl, hc, .inr ⟨b, off, rfl, Nat.lt_of_lt_of_le hlt hA.below.size, hl.adds hA hlt⟩⟩

def GoodD (ds : List Dn) (k : Nat) (h : k < ds.length) : Prop := isKey ds[k].key = true ∧ May ds[k].doc ∧ (0 < k → lessP ds[k - 1].key ds[k].key = true)

def MayD (ds : List Dn) : Prop := ∀ k (h : k < ds.length), GoodD ds k h

instance (ds : List Dn) : Decidable (MayD ds) := by unfold MayD GoodD; infer_instance

theorem mayD_bad {ds : List Dn} {k : Nat} {h : k < ds.length} (hb : ¬ GoodD ds k h) : ¬ MayD ds := fun hm => hb (hm k h)

set_option maxHeartbeats 4000000 in
set_option maxRecDepth 20000 in
theorem docs_any (s : Value) (ds : List Dn) (w : World) (h : LstD w s ds) (hl6 : ds.length ≤ 1000) :
    Calls Tryz.prog 76 #[s] w fun e w' => e = .returned (.int .i64 (errOf (MayD ds) 1)) ∧ Adds w w' := by
  obtain ⟨ao, cap, rfl, hcap, hlo⟩ := h
  go_enter Tryz.func76, Tryz.ntmps76
  go_wp2
  go_loopw [7] (fun i wr => ∃ k : Nat, k ≤ ds.length ∧ i = .int .i64 k ∧ (∀ j (hj : j < ds.length), j < k → GoodD ds j hj) ∧ Adds w wr) (fun i _ => ds.length - (intOf i).toNat)
  case atStart => exact ⟨0, Nat.zero_le _, rfl, fun j _ hj => absurd hj (by omega), Adds.refl _⟩
  case round =>
    obtain ⟨k, hk, rfl, hgood, os, n, rfl⟩ := hrel
    by_cases hlt : k < ds.length
    · rcases hlo with rfl | ⟨b, off, rfl, hb, hl⟩
      · simp at hlt
      obtain ⟨v, c0, c1, hdoc⟩ := hl k hlt
      have hK := key_any ds[k].key
      have hC := fun w' hA => check_doc v ds[k].doc w' (hdoc.adds hA)
      obtain ⟨vo, vc, rfl, _, _⟩ := hdoc
      have hlt' : (k : Int) < (ds.length : Int) := by omega
      by_cases h1 : isKey ds[k].key = true
      rotate_left
      · have HB : Hid (¬ GoodD ds k hlt) := fun h => h1 h.1
        rw [show isKey ds[k].key = false by simpa using h1] at hK
        clear hC h1
        generalize ds[k].key = ky at *
        generalize ds[k].doc.length = nd at *
        go_wp2_with (first | (go_at_call 103; refine (hK _).mono ?_; rintro e w1 ⟨rfl, hw⟩; subst w1))
        go_ret
        refine ⟨by rw [err_bad (mayD_bad (h := hlt) HB.out)]; rfl, ?_⟩
        repeat (first | with_reducible exact Adds.refl _ | with_reducible refine Adds.alloc ?_ _ | with_reducible refine Adds.more ?_ _ _ | with_reducible refine Adds.drew ?_ | with_reducible refine Adds.drewN ?_ _)
      rw [h1] at hK
      by_cases h2 : May ds[k].doc
      rotate_left
      · have HB : Hid (¬ GoodD ds k hlt) := fun h => h2 h.2.1
        rw [err_bad h2] at hC
        clear h2 h1
        generalize ds[k].key = ky at *
        generalize ds[k].doc.length = nd at *
        go_wp2_with (first | (go_at_call 103; refine (hK _).mono ?_; rintro e w1 ⟨rfl, hw⟩; subst w1) | (go_at_call 104; refine (hC _ (by repeat (first | with_reducible exact Adds.refl _ | with_reducible refine Adds.alloc ?_ _ | with_reducible refine Adds.more ?_ _ _ | with_reducible refine Adds.drew ?_ | with_reducible refine Adds.drewN ?_ _))).mono ?_; rintro e w2 ⟨rfl, os2, n2, rfl⟩))
        go_ret
        refine ⟨by rw [err_bad (mayD_bad (h := hlt) HB.out)]; rfl, ?_⟩
        repeat (first | with_reducible exact Adds.refl _ | with_reducible refine Adds.alloc ?_ _ | with_reducible refine Adds.more ?_ _ _ | with_reducible refine Adds.drew ?_ | with_reducible refine Adds.drewN ?_ _)
      rw [err_ok h2] at hC
      cases k with
      | zero =>
        have HGO : Hid (GoodD ds 0 hlt) := ⟨h1, h2, fun h => absurd h (by omega)⟩
        clear h1 h2
        simp only [Nat.zero_mul, Nat.add_zero] at c0 c1
        generalize ds[0].key = ky at *
        generalize ds[0].doc.length = nd at *
        go_wp2_with (first | (go_at_call 103; refine (hK _).mono ?_; rintro e w1 ⟨rfl, hw⟩; subst w1) | (go_at_call 104; refine (hC _ (by repeat (first | with_reducible exact Adds.refl _ | with_reducible refine Adds.alloc ?_ _ | with_reducible refine Adds.more ?_ _ _ | with_reducible refine Adds.drew ?_ | with_reducible refine Adds.drewN ?_ _))).mono ?_; rintro e w2 ⟨rfl, os2, n2, rfl⟩))
        go_quiet (fail)
        go_wp2
        go_roundw
        case rel =>
          refine ⟨0 + 1, by omega, by go_num, ?_, ?_⟩
          · intro j hj hj2
            by_cases e : j = 0
            · subst e
              exact HGO.out
            · exact hgood j hj (by omega)
          · repeat (first | with_reducible exact Adds.refl _ | with_reducible refine Adds.alloc ?_ _ | with_reducible refine Adds.more ?_ _ _ | with_reducible refine Adds.drew ?_ | with_reducible refine Adds.drewN ?_ _)
        case measure => simp [intOf]; omega
      | succ m =>
        obtain ⟨v2, d0, _, _⟩ := hl m (by omega)
        obtain ⟨q, hq⟩ : ∃ q, Op.bytesLess ds[m].key.toList ds[m + 1].key.toList = q := ⟨_, rfl⟩
        have hml : m < ds.length := by omega
        have hw1 : IntKind.i64.wrap (m : Int) = m := by rw [IntKind.wrap_i64]; omega
        cases q
        · have HB : Hid (¬ GoodD ds (m + 1) hlt) := fun h => by
            have h3 := h.2.2 (by omega)
            have e : lessP ds[m].key ds[m + 1].key = false := hq
            simp only [Nat.add_sub_cancel] at h3
            rw [e] at h3
            cases h3
          clear h1 h2
          generalize ds[m + 1].key = ky at *
          generalize ds[m].key = kp at *
          generalize ds[m + 1].doc.length = nd at *
          go_wp2_with (first | (go_at_call 103; refine (hK _).mono ?_; rintro e w1 ⟨rfl, hw⟩; subst w1) | (go_at_call 104; refine (hC _ (by repeat (first | with_reducible exact Adds.refl _ | with_reducible refine Adds.alloc ?_ _ | with_reducible refine Adds.more ?_ _ _ | with_reducible refine Adds.drew ?_ | with_reducible refine Adds.drewN ?_ _))).mono ?_; rintro e w2 ⟨rfl, os2, n2, rfl⟩))
          go_quiet (fail)
          go_wp2
          go_ret
          refine ⟨by rw [err_bad (mayD_bad (h := hlt) HB.out)]; rfl, ?_⟩
          repeat (first | with_reducible exact Adds.refl _ | with_reducible refine Adds.alloc ?_ _ | with_reducible refine Adds.more ?_ _ _ | with_reducible refine Adds.drew ?_ | with_reducible refine Adds.drewN ?_ _)
        · have HGO : Hid (GoodD ds (m + 1) hlt) := ⟨h1, h2, fun _ => hq⟩
          clear h1 h2
          generalize ds[m + 1].key = ky at *
          generalize ds[m].key = kp at *
          generalize ds[m + 1].doc.length = nd at *
          go_wp2_with (first | (go_at_call 103; refine (hK _).mono ?_; rintro e w1 ⟨rfl, hw⟩; subst w1) | (go_at_call 104; refine (hC _ (by repeat (first | with_reducible exact Adds.refl _ | with_reducible refine Adds.alloc ?_ _ | with_reducible refine Adds.more ?_ _ _ | with_reducible refine Adds.drew ?_ | with_reducible refine Adds.drewN ?_ _))).mono ?_; rintro e w2 ⟨rfl, os2, n2, rfl⟩))
          go_quiet (fail)
          go_wp2
          go_roundw
          case rel =>
            refine ⟨(m + 1) + 1, by omega, by go_num, ?_, ?_⟩
            · intro j hj hj2
              by_cases e : j = (m + 1)
              · subst e
                exact HGO.out
              · exact hgood j hj (by omega)
            · repeat (first | with_reducible exact Adds.refl _ | with_reducible refine Adds.alloc ?_ _ | with_reducible refine Adds.more ?_ _ _ | with_reducible refine Adds.drew ?_ | with_reducible refine Adds.drewN ?_ _)
          case measure => simp [intOf]; omega
    · have hlt' : ¬ (k : Int) < (ds.length : Int) := by omega
      go_wp2
      go_ret
      refine ⟨by rw [err_ok (show MayD ds from fun j hj => hgood j hj (by omega))]; rfl, ?_⟩
      repeat (first | with_reducible exact Adds.refl _ | with_reducible refine Adds.alloc ?_ _ | with_reducible refine Adds.more ?_ _ _ | with_reducible refine Adds.drew ?_ | with_reducible refine Adds.drewN ?_ _)


end Go.Proofs.YtiacnmcdfpmcfaaGreatDoor
