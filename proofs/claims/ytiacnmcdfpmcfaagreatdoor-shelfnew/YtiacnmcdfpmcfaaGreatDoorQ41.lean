/-
  The function Key, by a contract: a list's key, or what is refused of it; and the statements' own function awake.
  Entries in memory; the reference's Same of them, by a contract.
-/
import Derived.Test.YtiacnmcdfpmcfaaGreatDoorRput
import Derived.Test.YtiacnmcdfpmcfaaGreatDoorPath
import Derived.Test.YtiacnmcdfpmcfaaGreatDoorQ03
import Derived.Lib.Bytealg
namespace Go.Proofs.YtiacnmcdfpmcfaaGreatDoor
open Go.RowKit

theorem since_on {a b c : World} (h : Below a.heap.size a b) (k : Below b.heap.size b c) : Below a.heap.size a c := h.trans (k.mono h.size)
theorem since_new (w : World) (o : Obj) : Below w.heap.size w (w.alloc o) := (Below.refl _ _).alloc (Nat.le_refl _) _

theorem Buf.below {B : Nat} {v : Value} {l : List UInt8} {W0 w w' : World} (h : Buf B v l W0 w) (hb : Below w.heap.size w w') : Buf B v l W0 w' := by
  have hg : w.grownBy w' none := ⟨hb.os, hb.tape, hb.output, hb.size, fun k hk _ => hb.block k hk⟩
  refine ⟨⟨h.1.1.kept hg ?_, h.1.2.1.trans (hb.mono h.1.2.2), Nat.le_trans h.1.2.2 hb.size⟩, h.2.trans (Keep.below hb)⟩
  cases v.ownBlock with
  | none => exact .inl rfl
  | some k => exact .inr (by simp)

/-- The cells of the values vs, from ⟨b, off⟩ on. -/
def LiesV (w : World) (b off : Nat) (vs : List V) : Prop := ∀ j (h : j < vs.length),
  w.cell? ⟨b, off + j * 5, none⟩ = some (.int .i64 vs[j].kind) ∧ w.cell? ⟨b, off + j * 5 + 1, none⟩ = some (.int .i64 vs[j].num) ∧ w.cell? ⟨b, off + j * 5 + 2, none⟩ = some (.string vs[j].text) ∧
  w.cell? ⟨b, off + j * 5 + 3, none⟩ = some (.int .i64 vs[j].re) ∧ w.cell? ⟨b, off + j * 5 + 4, none⟩ = some (.int .i64 vs[j].im)

/-- The slice value s reads as the values vs. -/
def LstV (w : World) (s : Value) (vs : List V) : Prop :=
  ∃ ao cap, s = .slice ao vs.length cap ∧ (vs = [] ∨ ∃ b off, ao = some ⟨b, off, none⟩ ∧ b < w.heap.size ∧ LiesV w b off vs)

theorem LiesV.below {w w' : World} {B b off : Nat} {vs : List V} (h : LiesV w b off vs) (hb : Below B w w') (hB : b < B) : LiesV w' b off vs := by
  intro j hj
  obtain ⟨h0, h1, h2, h3, h4⟩ := h j hj
  exact ⟨(hb.cell (by exact hB)).trans h0, (hb.cell (by exact hB)).trans h1, (hb.cell (by exact hB)).trans h2, (hb.cell (by exact hB)).trans h3, (hb.cell (by exact hB)).trans h4⟩

theorem LstV.below {w w' : World} {s : Value} {vs : List V} (h : LstV w s vs) (hb : Below w.heap.size w w') : LstV w' s vs := by
  obtain ⟨ao, cap, rfl, h | ⟨b, off, rfl, hlt, hl⟩⟩ := h
  · exact ⟨ao, cap, rfl, .inl h⟩
  · exact ⟨_, cap, rfl, .inr ⟨b, off, rfl, Nat.lt_of_lt_of_le hlt hb.size, hl.below hb hlt⟩⟩

theorem textKey_length (s : List UInt8) : (textKey s).length = (s.length / 7 + 1) * 8 := by
  induction h : s.length using Nat.strongRecOn generalizing s with
  | _ n ih =>
    by_cases h7 : 7 ≤ s.length
    · rw [textKey_long h7]
      have := ih (s.drop 7).length (by simp; omega) (s.drop 7) rfl
      simp only [List.length_append, List.length_take, List.length_cons, this, List.length_drop]
      omega
    · rw [textKey_short (by omega)]
      simp
      omega

theorem V.key_length {v : V} (h : v.check = 0) : v.key.length ≤ 300 := by
  unfold V.key
  split
  · simp [upper_length]
  · split
    · have : v.text.size ≤ 256 := by
        unfold V.check at h
        split at h
        · cases h
        · omega
      simp only [List.length_cons, textKey_length, toList_length]
      omega
    · simp [upper_length]

def keyBytes (vs : List V) : List UInt8 := vs.flatMap V.key

/-- What Key tells of a list: nought, or why it has no key. -/
def firstBad : List V → Int
  | [] => 0
  | v :: r => if v.check = 0 then firstBad r else v.check

def keyErr (vs : List V) : Int := if 16 < vs.length then 3 else firstBad vs

theorem keyBytes_length {vs : List V} (h : ∀ v ∈ vs, v.check = 0) : (keyBytes vs).length ≤ 300 * vs.length := by
  induction vs with
  | nil => simp [keyBytes]
  | cons v r ih =>
    have h1 := V.key_length (h v (by simp))
    have h2 := ih (fun x hx => h x (by simp [hx]))
    simp only [keyBytes, List.flatMap_cons, List.length_append, List.length_cons] at *
    omega

theorem firstBad_at {vs : List V} {k : Nat} (hk : k < vs.length) (h : ∀ v ∈ vs.take k, v.check = 0) (hb : vs[k].check ≠ 0) : firstBad vs = vs[k].check := by
  induction vs generalizing k with
  | nil => simp at hk
  | cons v r ih =>
    cases k with
    | zero => simp [firstBad] at *; intro h'; exact absurd h' hb
    | succ k =>
      have h0 : v.check = 0 := h v (by simp)
      have := ih (k := k) (by simpa using hk) (fun x hx => h x (by simp [hx])) (by simpa using hb)
      simpa [firstBad, h0] using this

theorem firstBad_none {vs : List V} (h : ∀ v ∈ vs, v.check = 0) : firstBad vs = 0 := by
  induction vs with
  | nil => rfl
  | cons v r ih => simp [firstBad, h v (by simp), ih (fun x hx => h x (by simp [hx]))]

theorem Buf.string {B : Nat} {v : Value} {l : List UInt8} {W0 w : World} (h : Buf B v l W0 w) : (convert 120 9 v).run Tryz.prog w = .ok (.string ⟨l.toArray⟩) w := by
  obtain ⟨hl, h1 | ⟨g, cap, cur, fz, rfl, hB, hg, hn, hcm, hcs, hfz, htk⟩⟩ := h.1.1
  · obtain ⟨rfl, hn⟩ := h1
    have : l = [] := List.eq_nil_of_length_eq_zero hn
    subst this
    exact Lib.run_convert_nil_bytes w 120 9 5 0 Tryz.underlying120 Tryz.underlying5 Tryz.underlying9
  · have hc := h.1.1.cells (g := g) rfl
    have := Lib.run_convert_whole (P := Tryz.prog) w 120 5 9 Tryz.underlying120 Tryz.underlying5 Tryz.underlying9 g 0 ⟨l.toArray⟩ (fun i hi => by
      have hi' : i < l.length := hi
      have h3 := hc i (.int .u8 (l[i].toNat : Int)) (by simp [cellsB, hi'])
      rw [show (⟨g, 0, none⟩ : Addr).add i = ⟨g, 0 + i, none⟩ from by simp [Addr.add]; omega] at h3
      rw [h3]
      rfl) cap
    exact this

theorem key_empty (ao : Option Addr) (cap : Nat) (w : World) :
    Calls Tryz.prog 106 #[.slice ao 0 cap] w fun e w' => e = .returned (.tuple #[.string ⟨#[]⟩, .int .i64 0]) ∧ Below w.heap.size w w' := by
  have hc := Lib.run_convert_nil_bytes (P := Tryz.prog) w 120 9 5 0 Tryz.underlying120 Tryz.underlying5 Tryz.underlying9
  go_enter Tryz.func106, Tryz.ntmps106
  go_wp2
  go_loopw [4, 13] (fun v i wr => v = .slice none 0 0 ∧ i = .int .i64 0 ∧ wr = w) (fun _ _ _ => 0)
  case atStart => exact ⟨rfl, rfl, rfl⟩
  case round =>
    obtain ⟨rfl, rfl, rfl⟩ := hrel
    go_wp2
    go_ret2
    exact ⟨rfl, Below.refl _ _⟩

/-- What Key tells beside the error: the key, or nothing. -/
def keyStr (vs : List V) : ByteArray := ⟨(if firstBad vs = 0 then keyBytes vs else []).toArray⟩

theorem key_full (b off cap : Nat) (vs : List V) (w : World) (hb : b < w.heap.size) (hl : LiesV w b off vs) (hlen : vs.length ≤ 16) :
    Calls Tryz.prog 106 #[.slice (some ⟨b, off, none⟩) vs.length cap] w fun e w' => e = .returned (.tuple #[.string (keyStr vs), .int .i64 (firstBad vs)]) ∧ Below w.heap.size w w' := by
  go_enter Tryz.func106, Tryz.ntmps106
  go_wp2
  go_loopw [4, 13] (fun v i wr => ∃ k : Nat, k ≤ vs.length ∧ i = .int .i64 k ∧ (∀ x ∈ vs.take k, x.check = 0) ∧ Buf w.heap.size v (keyBytes (vs.take k)) w wr) (fun _ i _ => vs.length - (intOf i).toNat)
  case atStart => exact ⟨0, Nat.zero_le _, rfl, by simp, by simpa [keyBytes] using Buf.nil w.heap.size w (Nat.le_refl _)⟩
  case round =>
    obtain ⟨k, hk, rfl, hok, hbuf⟩ := hrel
    have hbl := hbuf.1.2.1
    by_cases hlt : k < vs.length
    · have hc := hl.below hbl hb k hlt
      obtain ⟨x, hx⟩ : ∃ x, x = vs[k] := ⟨_, rfl⟩
      have HX : Hid (x = vs[k]) := hx
      rw [← hx] at hc
      clear hx
      obtain ⟨c0, c1, c2, c3, c4⟩ := hc
      obtain ⟨q, hq⟩ : ∃ q, x.check = q := ⟨_, rfl⟩
      have hchk := fun W => (check_any x W).mono (R' := fun e w' => e = .returned (.int .i64 x.check) ∧ Below W.heap.size W w') (by rintro e w' ⟨he, hA⟩; exact ⟨he, hA.below⟩)
      rw [hq] at hchk
      have HQ : Hid (x.check = q) := hq
      clear hq
      have hkl := keyBytes_length hok
      have hkl2 : (vs.take k).length ≤ 16 := by simp; omega
      obtain ⟨kind, num, text, re, im⟩ := x
      simp only [V.val] at hchk
      by_cases hq0 : q = 0
      · subst hq0
        go_wp2_with (first
          | (go_at_call 127; refine (hchk _).mono ?_; rintro e w1 ⟨rfl, hb1⟩; obtain ⟨b0, b1, b2, b3, b4⟩ := box5_at hb1)
          | (go_at_call 129; refine (putValue_any w.heap.size _ _ _ _ ⟨kind, num, text, re, im⟩ HQ.out (by omega) ((hbuf.alloc _).below hb1)).mono ?_; rintro e w2 ⟨v2, rfl, hb2⟩))
        go_roundw
        case rel =>
          have hx := HX.out
          refine ⟨k + 1, by omega, by go_num, ?_, ?_⟩
          · intro y hy
            rw [List.take_succ_eq_append_getElem hlt] at hy
            rcases List.mem_append.1 hy with h | h
            · exact hok y h
            · simp at h
              subst h
              rw [← hx]
              exact HQ.out
          · rw [List.take_succ_eq_append_getElem hlt, ← hx]
            simpa [keyBytes] using hb2
        case measure => simp [intOf]; omega
      · go_wp2_with (first
          | (go_at_call 127; refine (hchk _).mono ?_; rintro e w1 ⟨rfl, hb1⟩; obtain ⟨b0, b1, b2, b3, b4⟩ := box5_at hb1))
        have hx := HX.out
        have hbad := firstBad_at hlt hok (by rw [← hx, HQ.out]; exact hq0)
        rw [← hx, HQ.out] at hbad
        have hstr : keyStr vs = ⟨#[]⟩ := by simp [keyStr, hbad, hq0]
        rw [hstr, hbad]
        go_ret2
        exact ⟨rfl, (((hbuf.alloc _).below hb1).1.2.1)⟩
    · have hk' : k = vs.length := by omega
      have hcv := hbuf.string
      subst hk'
      rw [List.take_length] at hcv hok
      go_wp2
      have hbad := firstBad_none hok
      have hstr : keyStr vs = ⟨(keyBytes vs).toArray⟩ := by simp [keyStr, hbad]
      rw [hstr, hbad]
      go_ret2
      exact ⟨rfl, hbl⟩

theorem rankKey_any (s : Value) (vs : List V) (w : World) (h : LstV w s vs) (hlen : vs.length ≤ 16) :
    Calls Tryz.prog 106 #[s] w fun e w' => e = .returned (.tuple #[.string (keyStr vs), .int .i64 (firstBad vs)]) ∧ Below w.heap.size w w' := by
  obtain ⟨ao, cap, rfl, rfl | ⟨b, off, rfl, hb, hl⟩⟩ := h
  · exact key_empty ao cap w
  · exact key_full b off cap vs w hb hl hlen

end Go.Proofs.YtiacnmcdfpmcfaaGreatDoor

namespace Go.Proofs.YtiacnmcdfpmcfaaGreatDoor.Sh
open Go.RowKit
attribute [local go_sem] cell?_more frozen?_more setCell_more size_more tape_more drew_more drewN_more more_drew more_drewN one_out plus_out plus_end lt_one le_p2 le_p3 le_p4 le_p5 le_p6 le_p7 le_p8 le_p9 le_p10 le_p11 le_p12 le_p13 le_p14 le_p15 le_p16 le_p17 le_p18 le_p19 le_p20 le_p21 le_p22 le_p23 le_p24 le_q0 le_q1 lt_q1 le_q2 lt_q2 le_q3 lt_q3 le_q4 lt_q4 le_q5 lt_q5 le_q6 lt_q6 le_q7 lt_q7 le_q8 lt_q8 le_q9 lt_q9 le_q10 lt_q10 le_q11 lt_q11 le_q12 lt_q12 le_q13 lt_q13 le_q14 lt_q14 le_q15 lt_q15 le_q16 lt_q16 le_q17 lt_q17 le_q18 lt_q18 le_q19 lt_q19 le_q20 lt_q20 le_q21 lt_q21 le_q22 lt_q22 le_q23 lt_q23 le_q24 lt_q24

/-- A pair of a key and what stands there. -/
structure F where
  path : ByteArray
  val : ByteArray

/-- The cells of the pairs fs, from ⟨b, off⟩ on. -/
def Lies (w : World) (b off : Nat) (fs : List F) : Prop := ∀ j (h : j < fs.length),
  w.cell? ⟨b, off + j * 2, none⟩ = some (.string fs[j].path) ∧ w.cell? ⟨b, off + j * 2 + 1, none⟩ = some (.string fs[j].val)

/-- The slice value s reads as the pairs fs. -/
def Lst (w : World) (s : Value) (fs : List F) : Prop :=
  ∃ ao cap, s = .slice ao fs.length cap ∧ fs.length ≤ cap ∧ (fs = [] ∨ ∃ b off, ao = some ⟨b, off, none⟩ ∧ b < w.heap.size ∧ Lies w b off fs)

theorem Lies.below {w w' : World} {B b off : Nat} {fs : List F} (h : Lies w b off fs) (hb : Below B w w') (hB : b < B) : Lies w' b off fs := by
  intro j hj
  obtain ⟨h0, h1⟩ := h j hj
  exact ⟨(hb.cell (by exact hB)).trans h0, (hb.cell (by exact hB)).trans h1⟩

theorem Lst.below {w w' : World} {s : Value} {fs : List F} (h : Lst w s fs) (hb : Below w.heap.size w w') : Lst w' s fs := by
  obtain ⟨ao, cap, rfl, hc, h | ⟨b, off, rfl, hlt, hl⟩⟩ := h
  · exact ⟨ao, cap, rfl, hc, .inl h⟩
  · exact ⟨_, cap, rfl, hc, .inr ⟨b, off, rfl, Nat.lt_of_lt_of_le hlt hb.size, hl.below hb hlt⟩⟩

theorem Lst.adds {w w' : World} {s : Value} {fs : List F} (h : Lst w s fs) (hb : Adds w w') : Lst w' s fs := h.below hb.below

/-- One key ahead of another. -/
def lessP (x y : ByteArray) : Bool := Op.bytesLess x.toList y.toList


theorem toList_inj {a b : ByteArray} (h : a.toList = b.toList) : a = b := by
  rw [ByteArray.toList_eq, ByteArray.toList_eq] at h
  obtain ⟨x⟩ := a
  obtain ⟨y⟩ := b
  congr 1
  exact Array.toList_inj.1 h

theorem F.eq_iff (a b : F) : a = b ↔ a.path.toList = b.path.toList ∧ a.val.toList = b.val.toList := by
  obtain ⟨ap, av⟩ := a
  obtain ⟨bp, bv⟩ := b
  simp only [F.mk.injEq]
  exact ⟨fun h => ⟨by rw [h.1], by rw [h.2]⟩, fun h => ⟨toList_inj h.1, toList_inj h.2⟩⟩

instance : DecidableEq F := fun a b => decidable_of_iff _ (F.eq_iff a b).symm

theorem run_neqP (ap av bp bv : ByteArray) (w : World) :
    (binOp .neq 70 (.agg #[.string ap, .string av]) (.agg #[.string bp, .string bv])).run Tryz.prog w
      = .ok (.bool (!decide (ap.toList = bp.toList ∧ av.toList = bv.toList))) w := by
  go_simp
  by_cases h0 : ap.toList = bp.toList <;> by_cases h1 : av.toList = bv.toList <;> simp [h0, h1]

theorem take_next {l t : List F} {k : Nat} (hk : k < l.length) (ht : k < t.length) (hp : l.take k = t.take k) (he : l[k] = t[k]) : l.take (k + 1) = t.take (k + 1) := by
  rw [List.take_succ_eq_append_getElem hk, List.take_succ_eq_append_getElem ht, hp, he]

theorem differ {l t : List F} {k : Nat} (hk : k < l.length) (ht : k < t.length) (h : l[k] ≠ t[k]) : decide (l = t) = false := decide_eq_false (fun e => by subst e; exact h rfl)

set_option maxHeartbeats 2000000 in
theorem refSame_any (s s' : Value) (l t : List F) (w : World) (hl : Lst w s l) (ht : Lst w s' t) (hl6 : l.length ≤ 1000) (ht6 : t.length ≤ 1000) :
    Calls Tryz.prog 24 #[s, s'] w fun e w' => e = .returned (.bool (decide (l = t))) ∧ Adds w w' := by
  obtain ⟨ao, cap, rfl, hcap, hlo⟩ := hl
  obtain ⟨bo, cap', rfl, hcap', hto⟩ := ht
  by_cases hlen : l.length = t.length
  · have hlen' : (l.length : Int) = (t.length : Int) := by omega
    rw [← hlen]
    go_enter Tryz.func24, Tryz.ntmps24
    go_wp2
    go_loopw [5] (fun i wr => ∃ k : Nat, k ≤ l.length ∧ i = .int .i64 k ∧ l.take k = t.take k ∧ Adds w wr) (fun i _ => l.length - (intOf i).toNat)
    case atStart => exact ⟨0, Nat.zero_le _, rfl, by simp, Adds.refl _⟩
    case round =>
      obtain ⟨k, hk, rfl, hp, os, n, rfl⟩ := hrel
      by_cases hlt : k < l.length
      · have hlt' : k < t.length := by omega
        rcases hlo with rfl | ⟨b, off, rfl, hb, hll⟩
        · simp at hlt
        rcases hto with rfl | ⟨b', off', rfl, hb', hlt2⟩
        · simp at hlt'
        obtain ⟨c0, c1⟩ := hll k hlt
        obtain ⟨d0, d1⟩ := hlt2 k hlt'
        have hd := differ hlt hlt'
        have hn := take_next hlt hlt' hp
        generalize l[k] = x at *
        generalize t[k] = y at *
        have he := run_neqP x.path x.val y.path y.val
        have hxy : decide (x.path.toList = y.path.toList ∧ x.val.toList = y.val.toList) = decide (x = y) := decide_eq_decide.2 (by rw [F.eq_iff])
        rw [hxy] at he
        clear hxy
        by_cases hE : x = y
        · have HN : Hid _ := hn hE
          rw [decide_eq_true hE, Bool.not_true] at he
          clear hd hn hE hp
          go_wp2
          go_quiet (fail)
          go_wp2
          go_roundw
          case rel =>
            refine ⟨k + 1, by omega, by go_num, HN.out, ?_⟩
            repeat (first | with_reducible exact Adds.refl _ | with_reducible refine Adds.alloc ?_ _ | with_reducible refine Adds.more ?_ _ _ | with_reducible refine Adds.drew ?_ | with_reducible refine Adds.drewN ?_ _)
          case measure => simp [intOf]; omega
        · have HD : Hid _ := hd hE
          rw [decide_eq_false hE, Bool.not_false] at he
          clear hd hn hp
          go_wp2
          go_quiet (fail)
          go_wp2
          go_ret
          refine ⟨by rw [HD.out]; rfl, ?_⟩
          repeat (first | with_reducible exact Adds.refl _ | with_reducible refine Adds.alloc ?_ _ | with_reducible refine Adds.more ?_ _ _ | with_reducible refine Adds.drew ?_ | with_reducible refine Adds.drewN ?_ _)
      · have hk' : k = l.length := by omega
        subst hk'
        have hE : l = t := by
          rw [List.take_length, hlen, List.take_length] at hp
          exact hp
        subst hE
        clear hp
        go_wp2
        go_ret
        refine ⟨by simp, ?_⟩
        repeat (first | with_reducible exact Adds.refl _ | with_reducible refine Adds.alloc ?_ _ | with_reducible refine Adds.more ?_ _ _ | with_reducible refine Adds.drew ?_ | with_reducible refine Adds.drewN ?_ _)
  · have hne : decide (l = t) = false := decide_eq_false (fun e => hlen (by rw [e]))
    have hlen2 : ((l.length : Int) != (t.length : Int)) = true := by simp; omega
    rw [hne]
    go_enter Tryz.func24, Tryz.ntmps24
    go_wp2
    go_ret
    exact ⟨rfl, Adds.refl _⟩


end Go.Proofs.YtiacnmcdfpmcfaaGreatDoor.Sh
