/-
  The function Key, by a contract: a list's key, or what is refused of it; and the statements' own function awake.
-/
import Derived.Test.YtgjcienechfapaaDoorPut
namespace Go.Proofs.YtgjcienechfapaaDoor
open Go.RowKit

theorem since_on {a b c : World} (h : Below a.heap.size a b) (k : Below b.heap.size b c) : Below a.heap.size a c := h.trans (k.mono h.size)
theorem since_new (w : World) (o : Obj) : Below w.heap.size w (w.alloc o) := (Below.refl _ _).alloc (Nat.le_refl _) _

theorem Buf.below {B : Nat} {v : Value} {l : List UInt8} {W0 w w' : World} (h : Buf B v l W0 w) (hb : Below w.heap.size w w') : Buf B v l W0 w' := by
  have hg : w.grownBy w' none := ⟨hb.os, hb.tape, hb.output, hb.size, fun k hk _ => hb.block k hk⟩
  refine ⟨⟨h.1.1.kept hg ?_, h.1.2.1.trans (hb.mono h.1.2.2), Nat.le_trans h.1.2.2 hb.size⟩, h.2.trans (Keep.below hb)⟩
  cases v.ownBlock with
  | none => exact .inl rfl
  | some k => exact .inr (by simp)

/-- The cells of the values vs, from ⟨b, off⟩ on. -/
def Lies (w : World) (b off : Nat) (vs : List V) : Prop := ∀ j (h : j < vs.length),
  w.cell? ⟨b, off + j * 5, none⟩ = some (.int .i64 vs[j].kind) ∧ w.cell? ⟨b, off + j * 5 + 1, none⟩ = some (.int .i64 vs[j].num) ∧ w.cell? ⟨b, off + j * 5 + 2, none⟩ = some (.string vs[j].text) ∧
  w.cell? ⟨b, off + j * 5 + 3, none⟩ = some (.int .i64 vs[j].re) ∧ w.cell? ⟨b, off + j * 5 + 4, none⟩ = some (.int .i64 vs[j].im)

/-- The slice value s reads as the values vs. -/
def Lst (w : World) (s : Value) (vs : List V) : Prop :=
  ∃ ao cap, s = .slice ao vs.length cap ∧ (vs = [] ∨ ∃ b off, ao = some ⟨b, off, none⟩ ∧ b < w.heap.size ∧ Lies w b off vs)

theorem Lies.below {w w' : World} {B b off : Nat} {vs : List V} (h : Lies w b off vs) (hb : Below B w w') (hB : b < B) : Lies w' b off vs := by
  intro j hj
  obtain ⟨h0, h1, h2, h3, h4⟩ := h j hj
  exact ⟨(hb.cell (by exact hB)).trans h0, (hb.cell (by exact hB)).trans h1, (hb.cell (by exact hB)).trans h2, (hb.cell (by exact hB)).trans h3, (hb.cell (by exact hB)).trans h4⟩

theorem Lst.below {w w' : World} {s : Value} {vs : List V} (h : Lst w s vs) (hb : Below w.heap.size w w') : Lst w' s vs := by
  obtain ⟨ao, cap, rfl, h | ⟨b, off, rfl, hlt, hl⟩⟩ := h
  · exact ⟨ao, cap, rfl, .inl h⟩
  · exact ⟨_, cap, rfl, .inr ⟨b, off, rfl, Nat.lt_of_lt_of_le hlt hb.size, hl.below hb hlt⟩⟩

theorem textKey_length (s : List UInt8) : (textKey s).length = (s.length / 7 + 1) * 8 := by
  induction h : s.length using Nat.strongRecOn generalizing s with
  | _ n ih =>
    by_cases h7 : 7 ≤ s.length
    · rw [textKey_long h7]
      have := ih (s.drop 7).length (by simp; omega) (s.drop 7) rfl
      simp only [List.length_append, List.length_take, List.length_cons, this, List.length_drop]
      omega
    · rw [textKey_short (by omega)]
      simp
      omega

theorem V.key_length {v : V} (h : v.check = 0) : v.key.length ≤ 300 := by
  unfold V.key
  split
  · simp [upper_length]
  · split
    · have : v.text.size ≤ 256 := by
        unfold V.check at h
        split at h
        · cases h
        · omega
      simp only [List.length_cons, textKey_length, toList_length]
      omega
    · simp [upper_length]

def keyBytes (vs : List V) : List UInt8 := vs.flatMap V.key

/-- What Key tells of a list: nought, or why it has no key. -/
def firstBad : List V → Int
  | [] => 0
  | v :: r => if v.check = 0 then firstBad r else v.check

def keyErr (vs : List V) : Int := if 16 < vs.length then 3 else firstBad vs

theorem keyBytes_length {vs : List V} (h : ∀ v ∈ vs, v.check = 0) : (keyBytes vs).length ≤ 300 * vs.length := by
  induction vs with
  | nil => simp [keyBytes]
  | cons v r ih =>
    have h1 := V.key_length (h v (by simp))
    have h2 := ih (fun x hx => h x (by simp [hx]))
    simp only [keyBytes, List.flatMap_cons, List.length_append, List.length_cons] at *
    omega

theorem firstBad_at {vs : List V} {k : Nat} (hk : k < vs.length) (h : ∀ v ∈ vs.take k, v.check = 0) (hb : vs[k].check ≠ 0) : firstBad vs = vs[k].check := by
  induction vs generalizing k with
  | nil => simp at hk
  | cons v r ih =>
    cases k with
    | zero => simp [firstBad] at *; intro h'; exact absurd h' hb
    | succ k =>
      have h0 : v.check = 0 := h v (by simp)
      have := ih (k := k) (by simpa using hk) (fun x hx => h x (by simp [hx])) (by simpa using hb)
      simpa [firstBad, h0] using this

theorem firstBad_none {vs : List V} (h : ∀ v ∈ vs, v.check = 0) : firstBad vs = 0 := by
  induction vs with
  | nil => rfl
  | cons v r ih => simp [firstBad, h v (by simp), ih (fun x hx => h x (by simp [hx]))]

theorem Buf.string {B : Nat} {v : Value} {l : List UInt8} {W0 w : World} (h : Buf B v l W0 w) : (convert 42 9 v).run Tryd.prog w = .ok (.string ⟨l.toArray⟩) w := by
  obtain ⟨hl, h1 | ⟨g, cap, cur, fz, rfl, hB, hg, hn, hcm, hcs, hfz, htk⟩⟩ := h.1.1
  · obtain ⟨rfl, hn⟩ := h1
    have : l = [] := List.eq_nil_of_length_eq_zero hn
    subst this
    exact Lib.run_convert_nil_bytes w 42 9 5 0 Tryd.underlying42 Tryd.underlying5 Tryd.underlying9
  · have hc := h.1.1.cells (g := g) rfl
    have := Lib.run_convert_whole (P := Tryd.prog) w 42 5 9 Tryd.underlying42 Tryd.underlying5 Tryd.underlying9 g 0 ⟨l.toArray⟩ (fun i hi => by
      have hi' : i < l.length := hi
      have h3 := hc i (.int .u8 (l[i].toNat : Int)) (by simp [cells, hi'])
      rw [show (⟨g, 0, none⟩ : Addr).add i = ⟨g, 0 + i, none⟩ from by simp [Addr.add]; omega] at h3
      rw [h3]
      rfl) cap
    exact this

theorem key_empty (ao : Option Addr) (cap : Nat) (w : World) :
    Calls Tryd.prog 6 #[.slice ao 0 cap] w fun e w' => e = .returned (.tuple #[.string ⟨#[]⟩, .int .i64 0]) ∧ Below w.heap.size w w' := by
  have hc := Lib.run_convert_nil_bytes (P := Tryd.prog) w 42 9 5 0 Tryd.underlying42 Tryd.underlying5 Tryd.underlying9
  go_enter Tryd.func6, Tryd.ntmps6
  go_wp2
  go_loopw [4, 13] (fun v i wr => v = .slice none 0 0 ∧ i = .int .i64 0 ∧ wr = w) (fun _ _ _ => 0)
  case atStart => exact ⟨rfl, rfl, rfl⟩
  case round =>
    obtain ⟨rfl, rfl, rfl⟩ := hrel
    go_wp2
    go_ret2
    exact ⟨rfl, Below.refl _ _⟩

/-- What Key tells beside the error: the key, or nothing. -/
def keyStr (vs : List V) : ByteArray := ⟨(if firstBad vs = 0 then keyBytes vs else []).toArray⟩

theorem key_full (b off cap : Nat) (vs : List V) (w : World) (hb : b < w.heap.size) (hl : Lies w b off vs) (hlen : vs.length ≤ 16) :
    Calls Tryd.prog 6 #[.slice (some ⟨b, off, none⟩) vs.length cap] w fun e w' => e = .returned (.tuple #[.string (keyStr vs), .int .i64 (firstBad vs)]) ∧ Below w.heap.size w w' := by
  go_enter Tryd.func6, Tryd.ntmps6
  go_wp2
  go_loopw [4, 13] (fun v i wr => ∃ k : Nat, k ≤ vs.length ∧ i = .int .i64 k ∧ (∀ x ∈ vs.take k, x.check = 0) ∧ Buf w.heap.size v (keyBytes (vs.take k)) w wr) (fun _ i _ => vs.length - (intOf i).toNat)
  case atStart => exact ⟨0, Nat.zero_le _, rfl, by simp, by simpa [keyBytes] using Buf.nil w.heap.size w (Nat.le_refl _)⟩
  case round =>
    obtain ⟨k, hk, rfl, hok, hbuf⟩ := hrel
    have hbl := hbuf.1.2.1
    by_cases hlt : k < vs.length
    · have hc := hl.below hbl hb k hlt
      obtain ⟨x, hx⟩ : ∃ x, x = vs[k] := ⟨_, rfl⟩
      have HX : Hid (x = vs[k]) := hx
      rw [← hx] at hc
      clear hx
      obtain ⟨c0, c1, c2, c3, c4⟩ := hc
      obtain ⟨q, hq⟩ : ∃ q, x.check = q := ⟨_, rfl⟩
      have hchk := check_any x
      rw [hq] at hchk
      have HQ : Hid (x.check = q) := hq
      clear hq
      have hkl := keyBytes_length hok
      have hkl2 : (vs.take k).length ≤ 16 := by simp; omega
      obtain ⟨kind, num, text, re, im⟩ := x
      simp only [V.val] at hchk
      by_cases hq0 : q = 0
      · subst hq0
        go_wp2_with (first
          | (go_at_call 8; refine (hchk _).mono ?_; rintro e w1 ⟨rfl, hb1⟩; obtain ⟨b0, b1, b2, b3, b4⟩ := box5_at hb1)
          | (go_at_call 16; refine (putValue_any w.heap.size _ _ _ _ ⟨kind, num, text, re, im⟩ HQ.out (by omega) ((hbuf.alloc _).below hb1)).mono ?_; rintro e w2 ⟨v2, rfl, hb2⟩))
        go_roundw
        case rel =>
          have hx := HX.out
          refine ⟨k + 1, by omega, by go_num, ?_, ?_⟩
          · intro y hy
            rw [List.take_succ_eq_append_getElem hlt] at hy
            rcases List.mem_append.1 hy with h | h
            · exact hok y h
            · simp at h
              subst h
              rw [← hx]
              exact HQ.out
          · rw [List.take_succ_eq_append_getElem hlt, ← hx]
            simpa [keyBytes] using hb2
        case measure => simp [intOf]; omega
      · go_wp2_with (first
          | (go_at_call 8; refine (hchk _).mono ?_; rintro e w1 ⟨rfl, hb1⟩; obtain ⟨b0, b1, b2, b3, b4⟩ := box5_at hb1))
        have hx := HX.out
        have hbad := firstBad_at hlt hok (by rw [← hx, HQ.out]; exact hq0)
        rw [← hx, HQ.out] at hbad
        have hstr : keyStr vs = ⟨#[]⟩ := by simp [keyStr, hbad, hq0]
        rw [hstr, hbad]
        go_ret2
        exact ⟨rfl, (((hbuf.alloc _).below hb1).1.2.1)⟩
    · have hk' : k = vs.length := by omega
      have hcv := hbuf.string
      subst hk'
      rw [List.take_length] at hcv hok
      go_wp2
      have hbad := firstBad_none hok
      have hstr : keyStr vs = ⟨(keyBytes vs).toArray⟩ := by simp [keyStr, hbad]
      rw [hstr, hbad]
      go_ret2
      exact ⟨rfl, hbl⟩

theorem key_any (s : Value) (vs : List V) (w : World) (h : Lst w s vs) (hlen : vs.length ≤ 16) :
    Calls Tryd.prog 6 #[s] w fun e w' => e = .returned (.tuple #[.string (keyStr vs), .int .i64 (firstBad vs)]) ∧ Below w.heap.size w w' := by
  obtain ⟨ao, cap, rfl, rfl | ⟨b, off, rfl, hb, hl⟩⟩ := h
  · exact key_empty ao cap w
  · exact key_full b off cap vs w hb hl hlen

theorem lst_one (x : V) (w : World) (T : TypeId) : Lst (w.alloc (.cells #[.int .i64 x.kind, .int .i64 x.num, .string x.text, .int .i64 x.re, .int .i64 x.im] T)) (.slice (some ⟨w.heap.size, 0, none⟩) 1 1) [x] := by
  refine ⟨_, 1, rfl, .inr ⟨w.heap.size, 0, rfl, by simp, ?_⟩⟩
  intro j hj
  have : j = 0 := by simpa using hj
  subst this
  simp

theorem ab_bad : firstBad [⟨2, 0, ⟨#[97, 98]⟩, 0, 0⟩] = 0 := by
  simp [firstBad, V.check, V.fits]
  decide

theorem ab_key : keyStr [⟨2, 0, ⟨#[97, 98]⟩, 0, 0⟩] = ⟨#[2, 97, 98, 0, 0, 0, 0, 0, 2]⟩ := by
  rw [keyStr, ab_bad]
  have h : (⟨#[97, 98]⟩ : ByteArray).toList = [97, 98] := by rw [ByteArray.toList_eq]
  simp [keyBytes, V.key, h, textKey_short (s := [97, 98]) (by decide)]

theorem awake_any (w : World) : Calls Tryd.prog 5 #[] w fun e w' => e = .returned (.bool true) ∧ Below w.heap.size w w' := by
  have hcmp : V.cmp ⟨1, 1, ⟨#[]⟩, 0, 0⟩ ⟨1, 2, ⟨#[]⟩, 0, 0⟩ = -1 := by simp [V.cmp, V.eqv, cmpInt]
  have hc := compare_any ⟨1, 1, ⟨#[]⟩, 0, 0⟩ ⟨1, 2, ⟨#[]⟩, 0, 0⟩
  rw [hcmp] at hc
  clear hcmp
  have hk := fun (w : World) => key_any _ _ _ (lst_one ⟨2, 0, ⟨#[97, 98]⟩, 0, 0⟩ w 31) (by decide)
  rw [ab_key, ab_bad] at hk
  go_enter Tryd.func5, Tryd.ntmps5
  go_wp2_with (first
    | (go_at_call 13; refine (text_any _ _).mono ?_; rintro e w1 ⟨rfl, hb1⟩)
    | (go_at_call 6; refine (hk _).mono ?_; rintro e w2 ⟨rfl, hb2⟩)
    | (go_at_call_of 15 (Value.int .i64 1); refine (num_any _ _).mono ?_; rintro e w3 ⟨rfl, hb3⟩)
    | (go_at_call_of 15 (Value.int .i64 2); refine (num_any _ _).mono ?_; rintro e w4 ⟨rfl, hb4⟩)
    | (go_at_call 14; refine (hc _).mono ?_; rintro e w5 ⟨rfl, hb5⟩))
  go_ret
  refine ⟨rfl, ?_⟩
  exact since_on (since_on (since_on (since_on (since_on hb1 (since_new _ _)) hb2) hb3) hb4) hb5

end Go.Proofs.YtgjcienechfapaaDoor
