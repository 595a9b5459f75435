/-
  The document's own Key, by a contract.
-/
import Derived.Test.YtgjcienechfapaaDoorRefOne
import Derived.Test.YtgjcienechfapaaDoorRefCheck
namespace Go.Proofs.YtgjcienechfapaaDoor
open Go.RowKit

theorem Own.string {B : Nat} {v : Value} {l : List UInt8} {w : World} (h : Own B v l w) : (convert 42 9 v).run Tryd.prog w = .ok (.string ⟨l.toArray⟩) w := by
  rcases h with ⟨rfl, rfl⟩ | ⟨g, cap, rfl, _, _, _, _, hc, _⟩
  · exact Lib.run_convert_nil_bytes w 42 9 5 0 Tryd.underlying42 Tryd.underlying5 Tryd.underlying9
  · have := Lib.run_convert_whole (P := Tryd.prog) w 42 5 9 Tryd.underlying42 Tryd.underlying5 Tryd.underlying9 g 0 ⟨l.toArray⟩ (fun i hi => by
      have hi' : i < l.length := hi
      have h3 := hc i (.int .u8 (l[i].toNat : Int)) (by simp [cells, hi'])
      rw [Nat.zero_add, h3]
      rfl) cap
    exact this

theorem V.key_ne (v : V) : v.key ≠ [] := by simp [V.key]

set_option maxHeartbeats 1000000 in
theorem refkey_full (ao : Option Addr) (cap : Nat) (vs : List V) (w : World) (hlo : vs = [] ∨ ∃ b off, ao = some ⟨b, off, none⟩ ∧ b < w.heap.size ∧ Lies w b off vs) (hlen : vs.length ≤ 16) :
    Calls Tryd.prog 7 #[.slice ao vs.length cap] w fun e w' => e = .returned (.tuple #[.string (keyStr vs), .int .i64 (firstBad vs)]) ∧ Below w.heap.size w w' := by
  go_enter Tryd.func7, Tryd.ntmps7
  go_wp2
  go_loopw [4, 5] (fun v i wr => ∃ k : Nat, k ≤ vs.length ∧ i = .int .i64 k ∧ (∀ x ∈ vs.take k, x.check = 0) ∧ Own w.heap.size v (keyBytes (vs.take k)) wr ∧ Below w.heap.size w wr) (fun _ i _ => vs.length - (intOf i).toNat)
  case atStart => exact ⟨0, Nat.zero_le _, rfl, by simp, .inr ⟨w.heap.size, 0, rfl, Nat.le_refl _, by simp, by simp [keyBytes], by decide, by intro j u hj; simp [keyBytes, cells] at hj, by intro j _ h; omega⟩, since_new _ _⟩
  case round =>
    obtain ⟨k, hk, rfl, hok, hown, hbl⟩ := hrel
    by_cases hlt : k < vs.length
    · rcases hlo with rfl | ⟨b, off, rfl, hb, hl⟩
      · simp at hlt
      have hc := fun W (hW : Below w.heap.size w W) => hl.below hW hb k hlt
      obtain ⟨x, hx⟩ : ∃ x, x = vs[k] := ⟨_, rfl⟩
      have HX : Hid (x = vs[k]) := hx
      rw [← hx] at hc
      clear hx
      obtain ⟨q, hq⟩ : ∃ q, x.check = q := ⟨_, rfl⟩
      have hchk := refCheck_any x
      rw [hq] at hchk
      have HQ : Hid (x.check = q) := hq
      clear hq
      have hkl := keyBytes_length hok
      have hkl2 : (vs.take k).length ≤ 16 := by simp; omega
      obtain ⟨c0, c1, c2, c3, c4⟩ := hc wr hbl
      obtain ⟨kind, num, text, re, im⟩ := x
      simp only [V.val] at hchk
      have hi1 : (k : Int) < (vs.length : Int) := by omega
      by_cases hq0 : q = 0
      · subst hq0
        have hone := one_any ⟨kind, num, text, re, im⟩ HQ.out
        have hkey := V.key_length HQ.out
        have hkne := V.key_ne ⟨kind, num, text, re, im⟩
        simp only [V.val] at hone
        obtain ⟨KV, hKV⟩ : ∃ KV, KV = V.key ⟨kind, num, text, re, im⟩ := ⟨_, rfl⟩
        rw [← hKV] at hone hkey hkne
        have HKV : Hid (KV = V.key ⟨kind, num, text, re, im⟩) := hKV
        clear hKV
        go_wp2_with (first
          | (go_at_call 9; refine (hchk _).mono ?_; rintro e w1 ⟨rfl, hb1⟩; obtain ⟨d0, d1, d2, d3, d4⟩ := hc w1 (since_on hbl hb1))
          | (go_at_call 17; refine (hone _).mono ?_; rintro e w2 ⟨v2, rfl, hown2, hb2⟩; obtain ⟨g2, cp2, rfl, hsrc⟩ := hown2.src hkne; have hs2 := (since_on (since_on hbl hb1) hb2).size)
          | (at_builtin; refine own_list rfl (.tmp 25) (.tmp 30) rfl (B := w.heap.size) ((hown.below hb1).below hb2) rfl KV rfl rfl hsrc (by omega) hs2 ?_; intro v3 w3 hown3 hgrow3))
        have hb3 := below_own (since_on (since_on hbl hb1) hb2) hs2 ((hown.below hb1).below hb2) hgrow3
        go_roundw
        case rel =>
          have hx := HX.out
          refine ⟨k + 1, by omega, by go_num, ?_, ?_, hb3⟩
          · intro y hy
            rw [List.take_succ_eq_append_getElem hlt] at hy
            rcases List.mem_append.1 hy with h | h
            · exact hok y h
            · simp at h
              subst h
              rw [← hx]
              exact HQ.out
          · rw [List.take_succ_eq_append_getElem hlt, ← hx]
            have e : keyBytes (vs.take k ++ [⟨kind, num, text, re, im⟩]) = keyBytes (vs.take k) ++ KV := by rw [HKV.out]; simp [keyBytes]
            rw [e]
            exact hown3
        case measure => simp [intOf]; omega
      · go_wp2_with (go_at_call 9; refine (hchk _).mono ?_; rintro e w1 ⟨rfl, hb1⟩)
        have hx := HX.out
        have hbad := firstBad_at hlt hok (by rw [← hx, HQ.out]; exact hq0)
        rw [← hx, HQ.out] at hbad
        have hstr : keyStr vs = ⟨#[]⟩ := by simp [keyStr, hbad, hq0]
        rw [hstr, hbad]
        go_ret2
        exact ⟨rfl, since_on hbl hb1⟩
    · have hk' : k = vs.length := by omega
      have hcv := hown.string
      subst hk'
      rw [List.take_length] at hcv hok
      go_wp2
      have hbad := firstBad_none hok
      have hstr : keyStr vs = ⟨(keyBytes vs).toArray⟩ := by simp [keyStr, hbad]
      rw [hstr, hbad]
      go_ret2
      exact ⟨rfl, hbl⟩

theorem refkey_any (s : Value) (vs : List V) (w : World) (h : Lst w s vs) (hlen : vs.length ≤ 16) :
    Calls Tryd.prog 7 #[s] w fun e w' => e = .returned (.tuple #[.string (keyStr vs), .int .i64 (firstBad vs)]) ∧ Below w.heap.size w w' := by
  obtain ⟨ao, cap, rfl, hlo⟩ := h
  exact refkey_full ao cap vs w hlo hlen

/-- Both keys of too long a list. -/
theorem refkey_long (s : Value) (vs : List V) (w : World) (h : Lst w s vs) (hlen : 16 < vs.length) (hm : vs.length ≤ 1000) :
    Calls Tryd.prog 7 #[s] w fun e w' => e = .returned (.tuple #[.string ⟨#[]⟩, .int .i64 3]) ∧ w' = w := by
  obtain ⟨ao, cap, rfl, hlo⟩ := h
  have hi : (16 : Int) < (vs.length : Int) := by omega
  go_enter Tryd.func7, Tryd.ntmps7
  go_wp2
  go_ret2
  exact ⟨rfl, rfl⟩
theorem key_long (s : Value) (vs : List V) (w : World) (h : Lst w s vs) (hlen : 16 < vs.length) (hm : vs.length ≤ 1000) :
    Calls Tryd.prog 6 #[s] w fun e w' => e = .returned (.tuple #[.string ⟨#[]⟩, .int .i64 3]) ∧ w' = w := by
  obtain ⟨ao, cap, rfl, hlo⟩ := h
  have hi : (16 : Int) < (vs.length : Int) := by omega
  go_enter Tryd.func6, Tryd.ntmps6
  go_wp2
  go_ret2
  exact ⟨rfl, rfl⟩

end Go.Proofs.YtgjcienechfapaaDoor
