/-
  Slices of bytes; both sums by contracts.
-/
import Derived.Test.YtmbnpglnanfdoaaRowv
namespace Go.Proofs.Ytmbnpglnanfdoaa
open Go.RowKit
attribute [local go_sem] cell?_more frozen?_more setCell_more size_more tape_more drew_more drewN_more more_drew more_drewN more_more one_out plus_out plus_end lt_one le_p2 le_p3 le_p4 le_p5 le_p6 le_p7 le_p8 le_p9 le_p10 le_p11 le_p12 le_p13 le_p14 le_p15 le_p16 le_p17 le_p18 le_p19 le_p20 le_p21 le_p22 le_p23 le_p24 le_q0 le_q1 lt_q1 le_q2 lt_q2 le_q3 lt_q3 le_q4 lt_q4 le_q5 lt_q5 le_q6 lt_q6 le_q7 lt_q7 le_q8 lt_q8 le_q9 lt_q9 le_q10 lt_q10 le_q11 lt_q11 le_q12 lt_q12 le_q13 lt_q13 le_q14 lt_q14 le_q15 lt_q15 le_q16 lt_q16 le_q17 lt_q17 le_q18 lt_q18 le_q19 lt_q19 le_q20 lt_q20 le_q21 lt_q21 le_q22 lt_q22 le_q23 lt_q23 le_q24 lt_q24

def cellsB (l : List UInt8) : List Value := l.map fun b => Value.int .u8 (b.toNat : Int)

theorem cellsB_length (l : List UInt8) : (cellsB l).length = l.length := by simp [cellsB]
theorem cellsB_append (a b : List UInt8) : cellsB (a ++ b) = cellsB a ++ cellsB b := by simp [cellsB]
theorem cellsB_one (l : List UInt8) : ∀ u ∈ cellsB l, u.oneCell' = true := by
  intro u hu
  obtain ⟨b, _, rfl⟩ := List.mem_map.1 hu
  rfl
theorem cellsB_cut (l : List UInt8) (lo hi : Nat) : ((cellsB l).take hi).drop lo = cellsB ((l.take hi).drop lo) := by simp [cellsB, List.map_take, List.map_drop]

/-- The slice v reads as the bytes l. -/
def Byt (w : World) (v : Value) (l : List UInt8) : Prop := LstV w v (cellsB l)

theorem Byt.adds {w w' : World} {v : Value} {l : List UInt8} (h : Byt w v l) (ha : Adds w w') : Byt w' v l := LstV.adds h ha

def LiesB (w : World) (b off : Nat) (l : List UInt8) : Prop := ∀ j (h : j < l.length), w.cell? ⟨b, off + j, none⟩ = some (.int .u8 (l[j].toNat : Int))

theorem Byt.open {w : World} {v : Value} {l : List UInt8} (h : Byt w v l) : ∃ ao cap, v = .slice ao l.length cap ∧ l.length ≤ cap ∧ (l = [] ∨ ∃ b off, ao = some ⟨b, off, none⟩ ∧ b < w.heap.size ∧ LiesB w b off l) := by
  obtain ⟨ao, cap, rfl, hc, h⟩ := h
  rw [cellsB_length] at hc ⊢
  refine ⟨ao, cap, rfl, hc, ?_⟩
  rcases h with h | ⟨b, off, rfl, hb, hl⟩
  · exact .inl (by simpa [cellsB] using h)
  · refine .inr ⟨b, off, rfl, hb, fun j hj => ?_⟩
    have := hl j (by rw [cellsB_length]; exact hj)
    simpa [cellsB] using this

theorem Byt.cut {w : World} {ao : Option Addr} {cap lo hi n : Nat} {l : List UInt8} (h : Byt w (.slice ao n cap) l) (h1 : lo ≤ hi) (h2 : hi ≤ l.length) :
    Byt w (.slice (if cap = lo then ao else ao.map (·.add lo)) (hi - lo) (cap - lo)) ((l.take hi).drop lo) := by
  have hn : n = (cellsB l).length := by
    obtain ⟨ao', cap', he, _⟩ := h
    cases he
    rfl
  subst hn
  have := LstV.cut (lo := lo) (hi := hi) h h1 (by rw [cellsB_length]; exact h2)
  rw [cellsB_cut] at this
  exact this

theorem Byt.len {w : World} {ao : Option Addr} {n cap : Nat} {l : List UInt8} (h : Byt w (.slice ao n cap) l) : n = l.length := by
  obtain ⟨ao', cap', he, _⟩ := h
  cases he
  exact cellsB_length l

theorem bitsL_take (l : List UInt8) (k : Nat) (h : k < l.length) : bitsL (l.take (k + 1)) = bitsL (l.take k) ++ bitsOf l[k] := by
  rw [List.take_succ_eq_append_getElem h, bitsL_append]
  rfl

theorem sum_any (v : Value) (l : List UInt8) (w : World) (h : Byt w v l) (hlen : l.length ≤ 1000000) :
    Calls Try.prog 11 #[v] w fun e w' => e = .returned (.int .u32 (sum l : Nat)) ∧ w' = w := by
  obtain ⟨ao, cap, rfl, hcap, h⟩ := h.open
  rcases h with rfl | ⟨b, off, rfl, hb, hl⟩
  · go_enter Try.func11, Try.ntmps11
    go_wp2
    go_loopw [3, 8] (fun s i wr => i = .int .i64 0 ∧ s = .int .u32 11994318 ∧ wr = w) (fun _ _ _ => 0)
    case atStart => exact ⟨rfl, rfl, rfl⟩
    case round =>
      obtain ⟨rfl, rfl, rfl⟩ := hrel
      go_wp2
      go_ret
      exact ⟨rfl, rfl⟩
  · go_enter Try.func11, Try.ntmps11
    go_wp2
    go_loopw [3, 8] (fun s i wr => ∃ k : Nat, k ≤ l.length ∧ i = .int .i64 k ∧ s = .int .u32 (run start (bitsL (l.take k)) : Nat) ∧ wr = w) (fun _ i _ => (l.length - intOf i).toNat)
    case atStart => exact ⟨0, by omega, rfl, rfl, rfl⟩
    case round =>
      obtain ⟨k, hk, rfl, rfl, rfl⟩ := hrel
      by_cases hlt : k < l.length
      · have hc := hl k hlt
        have hr : run start (bitsL (l.take k)) < 16777216 := sum_lt _
        have hn : run start (bitsL (l.take (k + 1))) = run (run start (bitsL (l.take k))) (bitsOf l[k]) := by rw [bitsL_take l k hlt, run_append]
        rw [run_byte] at hn
        have hb8 := l[k].toNat_lt
        generalize run start (bitsL (l.take k)) = r at *
        generalize l[k].toNat = c at *
        go_wp2_with (go_at_call 22; refine (turn_any r c hr hb8 _).mono ?_; rintro e w1 ⟨rfl, rfl⟩)
        go_roundw
        case rel => exact ⟨k + 1, by omega, by go_num, by rw [hn], trivial⟩
        case measure => simp [intOf]; omega
      · have hk' : k = l.length := by omega
        subst hk'
        rw [List.take_length]
        go_wp2
        go_ret
        exact ⟨rfl, rfl⟩

/-- The reference's step. -/
theorem bitOn_ref (r : Nat) (b : Bool) (hr : r < 16777216) : bitOn r b = if r / 8388608 = b.toNat then r % 8388608 * 2 else r % 8388608 * 2 ^^^ 8801531 := by
  have e : (2 * (r ^^^ top b)) % 16777216 = r % 8388608 * 2 := by
    have h1 : (r ^^^ top b) % 8388608 = r % 8388608 := by
      have := Nat.xor_mod_two_pow (a := r) (b := top b) (n := 23)
      rw [show (8388608 : Nat) = 2 ^ 23 from rfl, this]
      cases b <;> simp [top]
    omega
  have hd : r.testBit 23 = decide (r / 8388608 = 1) := by
    rw [Nat.testBit_eq_decide_div_mod_eq]
    have : r / 8388608 % 2 = r / 8388608 := by omega
    simp [this]
  have ht : (r ^^^ top b).testBit 23 = (decide (r / 8388608 = 1) ^^ b) := by
    rw [Nat.testBit_xor, hd]
    congr 1
    cases b <;> decide
  unfold bitOn step
  rw [e, ht]
  have h01 : r / 8388608 = 0 ∨ r / 8388608 = 1 := by omega
  rcases h01 with h0 | h0 <;> rw [h0] <;> cases b <;> simp

theorem bit_shift (c : UInt8) (i : Nat) : c.toNat / 2 ^ i % 2 = (c.toNat.testBit i).toNat := by
  rw [Nat.testBit_eq_decide_div_mod_eq]
  have h2 : c.toNat / 2 ^ i % 2 = 0 ∨ c.toNat / 2 ^ i % 2 = 1 := by omega
  rcases h2 with h | h <;> simp [h]

theorem cast_bit (c m : Nat) : ((c : Int) / 2 ^ m).tmod 2 = ((c / 2 ^ m % 2 : Nat) : Int) := by
  have e : (c : Int) / 2 ^ m = ((c / 2 ^ m : Nat) : Int) := by push_cast; rfl
  rw [e, Int.tmod_eq_emod_of_nonneg (Int.natCast_nonneg _)]
  rfl

theorem cast_top (r : Nat) : (r : Int) / 8388608 = ((r / 8388608 : Nat) : Int) := rfl

theorem run_take (l : List Bool) (k r : Nat) (h : k < l.length) : run r (l.take (k + 1)) = bitOn (run r (l.take k)) l[k] := by
  rw [List.take_succ_eq_append_getElem h, run_append]
  rfl

theorem refSum_any (v : Value) (l : List UInt8) (w : World) (h : Byt w v l) (hlen : l.length ≤ 1000000) :
    Calls Try.prog 12 #[v] w fun e w' => e = .returned (.int .u32 (sum l : Nat)) ∧ w' = w := by
  obtain ⟨ao, cap, rfl, hcap, h⟩ := h.open
  rcases h with rfl | ⟨b, off, rfl, hb, hl⟩
  · go_enter Try.func12, Try.ntmps12
    go_wp2
    go_loopw [3, 4] (fun s i wr => i = .int .i64 0 ∧ s = .int .u32 11994318 ∧ wr = w) (fun _ _ _ => 0)
    case atStart => exact ⟨rfl, rfl, rfl⟩
    case round =>
      obtain ⟨rfl, rfl, rfl⟩ := hrel
      go_wp2
      go_ret
      exact ⟨rfl, rfl⟩
  · have hbl := bitsL_length l
    go_enter Try.func12, Try.ntmps12
    go_wp2
    go_loopw [3, 4] (fun s i wr => ∃ k : Nat, k ≤ 8 * l.length ∧ i = .int .i64 k ∧ s = .int .u32 (run start ((bitsL l).take k) : Nat) ∧ wr = w) (fun _ i _ => (8 * l.length - intOf i).toNat)
    case atStart => exact ⟨0, by omega, rfl, rfl, rfl⟩
    case round =>
      obtain ⟨k, hk, rfl, rfl, rfl⟩ := hrel
      by_cases hlt : k < 8 * l.length
      · have hc := hl (k / 8) (by omega)
        have hr : run start ((bitsL l).take k) < 16777216 := run_lt (by decide) _
        have hn := run_take (bitsL l) k start (by omega)
        rw [bitsL_get l k hlt, bitOn_ref _ _ hr, ← bit_shift] at hn
        have hb8 := l[k / 8].toNat_lt
        generalize run start ((bitsL l).take k) = r at *
        generalize l[k / 8].toNat = c at *
        go_wp2
        · rename_i hne
          rw [cast_bit, cast_top] at hne
          have hne' : r / 8388608 ≠ c / 2 ^ (7 - k % 8) % 2 := by
            intro he
            rw [he] at hne
            simp at hne
          rw [if_neg hne'] at hn
          go_roundw
          case rel => exact ⟨k + 1, by omega, by go_num, by rw [hn, ← xor32 _ 8801531 (by omega) (by omega)]; rfl, trivial⟩
          case measure => simp [intOf]; omega
        · rename_i hne
          rw [cast_bit, cast_top] at hne
          have hne' : r / 8388608 = c / 2 ^ (7 - k % 8) % 2 := by
            simp only [bne_eq_false_iff_eq] at hne
            exact Int.ofNat_inj.1 hne
          rw [if_pos hne'] at hn
          go_roundw
          case rel => exact ⟨k + 1, by omega, by go_num, by rw [hn]; rfl, trivial⟩
          case measure => simp [intOf]; omega
      · have hk' : k = 8 * l.length := by omega
        subst hk'
        rw [← hbl, List.take_length]
        go_wp2
        go_ret
        exact ⟨rfl, rfl⟩

end Go.Proofs.Ytmbnpglnanfdoaa
