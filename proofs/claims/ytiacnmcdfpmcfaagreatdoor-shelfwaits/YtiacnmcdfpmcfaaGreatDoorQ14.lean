/-
  Floats that are whole numbers below 2^53: sums, differences and products of such are exact, and so is the way back to an integer.
  The small functions of package gauss by contracts: within, Check, checkBoth, fit, number, point, times, quarter.
  The functions fitsAlone and fits, by contracts.
-/
import Derived.Test.YtiacnmcdfpmcfaaGreatDoorRows
import Derived.Laws.ComplexArith
import Derived.Test.YtiacnmcdfpmcfaaGreatDoorQ00
import Derived.Test.YtiacnmcdfpmcfaaGreatDoorQ02
namespace Go.Proofs.YtiacnmcdfpmcfaaGreatDoor
open Ieee

def sgn (s : Bool) (m : Nat) : Int := if s then -(m : Int) else m

/-- The number of sign s, magnitude m and place e is the whole number n. -/
def Val (s : Bool) (m : Nat) (e : Int) (n : Int) : Prop := ∃ B : Nat, 0 ≤ e + B ∧ sgn s m * 2 ^ (e + B).toNat = n * 2 ^ B

/-- The word x stands for the whole number n. -/
def IsF (x : Nat) (n : Int) : Prop := ∃ s m e, double.read x = .number s m e ∧ Val s m e n

theorem Val.up {s m e n} (h : Val s m e n) (C : Nat) : ∃ B : Nat, C ≤ B ∧ 0 ≤ e + B ∧ sgn s m * 2 ^ (e + B).toNat = n * 2 ^ B := by
  obtain ⟨B, h1, h2⟩ := h
  refine ⟨B + C, by omega, by omega, ?_⟩
  have : (e + ((B + C : Nat) : Int)).toNat = (e + B).toNat + C := by omega
  rw [this, Int.pow_add, Int.pow_add, ← Int.mul_assoc, h2, Int.mul_assoc]

theorem signed_eq (s : Bool) (m up : Nat) : signed s m up = sgn s m * 2 ^ up := by
  unfold signed sgn
  rw [Nat.shiftLeft_eq]
  cases s <;> simp [Int.neg_mul]

theorem sgn_natAbs (s : Bool) (m : Nat) : (sgn s m).natAbs = m := by unfold sgn; cases s <;> simp

theorem natAbs_pow2 (k : Nat) : ((2 : Int) ^ k).natAbs = 2 ^ k := by rw [Int.natAbs_pow]; rfl

theorem Val.abs {s m e n} (h : Val s m e n) (C : Nat) : ∃ B : Nat, C ≤ B ∧ 0 ≤ e + B ∧ m * 2 ^ (e + B).toNat = n.natAbs * 2 ^ B := by
  obtain ⟨B, h0, h1, h2⟩ := h.up C
  refine ⟨B, h0, h1, ?_⟩
  have := congrArg Int.natAbs h2
  rwa [Int.natAbs_mul, Int.natAbs_mul, natAbs_pow2, natAbs_pow2, sgn_natAbs] at this

theorem Val.zero_iff {s m e n} (h : Val s m e n) : m = 0 ↔ n = 0 := by
  obtain ⟨B, _, _, h2⟩ := h.abs 0
  have p1 : 0 < 2 ^ (e + B).toNat := Nat.two_pow_pos _
  have p2 : 0 < 2 ^ B := Nat.two_pow_pos _
  constructor
  · rintro rfl
    have : n.natAbs * 2 ^ B = 0 := by omega
    rcases Nat.mul_eq_zero.1 this with h | h <;> omega
  · rintro rfl
    have : m * 2 ^ (e + B).toNat = 0 := by simpa using h2
    rcases Nat.mul_eq_zero.1 this with h | h <;> omega

theorem Val.sgn_eq {s m e n} (h : Val s m e n) : sgn s n.natAbs = n := by
  obtain ⟨B, h1, h2⟩ := h
  have p1 : (0 : Int) < 2 ^ (e + B).toNat := Int.pow_pos (by decide)
  have p2 : (0 : Int) < 2 ^ B := Int.pow_pos (by decide)
  cases s
  · have : 0 ≤ n * 2 ^ B := by rw [← h2]; exact Int.mul_nonneg (by simp [sgn]) (Int.le_of_lt p1)
    have : 0 ≤ n := Int.nonneg_of_mul_nonneg_left this p2
    simp [sgn]; omega
  · have : n * 2 ^ B ≤ 0 := by
      rw [← h2]
      have := Int.mul_nonneg (a := (m : Int)) (b := 2 ^ (e + B).toNat) (by omega) (Int.le_of_lt p1)
      simp only [sgn, if_true, Int.neg_mul]; omega
    have : n ≤ 0 := by
      refine Int.not_lt.1 fun hn => ?_
      have := Int.mul_pos hn p2
      omega
    simp [sgn]; omega

theorem log2_shift (m k : Nat) (h : m ≠ 0) : (m * 2 ^ k).log2 = m.log2 + k := by
  have hp : 0 < 2 ^ k := Nat.two_pow_pos _
  rw [Nat.log2_eq_iff (by intro h0; rcases Nat.mul_eq_zero.1 h0 with h1 | h1 <;> omega)]
  constructor
  · rw [Nat.pow_add]; exact Nat.mul_le_mul_right _ (Nat.log2_self_le h)
  · rw [Nat.add_right_comm, Nat.pow_add]; exact Nat.mul_lt_mul_of_pos_right Nat.lt_log2_self hp

theorem cut_nought (way : Toward) (neg : Bool) (n : Nat) : way.cut neg n 0 = n := by
  unfold Toward.cut
  cases way <;> simp [Nat.mod_one]

theorem cut_exact (way : Toward) (neg : Bool) (a d : Nat) (h : a ≠ 0) : way.cut neg (a * 2 ^ d) d = a := by
  have hp : 0 < 2 ^ d := Nat.two_pow_pos _
  unfold Toward.cut
  have hmin : min d ((a * 2 ^ d).log2 + 2) = d := by rw [log2_shift a d h]; omega
  simp only [hmin, Nat.shiftLeft_eq, Nat.one_mul, Nat.mul_div_cancel _ hp, Nat.mul_mod_left]
  cases way <;> simp <;> omega

/-- The word of a whole number below 2^53, however it is given. -/
theorem nearest_exact {neg : Bool} {m : Nat} {e : Int} {n : Int} (h : Val neg m e n) (hn : n ≠ 0) (hlt : n.natAbs < 2 ^ 53) :
    double.nearest neg m e = double.word neg ((n.natAbs.log2 + 1022) * 2 ^ 52 + n.natAbs * 2 ^ (52 - n.natAbs.log2)) := by
  have hm : m ≠ 0 := fun h0 => hn (h.zero_iff.1 h0)
  have hN : n.natAbs ≠ 0 := by omega
  obtain ⟨B, hB, h1, h2⟩ := h.abs 200
  have hL : n.natAbs.log2 < 53 := (Nat.log2_lt hN).2 hlt
  have hlog : e + m.log2 = n.natAbs.log2 := by
    have := congrArg Nat.log2 h2
    rw [log2_shift _ _ hm, log2_shift _ _ hN] at this
    omega
  have hhi : n.natAbs * 2 ^ (52 - n.natAbs.log2) < 2 ^ 53 := by
    have a1 : n.natAbs < 2 ^ (n.natAbs.log2 + 1) := Nat.lt_log2_self
    have a2 := Nat.mul_lt_mul_of_pos_right a1 (Nat.two_pow_pos (52 - n.natAbs.log2))
    rw [← Nat.pow_add] at a2
    have a3 : n.natAbs.log2 + 1 + (52 - n.natAbs.log2) = 53 := by omega
    rwa [a3] at a2
  generalize hNN : n.natAbs = N at *
  generalize hLL : N.log2 = L at *
  unfold Format.nearest
  rw [if_neg hm]
  have hlast : max (e + (m.log2 : Int) - (double.fractionBits : Int)) double.leastPlace = (L : Int) - 52 := by
    have a : double.leastPlace = -1074 := by decide
    have b : (double.fractionBits : Int) = 52 := by decide
    rw [a, b]; omega
  have hkept : Toward.even.cut neg (m <<< (e - ((L : Int) - 52)).toNat) (((L : Int) - 52) - e).toNat = N * 2 ^ (52 - L) := by
    by_cases hc : (L : Int) - 52 ≤ e
    · have z : (((L : Int) - 52) - e).toNat = 0 := by omega
      rw [z, cut_nought, Nat.shiftLeft_eq]
      refine Nat.eq_of_mul_eq_mul_right (Nat.two_pow_pos (L + B - 52)) ?_
      rw [Nat.mul_assoc, Nat.mul_assoc, ← Nat.pow_add, ← Nat.pow_add]
      have x1 : (e - ((L : Int) - 52)).toNat + (L + B - 52) = (e + B).toNat := by omega
      have x2 : 52 - L + (L + B - 52) = B := by omega
      rw [x1, x2, h2]
    · have z : (e - ((L : Int) - 52)).toNat = 0 := by omega
      rw [z, Nat.shiftLeft_eq, Nat.pow_zero, Nat.mul_one]
      have hmm : m = N * 2 ^ (52 - L) * 2 ^ (((L : Int) - 52) - e).toNat := by
        refine Nat.eq_of_mul_eq_mul_right (Nat.two_pow_pos (e + B).toNat) ?_
        rw [Nat.mul_assoc, Nat.mul_assoc, ← Nat.pow_add, ← Nat.pow_add, h2]
        congr 2
        omega
      rw [hmm]
      refine cut_exact .even neg _ _ ?_
      have := Nat.two_pow_pos (52 - L)
      intro h0
      rcases Nat.mul_eq_zero.1 h0 with h1 | h1 <;> omega
  simp only [hlast, hkept]
  have hl : ((L : Int) - 52 - double.leastPlace).toNat = L + 1022 := by
    have a : double.leastPlace = -1074 := by decide
    rw [a]; omega
  have hb : double.binade = 2 ^ 52 := by decide
  have hi : double.infRung = 2047 * 2 ^ 52 := by decide
  have hmin : min ((L + 1022) * 2 ^ 52 + N * 2 ^ (52 - L)) (2047 * 2 ^ 52) = (L + 1022) * 2 ^ 52 + N * 2 ^ (52 - L) := by
    refine Nat.min_eq_left ?_
    have e52 : (2 : Nat) ^ 52 = 4503599627370496 := by decide
    have e53 : (2 : Nat) ^ 53 = 9007199254740992 := by decide
    rw [e53] at hhi
    rw [e52]
    generalize N * 2 ^ (52 - L) = K at *
    clear hkept hlast h2
    omega
  rw [hl, hb, hi, hmin]

/-- And read again. -/
theorem read_exact (neg : Bool) (N L : Nat) (h1 : 2 ^ 52 ≤ N * 2 ^ (52 - L)) (h2 : N * 2 ^ (52 - L) < 2 ^ 53) (hL : L ≤ 52) :
    double.read (double.word neg ((L + 1022) * 2 ^ 52 + N * 2 ^ (52 - L))) = .number neg (N * 2 ^ (52 - L)) ((L : Int) - 52) := by
  generalize N * 2 ^ (52 - L) = K at *
  have hs : double.signWeight = 2 ^ 63 := by decide
  have hb : double.binade = 2 ^ 52 := by decide
  have hi : double.infRung = 2047 * 2 ^ 52 := by decide
  have hl : double.leastPlace = -1074 := by decide
  have e63 : (2 : Nat) ^ 63 = 9223372036854775808 := by decide
  have e52 : (2 : Nat) ^ 52 = 4503599627370496 := by decide
  have e53 : (2 : Nat) ^ 53 = 9007199254740992 := by decide
  have hR : (L + 1022) * 4503599627370496 + K < 9223372036854775808 := by rw [e53] at h2; omega
  unfold Format.read Format.word
  rw [e53] at h2
  rw [e52] at h1
  simp only [hs, hb, hi, hl, e63, e52]
  have hmod : (if neg = true then 9223372036854775808 + ((L + 1022) * 4503599627370496 + K) else (L + 1022) * 4503599627370496 + K) % 9223372036854775808 = (L + 1022) * 4503599627370496 + K := by
    cases neg <;> simp <;> omega
  have hdiv : ((if neg = true then 9223372036854775808 + ((L + 1022) * 4503599627370496 + K) else (L + 1022) * 4503599627370496 + K) / 9223372036854775808 % 2 == 1) = neg := by
    cases neg
    · simp only [Bool.false_eq_true, if_false]
      rw [Nat.div_eq_of_lt hR]; rfl
    · simp only [if_true]
      have : (9223372036854775808 + ((L + 1022) * 4503599627370496 + K)) / 9223372036854775808 = 1 := by omega
      rw [this]; rfl
  rw [hmod, hdiv]
  rw [if_neg (by omega), if_pos (by omega)]
  have q : ((L + 1022) * 4503599627370496 + K) / 4503599627370496 = L + 1023 := by omega
  have r : ((L + 1022) * 4503599627370496 + K) % 4503599627370496 = K - 4503599627370496 := by omega
  rw [q, r]
  have k1 : 4503599627370496 + (K - 4503599627370496) = K := by omega
  have k2 : (-1074 : Int) + ((L + 1023 - 1 : Nat) : Int) = (L : Int) - 52 := by omega
  rw [k1, k2]

theorem write_isF {s : Bool} {m : Nat} {e : Int} {n : Int} (h : Val s m e n) (hlt : n.natAbs < 2 ^ 53) : IsF (double.write (.number s m e)) n := by
  unfold Format.write
  by_cases hn : n = 0
  · have hm := h.zero_iff.2 hn
    subst hn hm
    have e1 : double.nearest s 0 e = double.word s 0 := by unfold Format.nearest; rw [if_pos rfl]
    have e2 : double.read (double.word s 0) = .number s 0 (-1074) := by cases s <;> decide
    dsimp only
    rw [e1]
    refine ⟨s, 0, -1074, e2, 1074, by decide, ?_⟩
    have : sgn s 0 = 0 := by cases s <;> rfl
    rw [this, Int.zero_mul, Int.zero_mul]
  · have hN : n.natAbs ≠ 0 := by omega
    have hL : n.natAbs.log2 < 53 := (Nat.log2_lt hN).2 hlt
    dsimp only
    rw [nearest_exact h hn hlt]
    have b1 : 2 ^ 52 ≤ n.natAbs * 2 ^ (52 - n.natAbs.log2) := by
      have a1 : 2 ^ n.natAbs.log2 ≤ n.natAbs := Nat.log2_self_le hN
      have a2 := Nat.mul_le_mul_right (2 ^ (52 - n.natAbs.log2)) a1
      rw [← Nat.pow_add] at a2
      have a3 : n.natAbs.log2 + (52 - n.natAbs.log2) = 52 := by omega
      rwa [a3] at a2
    have b2 : n.natAbs * 2 ^ (52 - n.natAbs.log2) < 2 ^ 53 := by
      have a1 : n.natAbs < 2 ^ (n.natAbs.log2 + 1) := Nat.lt_log2_self
      have a2 := Nat.mul_lt_mul_of_pos_right a1 (Nat.two_pow_pos (52 - n.natAbs.log2))
      rw [← Nat.pow_add] at a2
      have a3 : n.natAbs.log2 + 1 + (52 - n.natAbs.log2) = 53 := by omega
      rwa [a3] at a2
    refine ⟨s, _, _, read_exact s n.natAbs n.natAbs.log2 b1 b2 (by omega), 52, by omega, ?_⟩
    have x1 : ((n.natAbs.log2 : Int) - 52 + ((52 : Nat) : Int)).toNat = n.natAbs.log2 := by omega
    have x2 : sgn s (n.natAbs * 2 ^ (52 - n.natAbs.log2)) = n * 2 ^ (52 - n.natAbs.log2) := by
      have := h.sgn_eq
      unfold sgn at this ⊢
      cases s
      · simp only [Bool.false_eq_true, if_false] at this ⊢
        rw [Int.natCast_mul, this]; simp
      · simp only [if_true] at this ⊢
        rw [Int.natCast_mul, ← Int.neg_mul, this]; simp
    rw [x1, x2, Int.mul_assoc, ← Int.pow_add]
    congr 2
    omega

theorem isF_ofInt (n : Int) (h : n.natAbs < 2 ^ 53) : IsF (floatOfInt .f64 n) n := by
  refine write_isF (s := decide (n < 0)) (m := n.natAbs) (e := 0) ⟨0, by decide, ?_⟩ h
  simp only [sgn]
  by_cases hn : n < 0
  · simp [hn]; omega
  · simp [hn]; omega

theorem isF_mul {x y : Nat} {a b : Int} (hx : IsF x a) (hy : IsF y b) (h : (a * b).natAbs < 2 ^ 53) : ∃ r, floatBits .mul .f64 x y = some r ∧ IsF r (a * b) := by
  obtain ⟨s, m, i, e1, B, b1, b2⟩ := hx
  obtain ⟨t, n, j, e2, C, c1, c2⟩ := hy
  refine ⟨double.write (.number (s ^^ t) (m * n) (i + j)), ?_, write_isF ⟨B + C, by omega, ?_⟩ h⟩
  · show double.mul x y = _
    unfold Format.mul
    rw [e1, e2]; rfl
  · have x1 : (i + j + ((B + C : Nat) : Int)).toNat = (i + B).toNat + (j + C).toNat := by omega
    have x2 : sgn (s ^^ t) (m * n) = sgn s m * sgn t n := by
      unfold sgn
      cases s <;> cases t <;> simp [Int.natCast_mul, Int.neg_mul, Int.mul_neg]
    rw [x1, x2, Int.pow_add, Int.pow_add]
    generalize (2 : Int) ^ (i + ↑B).toNat = p at *
    generalize (2 : Int) ^ (j + ↑C).toNat = q at *
    generalize sgn s m = u at *
    generalize sgn t n = v at *
    calc u * v * (p * q) = (u * p) * (v * q) := by grind
      _ = a * b * (2 ^ B * 2 ^ C) := by rw [b2, c2]; grind

theorem sum_val {s t : Bool} {m n : Nat} {i j : Int} {a b : Int} (hx : Val s m i a) (hy : Val t n j b) :
    ∃ u k l, Datum.sum (.number s m i) (.number t n j) = some (.number u k l) ∧ Val u k l (a + b) := by
  obtain ⟨B, b0, b1, b2⟩ := hx.up 0
  obtain ⟨C, c0, c1, c2⟩ := hy.up B
  have b3 : ∃ B', B' = C ∧ 0 ≤ i + (B' : Int) ∧ sgn s m * 2 ^ (i + (B' : Int)).toNat = a * 2 ^ B' := by
    refine ⟨C, rfl, by omega, ?_⟩
    have x1 : (i + (C : Int)).toNat = (i + B).toNat + (C - B) := by omega
    have x2 : C = B + (C - B) := by omega
    rw [x1, Int.pow_add, ← Int.mul_assoc, b2]
    conv => rhs; rw [x2]
    rw [Int.pow_add, ← Int.mul_assoc]
  obtain ⟨B', rfl, d1, d2⟩ := b3
  refine ⟨_, _, _, rfl, B', by omega, ?_⟩
  rw [signed_eq, signed_eq]
  have y1 : sgn s m * 2 ^ (i - min i j).toNat * 2 ^ (min i j + (B' : Int)).toNat = a * 2 ^ B' := by
    rw [Int.mul_assoc, ← Int.pow_add]
    have : (i - min i j).toNat + (min i j + (B' : Int)).toNat = (i + B').toNat := by omega
    rw [this, d2]
  have y2 : sgn t n * 2 ^ (j - min i j).toNat * 2 ^ (min i j + (B' : Int)).toNat = b * 2 ^ B' := by
    rw [Int.mul_assoc, ← Int.pow_add]
    have : (j - min i j).toNat + (min i j + (B' : Int)).toNat = (j + B').toNat := by omega
    rw [this, c2]
  generalize sgn s m * 2 ^ (i - min i j).toNat = u at *
  generalize sgn t n * 2 ^ (j - min i j).toNat = v at *
  have z : ∀ (z : Bool) (T : Int), sgn (if T = 0 then z else decide (T < 0)) T.natAbs = T := by
    intro z T
    unfold sgn
    by_cases hT : T = 0
    · subst hT; cases z <;> simp
    · by_cases hT' : T < 0
      · simp [hT, hT']; omega
      · simp [hT, hT']; omega
  rw [z]
  rw [Int.add_mul, Int.add_mul, y1, y2]

theorem isF_add {x y : Nat} {a b : Int} (hx : IsF x a) (hy : IsF y b) (h : (a + b).natAbs < 2 ^ 53) : ∃ r, floatBits .add .f64 x y = some r ∧ IsF r (a + b) := by
  obtain ⟨s, m, i, e1, hv⟩ := hx
  obtain ⟨t, n, j, e2, hw⟩ := hy
  obtain ⟨u, k, l, e3, hs⟩ := sum_val hv hw
  refine ⟨double.write (.number u k l), ?_, write_isF hs h⟩
  show double.add x y = _
  unfold Format.add
  rw [e1, e2, e3]; rfl

theorem isF_sub {x y : Nat} {a b : Int} (hx : IsF x a) (hy : IsF y b) (h : (a - b).natAbs < 2 ^ 53) : ∃ r, floatBits .sub .f64 x y = some r ∧ IsF r (a - b) := by
  obtain ⟨s, m, i, e1, hv⟩ := hx
  obtain ⟨t, n, j, e2, B, c1, c2⟩ := hy
  have hw : Val (!t) n j (-b) := by
    refine ⟨B, c1, ?_⟩
    have : sgn (!t) n = - sgn t n := by unfold sgn; cases t <;> simp
    rw [this, Int.neg_mul, c2, Int.neg_mul]
  obtain ⟨u, k, l, e3, hs⟩ := sum_val hv hw
  rw [← Int.sub_eq_add_neg] at hs
  refine ⟨double.write (.number u k l), ?_, write_isF hs h⟩
  show double.sub x y = _
  unfold Format.sub
  rw [e1, e2]
  simp only [Datum.opposite]
  rw [e3]; rfl

theorem isF_int {x : Nat} {n : Int} (hx : IsF x n) (h : n.natAbs < 2 ^ 53) : floatToIntVal .f64 x .i64 = some n := by
  obtain ⟨s, m, i, e1, hv⟩ := hx
  have key : (Datum.number s m i).toInt .zero = some n := by
    unfold Datum.toInt Datum.integral
    dsimp only
    rw [signed_eq, Int.pow_zero, Int.mul_one]
    have hc : Toward.zero.cut s (m <<< i.toNat) (-i).toNat = n.natAbs := by
      obtain ⟨B, b0, b1, b2⟩ := hv.abs 0
      rw [Nat.shiftLeft_eq]
      by_cases hi : 0 ≤ i
      · have z : (-i).toNat = 0 := by omega
        rw [z, cut_nought]
        refine Nat.eq_of_mul_eq_mul_right (Nat.two_pow_pos B) ?_
        rw [← b2, Nat.mul_assoc, ← Nat.pow_add]
        congr 2
        omega
      · have z : i.toNat = 0 := by omega
        rw [z, Nat.pow_zero, Nat.mul_one]
        by_cases hn : n = 0
        · have hm := hv.zero_iff.2 hn
          subst hn hm
          simp [Toward.cut]
        · have hmm : m = n.natAbs * 2 ^ (-i).toNat := by
            refine Nat.eq_of_mul_eq_mul_right (Nat.two_pow_pos (i + B).toNat) ?_
            rw [b2, Nat.mul_assoc, ← Nat.pow_add]
            congr 2
            omega
          rw [hmm]
          exact cut_exact .zero s _ _ (by omega)
    rw [hc, hv.sgn_eq]
  have e53 : (2 : Nat) ^ 53 = 9007199254740992 := by decide
  rw [e53] at h
  unfold floatToIntVal
  have : FloatKind.f64.decode x = .number s m i := e1
  rw [this, key]
  dsimp only
  rw [if_pos]
  have h1 : IntKind.i64.min = -9223372036854775808 := by decide
  have h2 : IntKind.i64.max = 9223372036854775807 := by decide
  rw [h1, h2]
  omega

end Go.Proofs.YtiacnmcdfpmcfaaGreatDoor

namespace Go.Proofs.YtiacnmcdfpmcfaaGreatDoor.Gs
open Go.RowKit
attribute [local go_sem] cell?_more frozen?_more setCell_more size_more tape_more drew_more drewN_more more_drew more_drewN more_more one_out plus_out lt_one le_p2 le_p3 le_p4 le_p5 le_p6 le_p7 le_p8 le_p9 le_p10 le_p11 le_p12

/-- May a point be? -/
def May (x y : Int) : Prop := (-1048576 ≤ x ∧ x ≤ 1048576) ∧ (-1048576 ≤ y ∧ y ≤ 1048576)

instance (x y : Int) : Decidable (May x y) := by unfold May; infer_instance

/-- A point, as the model holds it: as a value, and as a block of memory. -/
abbrev pt (x y : Int) : Value := .agg #[.int .i64 x, .int .i64 y]
abbrev box (x y : Int) : Obj := .cells #[.int .i64 x, .int .i64 y] 85

theorem within_any (n : Int) (w : World) :
    Calls Tryz.prog 195 #[.int .i64 n] w fun e w' => e = .returned (.bool (decide (-1048576 ≤ n ∧ n ≤ 1048576))) ∧ w' = w := by
  go_enter Tryz.func195, Tryz.ntmps195
  go_wp2
  all_goals (go_ret; refine ⟨?_, rfl⟩)
  · have h : -1048576 ≤ n := by assumption
    simp [h]
  · have h : n < -1048576 := by assumption
    have h' : ¬ -1048576 ≤ n := by omega
    simp [h']

theorem check_may (x y : Int) (h : May x y) (w : World) :
    Calls Tryz.prog 191 #[pt x y] w fun e w' => e = .returned (.int .i64 0) ∧ Adds w w' := by
  obtain ⟨h1, h2⟩ := h
  go_enter Tryz.func191, Tryz.ntmps191
  go_wp2_with (go_at_call 195; refine (within_any _ _).mono ?_; rintro e w1 ⟨rfl, rfl⟩)
  go_ret
  exact ⟨rfl, (Adds.refl _).alloc _⟩

theorem check_not (x y : Int) (h : ¬ May x y) (w : World) :
    Calls Tryz.prog 191 #[pt x y] w fun e w' => e = .returned (.int .i64 1) ∧ Adds w w' := by
  go_enter Tryz.func191, Tryz.ntmps191
  go_wp2_with (go_at_call 195; refine (within_any _ _).mono ?_; rintro e w1 ⟨rfl, rfl⟩)
  · go_ret
    exact ⟨rfl, (Adds.refl _).alloc _⟩
  · rename_i h1 h2
    exact absurd ⟨h1, by simpa using h2⟩ h
  · go_ret
    exact ⟨rfl, (Adds.refl _).alloc _⟩

theorem checkBoth_may (a b c d : Int) (h : May a b) (h' : May c d) (w : World) :
    Calls Tryz.prog 188 #[pt a b, pt c d] w fun e w' => e = .returned (.int .i64 0) ∧ Adds w w' := by
  go_enter Tryz.func188, Tryz.ntmps188
  go_wp2_with (go_at_call 191; refine (check_may _ _ (by assumption) _).mono ?_; rintro e w1 ⟨rfl, os, k, rfl⟩)
  go_ret
  refine ⟨rfl, ?_⟩
  repeat (first | exact Adds.refl _ | refine Adds.alloc ?_ _ | refine Adds.more ?_ _ _ | refine Adds.drew ?_)

theorem checkBoth_not (a b c d : Int) (h : ¬ (May a b ∧ May c d)) (w : World) :
    Calls Tryz.prog 188 #[pt a b, pt c d] w fun e w' => e = .returned (.int .i64 1) ∧ Adds w w' := by
  by_cases h1 : May a b
  · have h2 : ¬ May c d := fun h2 => h ⟨h1, h2⟩
    go_enter Tryz.func188, Tryz.ntmps188
    go_wp2_with (go_at_call 191; first | (refine (check_may _ _ (by assumption) _).mono ?_; rintro e w1 ⟨rfl, os, k, rfl⟩) | (refine (check_not _ _ (by assumption) _).mono ?_; rintro e w1 ⟨rfl, os, k, rfl⟩))
    go_ret
    refine ⟨rfl, ?_⟩
    repeat (first | exact Adds.refl _ | refine Adds.alloc ?_ _ | refine Adds.more ?_ _ _ | refine Adds.drew ?_)
  · go_enter Tryz.func188, Tryz.ntmps188
    go_wp2_with (go_at_call 191; refine (check_not _ _ (by assumption) _).mono ?_; rintro e w1 ⟨rfl, os, k, rfl⟩)
    go_ret
    refine ⟨rfl, ?_⟩
    repeat (first | exact Adds.refl _ | refine Adds.alloc ?_ _ | refine Adds.more ?_ _ _ | refine Adds.drew ?_)

theorem fit_may (a b : Int) (h : May a b) (w : World) :
    Calls Tryz.prog 189 #[pt a b] w fun e w' => e = .returned (.tuple #[pt a b, .int .i64 0]) ∧ Adds w w' := by
  go_enter Tryz.func189, Tryz.ntmps189
  go_wp2_with (go_at_call 191; refine (check_may _ _ (by assumption) _).mono ?_; rintro e w1 ⟨rfl, os, k, rfl⟩)
  refine bodyPost_ret (v := .tuple #[pt a b, .int .i64 0]) (by simp [results, Tryz.results189, go_sem]) rfl ⟨rfl, ?_⟩
  repeat (first | exact Adds.refl _ | refine Adds.alloc ?_ _ | refine Adds.more ?_ _ _ | refine Adds.drew ?_)

theorem fit_not (a b : Int) (h : ¬ May a b) (w : World) :
    Calls Tryz.prog 189 #[pt a b] w fun e w' => e = .returned (.tuple #[pt 0 0, .int .i64 3]) ∧ Adds w w' := by
  go_enter Tryz.func189, Tryz.ntmps189
  go_wp2_with (go_at_call 191; refine (check_not _ _ (by assumption) _).mono ?_; rintro e w1 ⟨rfl, os, k, rfl⟩)
  refine bodyPost_ret (v := .tuple #[pt 0 0, .int .i64 3]) (by simp [results, Tryz.results189, go_sem]) rfl ⟨rfl, ?_⟩
  repeat (first | exact Adds.refl _ | refine Adds.alloc ?_ _ | refine Adds.more ?_ _ _ | refine Adds.drew ?_)

end Go.Proofs.YtiacnmcdfpmcfaaGreatDoor.Gs

namespace Go.Proofs.YtiacnmcdfpmcfaaGreatDoor
open Go.RowKit
attribute [local go_sem] cell?_more frozen?_more setCell_more size_more tape_more drew_more drewN_more more_drew more_drewN one_out plus_out plus_end lt_one le_p2 le_p3 le_p4 le_p5 le_p6 le_p7 le_p8 le_p9 le_p10 le_p11 le_p12 le_p13 le_p14 le_p15 le_p16 le_p17 le_p18 le_p19 le_p20 le_p21 le_p22 le_p23 le_p24 le_q0 le_q1 lt_q1 le_q2 lt_q2 le_q3 lt_q3 le_q4 lt_q4 le_q5 lt_q5 le_q6 lt_q6 le_q7 lt_q7 le_q8 lt_q8 le_q9 lt_q9 le_q10 lt_q10 le_q11 lt_q11 le_q12 lt_q12 le_q13 lt_q13 le_q14 lt_q14 le_q15 lt_q15 le_q16 lt_q16 le_q17 lt_q17 le_q18 lt_q18 le_q19 lt_q19 le_q20 lt_q20 le_q21 lt_q21 le_q22 lt_q22 le_q23 lt_q23 le_q24 lt_q24


/-- May a node be, but for what its Args are? -/
def aloneN (k : Int) (t : List UInt8) (n : Int) (a : Nat) : Bool :=
  if k = 1 then pathL t && !digs t && (n == 0) && ((a : Int) == 0)
  else if k = 2 then decide (0 ≤ n) && decide (n ≤ 999999999999999) && (t == []) && ((a : Int) == 0)
  else if k = 3 ∨ k = 4 then (t == []) && (n == 0) && ((a : Int) == 2)
  else if k = 5 then isName t && (n == 0) && ((a : Int) == 1)
  else false

set_option maxHeartbeats 1000000 in
theorem alone_path (t : ByteArray) (ht : t.size ≤ 9223372036854775807) (n : Int) (ao : Option Addr) (a c : Nat) (w : World) :
    Calls Tryz.prog 122 #[.agg #[.int .i64 1, .string t, .int .i64 n, .slice ao a c]] w fun e w' => e = .returned (.bool (pathL t.toList && !digs t.toList && (n == 0) && ((a : Int) == 0))) ∧ Adds w w' := by
  have kP := path_any t
  rw [isPath_L] at kP
  have kD := allDig_any t ht
  generalize pathL t.toList = q1 at *
  generalize digs t.toList = q2 at *
  generalize hbn : (n == 0) = bn at *
  generalize hba : ((a : Int) == 0) = ba at *
  cases q1
  · go_enter Tryz.func122, Tryz.ntmps122
    go_wp2_with (first
      | (go_at_call 121; refine (kP _).mono ?_; rintro e w1 ⟨rfl, hw⟩; subst w1))
    go_ret
    exact ⟨rfl, by repeat (first | with_reducible exact Adds.refl _ | with_reducible refine Adds.alloc ?_ _ | with_reducible refine Adds.more ?_ _ _ | with_reducible refine Adds.drew ?_ | with_reducible refine Adds.drewN ?_ _)⟩
  · cases q2
    · cases bn
      · go_enter Tryz.func122, Tryz.ntmps122
        go_wp2_with (first
          | (go_at_call 121; refine (kP _).mono ?_; rintro e w1 ⟨rfl, hw⟩; subst w1)
          | (go_at_call 120; refine (kD _).mono ?_; rintro e w1 ⟨rfl, hw⟩; subst w1))
        go_ret
        exact ⟨rfl, by repeat (first | with_reducible exact Adds.refl _ | with_reducible refine Adds.alloc ?_ _ | with_reducible refine Adds.more ?_ _ _ | with_reducible refine Adds.drew ?_ | with_reducible refine Adds.drewN ?_ _)⟩
      · go_enter Tryz.func122, Tryz.ntmps122
        go_wp2_with (first
          | (go_at_call 121; refine (kP _).mono ?_; rintro e w1 ⟨rfl, hw⟩; subst w1)
          | (go_at_call 120; refine (kD _).mono ?_; rintro e w1 ⟨rfl, hw⟩; subst w1))
        go_ret
        exact ⟨rfl, by repeat (first | with_reducible exact Adds.refl _ | with_reducible refine Adds.alloc ?_ _ | with_reducible refine Adds.more ?_ _ _ | with_reducible refine Adds.drew ?_ | with_reducible refine Adds.drewN ?_ _)⟩
    · go_enter Tryz.func122, Tryz.ntmps122
      go_wp2_with (first
        | (go_at_call 121; refine (kP _).mono ?_; rintro e w1 ⟨rfl, hw⟩; subst w1)
        | (go_at_call 120; refine (kD _).mono ?_; rintro e w1 ⟨rfl, hw⟩; subst w1))
      go_ret
      exact ⟨rfl, by repeat (first | with_reducible exact Adds.refl _ | with_reducible refine Adds.alloc ?_ _ | with_reducible refine Adds.more ?_ _ _ | with_reducible refine Adds.drew ?_ | with_reducible refine Adds.drewN ?_ _)⟩

set_option maxHeartbeats 1000000 in
theorem alone_num (t : ByteArray) (n : Int) (ao : Option Addr) (a c : Nat) (w : World) :
    Calls Tryz.prog 122 #[.agg #[.int .i64 2, .string t, .int .i64 n, .slice ao a c]] w fun e w' => e = .returned (.bool (decide (0 ≤ n) && decide (n ≤ 999999999999999) && (t.toList == []) && ((a : Int) == 0))) ∧ Adds w w' := by
  by_cases h1 : 0 ≤ n
  · by_cases h2 : n ≤ 999999999999999
    · rw [decide_eq_true h1, decide_eq_true h2]
      cases hbt : (t.toList == [])
      · go_enter Tryz.func122, Tryz.ntmps122
        go_wp2
        go_ret
        exact ⟨rfl, by repeat (first | with_reducible exact Adds.refl _ | with_reducible refine Adds.alloc ?_ _ | with_reducible refine Adds.more ?_ _ _ | with_reducible refine Adds.drew ?_ | with_reducible refine Adds.drewN ?_ _)⟩
      · cases hba : ((a : Int) == 0)
        all_goals
          go_enter Tryz.func122, Tryz.ntmps122
          go_wp2
          go_ret
          exact ⟨rfl, by repeat (first | with_reducible exact Adds.refl _ | with_reducible refine Adds.alloc ?_ _ | with_reducible refine Adds.more ?_ _ _ | with_reducible refine Adds.drew ?_ | with_reducible refine Adds.drewN ?_ _)⟩
    · rw [decide_eq_true h1, decide_eq_false h2]
      go_enter Tryz.func122, Tryz.ntmps122
      go_wp2
      go_ret
      exact ⟨rfl, by repeat (first | with_reducible exact Adds.refl _ | with_reducible refine Adds.alloc ?_ _ | with_reducible refine Adds.more ?_ _ _ | with_reducible refine Adds.drew ?_ | with_reducible refine Adds.drewN ?_ _)⟩
  · rw [decide_eq_false h1]
    go_enter Tryz.func122, Tryz.ntmps122
    go_wp2
    go_ret
    exact ⟨rfl, by repeat (first | with_reducible exact Adds.refl _ | with_reducible refine Adds.alloc ?_ _ | with_reducible refine Adds.more ?_ _ _ | with_reducible refine Adds.drew ?_ | with_reducible refine Adds.drewN ?_ _)⟩

set_option maxHeartbeats 1000000 in
theorem alone_two (k : Int) (hk : k = 3 ∨ k = 4) (t : ByteArray) (n : Int) (ao : Option Addr) (a c : Nat) (w : World) :
    Calls Tryz.prog 122 #[.agg #[.int .i64 k, .string t, .int .i64 n, .slice ao a c]] w fun e w' => e = .returned (.bool ((t.toList == []) && (n == 0) && ((a : Int) == 2))) ∧ Adds w w' := by
  cases hbt : (t.toList == [])
  · rcases hk with rfl | rfl
    all_goals
      go_enter Tryz.func122, Tryz.ntmps122
      go_wp2
      go_ret
      exact ⟨rfl, by repeat (first | with_reducible exact Adds.refl _ | with_reducible refine Adds.alloc ?_ _ | with_reducible refine Adds.more ?_ _ _ | with_reducible refine Adds.drew ?_ | with_reducible refine Adds.drewN ?_ _)⟩
  · cases hbn : (n == 0)
    · rcases hk with rfl | rfl
      all_goals
        go_enter Tryz.func122, Tryz.ntmps122
        go_wp2
        go_ret
        exact ⟨rfl, by repeat (first | with_reducible exact Adds.refl _ | with_reducible refine Adds.alloc ?_ _ | with_reducible refine Adds.more ?_ _ _ | with_reducible refine Adds.drew ?_ | with_reducible refine Adds.drewN ?_ _)⟩
    · cases hba : ((a : Int) == 2)
      all_goals
        rcases hk with rfl | rfl
        all_goals
          go_enter Tryz.func122, Tryz.ntmps122
          go_wp2
          go_ret
          exact ⟨rfl, by repeat (first | with_reducible exact Adds.refl _ | with_reducible refine Adds.alloc ?_ _ | with_reducible refine Adds.more ?_ _ _ | with_reducible refine Adds.drew ?_ | with_reducible refine Adds.drewN ?_ _)⟩

set_option maxHeartbeats 1000000 in
theorem alone_call (t : ByteArray) (n : Int) (ao : Option Addr) (a c : Nat) (w : World) :
    Calls Tryz.prog 122 #[.agg #[.int .i64 5, .string t, .int .i64 n, .slice ao a c]] w fun e w' => e = .returned (.bool (isName t.toList && (n == 0) && ((a : Int) == 1))) ∧ Adds w w' := by
  have kN := isName_any t
  generalize isName t.toList = q at *
  cases q
  · go_enter Tryz.func122, Tryz.ntmps122
    go_wp2_with (go_at_call 89; refine (kN _).mono ?_; rintro e w1 ⟨rfl, hw⟩; subst w1)
    go_ret
    exact ⟨rfl, by repeat (first | with_reducible exact Adds.refl _ | with_reducible refine Adds.alloc ?_ _ | with_reducible refine Adds.more ?_ _ _ | with_reducible refine Adds.drew ?_ | with_reducible refine Adds.drewN ?_ _)⟩
  · cases hbn : (n == 0)
    · go_enter Tryz.func122, Tryz.ntmps122
      go_wp2_with (go_at_call 89; refine (kN _).mono ?_; rintro e w1 ⟨rfl, hw⟩; subst w1)
      go_ret
      exact ⟨rfl, by repeat (first | with_reducible exact Adds.refl _ | with_reducible refine Adds.alloc ?_ _ | with_reducible refine Adds.more ?_ _ _ | with_reducible refine Adds.drew ?_ | with_reducible refine Adds.drewN ?_ _)⟩
    · cases hba : ((a : Int) == 1)
      all_goals
        go_enter Tryz.func122, Tryz.ntmps122
        go_wp2_with (go_at_call 89; refine (kN _).mono ?_; rintro e w1 ⟨rfl, hw⟩; subst w1)
        go_ret
        exact ⟨rfl, by repeat (first | with_reducible exact Adds.refl _ | with_reducible refine Adds.alloc ?_ _ | with_reducible refine Adds.more ?_ _ _ | with_reducible refine Adds.drew ?_ | with_reducible refine Adds.drewN ?_ _)⟩

theorem alone_any (k : Int) (t : ByteArray) (ht : t.size ≤ 9223372036854775807) (n : Int) (ao : Option Addr) (a c : Nat) (w : World) :
    Calls Tryz.prog 122 #[.agg #[.int .i64 k, .string t, .int .i64 n, .slice ao a c]] w fun e w' => e = .returned (.bool (aloneN k t.toList n a)) ∧ Adds w w' := by
  by_cases h1 : k = 1
  · subst h1
    exact alone_path t ht n ao a c w
  by_cases h2 : k = 2
  · subst h2
    exact alone_num t n ao a c w
  by_cases h3 : k = 3 ∨ k = 4
  · have e : aloneN k t.toList n a = ((t.toList == []) && (n == 0) && ((a : Int) == 2)) := by simp only [aloneN, h1, h2, h3, if_false, if_true]
    rw [e]
    exact alone_two k h3 t n ao a c w
  by_cases h5 : k = 5
  · subst h5
    exact alone_call t n ao a c w
  · have e : aloneN k t.toList n a = false := by simp only [aloneN, h1, h2, h3, h5, if_false]
    rw [e]
    have h3a : ¬ k = 3 := fun h => h3 (.inl h)
    have h3b : ¬ k = 4 := fun h => h3 (.inr h)
    have b1 : (k == 1) = false := by simpa using h1
    have b2 : (k == 2) = false := by simpa using h2
    have b3 : (k == 3) = false := by simpa using h3a
    have b4 : (k == 4) = false := by simpa using h3b
    have b5 : (k == 5) = false := by simpa using h5
    go_enter Tryz.func122, Tryz.ntmps122
    go_wp2
    go_ret
    exact ⟨rfl, by repeat (first | with_reducible exact Adds.refl _ | with_reducible refine Adds.alloc ?_ _ | with_reducible refine Adds.more ?_ _ _ | with_reducible refine Adds.drew ?_ | with_reducible refine Adds.drewN ?_ _)⟩

/-- Fits a node, with so many levels at most? -/
def fitsN : Nat → N → Bool
  | 0, _ => false
  | k + 1, n => aloneN n.kind n.text.toList n.num n.args.length && n.args.all (fitsN k)

theorem alone_len {k : Int} {t : List UInt8} {n : Int} {a : Nat} (h : aloneN k t n a = true) : a ≤ 2 := by
  unfold aloneN at h
  split at h
  · simp at h; omega
  split at h
  · simp at h; omega
  split at h
  · simp at h; omega
  split at h
  · simp at h; omega
  · cases h

set_option maxHeartbeats 2000000 in
theorem fits_node {ok : Nat → Prop} (k : Nat) : ∀ (d : Nat) (n : N) (s : Value) (w : World), k ≤ 8 → Tn ok d w s n.args → n.text.size ≤ 9223372036854775807 →
    Calls Tryz.prog 96 #[nodeV n s, .int .i64 k] w fun e w' => e = .returned (.bool (fitsN k n)) ∧ Adds w w' := by
  induction k with
  | zero =>
    intro d n s w _ hT hx
    obtain ⟨ao, cap, rfl⟩ := hT.shape
    obtain ⟨nk, nt, nm, na⟩ := n
    simp only [nodeV, N.kind, N.text, N.num, N.args] at *
    clear hT hx
    go_enter Tryz.func96, Tryz.ntmps96
    go_wp2
    go_ret
    exact ⟨rfl, by repeat (first | with_reducible exact Adds.refl _ | with_reducible refine Adds.alloc ?_ _ | with_reducible refine Adds.more ?_ _ _ | with_reducible refine Adds.drew ?_ | with_reducible refine Adds.drewN ?_ _)⟩
  | succ k ih =>
    intro d n s w hk8 hT hx
    obtain ⟨ao, cap, rfl⟩ := hT.shape
    have kA := alone_any n.kind n.text hx n.num ao n.args.length cap
    have hF : fitsN (k + 1) n = (aloneN n.kind n.text.toList n.num n.args.length && n.args.all (fitsN k)) := rfl
    rw [hF]
    clear hF
    have hl := @alone_len n.kind n.text.toList n.num n.args.length
    obtain ⟨nk, nt, nm, ts⟩ := n
    simp only [nodeV, N.kind, N.text, N.num, N.args] at *
    clear hx
    have hk1 : ((k + 1 : Nat) : Int) = (k : Int) + 1 := by omega
    rw [hk1]
    have hkz : ((k : Int) + 1 == 0) = false := by simp; omega
    generalize aloneN nk nt.toList nm ts.length = q at *
    cases q
    · clear hl ih hT
      go_enter Tryz.func96, Tryz.ntmps96
      go_wp2_with (go_at_call 122; refine (kA _).mono ?_; rintro e w1 ⟨rfl, os1, n1, rfl⟩)
      go_ret
      exact ⟨rfl, by repeat (first | with_reducible exact Adds.refl _ | with_reducible refine Adds.alloc ?_ _ | with_reducible refine Adds.more ?_ _ _ | with_reducible refine Adds.drew ?_ | with_reducible refine Adds.drewN ?_ _)⟩
    · have h2 := hl rfl
      clear hl
      simp only [Bool.true_and]
      go_enter Tryz.func96, Tryz.ntmps96
      go_wp2_with (go_at_call 122; refine (kA _).mono ?_; rintro e w1 ⟨rfl, os1, n1, rfl⟩)
      go_loopw [17] (fun iv wr => ∃ j : Nat, j ≤ ts.length ∧ iv = .int .i64 j ∧ (ts.drop j).all (fitsN k) = ts.all (fitsN k) ∧ Adds (w.alloc (.cells #[.int .i64 nk, .string nt, .int .i64 nm, .slice ao ts.length cap] 81)) wr) (fun iv _ => ts.length - (intOf iv).toNat)
      case atStart => exact ⟨0, Nat.zero_le _, rfl, by simp, by repeat (first | with_reducible exact Adds.refl _ | with_reducible refine Adds.alloc ?_ _ | with_reducible refine Adds.more ?_ _ _ | with_reducible refine Adds.drew ?_ | with_reducible refine Adds.drewN ?_ _)⟩
      case round =>
        obtain ⟨j, hj, rfl, hall, os, m, rfl⟩ := hrel
        by_cases hlt : j < ts.length
        · obtain ⟨e, b1, o1, x, he, rfl, hb1, ⟨c0, c1, c2, c3⟩, hsz, htx⟩ := hT.elem hlt
          have kR := fun W (hA : Adds w W) => ih e ts[j] x W (by omega) (htx.adds hA) hsz
          have HN : Hid (ts.all (fitsN k) = (fitsN k ts[j] && (ts.drop (j + 1)).all (fitsN k))) := by
            show _ = _
            rw [← hall, List.drop_eq_getElem_cons hlt]
            rfl
          obtain ⟨xo, xc, rfl⟩ := htx.shape
          (try simp only [nodeV] at kR)
          clear htx he hT hall ih kA hsz
          generalize fitsN k ts[j] = q1 at *
          generalize ts[j] = p at *
          cases q1
          · go_wp2_with (go_at_call 96; refine (kR _ (by repeat (first | with_reducible exact Adds.refl _ | with_reducible refine Adds.alloc ?_ _ | with_reducible refine Adds.more ?_ _ _ | with_reducible refine Adds.drew ?_ | with_reducible refine Adds.drewN ?_ _))).mono ?_; rintro e w2 ⟨rfl, os2, n2, rfl⟩)
            go_ret
            exact ⟨by rw [HN.out]; rfl, by repeat (first | with_reducible exact Adds.refl _ | with_reducible refine Adds.alloc ?_ _ | with_reducible refine Adds.more ?_ _ _ | with_reducible refine Adds.drew ?_ | with_reducible refine Adds.drewN ?_ _)⟩
          · go_wp2_with (go_at_call 96; refine (kR _ (by repeat (first | with_reducible exact Adds.refl _ | with_reducible refine Adds.alloc ?_ _ | with_reducible refine Adds.more ?_ _ _ | with_reducible refine Adds.drew ?_ | with_reducible refine Adds.drewN ?_ _))).mono ?_; rintro e w2 ⟨rfl, os2, n2, rfl⟩)
            go_roundw
            case rel => exact ⟨j + 1, by omega, by go_num, by rw [HN.out]; rfl, by repeat (first | with_reducible exact Adds.refl _ | with_reducible refine Adds.alloc ?_ _ | with_reducible refine Adds.more ?_ _ _ | with_reducible refine Adds.drew ?_ | with_reducible refine Adds.drewN ?_ _)⟩
            case measure => simp [intOf]; omega
        · have hj' : j = ts.length := by omega
          subst hj'
          have hq : ts.all (fitsN k) = true := by rw [← hall]; simp
          have HQ : Hid _ := hq
          clear hall hq
          go_wp2
          go_ret
          exact ⟨by rw [HQ.out]; rfl, by repeat (first | with_reducible exact Adds.refl _ | with_reducible refine Adds.alloc ?_ _ | with_reducible refine Adds.more ?_ _ _ | with_reducible refine Adds.drew ?_ | with_reducible refine Adds.drewN ?_ _)⟩

end Go.Proofs.YtiacnmcdfpmcfaaGreatDoor
