/-
  The order of texts, and the search by halves, by contracts.
-/
import Derived.Test.YtiacnmcdfpmcfaaGreatDoorQ34
namespace Go.Proofs.YtiacnmcdfpmcfaaGreatDoor.Sh
open Go.RowKit
attribute [local go_sem] cell?_more frozen?_more setCell_more size_more tape_more drew_more drewN_more more_drew more_drewN one_out plus_out plus_end lt_one le_p2 le_p3 le_p4 le_p5 le_p6 le_p7 le_p8 le_p9 le_p10 le_p11 le_p12 le_p13 le_p14 le_p15 le_p16 le_p17 le_p18 le_p19 le_p20 le_p21 le_p22 le_p23 le_p24 le_q0 le_q1 lt_q1 le_q2 lt_q2 le_q3 lt_q3 le_q4 lt_q4 le_q5 lt_q5 le_q6 lt_q6 le_q7 lt_q7 le_q8 lt_q8 le_q9 lt_q9 le_q10 lt_q10 le_q11 lt_q11 le_q12 lt_q12 le_q13 lt_q13 le_q14 lt_q14 le_q15 lt_q15 le_q16 lt_q16 le_q17 lt_q17 le_q18 lt_q18 le_q19 lt_q19 le_q20 lt_q20 le_q21 lt_q21 le_q22 lt_q22 le_q23 lt_q23 le_q24 lt_q24

structure IsCmp {α : Type} (c : α → α → Int) : Prop where
  range : ∀ a b, c a b = -1 ∨ c a b = 0 ∨ c a b = 1
  swap : ∀ a b, c b a = - c a b
  zero : ∀ a b, c a b = 0 ↔ a = b
  trans : ∀ a b d, c a b ≤ 0 → c b d ≤ 0 → c a d ≤ 0

theorem cmpB_is : IsCmp Lib.compareBytes where
  range a b := by
    induction a generalizing b with
    | nil => cases b <;> simp [Lib.compareBytes]
    | cons x r ih => cases b with
      | nil => simp [Lib.compareBytes]
      | cons y t =>
        simp only [Lib.compareBytes]
        split
        · exact .inl rfl
        · split
          · exact .inr (.inr rfl)
          · exact ih t
  swap a b := by
    induction a generalizing b with
    | nil => cases b <;> simp [Lib.compareBytes]
    | cons x r ih => cases b with
      | nil => simp [Lib.compareBytes]
      | cons y t =>
        simp only [Lib.compareBytes]
        by_cases h1 : x < y
        · have h2 : ¬ y < x := by simp only [UInt8.lt_iff_toNat_lt] at *; omega
          simp [h1, h2]
        · by_cases h2 : y < x
          · simp [h1, h2]
          · simp [h1, h2, ih]
  zero a b := by
    induction a generalizing b with
    | nil => cases b <;> simp [Lib.compareBytes]
    | cons x r ih => cases b with
      | nil => simp [Lib.compareBytes]
      | cons y t =>
        simp only [Lib.compareBytes]
        by_cases h1 : x < y
        · have : x ≠ y := by intro h; subst h; simp only [UInt8.lt_iff_toNat_lt] at h1; omega
          simp [h1, this]
        · by_cases h2 : y < x
          · have : x ≠ y := by intro h; subst h; simp only [UInt8.lt_iff_toNat_lt] at h2; omega
            simp [h1, h2, this]
          · have : x = y := by
              apply UInt8.toNat_inj.1
              simp only [UInt8.lt_iff_toNat_lt] at h1 h2
              omega
            subst this
            simp [h1, ih]
  trans a b d := by
    induction a generalizing b d with
    | nil => intro _ _; cases d <;> simp [Lib.compareBytes]
    | cons x r ih =>
      cases b with
      | nil => intro h; simp [Lib.compareBytes] at h
      | cons y t =>
        cases d with
        | nil => intro _ h; simp [Lib.compareBytes] at h
        | cons z u =>
          simp only [Lib.compareBytes, UInt8.lt_iff_toNat_lt]
          intro h1 h2
          have := ih t u
          split at h1 <;> split at h2 <;> split <;> (try split at h1) <;> (try split at h2) <;> (try split) <;> first | omega | exact this h1 h2

theorem bytesLess_cmp (a b : List UInt8) : Op.bytesLess a b = decide (Lib.compareBytes a b < 0) := by
  induction a generalizing b with
  | nil => cases b <;> simp [Op.bytesLess, Lib.compareBytes]
  | cons x r ih => cases b with
    | nil => simp [Op.bytesLess, Lib.compareBytes]
    | cons y t =>
      simp only [Op.bytesLess, Lib.compareBytes]
      by_cases h1 : x < y
      · simp [h1]
      · by_cases h2 : y < x
        · have : x ≠ y := by intro h; subst h; simp only [UInt8.lt_iff_toNat_lt] at h2; omega
          simp [h1, h2, this]
        · have : x = y := by
            apply UInt8.toNat_inj.1
            simp only [UInt8.lt_iff_toNat_lt] at h1 h2
            omega
          subst this
          simp [h1, ih]


def cmpP (x y : ByteArray) : Int := Lib.compareBytes x.toList y.toList

theorem lessP_cmp (x y : ByteArray) : lessP x y = decide (cmpP x y < 0) := bytesLess_cmp _ _

theorem cmpP_zero (x y : ByteArray) : cmpP x y = 0 ↔ x.toList = y.toList := cmpB_is.zero _ _

theorem lessP_trans {x y z : ByteArray} (h : lessP x y = true) (k : lessP y z = true) : lessP x z = true := by
  rw [lessP_cmp, decide_eq_true_eq] at *
  have h1 := cmpB_is.trans x.toList y.toList z.toList (by unfold cmpP at h; omega) (by unfold cmpP at k; omega)
  by_cases h0 : cmpP x z = 0
  · exfalso
    have e := (cmpP_zero x z).1 h0
    unfold cmpP at h k
    rw [e] at h
    have := cmpB_is.swap y.toList z.toList
    omega
  · unfold cmpP at *
    omega

theorem lessP_irrefl (x y : ByteArray) (h : x.toList = y.toList) : lessP x y = false := by
  rw [lessP_cmp, (cmpP_zero x y).2 h]
  rfl

theorem lessP_asymm {x y : ByteArray} (h : lessP x y = true) : lessP y x = false := by
  rw [lessP_cmp, decide_eq_true_eq] at h
  rw [lessP_cmp, decide_eq_false_iff_not]
  have := cmpB_is.swap x.toList y.toList
  unfold cmpP at *
  omega

theorem lessP_total {x y : ByteArray} (h : lessP x y = false) (hne : ¬ x.toList = y.toList) : lessP y x = true := by
  rw [lessP_cmp, decide_eq_false_iff_not] at h
  rw [lessP_cmp, decide_eq_true_eq]
  have := cmpB_is.swap x.toList y.toList
  have h0 : cmpP x y ≠ 0 := fun e => hne ((cmpP_zero x y).1 e)
  unfold cmpP at *
  omega

set_option maxRecDepth 100000 in
theorem compareString_any (x y : ByteArray) (w : World) :
    Calls Tryz.prog 98 #[.string x, .string y] w fun e w' => e = .returned (.int .i64 (cmpP x y)) ∧ w' = w := by
  have hx : cmpP x y = Lib.compareBytes x.data.toList y.data.toList := by rw [cmpP, ByteArray.toList_eq, ByteArray.toList_eq]
  rw [hx]
  go_enter Tryz.func98, Tryz.ntmps98
  go_wp2
  rw [run_callFunc_extern Tryz.func124 (by kernel_rfl) (by kernel_rfl) (by kernel_rfl) (e := Extern.BytealgCompare.compare) (by kernel_rfl), Lib.run_compareString]
  simp only [Result.andThen]
  rw [Oper.upon_value]
  go_wp2
  go_ret
  exact ⟨rfl, rfl⟩

theorem compare_any (x y : ByteArray) (w : World) :
    Calls Tryz.prog 68 #[.string x, .string y] w fun e w' => e = .returned (.int .i64 (cmpP x y)) ∧ w' = w := by
  have h := compareString_any x y
  go_enter Tryz.func68, Tryz.ntmps68
  go_wp2_with (go_at_call 98; refine (h _).mono ?_; rintro e w1 ⟨rfl, hw⟩; subst w1)
  go_ret
  exact ⟨rfl, rfl⟩

theorem findCmp_any (f : F) (p : ByteArray) (w : World) :
    Calls Tryz.prog 112 #[.agg #[.string f.path, .string f.val], .string p] w fun e w' => e = .returned (.int .i64 (cmpP f.path p)) ∧ Adds w w' := by
  have h := compare_any f.path p
  go_enter Tryz.func112, Tryz.ntmps112
  go_wp2_with (go_at_call 68; refine (h _).mono ?_; rintro e w1 ⟨rfl, hw⟩; subst w1)
  go_ret
  exact ⟨rfl, (Adds.refl _).alloc _⟩

/-- How many pairs, from the first on, lie ahead of a key. -/
def cutAt (p : ByteArray) : List F → Nat
  | [] => 0
  | f :: r => if lessP f.path p then cutAt p r + 1 else 0

theorem cutAt_eq {p : ByteArray} {l : List F} {i : Nat} (hi : i ≤ l.length) (h1 : ∀ t (ht : t < l.length), t < i → lessP l[t].path p = true) (h2 : ∀ (ht : i < l.length), lessP l[i].path p = false) : cutAt p l = i := by
  induction l generalizing i with
  | nil => simp at hi; simp [cutAt, hi]
  | cons f r ih =>
    cases i with
    | zero =>
      have := h2 (by simp)
      simp at this
      simp [cutAt, this]
    | succ i =>
      have h0 := h1 0 (by simp) (by omega)
      simp at h0
      simp only [cutAt, h0, if_true]
      rw [ih (i := i) (by simpa using hi) (fun t ht hti => by have := h1 (t + 1) (by simpa using ht) (by omega); simpa using this) (fun ht => by have := h2 (by simpa using ht); simpa using this)]

theorem cutAt_le (p : ByteArray) (l : List F) : cutAt p l ≤ l.length := by
  induction l with
  | nil => simp [cutAt]
  | cons f r ih => simp only [cutAt]; split <;> simp <;> omega

/-- The keys do not fall. -/
def Climbs (l : List F) : Prop := ∀ i j (hi : i < l.length) (hj : j < l.length), i < j → lessP l[j].path l[i].path = false

/-- Not behind, and ahead of a third. -/
theorem le_lt {x y z : ByteArray} (h : lessP y x = false) (k : lessP y z = true) : lessP x z = true := by
  by_cases e : x.toList = y.toList
  · rw [lessP, e]
    exact k
  · have h1 : lessP x y = true := lessP_total h (fun e' => e e'.symm)
    exact lessP_trans h1 k

/-- Is the key at the place where it would be? -/
def hasAt (p : ByteArray) (l : List F) : Bool := decide (∃ h : cutAt p l < l.length, l[cutAt p l].path.toList = p.toList)

set_option maxHeartbeats 2000000 in
set_option maxRecDepth 100000 in
theorem search_any (s : Value) (l : List F) (p : ByteArray) (w : World) (hl : Lst w s l) (hl6 : l.length ≤ 1000) (hr : Climbs l) :
    Calls Tryz.prog 111 #[s, .string p, .func (.func 112) #[] #[]] w fun e w' => e = .returned (.tuple #[.int .i64 (cutAt p l), .bool (hasAt p l)]) ∧ Adds w w' := by
  obtain ⟨ao, cap, rfl, hcap, hlo⟩ := hl
  go_enter Tryz.func111, Tryz.ntmps111
  go_wp2
  go_loopw [9, 10] (fun iv jv wr => ∃ i j : Nat, i ≤ j ∧ j ≤ l.length ∧ iv = .int .i64 i ∧ jv = .int .i64 j ∧ (∀ t (ht : t < l.length), t < i → lessP l[t].path p = true) ∧ (∀ t (ht : t < l.length), j ≤ t → lessP l[t].path p = false) ∧ Adds w wr) (fun iv jv _ => (intOf jv - intOf iv).toNat)
  case atStart => exact ⟨0, l.length, Nat.zero_le _, Nat.le_refl _, rfl, rfl, fun t _ h => absurd h (by omega), fun t ht h => absurd h (by omega), Adds.refl _⟩
  case round =>
    obtain ⟨i, j, hij, hjl, rfl, rfl, hlow, hhigh, os, n, rfl⟩ := hrel
    by_cases hlt : i < j
    · rcases hlo with rfl | ⟨b, off, rfl, hb, hll⟩
      · simp at hjl; omega
      have hm : (i + j) / 2 < l.length := by omega
      obtain ⟨c0, c1⟩ := hll ((i + j) / 2) hm
      have hL : Hid (lessP l[(i + j) / 2].path p = decide (cmpP l[(i + j) / 2].path p < 0)) := lessP_cmp _ _
      have hcall := findCmp_any l[(i + j) / 2] p
      have hup : Hid (lessP l[(i + j) / 2].path p = true → ∀ t (ht : t < l.length), t < (i + j) / 2 + 1 → lessP l[t].path p = true) := by
        intro h t ht htm
        by_cases e : t = (i + j) / 2
        · subst e; exact h
        · exact le_lt (hr t _ ht hm (by omega)) h
      have hdn : Hid (lessP l[(i + j) / 2].path p = false → ∀ t (ht : t < l.length), (i + j) / 2 ≤ t → lessP l[t].path p = false) := by
        intro h t ht htm
        by_cases e : t = (i + j) / 2
        · subst e; exact h
        · by_cases h' : lessP l[t].path p = true
          · rw [le_lt (hr _ t hm ht (by omega)) h'] at h
            cases h
          · simpa using h'
      generalize l[(i + j) / 2] = x at *
      by_cases hneg : cmpP x.path p < 0
      · go_wp2_with (go_at_call 112; refine (hcall _).mono ?_; rintro e w1 ⟨rfl, os1, n1, rfl⟩)
        go_roundw
        case rel =>
          refine ⟨(i + j) / 2 + 1, j, by omega, hjl, by rw [show ((i : Int) + (j : Int)) / 2 + 1 = (((i + j) / 2 + 1 : Nat) : Int) by omega], rfl, ?_, hhigh, ?_⟩
          · exact hup.out (by rw [hL.out]; exact decide_eq_true hneg)
          · repeat (first | with_reducible exact Adds.refl _ | with_reducible refine Adds.alloc ?_ _ | with_reducible refine Adds.more ?_ _ _ | with_reducible refine Adds.drew ?_ | with_reducible refine Adds.drewN ?_ _)
        case measure => simp [intOf]; omega
      · go_wp2_with (go_at_call 112; refine (hcall _).mono ?_; rintro e w1 ⟨rfl, os1, n1, rfl⟩)
        go_roundw
        case rel =>
          refine ⟨i, (i + j) / 2, by omega, by omega, rfl, by rw [show ((i : Int) + (j : Int)) / 2 = (((i + j) / 2 : Nat) : Int) by omega], hlow, ?_, ?_⟩
          · exact hdn.out (by rw [hL.out]; exact decide_eq_false (by omega))
          · repeat (first | with_reducible exact Adds.refl _ | with_reducible refine Adds.alloc ?_ _ | with_reducible refine Adds.more ?_ _ _ | with_reducible refine Adds.drew ?_ | with_reducible refine Adds.drewN ?_ _)
        case measure => simp [intOf]; omega
    · obtain rfl : i = j := by omega
      have hcut : cutAt p l = i := cutAt_eq hjl hlow (fun ht => hhigh i ht (Nat.le_refl _))
      have hA : Hid (hasAt p l = decide (∃ h : i < l.length, l[i].path.toList = p.toList)) := by
        show hasAt p l = _
        unfold hasAt
        simp only [hcut]
      have HC : Hid _ := hcut
      clear hcut hlow hhigh
      by_cases hin : i < l.length
      · rcases hlo with rfl | ⟨b, off, rfl, hb, hll⟩
        · simp at hin
        obtain ⟨c0, c1⟩ := hll i hin
        have hZ : Hid (cmpP l[i].path p = 0 ↔ l[i].path.toList = p.toList) := cmpP_zero _ _
        have hcall := findCmp_any l[i] p
        have hA' : Hid (hasAt p l = decide (l[i].path.toList = p.toList)) := by
          show hasAt p l = _
          rw [hA.out]
          simp [hin]
        generalize l[i] = x at *
        by_cases hz : cmpP x.path p = 0
        · go_wp2_with (go_at_call 112; refine (hcall _).mono ?_; rintro e w1 ⟨rfl, os1, n1, rfl⟩)
          go_ret2
          refine ⟨by rw [HC.out, hA'.out, decide_eq_true (hZ.out.1 hz)]; rfl, ?_⟩
          repeat (first | with_reducible exact Adds.refl _ | with_reducible refine Adds.alloc ?_ _ | with_reducible refine Adds.more ?_ _ _ | with_reducible refine Adds.drew ?_ | with_reducible refine Adds.drewN ?_ _)
        · have hz' : (cmpP x.path p == 0) = false := by simpa using hz
          go_wp2_with (go_at_call 112; refine (hcall _).mono ?_; rintro e w1 ⟨rfl, os1, n1, rfl⟩)
          go_ret2
          refine ⟨by rw [HC.out, hA'.out, decide_eq_false (fun h => hz (hZ.out.2 h))]; rfl, ?_⟩
          repeat (first | with_reducible exact Adds.refl _ | with_reducible refine Adds.alloc ?_ _ | with_reducible refine Adds.more ?_ _ _ | with_reducible refine Adds.drew ?_ | with_reducible refine Adds.drewN ?_ _)
      · go_wp2
        go_ret2
        refine ⟨by rw [HC.out, hA.out, decide_eq_false (fun h => hin h.1)]; rfl, ?_⟩
        repeat (first | with_reducible exact Adds.refl _ | with_reducible refine Adds.alloc ?_ _ | with_reducible refine Adds.more ?_ _ _ | with_reducible refine Adds.drew ?_ | with_reducible refine Adds.drewN ?_ _)


end Go.Proofs.YtiacnmcdfpmcfaaGreatDoor.Sh
