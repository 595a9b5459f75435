/-
  The order of texts, by contracts.
-/
import Derived.Test.YtgnhkpihlghbmaaShdoc
namespace Go.Proofs.Ytgnhkpihlghbmaa.Sh
open Go.RowKit
attribute [local go_sem] cell?_more frozen?_more setCell_more size_more tape_more drew_more drewN_more more_drew more_drewN one_out plus_out plus_end lt_one le_p2 le_p3 le_p4 le_p5 le_p6 le_p7 le_p8 le_p9 le_p10 le_p11 le_p12 le_p13 le_p14 le_p15 le_p16 le_p17 le_p18 le_p19 le_p20 le_p21 le_p22 le_p23 le_p24 le_q0 le_q1 lt_q1 le_q2 lt_q2 le_q3 lt_q3 le_q4 lt_q4 le_q5 lt_q5 le_q6 lt_q6 le_q7 lt_q7 le_q8 lt_q8 le_q9 lt_q9 le_q10 lt_q10 le_q11 lt_q11 le_q12 lt_q12 le_q13 lt_q13 le_q14 lt_q14 le_q15 lt_q15 le_q16 lt_q16 le_q17 lt_q17 le_q18 lt_q18 le_q19 lt_q19 le_q20 lt_q20 le_q21 lt_q21 le_q22 lt_q22 le_q23 lt_q23 le_q24 lt_q24

structure IsCmp {α : Type} (c : α → α → Int) : Prop where
  range : ∀ a b, c a b = -1 ∨ c a b = 0 ∨ c a b = 1
  swap : ∀ a b, c b a = - c a b
  zero : ∀ a b, c a b = 0 ↔ a = b
  trans : ∀ a b d, c a b ≤ 0 → c b d ≤ 0 → c a d ≤ 0

theorem cmpB_is : IsCmp Lib.compareBytes where
  range a b := by
    induction a generalizing b with
    | nil => cases b <;> simp [Lib.compareBytes]
    | cons x r ih => cases b with
      | nil => simp [Lib.compareBytes]
      | cons y t =>
        simp only [Lib.compareBytes]
        split
        · exact .inl rfl
        · split
          · exact .inr (.inr rfl)
          · exact ih t
  swap a b := by
    induction a generalizing b with
    | nil => cases b <;> simp [Lib.compareBytes]
    | cons x r ih => cases b with
      | nil => simp [Lib.compareBytes]
      | cons y t =>
        simp only [Lib.compareBytes]
        by_cases h1 : x < y
        · have h2 : ¬ y < x := by simp only [UInt8.lt_iff_toNat_lt] at *; omega
          simp [h1, h2]
        · by_cases h2 : y < x
          · simp [h1, h2]
          · simp [h1, h2, ih]
  zero a b := by
    induction a generalizing b with
    | nil => cases b <;> simp [Lib.compareBytes]
    | cons x r ih => cases b with
      | nil => simp [Lib.compareBytes]
      | cons y t =>
        simp only [Lib.compareBytes]
        by_cases h1 : x < y
        · have : x ≠ y := by intro h; subst h; simp only [UInt8.lt_iff_toNat_lt] at h1; omega
          simp [h1, this]
        · by_cases h2 : y < x
          · have : x ≠ y := by intro h; subst h; simp only [UInt8.lt_iff_toNat_lt] at h2; omega
            simp [h1, h2, this]
          · have : x = y := by
              apply UInt8.toNat_inj.1
              simp only [UInt8.lt_iff_toNat_lt] at h1 h2
              omega
            subst this
            simp [h1, ih]
  trans a b d := by
    induction a generalizing b d with
    | nil => intro _ _; cases d <;> simp [Lib.compareBytes]
    | cons x r ih =>
      cases b with
      | nil => intro h; simp [Lib.compareBytes] at h
      | cons y t =>
        cases d with
        | nil => intro _ h; simp [Lib.compareBytes] at h
        | cons z u =>
          simp only [Lib.compareBytes, UInt8.lt_iff_toNat_lt]
          intro h1 h2
          have := ih t u
          split at h1 <;> split at h2 <;> split <;> (try split at h1) <;> (try split at h2) <;> (try split) <;> first | omega | exact this h1 h2

theorem bytesLess_cmp (a b : List UInt8) : Op.bytesLess a b = decide (Lib.compareBytes a b < 0) := by
  induction a generalizing b with
  | nil => cases b <;> simp [Op.bytesLess, Lib.compareBytes]
  | cons x r ih => cases b with
    | nil => simp [Op.bytesLess, Lib.compareBytes]
    | cons y t =>
      simp only [Op.bytesLess, Lib.compareBytes]
      by_cases h1 : x < y
      · simp [h1]
      · by_cases h2 : y < x
        · have : x ≠ y := by intro h; subst h; simp only [UInt8.lt_iff_toNat_lt] at h2; omega
          simp [h1, h2, this]
        · have : x = y := by
            apply UInt8.toNat_inj.1
            simp only [UInt8.lt_iff_toNat_lt] at h1 h2
            omega
          subst this
          simp [h1, ih]


def cmpP (x y : ByteArray) : Int := Lib.compareBytes x.toList y.toList

theorem lessP_cmp (x y : ByteArray) : lessP x y = decide (cmpP x y < 0) := bytesLess_cmp _ _

theorem cmpP_zero (x y : ByteArray) : cmpP x y = 0 ↔ x.toList = y.toList := cmpB_is.zero _ _

theorem lessP_trans {x y z : ByteArray} (h : lessP x y = true) (k : lessP y z = true) : lessP x z = true := by
  rw [lessP_cmp, decide_eq_true_eq] at *
  have h1 := cmpB_is.trans x.toList y.toList z.toList (by unfold cmpP at h; omega) (by unfold cmpP at k; omega)
  by_cases h0 : cmpP x z = 0
  · exfalso
    have e := (cmpP_zero x z).1 h0
    unfold cmpP at h k
    rw [e] at h
    have := cmpB_is.swap y.toList z.toList
    omega
  · unfold cmpP at *
    omega

theorem lessP_irrefl (x y : ByteArray) (h : x.toList = y.toList) : lessP x y = false := by
  rw [lessP_cmp, (cmpP_zero x y).2 h]
  rfl

theorem lessP_asymm {x y : ByteArray} (h : lessP x y = true) : lessP y x = false := by
  rw [lessP_cmp, decide_eq_true_eq] at h
  rw [lessP_cmp, decide_eq_false_iff_not]
  have := cmpB_is.swap x.toList y.toList
  unfold cmpP at *
  omega

theorem lessP_total {x y : ByteArray} (h : lessP x y = false) (hne : ¬ x.toList = y.toList) : lessP y x = true := by
  rw [lessP_cmp, decide_eq_false_iff_not] at h
  rw [lessP_cmp, decide_eq_true_eq]
  have := cmpB_is.swap x.toList y.toList
  have h0 : cmpP x y ≠ 0 := fun e => hne ((cmpP_zero x y).1 e)
  unfold cmpP at *
  omega

set_option maxRecDepth 100000 in
theorem compareString_any (x y : ByteArray) (w : World) :
    Calls Try.prog 67 #[.string x, .string y] w fun e w' => e = .returned (.int .i64 (cmpP x y)) ∧ w' = w := by
  have hx : cmpP x y = Lib.compareBytes x.data.toList y.data.toList := by rw [cmpP, ByteArray.toList_eq, ByteArray.toList_eq]
  rw [hx]
  go_enter Try.func67, Try.ntmps67
  go_wp2
  rw [run_callFunc_extern Try.func75 (by kernel_rfl) (by kernel_rfl) (by kernel_rfl) (e := Extern.BytealgCompare.compare) (by kernel_rfl), Lib.run_compareString]
  simp only [Result.andThen]
  rw [Oper.upon_value]
  go_wp2
  go_ret
  exact ⟨rfl, rfl⟩

theorem compare_any (x y : ByteArray) (w : World) :
    Calls Try.prog 47 #[.string x, .string y] w fun e w' => e = .returned (.int .i64 (cmpP x y)) ∧ w' = w := by
  have h := compareString_any x y
  go_enter Try.func47, Try.ntmps47
  go_wp2_with (go_at_call 67; refine (h _).mono ?_; rintro e w1 ⟨rfl, hw⟩; subst w1)
  go_ret
  exact ⟨rfl, rfl⟩

end Go.Proofs.Ytgnhkpihlghbmaa.Sh
