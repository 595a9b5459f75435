/-
  Entries in memory; the reference's Same of them, by a contract.
  The order of texts, and the search by halves, by contracts.
  Rows of entries that grow; Concat of package slices, by a contract.
  Entries cut and filtered.
-/
import Derived.Test.YtiacnmcdfpmcfaaGreatDoorQ01
import Derived.Lib.Bytealg
import Derived.Test.YtiacnmcdfpmcfaaGreatDoorQ04
import Derived.ArgAppend
import Derived.Laws.AppendOwn
import Derived.Lib.AppendZerosOnto
namespace Go.Proofs.YtiacnmcdfpmcfaaGreatDoor.Sh
open Go.RowKit
attribute [local go_sem] cell?_more frozen?_more setCell_more size_more tape_more drew_more drewN_more more_drew more_drewN one_out plus_out plus_end lt_one le_p2 le_p3 le_p4 le_p5 le_p6 le_p7 le_p8 le_p9 le_p10 le_p11 le_p12 le_p13 le_p14 le_p15 le_p16 le_p17 le_p18 le_p19 le_p20 le_p21 le_p22 le_p23 le_p24 le_q0 le_q1 lt_q1 le_q2 lt_q2 le_q3 lt_q3 le_q4 lt_q4 le_q5 lt_q5 le_q6 lt_q6 le_q7 lt_q7 le_q8 lt_q8 le_q9 lt_q9 le_q10 lt_q10 le_q11 lt_q11 le_q12 lt_q12 le_q13 lt_q13 le_q14 lt_q14 le_q15 lt_q15 le_q16 lt_q16 le_q17 lt_q17 le_q18 lt_q18 le_q19 lt_q19 le_q20 lt_q20 le_q21 lt_q21 le_q22 lt_q22 le_q23 lt_q23 le_q24 lt_q24

/-- A pair of a key and what stands there. -/
structure F where
  path : ByteArray
  val : ByteArray

/-- The cells of the pairs fs, from ⟨b, off⟩ on. -/
def Lies (w : World) (b off : Nat) (fs : List F) : Prop := ∀ j (h : j < fs.length),
  w.cell? ⟨b, off + j * 2, none⟩ = some (.string fs[j].path) ∧ w.cell? ⟨b, off + j * 2 + 1, none⟩ = some (.string fs[j].val)

/-- The slice value s reads as the pairs fs. -/
def Lst (w : World) (s : Value) (fs : List F) : Prop :=
  ∃ ao cap, s = .slice ao fs.length cap ∧ fs.length ≤ cap ∧ (fs = [] ∨ ∃ b off, ao = some ⟨b, off, none⟩ ∧ b < w.heap.size ∧ Lies w b off fs)

theorem Lies.below {w w' : World} {B b off : Nat} {fs : List F} (h : Lies w b off fs) (hb : Below B w w') (hB : b < B) : Lies w' b off fs := by
  intro j hj
  obtain ⟨h0, h1⟩ := h j hj
  exact ⟨(hb.cell (by exact hB)).trans h0, (hb.cell (by exact hB)).trans h1⟩

theorem Lst.below {w w' : World} {s : Value} {fs : List F} (h : Lst w s fs) (hb : Below w.heap.size w w') : Lst w' s fs := by
  obtain ⟨ao, cap, rfl, hc, h | ⟨b, off, rfl, hlt, hl⟩⟩ := h
  · exact ⟨ao, cap, rfl, hc, .inl h⟩
  · exact ⟨_, cap, rfl, hc, .inr ⟨b, off, rfl, Nat.lt_of_lt_of_le hlt hb.size, hl.below hb hlt⟩⟩

theorem Lst.adds {w w' : World} {s : Value} {fs : List F} (h : Lst w s fs) (hb : Adds w w') : Lst w' s fs := h.below hb.below

/-- One key ahead of another. -/
def lessP (x y : ByteArray) : Bool := Op.bytesLess x.toList y.toList


theorem toList_inj {a b : ByteArray} (h : a.toList = b.toList) : a = b := by
  rw [ByteArray.toList_eq, ByteArray.toList_eq] at h
  obtain ⟨x⟩ := a
  obtain ⟨y⟩ := b
  congr 1
  exact Array.toList_inj.1 h

theorem F.eq_iff (a b : F) : a = b ↔ a.path.toList = b.path.toList ∧ a.val.toList = b.val.toList := by
  obtain ⟨ap, av⟩ := a
  obtain ⟨bp, bv⟩ := b
  simp only [F.mk.injEq]
  exact ⟨fun h => ⟨by rw [h.1], by rw [h.2]⟩, fun h => ⟨toList_inj h.1, toList_inj h.2⟩⟩

instance : DecidableEq F := fun a b => decidable_of_iff _ (F.eq_iff a b).symm

theorem run_neqP (ap av bp bv : ByteArray) (w : World) :
    (binOp .neq 70 (.agg #[.string ap, .string av]) (.agg #[.string bp, .string bv])).run Tryz.prog w
      = .ok (.bool (!decide (ap.toList = bp.toList ∧ av.toList = bv.toList))) w := by
  go_simp
  by_cases h0 : ap.toList = bp.toList <;> by_cases h1 : av.toList = bv.toList <;> simp [h0, h1]

theorem take_next {l t : List F} {k : Nat} (hk : k < l.length) (ht : k < t.length) (hp : l.take k = t.take k) (he : l[k] = t[k]) : l.take (k + 1) = t.take (k + 1) := by
  rw [List.take_succ_eq_append_getElem hk, List.take_succ_eq_append_getElem ht, hp, he]

theorem differ {l t : List F} {k : Nat} (hk : k < l.length) (ht : k < t.length) (h : l[k] ≠ t[k]) : decide (l = t) = false := decide_eq_false (fun e => by subst e; exact h rfl)

set_option maxHeartbeats 2000000 in
theorem refSame_any (s s' : Value) (l t : List F) (w : World) (hl : Lst w s l) (ht : Lst w s' t) (hl6 : l.length ≤ 1000) (ht6 : t.length ≤ 1000) :
    Calls Tryz.prog 24 #[s, s'] w fun e w' => e = .returned (.bool (decide (l = t))) ∧ Adds w w' := by
  obtain ⟨ao, cap, rfl, hcap, hlo⟩ := hl
  obtain ⟨bo, cap', rfl, hcap', hto⟩ := ht
  by_cases hlen : l.length = t.length
  · have hlen' : (l.length : Int) = (t.length : Int) := by omega
    rw [← hlen]
    go_enter Tryz.func24, Tryz.ntmps24
    go_wp2
    go_loopw [5] (fun i wr => ∃ k : Nat, k ≤ l.length ∧ i = .int .i64 k ∧ l.take k = t.take k ∧ Adds w wr) (fun i _ => l.length - (intOf i).toNat)
    case atStart => exact ⟨0, Nat.zero_le _, rfl, by simp, Adds.refl _⟩
    case round =>
      obtain ⟨k, hk, rfl, hp, os, n, rfl⟩ := hrel
      by_cases hlt : k < l.length
      · have hlt' : k < t.length := by omega
        rcases hlo with rfl | ⟨b, off, rfl, hb, hll⟩
        · simp at hlt
        rcases hto with rfl | ⟨b', off', rfl, hb', hlt2⟩
        · simp at hlt'
        obtain ⟨c0, c1⟩ := hll k hlt
        obtain ⟨d0, d1⟩ := hlt2 k hlt'
        have hd := differ hlt hlt'
        have hn := take_next hlt hlt' hp
        generalize l[k] = x at *
        generalize t[k] = y at *
        have he := run_neqP x.path x.val y.path y.val
        have hxy : decide (x.path.toList = y.path.toList ∧ x.val.toList = y.val.toList) = decide (x = y) := decide_eq_decide.2 (by rw [F.eq_iff])
        rw [hxy] at he
        clear hxy
        by_cases hE : x = y
        · have HN : Hid _ := hn hE
          rw [decide_eq_true hE, Bool.not_true] at he
          clear hd hn hE hp
          go_wp2
          go_quiet (fail)
          go_wp2
          go_roundw
          case rel =>
            refine ⟨k + 1, by omega, by go_num, HN.out, ?_⟩
            repeat (first | with_reducible exact Adds.refl _ | with_reducible refine Adds.alloc ?_ _ | with_reducible refine Adds.more ?_ _ _ | with_reducible refine Adds.drew ?_ | with_reducible refine Adds.drewN ?_ _)
          case measure => simp [intOf]; omega
        · have HD : Hid _ := hd hE
          rw [decide_eq_false hE, Bool.not_false] at he
          clear hd hn hp
          go_wp2
          go_quiet (fail)
          go_wp2
          go_ret
          refine ⟨by rw [HD.out]; rfl, ?_⟩
          repeat (first | with_reducible exact Adds.refl _ | with_reducible refine Adds.alloc ?_ _ | with_reducible refine Adds.more ?_ _ _ | with_reducible refine Adds.drew ?_ | with_reducible refine Adds.drewN ?_ _)
      · have hk' : k = l.length := by omega
        subst hk'
        have hE : l = t := by
          rw [List.take_length, hlen, List.take_length] at hp
          exact hp
        subst hE
        clear hp
        go_wp2
        go_ret
        refine ⟨by simp, ?_⟩
        repeat (first | with_reducible exact Adds.refl _ | with_reducible refine Adds.alloc ?_ _ | with_reducible refine Adds.more ?_ _ _ | with_reducible refine Adds.drew ?_ | with_reducible refine Adds.drewN ?_ _)
  · have hne : decide (l = t) = false := decide_eq_false (fun e => hlen (by rw [e]))
    have hlen2 : ((l.length : Int) != (t.length : Int)) = true := by simp; omega
    rw [hne]
    go_enter Tryz.func24, Tryz.ntmps24
    go_wp2
    go_ret
    exact ⟨rfl, Adds.refl _⟩


end Go.Proofs.YtiacnmcdfpmcfaaGreatDoor.Sh

namespace Go.Proofs.YtiacnmcdfpmcfaaGreatDoor.Sh
open Go.RowKit
attribute [local go_sem] cell?_more frozen?_more setCell_more size_more tape_more drew_more drewN_more more_drew more_drewN one_out plus_out plus_end lt_one le_p2 le_p3 le_p4 le_p5 le_p6 le_p7 le_p8 le_p9 le_p10 le_p11 le_p12 le_p13 le_p14 le_p15 le_p16 le_p17 le_p18 le_p19 le_p20 le_p21 le_p22 le_p23 le_p24 le_q0 le_q1 lt_q1 le_q2 lt_q2 le_q3 lt_q3 le_q4 lt_q4 le_q5 lt_q5 le_q6 lt_q6 le_q7 lt_q7 le_q8 lt_q8 le_q9 lt_q9 le_q10 lt_q10 le_q11 lt_q11 le_q12 lt_q12 le_q13 lt_q13 le_q14 lt_q14 le_q15 lt_q15 le_q16 lt_q16 le_q17 lt_q17 le_q18 lt_q18 le_q19 lt_q19 le_q20 lt_q20 le_q21 lt_q21 le_q22 lt_q22 le_q23 lt_q23 le_q24 lt_q24

structure IsCmp {α : Type} (c : α → α → Int) : Prop where
  range : ∀ a b, c a b = -1 ∨ c a b = 0 ∨ c a b = 1
  swap : ∀ a b, c b a = - c a b
  zero : ∀ a b, c a b = 0 ↔ a = b
  trans : ∀ a b d, c a b ≤ 0 → c b d ≤ 0 → c a d ≤ 0

theorem cmpB_is : IsCmp Lib.compareBytes where
  range a b := by
    induction a generalizing b with
    | nil => cases b <;> simp [Lib.compareBytes]
    | cons x r ih => cases b with
      | nil => simp [Lib.compareBytes]
      | cons y t =>
        simp only [Lib.compareBytes]
        split
        · exact .inl rfl
        · split
          · exact .inr (.inr rfl)
          · exact ih t
  swap a b := by
    induction a generalizing b with
    | nil => cases b <;> simp [Lib.compareBytes]
    | cons x r ih => cases b with
      | nil => simp [Lib.compareBytes]
      | cons y t =>
        simp only [Lib.compareBytes]
        by_cases h1 : x < y
        · have h2 : ¬ y < x := by simp only [UInt8.lt_iff_toNat_lt] at *; omega
          simp [h1, h2]
        · by_cases h2 : y < x
          · simp [h1, h2]
          · simp [h1, h2, ih]
  zero a b := by
    induction a generalizing b with
    | nil => cases b <;> simp [Lib.compareBytes]
    | cons x r ih => cases b with
      | nil => simp [Lib.compareBytes]
      | cons y t =>
        simp only [Lib.compareBytes]
        by_cases h1 : x < y
        · have : x ≠ y := by intro h; subst h; simp only [UInt8.lt_iff_toNat_lt] at h1; omega
          simp [h1, this]
        · by_cases h2 : y < x
          · have : x ≠ y := by intro h; subst h; simp only [UInt8.lt_iff_toNat_lt] at h2; omega
            simp [h1, h2, this]
          · have : x = y := by
              apply UInt8.toNat_inj.1
              simp only [UInt8.lt_iff_toNat_lt] at h1 h2
              omega
            subst this
            simp [h1, ih]
  trans a b d := by
    induction a generalizing b d with
    | nil => intro _ _; cases d <;> simp [Lib.compareBytes]
    | cons x r ih =>
      cases b with
      | nil => intro h; simp [Lib.compareBytes] at h
      | cons y t =>
        cases d with
        | nil => intro _ h; simp [Lib.compareBytes] at h
        | cons z u =>
          simp only [Lib.compareBytes, UInt8.lt_iff_toNat_lt]
          intro h1 h2
          have := ih t u
          split at h1 <;> split at h2 <;> split <;> (try split at h1) <;> (try split at h2) <;> (try split) <;> first | omega | exact this h1 h2

theorem bytesLess_cmp (a b : List UInt8) : Op.bytesLess a b = decide (Lib.compareBytes a b < 0) := by
  induction a generalizing b with
  | nil => cases b <;> simp [Op.bytesLess, Lib.compareBytes]
  | cons x r ih => cases b with
    | nil => simp [Op.bytesLess, Lib.compareBytes]
    | cons y t =>
      simp only [Op.bytesLess, Lib.compareBytes]
      by_cases h1 : x < y
      · simp [h1]
      · by_cases h2 : y < x
        · have : x ≠ y := by intro h; subst h; simp only [UInt8.lt_iff_toNat_lt] at h2; omega
          simp [h1, h2, this]
        · have : x = y := by
            apply UInt8.toNat_inj.1
            simp only [UInt8.lt_iff_toNat_lt] at h1 h2
            omega
          subst this
          simp [h1, ih]


def cmpP (x y : ByteArray) : Int := Lib.compareBytes x.toList y.toList

theorem lessP_cmp (x y : ByteArray) : lessP x y = decide (cmpP x y < 0) := bytesLess_cmp _ _

theorem cmpP_zero (x y : ByteArray) : cmpP x y = 0 ↔ x.toList = y.toList := cmpB_is.zero _ _

theorem lessP_trans {x y z : ByteArray} (h : lessP x y = true) (k : lessP y z = true) : lessP x z = true := by
  rw [lessP_cmp, decide_eq_true_eq] at *
  have h1 := cmpB_is.trans x.toList y.toList z.toList (by unfold cmpP at h; omega) (by unfold cmpP at k; omega)
  by_cases h0 : cmpP x z = 0
  · exfalso
    have e := (cmpP_zero x z).1 h0
    unfold cmpP at h k
    rw [e] at h
    have := cmpB_is.swap y.toList z.toList
    omega
  · unfold cmpP at *
    omega

theorem lessP_irrefl (x y : ByteArray) (h : x.toList = y.toList) : lessP x y = false := by
  rw [lessP_cmp, (cmpP_zero x y).2 h]
  rfl

theorem lessP_asymm {x y : ByteArray} (h : lessP x y = true) : lessP y x = false := by
  rw [lessP_cmp, decide_eq_true_eq] at h
  rw [lessP_cmp, decide_eq_false_iff_not]
  have := cmpB_is.swap x.toList y.toList
  unfold cmpP at *
  omega

theorem lessP_total {x y : ByteArray} (h : lessP x y = false) (hne : ¬ x.toList = y.toList) : lessP y x = true := by
  rw [lessP_cmp, decide_eq_false_iff_not] at h
  rw [lessP_cmp, decide_eq_true_eq]
  have := cmpB_is.swap x.toList y.toList
  have h0 : cmpP x y ≠ 0 := fun e => hne ((cmpP_zero x y).1 e)
  unfold cmpP at *
  omega

set_option maxRecDepth 100000 in
theorem compareString_any (x y : ByteArray) (w : World) :
    Calls Tryz.prog 98 #[.string x, .string y] w fun e w' => e = .returned (.int .i64 (cmpP x y)) ∧ w' = w := by
  have hx : cmpP x y = Lib.compareBytes x.data.toList y.data.toList := by rw [cmpP, ByteArray.toList_eq, ByteArray.toList_eq]
  rw [hx]
  go_enter Tryz.func98, Tryz.ntmps98
  go_wp2
  rw [run_callFunc_extern Tryz.func124 (by kernel_rfl) (by kernel_rfl) (by kernel_rfl) (e := Extern.BytealgCompare.compare) (by kernel_rfl), Lib.run_compareString]
  simp only [Result.andThen]
  rw [Oper.upon_value]
  go_wp2
  go_ret
  exact ⟨rfl, rfl⟩

theorem compare_any (x y : ByteArray) (w : World) :
    Calls Tryz.prog 68 #[.string x, .string y] w fun e w' => e = .returned (.int .i64 (cmpP x y)) ∧ w' = w := by
  have h := compareString_any x y
  go_enter Tryz.func68, Tryz.ntmps68
  go_wp2_with (go_at_call 98; refine (h _).mono ?_; rintro e w1 ⟨rfl, hw⟩; subst w1)
  go_ret
  exact ⟨rfl, rfl⟩

theorem findCmp_any (f : F) (p : ByteArray) (w : World) :
    Calls Tryz.prog 112 #[.agg #[.string f.path, .string f.val], .string p] w fun e w' => e = .returned (.int .i64 (cmpP f.path p)) ∧ Adds w w' := by
  have h := compare_any f.path p
  go_enter Tryz.func112, Tryz.ntmps112
  go_wp2_with (go_at_call 68; refine (h _).mono ?_; rintro e w1 ⟨rfl, hw⟩; subst w1)
  go_ret
  exact ⟨rfl, (Adds.refl _).alloc _⟩

/-- How many pairs, from the first on, lie ahead of a key. -/
def cutAt (p : ByteArray) : List F → Nat
  | [] => 0
  | f :: r => if lessP f.path p then cutAt p r + 1 else 0

theorem cutAt_eq {p : ByteArray} {l : List F} {i : Nat} (hi : i ≤ l.length) (h1 : ∀ t (ht : t < l.length), t < i → lessP l[t].path p = true) (h2 : ∀ (ht : i < l.length), lessP l[i].path p = false) : cutAt p l = i := by
  induction l generalizing i with
  | nil => simp at hi; simp [cutAt, hi]
  | cons f r ih =>
    cases i with
    | zero =>
      have := h2 (by simp)
      simp at this
      simp [cutAt, this]
    | succ i =>
      have h0 := h1 0 (by simp) (by omega)
      simp at h0
      simp only [cutAt, h0, if_true]
      rw [ih (i := i) (by simpa using hi) (fun t ht hti => by have := h1 (t + 1) (by simpa using ht) (by omega); simpa using this) (fun ht => by have := h2 (by simpa using ht); simpa using this)]

theorem cutAt_le (p : ByteArray) (l : List F) : cutAt p l ≤ l.length := by
  induction l with
  | nil => simp [cutAt]
  | cons f r ih => simp only [cutAt]; split <;> simp <;> omega

/-- The keys do not fall. -/
def Climbs (l : List F) : Prop := ∀ i j (hi : i < l.length) (hj : j < l.length), i < j → lessP l[j].path l[i].path = false

/-- Not behind, and ahead of a third. -/
theorem le_lt {x y z : ByteArray} (h : lessP y x = false) (k : lessP y z = true) : lessP x z = true := by
  by_cases e : x.toList = y.toList
  · rw [lessP, e]
    exact k
  · have h1 : lessP x y = true := lessP_total h (fun e' => e e'.symm)
    exact lessP_trans h1 k

/-- Is the key at the place where it would be? -/
def hasAt (p : ByteArray) (l : List F) : Bool := decide (∃ h : cutAt p l < l.length, l[cutAt p l].path.toList = p.toList)

set_option maxHeartbeats 2000000 in
set_option maxRecDepth 100000 in
theorem search_any (s : Value) (l : List F) (p : ByteArray) (w : World) (hl : Lst w s l) (hl6 : l.length ≤ 1000) (hr : Climbs l) :
    Calls Tryz.prog 111 #[s, .string p, .func (.func 112) #[] #[]] w fun e w' => e = .returned (.tuple #[.int .i64 (cutAt p l), .bool (hasAt p l)]) ∧ Adds w w' := by
  obtain ⟨ao, cap, rfl, hcap, hlo⟩ := hl
  go_enter Tryz.func111, Tryz.ntmps111
  go_wp2
  go_loopw [9, 10] (fun iv jv wr => ∃ i j : Nat, i ≤ j ∧ j ≤ l.length ∧ iv = .int .i64 i ∧ jv = .int .i64 j ∧ (∀ t (ht : t < l.length), t < i → lessP l[t].path p = true) ∧ (∀ t (ht : t < l.length), j ≤ t → lessP l[t].path p = false) ∧ Adds w wr) (fun iv jv _ => (intOf jv - intOf iv).toNat)
  case atStart => exact ⟨0, l.length, Nat.zero_le _, Nat.le_refl _, rfl, rfl, fun t _ h => absurd h (by omega), fun t ht h => absurd h (by omega), Adds.refl _⟩
  case round =>
    obtain ⟨i, j, hij, hjl, rfl, rfl, hlow, hhigh, os, n, rfl⟩ := hrel
    by_cases hlt : i < j
    · rcases hlo with rfl | ⟨b, off, rfl, hb, hll⟩
      · simp at hjl; omega
      have hm : (i + j) / 2 < l.length := by omega
      obtain ⟨c0, c1⟩ := hll ((i + j) / 2) hm
      have hL : Hid (lessP l[(i + j) / 2].path p = decide (cmpP l[(i + j) / 2].path p < 0)) := lessP_cmp _ _
      have hcall := findCmp_any l[(i + j) / 2] p
      have hup : Hid (lessP l[(i + j) / 2].path p = true → ∀ t (ht : t < l.length), t < (i + j) / 2 + 1 → lessP l[t].path p = true) := by
        intro h t ht htm
        by_cases e : t = (i + j) / 2
        · subst e; exact h
        · exact le_lt (hr t _ ht hm (by omega)) h
      have hdn : Hid (lessP l[(i + j) / 2].path p = false → ∀ t (ht : t < l.length), (i + j) / 2 ≤ t → lessP l[t].path p = false) := by
        intro h t ht htm
        by_cases e : t = (i + j) / 2
        · subst e; exact h
        · by_cases h' : lessP l[t].path p = true
          · rw [le_lt (hr _ t hm ht (by omega)) h'] at h
            cases h
          · simpa using h'
      generalize l[(i + j) / 2] = x at *
      by_cases hneg : cmpP x.path p < 0
      · go_wp2_with (go_at_call 112; refine (hcall _).mono ?_; rintro e w1 ⟨rfl, os1, n1, rfl⟩)
        go_roundw
        case rel =>
          refine ⟨(i + j) / 2 + 1, j, by omega, hjl, by rw [show ((i : Int) + (j : Int)) / 2 + 1 = (((i + j) / 2 + 1 : Nat) : Int) by omega], rfl, ?_, hhigh, ?_⟩
          · exact hup.out (by rw [hL.out]; exact decide_eq_true hneg)
          · repeat (first | with_reducible exact Adds.refl _ | with_reducible refine Adds.alloc ?_ _ | with_reducible refine Adds.more ?_ _ _ | with_reducible refine Adds.drew ?_ | with_reducible refine Adds.drewN ?_ _)
        case measure => simp [intOf]; omega
      · go_wp2_with (go_at_call 112; refine (hcall _).mono ?_; rintro e w1 ⟨rfl, os1, n1, rfl⟩)
        go_roundw
        case rel =>
          refine ⟨i, (i + j) / 2, by omega, by omega, rfl, by rw [show ((i : Int) + (j : Int)) / 2 = (((i + j) / 2 : Nat) : Int) by omega], hlow, ?_, ?_⟩
          · exact hdn.out (by rw [hL.out]; exact decide_eq_false (by omega))
          · repeat (first | with_reducible exact Adds.refl _ | with_reducible refine Adds.alloc ?_ _ | with_reducible refine Adds.more ?_ _ _ | with_reducible refine Adds.drew ?_ | with_reducible refine Adds.drewN ?_ _)
        case measure => simp [intOf]; omega
    · obtain rfl : i = j := by omega
      have hcut : cutAt p l = i := cutAt_eq hjl hlow (fun ht => hhigh i ht (Nat.le_refl _))
      have hA : Hid (hasAt p l = decide (∃ h : i < l.length, l[i].path.toList = p.toList)) := by
        show hasAt p l = _
        unfold hasAt
        simp only [hcut]
      have HC : Hid _ := hcut
      clear hcut hlow hhigh
      by_cases hin : i < l.length
      · rcases hlo with rfl | ⟨b, off, rfl, hb, hll⟩
        · simp at hin
        obtain ⟨c0, c1⟩ := hll i hin
        have hZ : Hid (cmpP l[i].path p = 0 ↔ l[i].path.toList = p.toList) := cmpP_zero _ _
        have hcall := findCmp_any l[i] p
        have hA' : Hid (hasAt p l = decide (l[i].path.toList = p.toList)) := by
          show hasAt p l = _
          rw [hA.out]
          simp [hin]
        generalize l[i] = x at *
        by_cases hz : cmpP x.path p = 0
        · go_wp2_with (go_at_call 112; refine (hcall _).mono ?_; rintro e w1 ⟨rfl, os1, n1, rfl⟩)
          go_ret2
          refine ⟨by rw [HC.out, hA'.out, decide_eq_true (hZ.out.1 hz)]; rfl, ?_⟩
          repeat (first | with_reducible exact Adds.refl _ | with_reducible refine Adds.alloc ?_ _ | with_reducible refine Adds.more ?_ _ _ | with_reducible refine Adds.drew ?_ | with_reducible refine Adds.drewN ?_ _)
        · have hz' : (cmpP x.path p == 0) = false := by simpa using hz
          go_wp2_with (go_at_call 112; refine (hcall _).mono ?_; rintro e w1 ⟨rfl, os1, n1, rfl⟩)
          go_ret2
          refine ⟨by rw [HC.out, hA'.out, decide_eq_false (fun h => hz (hZ.out.2 h))]; rfl, ?_⟩
          repeat (first | with_reducible exact Adds.refl _ | with_reducible refine Adds.alloc ?_ _ | with_reducible refine Adds.more ?_ _ _ | with_reducible refine Adds.drew ?_ | with_reducible refine Adds.drewN ?_ _)
      · go_wp2
        go_ret2
        refine ⟨by rw [HC.out, hA.out, decide_eq_false (fun h => hin h.1)]; rfl, ?_⟩
        repeat (first | with_reducible exact Adds.refl _ | with_reducible refine Adds.alloc ?_ _ | with_reducible refine Adds.more ?_ _ _ | with_reducible refine Adds.drew ?_ | with_reducible refine Adds.drewN ?_ _)


end Go.Proofs.YtiacnmcdfpmcfaaGreatDoor.Sh

namespace Go.Proofs.YtiacnmcdfpmcfaaGreatDoor.Sh
open Go.RowKit
attribute [local go_sem] cell?_more frozen?_more setCell_more size_more tape_more drew_more drewN_more more_drew more_drewN one_out plus_out plus_end lt_one le_p2 le_p3 le_p4 le_p5 le_p6 le_p7 le_p8 le_p9 le_p10 le_p11 le_p12 le_p13 le_p14 le_p15 le_p16 le_p17 le_p18 le_p19 le_p20 le_p21 le_p22 le_p23 le_p24 le_q0 le_q1 lt_q1 le_q2 lt_q2 le_q3 lt_q3 le_q4 lt_q4 le_q5 lt_q5 le_q6 lt_q6 le_q7 lt_q7 le_q8 lt_q8 le_q9 lt_q9 le_q10 lt_q10 le_q11 lt_q11 le_q12 lt_q12 le_q13 lt_q13 le_q14 lt_q14 le_q15 lt_q15 le_q16 lt_q16 le_q17 lt_q17 le_q18 lt_q18 le_q19 lt_q19 le_q20 lt_q20 le_q21 lt_q21 le_q22 lt_q22 le_q23 lt_q23 le_q24 lt_q24

theorem Tryz.info70 : (Tryz.prog.info? 70).map (fun i => (i.zero, i.size, i.bytes)) = some (some (.agg #[.string ⟨#[]⟩, .string ⟨#[]⟩]), 2, 32) := by kernel_rfl

def F.cells (f : F) : List Value := [.string f.path, .string f.val]

def cellsF (fs : List F) : List Value := fs.flatMap F.cells

theorem cellsF_length (fs : List F) : (cellsF fs).length = fs.length * 2 := by
  induction fs with
  | nil => rfl
  | cons f r ih =>
    simp only [cellsF, List.flatMap_cons, List.length_append, List.length_cons] at *
    rw [ih]
    simp [F.cells]
    omega

theorem cellsF_append (l t : List F) : cellsF (l ++ t) = cellsF l ++ cellsF t := by simp [cellsF]

theorem cellsF_get (fs : List F) (i : Nat) (hi : i < fs.length) (r : Nat) (hr : r < 2) : (cellsF fs)[i * 2 + r]? = fs[i].cells[r]? := by
  induction fs generalizing i with
  | nil => simp at hi
  | cons f t ih =>
    cases i with
    | zero =>
      simp only [cellsF, List.flatMap_cons, Nat.zero_mul, Nat.zero_add, List.getElem_cons_zero]
      rw [List.getElem?_append_left (by simp [F.cells]; omega)]
    | succ i =>
      have hi' : i < t.length := by simpa using hi
      simp only [cellsF, List.flatMap_cons, List.getElem_cons_succ]
      rw [List.getElem?_append_right (by simp [F.cells]; omega)]
      have := ih i hi'
      simp only [cellsF] at this
      rw [← this]
      congr 1
      simp [F.cells]
      omega

theorem cellsF_one (fs : List F) : ∀ u ∈ cellsF fs, u.oneCell' = true := by
  intro u hu
  simp only [cellsF, List.mem_flatMap] at hu
  obtain ⟨f, _, hf⟩ := hu
  simp only [F.cells, List.mem_cons, List.mem_nil_iff, or_false] at hf
  rcases hf with rfl | rfl <;> rfl

theorem Lies.cells {w : World} {b off : Nat} {fs : List F} (h : Lies w b off fs) : ∀ j u, (cellsF fs)[j]? = some u → w.cell? ((⟨b, off, none⟩ : Addr).add j) = some u := by
  intro j u hu
  have hj : j < fs.length * 2 := by
    by_cases hj : j < fs.length * 2
    · exact hj
    · rw [List.getElem?_eq_none (by rw [cellsF_length]; omega)] at hu
      cases hu
  have hi : j / 2 < fs.length := by omega
  have he : j / 2 * 2 + j % 2 = j := by omega
  rw [← he, cellsF_get fs (j / 2) hi (j % 2) (by omega)] at hu
  obtain ⟨h0, h1⟩ := h (j / 2) hi
  have ha : ((⟨b, off, none⟩ : Addr).add j) = ⟨b, off + j / 2 * 2 + j % 2, none⟩ := by
    rw [Addr.add_lit]
    congr 1
    omega
  rw [ha]
  have h6 : j % 2 = 0 ∨ j % 2 = 1 := by omega
  rcases h6 with h | h <;> rw [h] at hu ⊢ <;> simp [F.cells] at hu <;> subst hu <;> assumption

theorem lies_of {w : World} {b off : Nat} {fs : List F} (h : ∀ j u, (cellsF fs)[j]? = some u → w.cell? ((⟨b, off, none⟩ : Addr).add j) = some u) : Lies w b off fs := by
  intro i hi
  have hg := fun (r : Nat) (hr : r < 2) u (hu : fs[i].cells[r]? = some u) => h (i * 2 + r) u (by rw [cellsF_get fs i hi r hr]; exact hu)
  simp only [Addr.add_lit] at hg
  refine ⟨?_, ?_⟩
  · simpa using hg 0 (by omega) _ rfl
  · simpa [Nat.add_assoc] using hg 1 (by omega) _ rfl

theorem new_block2 (w : World) (o : Obj) : (w.alloc o).heap[w.heap.size]? = some o := by
  show (w.heap.push o)[w.heap.size]? = _
  simp

/-- The slice v has the pairs fs, in a block from B on that the call owns; below B nothing has turned since W0. -/
def Own (B : Nat) (v : Value) (fs : List F) (W0 w : World) : Prop := w.ownsRow B 70 2 v fs.length (cellsF fs) ∧ Below B W0 w ∧ B ≤ w.heap.size

theorem Own.nil (B : Nat) (w : World) (hB : B ≤ w.heap.size) : Own B (.slice none 0 0) [] w w := ⟨World.ownsRow_nil _ _ _ _, Below.refl _ _, hB⟩

theorem Own.below {B : Nat} {v : Value} {fs : List F} {W0 w w' : World} (h : Own B v fs W0 w) (hb : Below w.heap.size w w') : Own B v fs W0 w' := by
  have hg : w.grownBy w' none := ⟨hb.os, hb.tape, hb.output, hb.size, fun k hk _ => hb.block k hk⟩
  refine ⟨h.1.kept hg ?_, h.2.1.trans (hb.mono h.2.2), Nat.le_trans h.2.2 hb.size⟩
  cases v.ownBlock with
  | none => exact .inl rfl
  | some k => exact .inr (by simp)

theorem Own.adds {B : Nat} {v : Value} {fs : List F} {W0 w w' : World} (h : Own B v fs W0 w) (hb : Adds w w') : Own B v fs W0 w' := h.below hb.below
theorem Own.alloc {B : Nat} {v : Value} {fs : List F} {W0 w : World} (h : Own B v fs W0 w) (o : Obj) : Own B v fs W0 (w.alloc o) := h.adds ((Adds.refl _).alloc o)
theorem Own.drewN {B : Nat} {v : Value} {fs : List F} {W0 w : World} (h : Own B v fs W0 w) (n : Nat) : Own B v fs W0 (w.drewN n) := h.adds ((Adds.refl _).drewN n)

theorem Own.lst {B : Nat} {v : Value} {fs : List F} {W0 w : World} (h : Own B v fs W0 w) : Lst w v fs := by
  have hc := fun g => h.1.cells (g := g)
  have hlt := h.1.lt
  rcases h.1.2 with ⟨rfl, hn⟩ | ⟨g, cap, cur, rfl, hb, hg, hnc, hcm, hcs, htk⟩
  · have : fs = [] := List.eq_nil_of_length_eq_zero hn
    subst this
    exact ⟨none, 0, rfl, Nat.le_refl _, .inl rfl⟩
  · exact ⟨_, cap, rfl, hnc, .inr ⟨g, 0, rfl, (hlt g rfl).2, lies_of (hc g rfl)⟩⟩

/-- append to such a row, of pairs that lie somewhere. -/
theorem own_append (w : World) (B : Nat) (ty : TypeId) (v : Value) (fs : List F) (W0 : World) (h : Own B v fs W0 w) (x : Value) (gs : List F) (hx : Lst w x gs) (hlen : fs.length + gs.length ≤ 100000) :
    ∃ v' w', (Builtin.append_ #[22, 22] ty #[v, x]).run Tryz.prog w = .ok v' w' ∧ Own B v' (fs ++ gs) W0 w' := by
  obtain ⟨i0, hi, hz0, hz1, hz2⟩ := info_parts Tryz.info70
  obtain ⟨ao, cap, rfl, hcap, hxs⟩ := hx
  have key : ∀ v' w', w'.ownsRow B 70 2 v' (fs.length + gs.length) (cellsF fs ++ cellsF gs) → w.grownBy w' v.ownBlock → Own B v' (fs ++ gs) W0 w' := by
    intro v' w' h2 h3
    refine ⟨by rw [List.length_append, cellsF_append]; exact h2, ?_, Nat.le_trans h.2.2 h3.size⟩
    refine ⟨h3.os.trans h.2.1.os, h3.tape.trans h.2.1.tape, h3.output.trans h.2.1.output, Nat.le_trans h.2.1.size h3.size, fun k hk => ?_⟩
    rw [h3.block k (Nat.lt_of_lt_of_le hk h.2.2) ?_]
    · exact h.2.1.block k hk
    · intro e
      have := h.1.lt k e.symm
      omega
  rcases hxs with rfl | ⟨b, off, rfl, hb, hl⟩
  · have hrun : (Builtin.append_ #[22, 22] ty #[v, .slice ao 0 cap]).run Tryz.prog w = .ok v w := by
      rcases h.1.2 with ⟨rfl, hn⟩ | ⟨g, cp, cur, rfl, hbb, hg, hnc, hcm, hcs, htk⟩
      · cases ao <;> simp [Builtin.append_, run_underlying Tryz.underlying22, sizeOf, typeInfo, hi, Builtin.lenOf, Builtin.firstCells, loadCells, loadCellsFrom]
      · cases ao <;> simp [Builtin.append_, run_underlying Tryz.underlying22, sizeOf, typeInfo, hi, Builtin.lenOf, Builtin.firstCells, loadCells, loadCellsFrom, hnc, storeCells]
    refine ⟨v, w, by simpa using hrun, ?_⟩
    rw [List.append_nil]
    exact h
  · obtain ⟨v', w', h1, h2, h3, _⟩ := run_append_own (P := Tryz.prog) w B 22 ty 70 i0 _ 2 32 Tryz.underlying22 hi hz0 hz1 hz2 rfl (by decide) v fs.length (cellsF fs) h.1 ⟨b, off, none⟩ gs.length cap (cellsF gs) (cellsF_length gs) hl.cells (cellsF_one gs) (by unfold maxLen; omega) (by omega) h.2.2
    exact ⟨v', w', h1, key v' w' h2 h3⟩

theorem own_app {ops : Array Oper} {rest : List Oper} {o : Oper} {a : Act} {w : World} {Q : Exit → Act → World → Prop} (hgd : o.guard = none) (s x : Operand) (ho : o.op = .call { callee := .builtin .append, args := #[s, x], argTypes := #[22, 22] })
    {B : Nat} {v : Value} {fs : List F} {W0 : World} (h : Own B v fs W0 w) (hs : a.eval s = v) {x' : Value} {gs : List F} (hg : Lst w x' gs) (hx : a.eval x = x') (hlen : fs.length + gs.length ≤ 100000)
    (hk : ∀ v' w', Own B v' (fs ++ gs) W0 w' → wpList Tryz.prog ops Q rest (a.put o.dst v') w') : wpList Tryz.prog ops Q (o :: rest) a w := by
  obtain ⟨v', w', hr, h2⟩ := own_append w B o.type v fs W0 h x' gs hg hlen
  exact Lib.wpList_append_run w hgd s x 22 22 ho v x' hs hx v' w' hr (hk v' w' h2)

theorem lst_one (f : F) (w : World) (T : TypeId) : Lst (w.alloc (.cells #[.string f.path, .string f.val] T)) (.slice (some ⟨w.heap.size, 0, none⟩) 1 1) [f] := by
  refine ⟨_, 1, rfl, Nat.le_refl _, .inr ⟨w.heap.size, 0, rfl, by simp, ?_⟩⟩
  intro j hj
  have : j = 0 := by simpa using hj
  subst this
  simp

set_option maxHeartbeats 1000000 in
set_option maxRecDepth 20000 in
theorem grow_any (n : Nat) (hn : n ≤ 100000) (w : World) :
    Calls Tryz.prog 113 #[.slice none 0 0, .int .i64 n] w fun e w' => ∃ v, e = .returned v ∧ Own w.heap.size v [] w w' := by
  obtain ⟨i0, hi, hz0, hz1, hz2⟩ := info_parts Tryz.info70
  by_cases h0 : n = 0
  · subst h0
    go_enter Tryz.func113, Tryz.ntmps113
    go_wp2
    go_ret
    exact ⟨_, rfl, Own.nil _ _ (Nat.le_refl _)⟩
  · have hold : (Builtin.firstCells i0.size 0 (.slice none 0 0)).run Tryz.prog w.drew = .ok ([] : List Value).toArray w.drew := by
      simp [Builtin.firstCells]
    have hrun := fun ty => Lib.run_append_grow_zeros (P := Tryz.prog) w 22 3 ty 70 i0 _ .i64 .i64 Tryz.underlying22 Tryz.underlying3 hi hz0 none 0 0 [] hold n (by omega) (by omega) (by omega) (by omega) (by rw [hz2]; omega) (by rw [hz2]; exact growslice_fits (by omega) (by omega))
    simp only [Nat.zero_add] at hrun
    have hge := grownCap_ge w n 0 70
    have hle := grownCap_le_maxLen w n 0 70 (by unfold maxLen; omega)
    generalize grownCap w n 0 70 = G at *
    clear hold
    have hpos : (0 : Int) < (n : Int) := by omega
    have hG : (0 : Int) ≤ (G : Int) := by omega
    go_enter Tryz.func113, Tryz.ntmps113
    go_wp2_with (at_builtin; refine Lib.wpList_append_run _ rfl _ _ _ _ rfl _ _ rfl rfl _ _ (hrun _) ?_)
    go_ret
    refine ⟨.slice (some ⟨w.heap.size, 0, none⟩) 0 G, rfl, ?_, ((Adds.refl _).alloc _).drew.below, ?_⟩
    · refine ⟨by simp [cellsF], .inr ⟨w.heap.size, G, _, rfl, Nat.le_refl _, new_block2 w _, Nat.zero_le _, hle, ?_, by simp [cellsF]⟩⟩
      simp only [Array.size_append, size_zeroCells]
      simp
      omega
    · show w.heap.size ≤ (w.alloc _).heap.size
      simp

/-- The slices vs, one behind the other in a block, and what each reads as. -/
def Pile (w : World) (blk : Nat) (vs : List (Value × List F)) : Prop := blk < w.heap.size ∧ ∀ i (h : i < vs.length), w.cell? ⟨blk, i, none⟩ = some vs[i].1 ∧ Lst w vs[i].1 vs[i].2

def joined (vs : List (Value × List F)) : List F := vs.flatMap (·.2)

theorem joined_next {vs : List (Value × List F)} {k : Nat} (hk : k < vs.length) : joined (vs.take (k + 1)) = joined (vs.take k) ++ vs[k].2 := by
  unfold joined
  rw [List.take_succ_eq_append_getElem hk, List.flatMap_append]
  simp

theorem joined_le (vs : List (Value × List F)) (k : Nat) : (joined (vs.take k)).length ≤ (joined vs).length := by
  have h : joined vs = joined (vs.take k) ++ joined (vs.drop k) := by
    unfold joined
    rw [← List.flatMap_append, List.take_append_drop]
  rw [h, List.length_append]
  omega

set_option maxHeartbeats 2000000 in
theorem concat_any (blk cap : Nat) (vs : List (Value × List F)) (w : World) (h : Pile w blk vs) (hvs : vs.length ≤ 100) (hlen : (joined vs).length ≤ 1000) :
    Calls Tryz.prog 85 #[.slice (some ⟨blk, 0, none⟩) vs.length cap] w fun e w' => ∃ v, e = .returned v ∧ Own w.heap.size v (joined vs) w w' := by
  obtain ⟨hblk, hpile⟩ := h
  go_enter Tryz.func85, Tryz.ntmps85
  go_wp2
  go_loopw [3, 11] (fun sz i wr => ∃ k : Nat, k ≤ vs.length ∧ i = .int .i64 k ∧ sz = .int .i64 ((joined (vs.take k)).length : Nat) ∧ wr = w) (fun _ i _ => vs.length - (intOf i).toNat)
  case atStart => exact ⟨0, Nat.zero_le _, rfl, rfl, rfl⟩
  case round =>
    obtain ⟨k, hk, rfl, rfl, hw⟩ := hrel
    subst wr
    by_cases hlt : k < vs.length
    · obtain ⟨hc, ao, cp, he, _, _⟩ := hpile k hlt
      rw [he] at hc
      have HJ : Hid _ := joined_next hlt
      have hle := joined_le vs k
      have hle2 := joined_le vs (k + 1)
      rw [joined_next hlt, List.length_append] at hle2
      have HS : Hid (((joined (vs.take (k + 1))).length : Nat) = (joined (vs.take k)).length + (vs[k].2).length) := by
        show _ = _
        rw [joined_next hlt, List.length_append]
      generalize (joined (vs.take k)).length = S at *
      generalize (vs[k].2).length = T at *
      go_wp2
      go_roundw
      case rel => exact ⟨k + 1, by omega, by go_num, by rw [HS.out]; go_num, trivial⟩
      case measure => simp [intOf]; omega
    · have hk' : k = vs.length := by omega
      subst hk'
      rw [List.take_length]
      have hg := grow_any (joined vs).length (by omega) w
      go_wp2_with (go_at_call 113; refine hg.mono ?_; rintro e w1 ⟨v1, rfl, hown⟩)
      clear hg
      go_loopw [6, 27] (fun nv i w2 => ∃ k : Nat, k ≤ vs.length ∧ i = .int .i64 k ∧ Own w.heap.size nv (joined (vs.take k)) w w2) (fun _ i _ => vs.length - (intOf i).toNat)
      case atStart => exact ⟨0, Nat.zero_le _, rfl, hown⟩
      case round =>
        clear hown
        obtain ⟨k, hk, rfl, hown⟩ := hrel
        by_cases hlt : k < vs.length
        · obtain ⟨hc, hl⟩ := hpile k hlt
          have hc := (hown.2.1.cell (p := ⟨blk, k, none⟩) hblk).trans hc
          have hl := hl.below hown.2.1
          have HJ : Hid _ := joined_next hlt
          have hle := joined_le vs (k + 1)
          rw [joined_next hlt, List.length_append] at hle
          generalize vs[k].1 = x at *
          generalize vs[k].2 = gs at *
          go_wp2_with (at_builtin; refine own_app rfl (.tmp 31) (.tmp 32) rfl hown rfl hl rfl (by omega) ?_; intro v2 w2 hown2)
          go_roundw
          case rel => exact ⟨k + 1, by omega, by go_num, by rw [HJ.out]; exact hown2⟩
          case measure => simp [intOf]; omega
        · have hk' : k = vs.length := by omega
          subst hk'
          rw [List.take_length] at hown
          go_wp2
          go_ret
          exact ⟨_, rfl, hown⟩

end Go.Proofs.YtiacnmcdfpmcfaaGreatDoor.Sh

namespace Go.Proofs.YtiacnmcdfpmcfaaGreatDoor.Sh
open Go.RowKit
attribute [local go_sem] cell?_more frozen?_more setCell_more size_more tape_more drew_more drewN_more more_drew more_drewN one_out plus_out plus_end lt_one le_p2 le_p3 le_p4 le_p5 le_p6 le_p7 le_p8 le_p9 le_p10 le_p11 le_p12 le_p13 le_p14 le_p15 le_p16 le_p17 le_p18 le_p19 le_p20 le_p21 le_p22 le_p23 le_p24 le_q0 le_q1 lt_q1 le_q2 lt_q2 le_q3 lt_q3 le_q4 lt_q4 le_q5 lt_q5 le_q6 lt_q6 le_q7 lt_q7 le_q8 lt_q8 le_q9 lt_q9 le_q10 lt_q10 le_q11 lt_q11 le_q12 lt_q12 le_q13 lt_q13 le_q14 lt_q14 le_q15 lt_q15 le_q16 lt_q16 le_q17 lt_q17 le_q18 lt_q18 le_q19 lt_q19 le_q20 lt_q20 le_q21 lt_q21 le_q22 lt_q22 le_q23 lt_q23 le_q24 lt_q24

theorem Lst.take {w : World} {ao : Option Addr} {cap n : Nat} {fs : List F} (h : Lst w (.slice ao fs.length cap) fs) (hn : n ≤ fs.length) : Lst w (.slice ao n cap) (fs.take n) := by
  obtain ⟨ao', cap', he, hc, h⟩ := h
  simp only [Value.slice.injEq] at he
  obtain ⟨rfl, _, rfl⟩ := he
  refine ⟨ao, cap, by simp; omega, by simp; omega, ?_⟩
  rcases h with rfl | ⟨b, off, rfl, hb, hl⟩
  · exact .inl (by simp)
  · refine .inr ⟨b, off, rfl, hb, fun j hj => ?_⟩
    have hj' : j < fs.length := by simp at hj; omega
    have := hl j hj'
    simpa using this

theorem Lst.drop {w : World} {b off cap n : Nat} {fs : List F} (hb : b < w.heap.size) (hl : Lies w b off fs) (hc : fs.length ≤ cap) (hn : n ≤ fs.length) : Lst w (.slice (some ⟨b, off + n * 2, none⟩) (fs.length - n) (cap - n)) (fs.drop n) := by
  refine ⟨_, _, by simp; rfl, by simp; omega, .inr ⟨b, off + n * 2, rfl, hb, fun j hj => ?_⟩⟩
  have hj' : n + j < fs.length := by simp at hj; omega
  have := hl (n + j) hj'
  have he : off + (n + j) * 2 = off + n * 2 + j * 2 := by omega
  rw [he] at this
  simpa using this

theorem Lst.none (w : World) : Lst w (.slice Option.none 0 0) [] := ⟨Option.none, 0, rfl, Nat.le_refl _, .inl rfl⟩

theorem Lst.empty (w : World) (ao : Option Addr) (n cap : Nat) (fs : List F) (hn : n = 0) (hf : fs = []) : Lst w (.slice ao n cap) fs := by
  subst hn hf
  exact ⟨ao, cap, rfl, Nat.zero_le _, .inl rfl⟩

theorem lst_new {f : F} {w : World} {T : TypeId} {k : Nat} (hk : k = w.heap.size) : Lst (w.alloc (.cells #[.string f.path, .string f.val] T)) (.slice (some ⟨k, 0, Option.none⟩) 1 1) [f] := by
  subst hk
  exact lst_one f w T

theorem pile1 {w : World} {a : Value} {l : List F} {T : TypeId} {k : Nat} (hk : k = w.heap.size) (ha : Lst w a l) : Pile (w.alloc (.cells #[a] T)) k [(a, l)] := by
  subst hk
  refine ⟨by simp, fun i hi => ?_⟩
  have hA : Adds w (w.alloc (.cells #[a] T)) := (Adds.refl _).alloc _
  match i, hi with
  | 0, _ => exact ⟨by simp, ha.adds hA⟩
  | (i + 1), hi => simp at hi

theorem joined1 (a : Value) (l : List F) : joined [(a, l)] = l := by simp [joined]

theorem climbs_cons {x : F} {r : List F} (h : Climbs (x :: r)) : (∀ y ∈ r, lessP y.path x.path = false) ∧ Climbs r := by
  refine ⟨fun y hy => ?_, fun i j hi hj hij => ?_⟩
  · obtain ⟨i, hi, rfl⟩ := List.mem_iff_getElem.1 hy
    have := h 0 (i + 1) (by simp) (by simpa using hi) (by omega)
    simpa using this
  · have := h (i + 1) (j + 1) (by simpa using hi) (by simpa using hj) (by omega)
    simpa using this
theorem Climbs.take {l : List F} (h : Climbs l) (n : Nat) : Climbs (l.take n) := by
  intro i j hi hj hij
  have := h i j (by simp at hi; omega) (by simp at hj; omega) hij
  simpa using this
theorem cutAt_lt {x : F} {r : List F} {p : ByteArray} (h : lessP x.path p = true) : cutAt p (x :: r) = cutAt p r + 1 := by simp [cutAt, h]
theorem cutAt_ge {x : F} {r : List F} {p : ByteArray} (h : lessP x.path p = false) : cutAt p (x :: r) = 0 := by simp [cutAt, h]
theorem later_not {x : F} {r : List F} {p : ByteArray} (h : ∀ y ∈ r, lessP y.path x.path = false) (hx : lessP x.path p = false) : ∀ y ∈ r, lessP y.path p = false := by
  intro y hy
  cases hq : lessP y.path p with
  | false => rfl
  | true => rw [le_lt (h y hy) hq] at hx; cases hx

def isIn (p t : ByteArray) (x : F) : Bool := !lessP x.path p && (decide (t.toList = []) || lessP x.path t)

/-- What Find tells, ahead of the cut by number. -/
def scanCut (p t : ByteArray) (l : List F) : List F := (if t.toList = [] then l else l.take (cutAt t l)).drop (cutAt p (if t.toList = [] then l else l.take (cutAt t l)))

theorem drop_filter {l : List F} (p : ByteArray) (h : Climbs l) : l.drop (cutAt p l) = l.filter (fun x => !lessP x.path p) := by
  induction l with
  | nil => simp
  | cons x r ih =>
    obtain ⟨h1, h2⟩ := climbs_cons h
    cases hx : lessP x.path p
    · rw [cutAt_ge hx, List.drop_zero]
      refine (List.filter_eq_self.2 fun y hy => ?_).symm
      rcases List.mem_cons.1 hy with rfl | hy
      · simp [hx]
      · rw [later_not h1 hx y hy]; rfl
    · rw [cutAt_lt hx, List.drop_succ_cons, ih h2, List.filter_cons_of_neg (by simp [hx])]

theorem take_filter {l : List F} (t : ByteArray) (h : Climbs l) : l.take (cutAt t l) = l.filter (fun x => lessP x.path t) := by
  induction l with
  | nil => simp
  | cons x r ih =>
    obtain ⟨h1, h2⟩ := climbs_cons h
    cases hx : lessP x.path t
    · rw [cutAt_ge hx, List.take_zero]
      refine (List.filter_eq_nil_iff.2 fun y hy => ?_).symm
      rcases List.mem_cons.1 hy with rfl | hy
      · simp [hx]
      · rw [later_not h1 hx y hy]; simp
    · rw [cutAt_lt hx, List.take_succ_cons, ih h2, List.filter_cons_of_pos (by exact hx)]

theorem scan_filter {l : List F} (p t : ByteArray) (h : Climbs l) : scanCut p t l = l.filter (isIn p t) := by
  unfold scanCut
  by_cases ht : t.toList = []
  · simp only [ht, if_true]
    rw [drop_filter p h]
    apply List.filter_congr
    intro x _
    simp [isIn, ht]
  · simp only [ht, if_false]
    rw [drop_filter p (h.take _), take_filter t h, List.filter_filter]
    apply List.filter_congr
    intro x _
    simp [isIn, ht]

end Go.Proofs.YtiacnmcdfpmcfaaGreatDoor.Sh
