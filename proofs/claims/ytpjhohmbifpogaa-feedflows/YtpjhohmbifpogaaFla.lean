/-
  Rows of texts and of bytes, as arguments; a row of changes that have no documents; a feed's box.
-/
import Derived.Test.YtpjhohmbifpogaaMpur
import Derived.Test.YtpjhohmbifpogaaRlw
import Derived.Test.YtpjhohmbifpogaaOpn
import Derived.Test.YtpjhohmbifpogaaMrad
import Derived.Test.YtpjhohmbifpogaaAdz
namespace Go.Proofs.Ytpjhohmbifpogaa
open Go.RowKit
attribute [local go_sem] cell?_more frozen?_more setCell_more size_more tape_more drew_more drewN_more more_drew more_drewN one_out plus_out plus_end lt_one le_p2 le_p3 le_p4 le_p5 le_p6 le_p7 le_p8 le_p9 le_p10 le_p11 le_p12 le_p13 le_p14 le_p15 le_p16 le_p17 le_p18 le_p19 le_p20 le_p21 le_p22 le_p23 le_p24 le_q0 le_q1 lt_q1 le_q2 lt_q2 le_q3 lt_q3 le_q4 lt_q4 le_q5 lt_q5 le_q6 lt_q6 le_q7 lt_q7 le_q8 lt_q8 le_q9 lt_q9 le_q10 lt_q10 le_q11 lt_q11 le_q12 lt_q12 le_q13 lt_q13 le_q14 lt_q14 le_q15 lt_q15 le_q16 lt_q16 le_q17 lt_q17 le_q18 lt_q18 le_q19 lt_q19 le_q20 lt_q20 le_q21 lt_q21 le_q22 lt_q22 le_q23 lt_q23 le_q24 lt_q24

open Go.ChangeShapes Go.WideShapes Go.ChangeAt Go.RowKit Go.Joins Go.ChangeMaps

/-- The slice s reads as the texts ks. -/
def LstK (w : World) (s : Value) (ks : List ByteArray) : Prop :=
  ∃ ao cap, s = .slice ao ks.length cap ∧ ks.length ≤ cap ∧ (ks = [] ∨ ∃ b off, ao = some ⟨b, off, none⟩ ∧ b < w.heap.size ∧ ∀ j (h : j < ks.length), w.cell? ⟨b, off + j, none⟩ = some (.string ks[j]))

/-- The slice s reads as the bytes us. -/
def LstU (w : World) (s : Value) (us : List Int) : Prop :=
  ∃ ao cap, s = .slice ao us.length cap ∧ us.length ≤ cap ∧ (us = [] ∨ ∃ b off, ao = some ⟨b, off, none⟩ ∧ b < w.heap.size ∧ ∀ j (h : j < us.length), w.cell? ⟨b, off + j, none⟩ = some (.int .u8 us[j]) ∧ 0 ≤ us[j] ∧ us[j] < 256)

theorem Lst.nil_any {w w' : World} {v : Value} (h : Lst w v []) : Lst w' v [] := by
  obtain ⟨ao, cap, rfl, hc, _⟩ := h
  exact ⟨ao, cap, rfl, hc, .inl rfl⟩

/-- Changes from the first on, none with a document. -/
def Run (cs : List Ch) : Prop := ∀ j (h : j < cs.length), cs[j].pos = (j : Int) + 1 ∧ isKey cs[j].key = true ∧ cs[j].doc = []

theorem Run.nil : Run [] := fun j h => absurd h (by simp)

theorem Run.add {cs : List Ch} (h : Run cs) (key : ByteArray) (has : Bool) (hk : isKey key = true) (n : Int) (hn : n = (cs.length : Int) + 1) : Run (cs ++ [⟨n, key, has, []⟩]) := by
  intro j hj
  by_cases hlt : j < cs.length
  · rw [List.getElem_append_left hlt]
    exact h j hlt
  · obtain rfl : j = cs.length := by simp at hj; omega
    rw [List.getElem_append_right (Nat.le_refl _)]
    simp [hn, hk]

theorem Run.follow {cs : List Ch} (h : Run cs) (b : Nat) (_hb : b ≤ cs.length) : Follow (cs.drop b) (b : Int) := by
  intro k hk
  have hk' : b + k < cs.length := by simp at hk; omega
  obtain ⟨h1, h2, h3⟩ := h (b + k) hk'
  unfold GoodH
  simp only [List.getElem_drop]
  rw [h3]
  refine ⟨by rw [h1]; omega, h2, may_nil, .inr rfl⟩

theorem Run.doc {cs : List Ch} (h : Run cs) (b : Nat) : ∀ d ∈ cs.drop b, d.doc.length ≤ 1000 := by
  intro d hd
  obtain ⟨j, hj, rfl⟩ := List.getElem_of_mem (List.mem_of_mem_drop hd)
  rw [(h j hj).2.2]
  simp

def Bare (rs : List Rh) : Prop := ∀ r ∈ rs, r.1.doc = []

theorem Run.bare {cs : List Ch} {rs : List Rh} (h : Run cs) (hr : rs.map (·.1) = cs) : Bare rs := by
  intro r hm
  obtain ⟨j, hj, rfl⟩ := List.getElem_of_mem hm
  have hj' : j < cs.length := by rw [← hr]; simpa using hj
  have := (h j hj').2.2
  subst hr
  simpa using this

theorem RowG.re {B : Nat} {w w' X : World} {v : Value} {rs : List Rh} (h : RowG B w v rs X) (hb : Bare rs) : RowG B w' v rs X := by
  refine ⟨h.1, fun r hr => ?_⟩
  have := h.2 r hr
  rw [hb r hr] at this ⊢
  exact this.nil_any

theorem wp_named {P : Program} {c : Code} {Q : Exit → Act → World → Prop} {a : Act} {w : World} (h : ∀ X, Hid (X = w) → c.wp P Q a X) : c.wp P Q a w := h w rfl

/-- One change in a block of its own. -/
theorem lstH_one (W : World) (T : TypeId) (b : Nat) (n : Int) (key : ByteArray) (has : Bool) (hb : b = W.heap.size) : LstH (W.alloc (.cells #[.int .i64 n, .string key, .bool has, .slice none 0 0] T)) (.slice (some ⟨b, 0, none⟩) 1 1) [⟨n, key, has, []⟩] := by
  subst hb
  refine ⟨_, 1, rfl, Nat.le_refl _, .inr ⟨W.heap.size, 0, rfl, by simp, ?_⟩⟩
  intro j hj
  obtain rfl : j = 0 := by simp at hj; omega
  exact ⟨.slice none 0 0, by simp, by simp, by simp, by simp, ⟨none, 0, rfl, Nat.le_refl _, .inl rfl⟩⟩

theorem alloc_more (X : World) (o : Obj) : X.alloc o = more X #[o] X.drawn := by
  unfold more World.alloc
  rw [Array.push_eq_append]

/-- How many are read, for the byte u. -/
theorem most_read (u : Int) (h0 : 0 ≤ u) (h1 : u < 256) : ∃ m : Nat, IntKind.i64.wrap (1 + (IntKind.i64.wrap (IntKind.u8.wrap (u.tdiv 4))).tmod 16) = (m : Int) ∧ 1 ≤ m ∧ m ≤ 16 := by
  have e1 : u.tdiv 4 = u / 4 := Int.tdiv_eq_ediv_of_nonneg h0
  have e2 : IntKind.u8.wrap (u / 4) = u / 4 := by rw [IntKind.wrap_u8]; omega
  have e3 : IntKind.i64.wrap (u / 4) = u / 4 := by rw [IntKind.wrap_i64]; omega
  have e4 : (u / 4).tmod 16 = u / 4 % 16 := Int.tmod_eq_emod_of_nonneg (by omega)
  have e5 : IntKind.i64.wrap (1 + u / 4 % 16) = 1 + u / 4 % 16 := by rw [IntKind.wrap_i64]; omega
  rw [e1, e2, e3, e4, e5]
  exact ⟨(1 + u / 4 % 16).toNat, by omega, by omega, by omega⟩

end Go.Proofs.Ytpjhohmbifpogaa
