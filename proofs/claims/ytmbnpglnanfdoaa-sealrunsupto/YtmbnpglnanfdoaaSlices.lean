/-
  Rows of slices of bytes: elements whose bytes a row of slices cannot overwrite; append of slices.
-/
import Derived.Test.YtmbnpglnanfdoaaRecord
namespace Go.Proofs.Ytmbnpglnanfdoaa
open Go.RowKit
attribute [local go_sem] cell?_more frozen?_more setCell_more size_more tape_more drew_more drewN_more more_drew more_drewN more_more one_out plus_out plus_end lt_one le_p2 le_p3 le_p4 le_p5 le_p6 le_p7 le_p8 le_p9 le_p10 le_p11 le_p12 le_p13 le_p14 le_p15 le_p16 le_p17 le_p18 le_p19 le_p20 le_p21 le_p22 le_p23 le_p24 le_q0 le_q1 lt_q1 le_q2 lt_q2 le_q3 lt_q3 le_q4 lt_q4 le_q5 lt_q5 le_q6 lt_q6 le_q7 lt_q7 le_q8 lt_q8 le_q9 lt_q9 le_q10 lt_q10 le_q11 lt_q11 le_q12 lt_q12 le_q13 lt_q13 le_q14 lt_q14 le_q15 lt_q15 le_q16 lt_q16 le_q17 lt_q17 le_q18 lt_q18 le_q19 lt_q19 le_q20 lt_q20 le_q21 lt_q21 le_q22 lt_q22 le_q23 lt_q23 le_q24 lt_q24

/-- Slices that read as bytes, one by one. -/
def Each (B : Nat) (w : World) : List Value → List (List UInt8) → Prop
  | [], [] => True
  | x :: xs, l :: ls => BytO B w x l ∧ Each B w xs ls
  | [], _ :: _ => False
  | _ :: _, [] => False

theorem Each.imp {B B' : Nat} {w w' : World} (f : ∀ x l, BytO B w x l → BytO B' w' x l) : ∀ {xs : List Value} {ls : List (List UInt8)}, Each B w xs ls → Each B' w' xs ls
  | [], [], _ => trivial
  | _ :: _, _ :: _, h => ⟨f _ _ h.1, Each.imp f h.2⟩
  | [], _ :: _, h => h.elim
  | _ :: _, [], h => h.elim

theorem Each.length {B : Nat} {w : World} : ∀ {xs : List Value} {ls : List (List UInt8)}, Each B w xs ls → xs.length = ls.length
  | [], [], _ => rfl
  | _ :: _, _ :: _, h => by simp [Each.length h.2]
  | [], _ :: _, h => h.elim
  | _ :: _, [], h => h.elim

theorem Each.append {B : Nat} {w : World} : ∀ {xs ys : List Value} {ls ms : List (List UInt8)}, Each B w xs ls → Each B w ys ms → Each B w (xs ++ ys) (ls ++ ms)
  | [], _, [], _, _, k => k
  | _ :: _, _, _ :: _, _, h, k => ⟨h.1, Each.append h.2 k⟩
  | [], _, _ :: _, _, h, _ => h.elim
  | _ :: _, _, [], _, h, _ => h.elim

theorem Each.get {B : Nat} {w : World} : ∀ {xs : List Value} {ls : List (List UInt8)} (_ : Each B w xs ls) (i : Nat) (hi : i < xs.length) (hj : i < ls.length), BytO B w xs[i] ls[i]
  | _ :: _, _ :: _, h, 0, _, _ => h.1
  | _ :: _, _ :: _, h, i + 1, hi, hj => Each.get h.2 i (by simpa using hi) (by simpa using hj)
  | [], _, _, _, hi, _ => by simp at hi
  | _ :: _, [], h, _, _, _ => h.elim

theorem Each.take {B : Nat} {w : World} : ∀ {xs : List Value} {ls : List (List UInt8)} (_ : Each B w xs ls) (n : Nat), Each B w (xs.take n) (ls.take n)
  | _, _, _, 0 => by simp [Each]
  | [], [], _, _ + 1 => by simp [Each]
  | _ :: _, _ :: _, h, n + 1 => ⟨h.1, Each.take h.2 n⟩
  | [], _ :: _, h, _ => h.elim
  | _ :: _, [], h, _ => h.elim

/-- The slice v reads as the rows of bytes ls. -/
def Rws (w : World) (v : Value) (ls : List (List UInt8)) : Prop := ∃ xs, LstV w v xs ∧ Each w.heap.size w xs ls

theorem Rws.adds {w w' : World} {v : Value} {ls : List (List UInt8)} (h : Rws w v ls) (ha : Adds w w') : Rws w' v ls := by
  obtain ⟨xs, h1, h2⟩ := h
  exact ⟨xs, h1.adds ha, h2.imp fun x l hx => (hx.adds ha).mono ha.below.size⟩

theorem slices_one {B : Nat} {w : World} : ∀ {xs : List Value} {ls : List (List UInt8)}, Each B w xs ls → ∀ u ∈ xs, u.oneCell' = true
  | [], [], _, _, hu => by simp at hu
  | x :: xs, l :: ls, h, u, hu => by
    rcases List.mem_cons.1 hu with rfl | hu
    · obtain ⟨ao, cap, rfl, _⟩ := h.1
      rfl
    · exact slices_one h.2 u hu
  | [], _ :: _, h, _, _ => h.elim
  | _ :: _, [], h, _, _ => h.elim

theorem row_app {ops : Array Oper} {rest : List Oper} {o : Oper} {a : Act} {w : World} {Q : Exit → Act → World → Prop} (hgd : o.guard = none) (s x : Operand) (ho : o.op = .call { callee := .builtin .append, args := #[s, x], argTypes := #[33, 33] })
    {B : Nat} {v : Value} {xs : List Value} {W0 : World} (h : OwnV B 22 v xs W0 w) (hs : a.eval s = v) {x' : Value} {ys : List Value} (hg : LstV w x' ys) (hx : a.eval x = x') (hys : ∀ u ∈ ys, u.oneCell' = true) (hlen : xs.length + ys.length ≤ 1000000)
    (hk : ∀ v' w', OwnV B 22 v' (xs ++ ys) W0 w' → w.grownBy w' v.ownBlock → wpList Try.prog ops Q rest (a.put o.dst v') w') : wpList Try.prog ops Q (o :: rest) a w := by
  obtain ⟨v', w', hr, h2, h3⟩ := ownV_append Try.underlying33 Try.info22 rfl (by decide) w B o.type v xs W0 h x' ys hg hys hlen
  exact Lib.wpList_append_run w hgd s x 33 33 ho v x' hs hx v' w' hr (hk v' w' h2 h3)

theorem lst_new {w : World} {x : Value} {T : TypeId} {k : Nat} (hk : k = w.heap.size) : LstV (w.alloc (.cells #[x] T)) (.slice (some ⟨k, 0, none⟩) 1 1) [x] := by
  subst hk
  refine ⟨_, 1, rfl, Nat.le_refl _, .inr ⟨w.heap.size, 0, rfl, by simp, ?_⟩⟩
  intro j hj
  have : j = 0 := by simpa using hj
  subst this
  simp

end Go.Proofs.Ytmbnpglnanfdoaa
