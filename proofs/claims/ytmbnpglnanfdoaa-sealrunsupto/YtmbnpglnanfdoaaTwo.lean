/-
  Two rows that a call owns, of unlike types: one grows, the other stays.
-/
import Derived.Test.YtmbnpglnanfdoaaSlices
namespace Go.Proofs.Ytmbnpglnanfdoaa
open Go.RowKit
attribute [local go_sem] cell?_more frozen?_more setCell_more size_more tape_more drew_more drewN_more more_drew more_drewN more_more one_out plus_out plus_end lt_one le_p2 le_p3 le_p4 le_p5 le_p6 le_p7 le_p8 le_p9 le_p10 le_p11 le_p12 le_p13 le_p14 le_p15 le_p16 le_p17 le_p18 le_p19 le_p20 le_p21 le_p22 le_p23 le_p24 le_q0 le_q1 lt_q1 le_q2 lt_q2 le_q3 lt_q3 le_q4 lt_q4 le_q5 lt_q5 le_q6 lt_q6 le_q7 lt_q7 le_q8 lt_q8 le_q9 lt_q9 le_q10 lt_q10 le_q11 lt_q11 le_q12 lt_q12 le_q13 lt_q13 le_q14 lt_q14 le_q15 lt_q15 le_q16 lt_q16 le_q17 lt_q17 le_q18 lt_q18 le_q19 lt_q19 le_q20 lt_q20 le_q21 lt_q21 le_q22 lt_q22 le_q23 lt_q23 le_q24 lt_q24

theorem OwnV.other {B : Nat} {e e' : TypeId} {v v' : Value} {xs ys : List Value} {W0 w w' : World} (h : OwnV B e v xs W0 w) (h' : OwnV B e' v' ys W0 w) (hne : e ≠ e') (hg : w.grownBy w' v'.ownBlock) : OwnV B e v xs W0 w' := by
  refine ⟨h.1.kept hg ?_, ?_, Nat.le_trans h.2.2 hg.size⟩
  · cases hv : v.ownBlock with
    | none => exact .inl rfl
    | some k =>
      refine .inr fun he => ?_
      rcases h.1.2 with ⟨rfl, _⟩ | ⟨g, cap, cur, rfl, _, hg1, _⟩
      · cases hv
      · rcases h'.1.2 with ⟨rfl, _⟩ | ⟨g', cap', cur', rfl, _, hg2, _⟩
        · cases he
        · simp only [Value.ownBlock, Option.some.injEq] at hv he
          subst hv
          subst he
          rw [hg1] at hg2
          simp at hg2
          exact hne hg2.2
  · refine ⟨hg.os.trans h.2.1.os, hg.tape.trans h.2.1.tape, hg.output.trans h.2.1.output, Nat.le_trans h.2.1.size hg.size, fun k hk => ?_⟩
    rw [hg.block k (Nat.lt_of_lt_of_le hk h.2.2) ?_]
    · exact h.2.1.block k hk
    · intro e
      have := h'.1.lt k e.symm
      omega

theorem byt_app2 {ops : Array Oper} {rest : List Oper} {o : Oper} {a : Act} {w : World} {Q : Exit → Act → World → Prop} (hgd : o.guard = none) (s x : Operand) (ho : o.op = .call { callee := .builtin .append, args := #[s, x], argTypes := #[22, 22] })
    {B : Nat} {v : Value} {l : List UInt8} {W0 : World} (h : OwnV B 5 v (cellsB l) W0 w) (hs : a.eval s = v) {x' : Value} {m : List UInt8} (hg : Byt w x' m) (hx : a.eval x = x') (hlen : l.length + m.length ≤ 1000000)
    (hk : ∀ v' w', OwnV B 5 v' (cellsB (l ++ m)) W0 w' → w.grownBy w' v.ownBlock → wpList Try.prog ops Q rest (a.put o.dst v') w') : wpList Try.prog ops Q (o :: rest) a w := by
  obtain ⟨v', w', hr, h2, h3⟩ := ownV_append Try.underlying22 Try.info5 rfl (by decide) w B o.type v (cellsB l) W0 h x' (cellsB m) hg (cellsB_one m) (by rw [cellsB_length, cellsB_length]; exact hlen)
  exact Lib.wpList_append_run w hgd s x 22 22 ho v x' hs hx v' w' hr (hk v' w' (by rw [cellsB_append]; exact h2) h3)

def cellsI (l : List Nat) : List Value := l.map fun (n : Nat) => Value.int .i64 (n : Int)

theorem int_app {ops : Array Oper} {rest : List Oper} {o : Oper} {a : Act} {w : World} {Q : Exit → Act → World → Prop} (hgd : o.guard = none) (s x : Operand) (ho : o.op = .call { callee := .builtin .append, args := #[s, x], argTypes := #[38, 38] })
    {B : Nat} {v : Value} {l : List Nat} {W0 : World} (h : OwnV B 3 v (cellsI l) W0 w) (hs : a.eval s = v) {x' : Value} {n : Nat} (hg : LstV w x' [.int .i64 (n : Int)]) (hx : a.eval x = x') (hlen : l.length + 1 ≤ 1000000)
    (hk : ∀ v' w', OwnV B 3 v' (cellsI (l ++ [n])) W0 w' → w.grownBy w' v.ownBlock → wpList Try.prog ops Q rest (a.put o.dst v') w') : wpList Try.prog ops Q (o :: rest) a w := by
  obtain ⟨v', w', hr, h2, h3⟩ := ownV_append Try.underlying38 Try.info3 rfl (by decide) w B o.type v (cellsI l) W0 h x' [.int .i64 (n : Int)] hg (by intro u hu; simp at hu; subst hu; rfl) (by simp [cellsI]; omega)
  exact Lib.wpList_append_run w hgd s x 38 38 ho v x' hs hx v' w' hr (hk v' w' (by simpa [cellsI] using h2) h3)

/-- How long the first k records are, sealed. -/
def pre (ls : List (List UInt8)) (k : Nat) : Nat := (recs (ls.take k)).length

theorem recs_append (a b : List (List UInt8)) : recs (a ++ b) = recs a ++ recs b := by simp [recs]
theorem recs_one (b : List UInt8) : recs [b] = record b := by simp [recs]

theorem recs_next {ls : List (List UInt8)} {k : Nat} (h : k < ls.length) : recs (ls.take (k + 1)) = recs (ls.take k) ++ record ls[k] := by
  rw [List.take_succ_eq_append_getElem h, recs_append, recs_one]

theorem pre_next {ls : List (List UInt8)} {k : Nat} (h : k < ls.length) : pre ls (k + 1) = pre ls k + (ls[k].length + 9) := by
  unfold pre
  rw [recs_next h, List.length_append, record_length]

theorem whole_spec : ∀ (ls : List (List UInt8)) (T k : Nat), k ≤ ls.length → pre ls k ≤ T → (k = ls.length ∨ T < pre ls (k + 1)) → whole ls T = k
  | [], T, k, hk, _, _ => by
    have : k = 0 := by simpa using hk
    subst this
    rfl
  | b :: ls, T, 0, _, _, h => by
    rcases h with h | h
    · simp at h
    · have h1 : pre (b :: ls) (0 + 1) = b.length + 9 := by
        rw [pre_next (by simp)]
        simp [pre, recs]
      rw [h1] at h
      unfold whole
      rw [if_neg (by omega)]
  | b :: ls, T, k + 1, hk, hp, h => by
    have e : ∀ m, pre (b :: ls) (m + 1) = b.length + 9 + pre ls m := fun m => by
      show (recs (b :: ls.take m)).length = _
      simp only [recs, List.flatMap_cons, List.length_append, record_length, pre]
    rw [e] at hp
    unfold whole
    rw [if_pos (by omega), whole_spec ls (T - (b.length + 9)) k (by simpa using hk) (by omega) ?_]
    rcases h with h | h
    · exact .inl (by simpa using h)
    · rw [e] at h
      exact .inr (by omega)

/-- How long records are together. -/
def tot (ls : List (List UInt8)) : Nat := (ls.map List.length).sum

theorem tot_append (a b : List (List UInt8)) : tot (a ++ b) = tot a + tot b := by simp [tot]
theorem tot_one (b : List UInt8) : tot [b] = b.length := by simp [tot]

theorem tot_next {ls : List (List UInt8)} {k : Nat} (h : k < ls.length) : tot (ls.take (k + 1)) = tot (ls.take k) + ls[k].length := by
  rw [List.take_succ_eq_append_getElem h, tot_append, tot_one]

theorem le_tot {ls : List (List UInt8)} {b : List UInt8} (h : b ∈ ls) : b.length ≤ tot ls := by
  induction ls with
  | nil => simp at h
  | cons x ls ih =>
    rcases List.mem_cons.1 h with rfl | h
    · simp [tot]
    · have := ih h
      simp [tot] at this ⊢
      omega

theorem recs_tot (ls : List (List UInt8)) : (recs ls).length = tot ls + 9 * ls.length := by
  induction ls with
  | nil => rfl
  | cons x ls ih =>
    have e : recs (x :: ls) = record x ++ recs ls := rfl
    rw [e, List.length_append, record_length, ih]
    simp [tot]
    omega

theorem tot_take (ls : List (List UInt8)) (k : Nat) : tot (ls.take k) ≤ tot ls := by
  have h : tot ls = tot (ls.take k) + tot (ls.drop k) := by
    rw [← tot_append, List.take_append_drop]
  omega

end Go.Proofs.Ytmbnpglnanfdoaa
