/-
  Rows of subscriptions that the reference joins; its Close and Ack, by contract. The reference's Close of the last subscription; where there is none, by contract. The reference's Ack, by contract.
-/
import Derived.Test.YtpjhohmbifpogaaMrad
import Derived.Test.YtpjhohmbifpogaaMaca
import Derived.Test.YtpjhohmbifpogaaRat
namespace Go.Proofs.Ytpjhohmbifpogaa
open Go.RowKit
attribute [local go_sem] cell?_more frozen?_more setCell_more size_more tape_more drew_more drewN_more more_drew more_drewN one_out plus_out plus_end lt_one le_p2 le_p3 le_p4 le_p5 le_p6 le_p7 le_p8 le_p9 le_p10 le_p11 le_p12 le_p13 le_p14 le_p15 le_p16 le_p17 le_p18 le_p19 le_p20 le_p21 le_p22 le_p23 le_p24 le_q0 le_q1 lt_q1 le_q2 lt_q2 le_q3 lt_q3 le_q4 lt_q4 le_q5 lt_q5 le_q6 lt_q6 le_q7 lt_q7 le_q8 lt_q8 le_q9 lt_q9 le_q10 lt_q10 le_q11 lt_q11 le_q12 lt_q12 le_q13 lt_q13 le_q14 lt_q14 le_q15 lt_q15 le_q16 lt_q16 le_q17 lt_q17 le_q18 lt_q18 le_q19 lt_q19 le_q20 lt_q20 le_q21 lt_q21 le_q22 lt_q22 le_q23 lt_q23 le_q24 lt_q24

/-- The slice v has the subscriptions ss in a block from B on. -/
def RowS (B : Nat) (v : Value) (ss : List Sb) (X : World) : Prop := X.ownsRow B 43 2 v ss.length (cellsS ss)

theorem RowS.far {B : Nat} {X X' : World} {v : Value} {ss : List Sb} (h : RowS B v ss X) (hf : Far B X X') : RowS B v ss X' := row_far h hf

theorem RowS.lst {B : Nat} {X : World} {v : Value} {ss : List Sb} (h : RowS B v ss X) : LstS X v ss := by
  have hlt := World.ownsRow.lt h
  have hB : OwnS 0 v ss X X := ⟨row_lower h (Nat.zero_le _), Below.refl _ _, Nat.zero_le _⟩
  exact hB.lst

theorem RowS.emptyAt (X : World) (k : Nat) (hk : k = X.heap.size) : RowS k (.slice (some ⟨k, 0, none⟩) 0 0) [] (X.alloc (.cells #[] 43)) := by
  subst hk
  exact (OwnS.empty X).1

theorem rowS_run {X Y : World} (ty : TypeId) {B : Nat} {v : Value} {fs : List Sb} (h : RowS B v fs X) {x : Value} {gs : List Sb} (hx : LstS X x gs) (hY : Adds Y X) (hYB : Y.heap.size ≤ B) (hBX : B ≤ X.heap.size) (hlen : fs.length + gs.length ≤ 10000) :
    ∃ vo vc os d, (Builtin.append_ #[23, 23] ty #[v, x]).run Try.prog X = .ok (.slice vo (fs.length + gs.length) vc) (more Y os d) ∧ Hid (RowS B (.slice vo (fs.length + gs.length) vc) (fs ++ gs) (more Y os d) ∧ B ≤ (more Y os d).heap.size) := by
  obtain ⟨v', w', h1, h2, h3⟩ := ownS_append X B ty v fs X ⟨h, Below.refl _ _, hBX⟩ x gs hx (by omega)
  have hAY : Adds Y w' := by
    refine Adds.of ?_
    have hb := hY.below
    refine ⟨h3.os.trans hb.os, h3.tape.trans hb.tape, h3.output.trans hb.output, Nat.le_trans hb.size h3.size, fun q hq => ?_⟩
    rw [h3.block q (Nat.lt_of_lt_of_le hq hb.size) ?_]
    · exact hb.block q hq
    · intro e
      have := World.ownsRow.lt h q e.symm
      omega
  obtain ⟨os, d, rfl⟩ := hAY
  obtain ⟨vo, vc, rfl, _, _⟩ := h2.lst
  rw [List.length_append] at h1 h2
  exact ⟨vo, vc, os, d, h1, h2.1, Nat.le_trans hBX h3.size⟩

theorem rowS_first {ops : Array Oper} {rest : List Oper} {o : Oper} {a : Act} {X Y : World} {Q : Exit → Act → World → Prop} (hgd : o.guard = none) (s x : Operand) (ho : o.op = .call { callee := .builtin .append, args := #[s, x], argTypes := #[23, 23] })
    {B : Nat} {v : Value} (h : RowS B v [] X) (hs : a.eval s = v) {x' : Value} {gs : List Sb} {n : Nat} (hx : LstS X x' gs) (hn : gs.length = n) (hxe : a.eval x = x') (hY : Adds Y X) (hYB : Y.heap.size ≤ B) (hBX : B ≤ X.heap.size) (hlen : n ≤ 10000)
    (hQ : ∀ vo vc os d, Hid (RowS B (.slice vo n vc) gs (more Y os d) ∧ B ≤ (more Y os d).heap.size) → wpList Try.prog ops Q rest (a.put o.dst (.slice vo n vc)) (more Y os d)) : wpList Try.prog ops Q (o :: rest) a X := by
  subst hn
  obtain ⟨vo, vc, os, d, hr, H⟩ := rowS_run o.type h hx hY hYB hBX (by simpa using hlen)
  have H' := H.out
  simp only [List.length_nil, Nat.zero_add, List.nil_append] at hr H'
  exact Lib.wpList_append_run X hgd s x 23 23 ho v x' hs hxe _ _ hr (hQ vo vc os d H')

theorem rowS_apps {ops : Array Oper} {rest : List Oper} {o : Oper} {a : Act} {X Y : World} {Q : Exit → Act → World → Prop} (hgd : o.guard = none) (s x : Operand) (ho : o.op = .call { callee := .builtin .append, args := #[s, x], argTypes := #[23, 23] })
    {B : Nat} {v : Value} {fs : List Sb} {n m : Nat} (h : RowS B v fs X) (hn : fs.length = n) (hs : a.eval s = v) {x' : Value} {gs : List Sb} (hx : LstS X x' gs) (hm : gs.length = m) (hxe : a.eval x = x') (hY : Adds Y X) (hYB : Y.heap.size ≤ B) (hBX : B ≤ X.heap.size) (hlen : n + m ≤ 10000)
    (hQ : ∀ vo vc os d, Hid (RowS B (.slice vo (n + m) vc) (fs ++ gs) (more Y os d) ∧ B ≤ (more Y os d).heap.size) → wpList Try.prog ops Q rest (a.put o.dst (.slice vo (n + m) vc)) (more Y os d)) : wpList Try.prog ops Q (o :: rest) a X := by
  subst hn hm
  obtain ⟨vo, vc, os, d, hr, H⟩ := rowS_run o.type h hx hY hYB hBX hlen
  exact Lib.wpList_append_run X hgd s x 23 23 ho v x' hs hxe _ _ hr (hQ vo vc os d H)

theorem rowS_step1 {ops : Array Oper} {o : Oper} {a : Act} {X Y : World} {K : Act → World → Prop} {Q : Exit → Act → World → Prop} {E : Prop} (hgd : o.guard = none) (s x : Operand) (ho : o.op = .call { callee := .builtin .append, args := #[s, x], argTypes := #[23, 23] })
    {B : Nat} {v : Value} (h : RowS B v [] X) (hs : a.eval s = v) {x' : Value} {gs : List Sb} {n : Nat} (hx : LstS X x' gs) (hn : gs.length = n) (hxe : a.eval x = x') (hY : Adds Y X) (hYB : Y.heap.size ≤ B) (hBX : B ≤ X.heap.size) (hlen : n ≤ 10000)
    (hQ : ∀ vo vc os d, Hid (RowS B (.slice vo n vc) gs (more Y os d) ∧ B ≤ (more Y os d).heap.size) → K (a.put o.dst (.slice vo n vc)) (more Y os d)) : if Region.wanted o (yielded ops a.tmps) = true then Oper.wp Try.prog o a X K Q else E := by
  subst hn
  rw [if_pos (by simp [Region.wanted, hgd])]
  obtain ⟨vo, vc, os, d, hr, H⟩ := rowS_run o.type h hx hY hYB hBX (by simpa using hlen)
  have H' := H.out
  simp only [List.length_nil, Nat.zero_add, List.nil_append] at hr H'
  exact Lib.wp_append_run X s x 23 23 ho v x' hs hxe _ _ hr (hQ vo vc os d H')

theorem rowS_step2 {ops : Array Oper} {o : Oper} {a : Act} {X Y : World} {K : Act → World → Prop} {Q : Exit → Act → World → Prop} {E : Prop} (hgd : o.guard = none) (s x : Operand) (ho : o.op = .call { callee := .builtin .append, args := #[s, x], argTypes := #[23, 23] })
    {B : Nat} {v : Value} {fs : List Sb} {n m : Nat} (h : RowS B v fs X) (hn : fs.length = n) (hs : a.eval s = v) {x' : Value} {gs : List Sb} (hx : LstS X x' gs) (hm : gs.length = m) (hxe : a.eval x = x') (hY : Adds Y X) (hYB : Y.heap.size ≤ B) (hBX : B ≤ X.heap.size) (hlen : n + m ≤ 10000) (N : Nat) (hN : n + m = N)
    (hQ : ∀ vo vc os d, Hid (RowS B (.slice vo N vc) (fs ++ gs) (more Y os d) ∧ B ≤ (more Y os d).heap.size) → K (a.put o.dst (.slice vo N vc)) (more Y os d)) : if Region.wanted o (yielded ops a.tmps) = true then Oper.wp Try.prog o a X K Q else E := by
  subst hn hm hN
  rw [if_pos (by simp [Region.wanted, hgd])]
  obtain ⟨vo, vc, os, d, hr, H⟩ := rowS_run o.type h hx hY hYB hBX hlen
  exact Lib.wp_append_run X s x 23 23 ho v x' hs hxe _ _ hr (hQ vo vc os d H)

theorem LiesS.drop {w : World} {b off : Nat} {ss : List Sb} (h : LiesS w b off ss) (k : Nat) : LiesS w b (off + k * 2) (ss.drop k) := by
  intro j hj
  have hj' : k + j < ss.length := by simp at hj; omega
  obtain ⟨h0, h1⟩ := h (k + j) hj'
  have e : off + (k + j) * 2 = off + k * 2 + j * 2 := by omega
  rw [e] at h0 h1
  exact ⟨by simpa using h0, by simpa using h1⟩

theorem LiesS.take {w : World} {b off : Nat} {ss : List Sb} (h : LiesS w b off ss) (k : Nat) : LiesS w b off (ss.take k) := by
  intro j hj
  have hj' : j < ss.length := by simp at hj; omega
  obtain ⟨h0, h1⟩ := h j hj'
  exact ⟨by simpa using h0, by simpa using h1⟩

set_option maxHeartbeats 4000000 in
set_option maxRecDepth 20000 in
theorem refClose_mid (base total : Int) (s t : Value) (sb : List Sb) (name : ByteArray) (w : World) (hs : ∃ so n sc, s = .slice so n sc) (ht : LstS w t sb) (h8 : sb.length ≤ 1000) (hc : ∀ i j (hi : i < sb.length) (hj : j < sb.length), i < j → lessP sb[i].name sb[j].name = true) (at_ : Nat) (hcc : cutAt name sb = at_) (hlt : at_ + 1 < sb.length) (hn : hasAt name sb = true) :
    Calls Try.prog 24 #[.agg #[.int .i64 base, .int .i64 total, s, t], .string name] w fun e w' => (∃ uo uc, e = .returned (.tuple #[.agg #[.int .i64 base, .int .i64 total, s, .slice uo (sb.length - 1) uc], .int .i64 0]) ∧ Hid (LstS w' (.slice uo (sb.length - 1) uc) (sb.take at_ ++ sb.drop (at_ + 1)))) ∧ Adds w w' := by
  have kA := fun w' (hA : Adds w w') => refAt_any base total s t sb name w' (ht.adds hA) h8 hc
  rw [show atI name sb = (at_ : Int) by simp [atI, hn, hcc]] at kA
  obtain ⟨so, n, sc, rfl⟩ := hs
  have hnil : sb ≠ [] := by rintro rfl; simp at hlt
  obtain ⟨uo, uc, rfl, huc, hul | ⟨b, off, rfl, hb, hl⟩⟩ := ht
  · exact absurd hul hnil
  have hq0 : ¬ (at_ : Int) < 0 := by omega
  have hq1 : (at_ : Int) ≤ (uc : Int) := by omega
  have hq2 : at_ ≤ uc := by omega
  have hw1 : IntKind.i64.wrap ((at_ : Int) + 1) = (at_ : Int) + 1 := by rw [IntKind.wrap_i64]; omega
  have hq3 : (0 : Int) ≤ (at_ : Int) + 1 := by omega
  have htn : ((at_ : Int) + 1).toNat = at_ + 1 := by omega
  have hq4 : (at_ : Int) + 1 ≤ (sb.length : Int) := by omega
  have HT1 : Hid (∀ X, Adds w X → LstS X (.slice (some ⟨b, off, none⟩) at_ uc) (sb.take at_)) := fun X hA => LstS.adds ⟨_, uc, by rw [List.length_take, Nat.min_eq_left (by omega)], by rw [List.length_take]; omega, .inr ⟨b, off, rfl, hb, hl.take at_⟩⟩ hA
  have hl1 : (sb.take at_).length = at_ := by rw [List.length_take]; omega
  have HL1 : Hid ((sb.take at_).length = at_) := hl1
  have HT2 : Hid (∀ X c, Adds w X → sb.length - (at_ + 1) ≤ c → LstS X (.slice (some ⟨b, off + (at_ + 1) * 2, none⟩) (sb.length - (at_ + 1)) c) (sb.drop (at_ + 1))) := fun X c hA hc => LstS.adds ⟨_, c, by rw [List.length_drop], by rw [List.length_drop]; exact hc, .inr ⟨b, _, rfl, hb, hl.drop (at_ + 1)⟩⟩ hA
  have HL2 : Hid ((sb.drop (at_ + 1)).length = sb.length - (at_ + 1)) := by show _ = _; rw [List.length_drop]
  have hne : ¬ uc = at_ + 1 := by omega
  have hne2 : at_ + 1 ≤ uc := by omega
  clear hc hn hcc hnil hl hl1
  go_enter Try.func24, Try.ntmps24
  go_wp2_with (first
    | (go_at_call 44; refine (kA _ (by repeat (first | with_reducible exact Adds.refl _ | with_reducible refine Adds.alloc ?_ _ | with_reducible refine Adds.more ?_ _ _ | with_reducible refine Adds.drew ?_ | with_reducible refine Adds.drewN ?_ _))).mono ?_; rintro e w1 ⟨rfl, os1, n1, rfl⟩))
  go_region_law (first
    | (refine rowS_step1 (Y := ((w.alloc (Obj.cells #[.int .i64 base, .int .i64 total, .slice so n sc, .slice (some ⟨b, off, none⟩) sb.length uc] 25)).alloc (Obj.cells #[.int .i64 0, .int .i64 0, .slice none 0 0, .slice none 0 0] 25))) rfl (.tmp 13) (.tmp 17) rfl (RowS.emptyAt _ _ (by simp [go_sem])) rfl (HT1.out _ (by repeat (first | with_reducible exact Adds.refl _ | with_reducible refine Adds.alloc ?_ _ | with_reducible refine Adds.more ?_ _ _ | with_reducible refine Adds.drew ?_ | with_reducible refine Adds.drewN ?_ _))) HL1.out rfl (by repeat (first | with_reducible exact Adds.refl _ | with_reducible refine Adds.alloc ?_ _ | with_reducible refine Adds.more ?_ _ _ | with_reducible refine Adds.drew ?_ | with_reducible refine Adds.drewN ?_ _)) (by simp [go_sem] <;> omega) (by simp [go_sem] <;> omega) (by omega) ?_; rintro v2 c2 os2 d2 H2)
    | (refine rowS_step2 (Y := ((w.alloc (Obj.cells #[.int .i64 base, .int .i64 total, .slice so n sc, .slice (some ⟨b, off, none⟩) sb.length uc] 25)).alloc (Obj.cells #[.int .i64 0, .int .i64 0, .slice none 0 0, .slice none 0 0] 25))) rfl (.tmp 18) (.tmp 23) rfl H2.out.1 HL1.out rfl (HT2.out _ (uc - (at_ + 1)) (by repeat (first | with_reducible exact Adds.refl _ | with_reducible refine Adds.alloc ?_ _ | with_reducible refine Adds.more ?_ _ _ | with_reducible refine Adds.drew ?_ | with_reducible refine Adds.drewN ?_ _)) (by omega)) HL2.out rfl (by repeat (first | with_reducible exact Adds.refl _ | with_reducible refine Adds.alloc ?_ _ | with_reducible refine Adds.more ?_ _ _ | with_reducible refine Adds.drew ?_ | with_reducible refine Adds.drewN ?_ _)) (by simp [go_sem] <;> omega) H2.out.2 (by omega) (sb.length - 1) (by omega) ?_; rintro v3 c3 os3 d3 H3))
  all_goals
    go_wp2
    refine bodyPost_ret (v := .tuple #[.agg #[.int .i64 base, .int .i64 total, .slice so n sc, .slice v3 (sb.length - 1) c3], .int .i64 0]) (by simp [results, Try.results24, go_sem]) rfl ⟨⟨v3, c3, rfl, ?_⟩, (by repeat (first | with_reducible exact Adds.refl _ | with_reducible refine Adds.alloc ?_ _ | with_reducible refine Adds.more ?_ _ _ | with_reducible refine Adds.drew ?_ | with_reducible refine Adds.drewN ?_ _))⟩
    exact (RowS.far H3.out.1 (by repeat (first | with_reducible exact Far.refl _ _ | with_reducible refine Far.mores ?_ (by simp [go_sem]) _ _ _ | with_reducible refine Far.allocs ?_ (by simp [go_sem]) _ | with_reducible refine Far.low ?_ (by simp [go_sem]) (by simp [go_sem] <;> omega) _ _ | with_reducible refine Far.more ?_ _ _ | with_reducible refine Far.alloc ?_ _))).lst

end Go.Proofs.Ytpjhohmbifpogaa

namespace Go.Proofs.Ytpjhohmbifpogaa
open Go.RowKit
attribute [local go_sem] cell?_more frozen?_more setCell_more size_more tape_more drew_more drewN_more more_drew more_drewN one_out plus_out plus_end lt_one le_p2 le_p3 le_p4 le_p5 le_p6 le_p7 le_p8 le_p9 le_p10 le_p11 le_p12 le_p13 le_p14 le_p15 le_p16 le_p17 le_p18 le_p19 le_p20 le_p21 le_p22 le_p23 le_p24 le_q0 le_q1 lt_q1 le_q2 lt_q2 le_q3 lt_q3 le_q4 lt_q4 le_q5 lt_q5 le_q6 lt_q6 le_q7 lt_q7 le_q8 lt_q8 le_q9 lt_q9 le_q10 lt_q10 le_q11 lt_q11 le_q12 lt_q12 le_q13 lt_q13 le_q14 lt_q14 le_q15 lt_q15 le_q16 lt_q16 le_q17 lt_q17 le_q18 lt_q18 le_q19 lt_q19 le_q20 lt_q20 le_q21 lt_q21 le_q22 lt_q22 le_q23 lt_q23 le_q24 lt_q24

set_option maxHeartbeats 4000000 in
set_option maxRecDepth 20000 in
theorem refClose_last (base total : Int) (s t : Value) (sb : List Sb) (name : ByteArray) (w : World) (hs : ∃ so n sc, s = .slice so n sc) (ht : LstS w t sb) (h8 : sb.length ≤ 1000) (hc : ∀ i j (hi : i < sb.length) (hj : j < sb.length), i < j → lessP sb[i].name sb[j].name = true) (at_ : Nat) (hcc : cutAt name sb = at_) (hlt : at_ + 1 = sb.length) (hn : hasAt name sb = true) :
    Calls Try.prog 24 #[.agg #[.int .i64 base, .int .i64 total, s, t], .string name] w fun e w' => (∃ uo uc, e = .returned (.tuple #[.agg #[.int .i64 base, .int .i64 total, s, .slice uo (sb.length - 1) uc], .int .i64 0]) ∧ Hid (LstS w' (.slice uo (sb.length - 1) uc) (sb.take at_ ++ sb.drop (at_ + 1)))) ∧ Adds w w' := by
  have kA := fun w' (hA : Adds w w') => refAt_any base total s t sb name w' (ht.adds hA) h8 hc
  rw [show atI name sb = (at_ : Int) by simp [atI, hn, hcc]] at kA
  obtain ⟨so, n, sc, rfl⟩ := hs
  have hnil : sb ≠ [] := by rintro rfl; simp at hlt
  obtain ⟨uo, uc, rfl, huc, hul | ⟨b, off, rfl, hb, hl⟩⟩ := ht
  · exact absurd hul hnil
  have hq0 : ¬ (at_ : Int) < 0 := by omega
  have hq1 : (at_ : Int) ≤ (uc : Int) := by omega
  have hq2 : at_ ≤ uc := by omega
  have hw1 : IntKind.i64.wrap ((at_ : Int) + 1) = (at_ : Int) + 1 := by rw [IntKind.wrap_i64]; omega
  have hq3 : (0 : Int) ≤ (at_ : Int) + 1 := by omega
  have htn : ((at_ : Int) + 1).toNat = at_ + 1 := by omega
  have hq4 : (at_ : Int) + 1 ≤ (sb.length : Int) := by omega
  have HT1 : Hid (∀ X, Adds w X → LstS X (.slice (some ⟨b, off, none⟩) at_ uc) (sb.take at_)) := fun X hA => LstS.adds ⟨_, uc, by rw [List.length_take, Nat.min_eq_left (by omega)], by rw [List.length_take]; omega, .inr ⟨b, off, rfl, hb, hl.take at_⟩⟩ hA
  have hl1 : (sb.take at_).length = at_ := by rw [List.length_take]; omega
  have HL1 : Hid ((sb.take at_).length = at_) := hl1
  have HT2 : Hid (∀ X a c, LstS X (.slice a 0 c) (sb.drop (at_ + 1))) := fun X a c => ⟨_, c, by rw [List.length_drop, ← hlt, Nat.sub_self], by rw [List.length_drop, ← hlt]; omega, .inl (List.drop_of_length_le (by omega))⟩
  have HL2 : Hid ((sb.drop (at_ + 1)).length = 0) := by show _ = _; rw [List.length_drop]; omega
  have hne2 : at_ + 1 ≤ uc := by omega
  clear hc hn hcc hnil hl hl1
  generalize sb.length = N at *
  subst hlt
  by_cases hcap : uc = at_ + 1
  · subst hcap
    have hq6 : (at_ : Int) ≤ (at_ : Int) + 1 := by omega
    go_enter Try.func24, Try.ntmps24
    go_wp2_with (first
      | (go_at_call 44; refine (kA _ (by repeat (first | with_reducible exact Adds.refl _ | with_reducible refine Adds.alloc ?_ _ | with_reducible refine Adds.more ?_ _ _ | with_reducible refine Adds.drew ?_ | with_reducible refine Adds.drewN ?_ _))).mono ?_; rintro e w1 ⟨rfl, os1, n1, rfl⟩))
    go_region_law (first
      | (refine rowS_step1 (Y := ((w.alloc (Obj.cells #[.int .i64 base, .int .i64 total, .slice so n sc, .slice (some ⟨b, off, none⟩) (at_ + 1) (at_ + 1)] 25)).alloc (Obj.cells #[.int .i64 0, .int .i64 0, .slice none 0 0, .slice none 0 0] 25))) rfl (.tmp 13) (.tmp 17) rfl (RowS.emptyAt _ _ (by simp [go_sem])) rfl (HT1.out _ (by repeat (first | with_reducible exact Adds.refl _ | with_reducible refine Adds.alloc ?_ _ | with_reducible refine Adds.more ?_ _ _ | with_reducible refine Adds.drew ?_ | with_reducible refine Adds.drewN ?_ _))) HL1.out rfl (by repeat (first | with_reducible exact Adds.refl _ | with_reducible refine Adds.alloc ?_ _ | with_reducible refine Adds.more ?_ _ _ | with_reducible refine Adds.drew ?_ | with_reducible refine Adds.drewN ?_ _)) (by simp [go_sem] <;> omega) (by simp [go_sem] <;> omega) (by omega) ?_; rintro v2 c2 os2 d2 H2)
      | (refine rowS_step2 (Y := ((w.alloc (Obj.cells #[.int .i64 base, .int .i64 total, .slice so n sc, .slice (some ⟨b, off, none⟩) (at_ + 1) (at_ + 1)] 25)).alloc (Obj.cells #[.int .i64 0, .int .i64 0, .slice none 0 0, .slice none 0 0] 25))) rfl (.tmp 18) (.tmp 23) rfl H2.out.1 HL1.out rfl (HT2.out _ _ _) HL2.out rfl (by repeat (first | with_reducible exact Adds.refl _ | with_reducible refine Adds.alloc ?_ _ | with_reducible refine Adds.more ?_ _ _ | with_reducible refine Adds.drew ?_ | with_reducible refine Adds.drewN ?_ _)) (by simp [go_sem] <;> omega) H2.out.2 (by omega) at_ (by omega) ?_; rintro v3 c3 os3 d3 H3))
    all_goals
      go_wp2
      refine bodyPost_ret (v := .tuple #[.agg #[.int .i64 base, .int .i64 total, .slice so n sc, .slice v3 at_ c3], .int .i64 0]) (by simp [results, Try.results24, go_sem]) rfl ⟨⟨v3, c3, rfl, ?_⟩, (by repeat (first | with_reducible exact Adds.refl _ | with_reducible refine Adds.alloc ?_ _ | with_reducible refine Adds.more ?_ _ _ | with_reducible refine Adds.drew ?_ | with_reducible refine Adds.drewN ?_ _))⟩
      exact (RowS.far H3.out.1 (by repeat (first | with_reducible exact Far.refl _ _ | with_reducible refine Far.mores ?_ (by simp [go_sem]) _ _ _ | with_reducible refine Far.allocs ?_ (by simp [go_sem]) _ | with_reducible refine Far.low ?_ (by simp [go_sem]) (by simp [go_sem] <;> omega) _ _ | with_reducible refine Far.more ?_ _ _ | with_reducible refine Far.alloc ?_ _))).lst
  · have hcap2 : ¬ at_ + 1 = uc := by omega
    go_enter Try.func24, Try.ntmps24
    go_wp2_with (first
      | (go_at_call 44; refine (kA _ (by repeat (first | with_reducible exact Adds.refl _ | with_reducible refine Adds.alloc ?_ _ | with_reducible refine Adds.more ?_ _ _ | with_reducible refine Adds.drew ?_ | with_reducible refine Adds.drewN ?_ _))).mono ?_; rintro e w1 ⟨rfl, os1, n1, rfl⟩))
    go_region_law (first
      | (refine rowS_step1 (Y := ((w.alloc (Obj.cells #[.int .i64 base, .int .i64 total, .slice so n sc, .slice (some ⟨b, off, none⟩) (at_ + 1) uc] 25)).alloc (Obj.cells #[.int .i64 0, .int .i64 0, .slice none 0 0, .slice none 0 0] 25))) rfl (.tmp 13) (.tmp 17) rfl (RowS.emptyAt _ _ (by simp [go_sem])) rfl (HT1.out _ (by repeat (first | with_reducible exact Adds.refl _ | with_reducible refine Adds.alloc ?_ _ | with_reducible refine Adds.more ?_ _ _ | with_reducible refine Adds.drew ?_ | with_reducible refine Adds.drewN ?_ _))) HL1.out rfl (by repeat (first | with_reducible exact Adds.refl _ | with_reducible refine Adds.alloc ?_ _ | with_reducible refine Adds.more ?_ _ _ | with_reducible refine Adds.drew ?_ | with_reducible refine Adds.drewN ?_ _)) (by simp [go_sem] <;> omega) (by simp [go_sem] <;> omega) (by omega) ?_; rintro v2 c2 os2 d2 H2)
      | (refine rowS_step2 (Y := ((w.alloc (Obj.cells #[.int .i64 base, .int .i64 total, .slice so n sc, .slice (some ⟨b, off, none⟩) (at_ + 1) uc] 25)).alloc (Obj.cells #[.int .i64 0, .int .i64 0, .slice none 0 0, .slice none 0 0] 25))) rfl (.tmp 18) (.tmp 23) rfl H2.out.1 HL1.out rfl (HT2.out _ _ _) HL2.out rfl (by repeat (first | with_reducible exact Adds.refl _ | with_reducible refine Adds.alloc ?_ _ | with_reducible refine Adds.more ?_ _ _ | with_reducible refine Adds.drew ?_ | with_reducible refine Adds.drewN ?_ _)) (by simp [go_sem] <;> omega) H2.out.2 (by omega) at_ (by omega) ?_; rintro v3 c3 os3 d3 H3))
    all_goals
      go_wp2
      refine bodyPost_ret (v := .tuple #[.agg #[.int .i64 base, .int .i64 total, .slice so n sc, .slice v3 at_ c3], .int .i64 0]) (by simp [results, Try.results24, go_sem]) rfl ⟨⟨v3, c3, rfl, ?_⟩, (by repeat (first | with_reducible exact Adds.refl _ | with_reducible refine Adds.alloc ?_ _ | with_reducible refine Adds.more ?_ _ _ | with_reducible refine Adds.drew ?_ | with_reducible refine Adds.drewN ?_ _))⟩
      exact (RowS.far H3.out.1 (by repeat (first | with_reducible exact Far.refl _ _ | with_reducible refine Far.mores ?_ (by simp [go_sem]) _ _ _ | with_reducible refine Far.allocs ?_ (by simp [go_sem]) _ | with_reducible refine Far.low ?_ (by simp [go_sem]) (by simp [go_sem] <;> omega) _ _ | with_reducible refine Far.more ?_ _ _ | with_reducible refine Far.alloc ?_ _))).lst

set_option maxHeartbeats 2000000 in
set_option maxRecDepth 20000 in
theorem refClose_none (base total : Int) (s t : Value) (sb : List Sb) (name : ByteArray) (w : World) (hs : ∃ so n sc, s = .slice so n sc) (ht : LstS w t sb) (h8 : sb.length ≤ 1000) (hc : ∀ i j (hi : i < sb.length) (hj : j < sb.length), i < j → lessP sb[i].name sb[j].name = true) (hn : hasAt name sb = false) :
    Calls Try.prog 24 #[.agg #[.int .i64 base, .int .i64 total, s, t], .string name] w fun e w' => e = .returned (.tuple #[.agg #[.int .i64 base, .int .i64 total, s, t], .int .i64 4]) ∧ Adds w w' := by
  have kA := fun w' (hA : Adds w w') => refAt_any base total s t sb name w' (ht.adds hA) h8 hc
  rw [show atI name sb = -1 by simp [atI, hn]] at kA
  obtain ⟨so, n, sc, rfl⟩ := hs
  obtain ⟨uo, uc, rfl, _, _⟩ := ht
  clear hc hn
  go_enter Try.func24, Try.ntmps24
  go_wp2_with (first
    | (go_at_call 44; refine (kA _ (by repeat (first | with_reducible exact Adds.refl _ | with_reducible refine Adds.alloc ?_ _ | with_reducible refine Adds.more ?_ _ _ | with_reducible refine Adds.drew ?_ | with_reducible refine Adds.drewN ?_ _))).mono ?_; rintro e w1 ⟨rfl, os1, n1, rfl⟩))
  exact bodyPost_ret (v := .tuple #[.agg #[.int .i64 base, .int .i64 total, .slice so n sc, .slice uo sb.length uc], .int .i64 4]) (by simp [results, Try.results24, go_sem]) rfl ⟨rfl, (by repeat (first | with_reducible exact Adds.refl _ | with_reducible refine Adds.alloc ?_ _ | with_reducible refine Adds.more ?_ _ _ | with_reducible refine Adds.drew ?_ | with_reducible refine Adds.drewN ?_ _))⟩

end Go.Proofs.Ytpjhohmbifpogaa

namespace Go.Proofs.Ytpjhohmbifpogaa
open Go.RowKit
attribute [local go_sem] cell?_more frozen?_more setCell_more size_more tape_more drew_more drewN_more more_drew more_drewN one_out plus_out plus_end lt_one le_p2 le_p3 le_p4 le_p5 le_p6 le_p7 le_p8 le_p9 le_p10 le_p11 le_p12 le_p13 le_p14 le_p15 le_p16 le_p17 le_p18 le_p19 le_p20 le_p21 le_p22 le_p23 le_p24 le_q0 le_q1 lt_q1 le_q2 lt_q2 le_q3 lt_q3 le_q4 lt_q4 le_q5 lt_q5 le_q6 lt_q6 le_q7 lt_q7 le_q8 lt_q8 le_q9 lt_q9 le_q10 lt_q10 le_q11 lt_q11 le_q12 lt_q12 le_q13 lt_q13 le_q14 lt_q14 le_q15 lt_q15 le_q16 lt_q16 le_q17 lt_q17 le_q18 lt_q18 le_q19 lt_q19 le_q20 lt_q20 le_q21 lt_q21 le_q22 lt_q22 le_q23 lt_q23 le_q24 lt_q24

theorem row_store {X : World} {os2 : Array Obj} {n2 B : Nat} {u : Option Addr} {n uc : Nat} {ss : List Sb} (hS : RowS B (.slice u n uc) ss (more X os2 n2)) (hn : ss.length = n) (hB : B ≤ (more X os2 n2).heap.size) (hXB : X.heap.size ≤ B) (i : Nat) (hi : i < ss.length) (p : Int) :
    ∃ gb os4, u = some ⟨gb, 0, none⟩ ∧ X.heap.size ≤ gb ∧ gb < X.heap.size + os2.size ∧ (more X os2 n2).cell? ⟨gb, i * 2 + 1, none⟩ = some (.int .i64 ss[i].pos) ∧ (more X os2 n2).frozen? ⟨gb, i * 2 + 1, none⟩ = false ∧ (more X os2 n2).setCell ⟨gb, i * 2 + 1, none⟩ (.int .i64 p) = more X os4 n2 ∧ os4.size = os2.size ∧
      Hid (RowS B (.slice u n uc) (ss.set i ⟨ss[i].name, p⟩) (more X os4 n2)) := by
  have hO : OwnH B (.slice none 0 0) [] (more X os2 n2) (more X os2 n2) := ⟨World.ownsRow_nil _ _ _ _, Below.refl _ _, hB, fun r h => by cases h⟩
  obtain ⟨gb, os4, h1, h2, h3, h4, h5, h6, h7, h8⟩ := own_store hO ⟨by subst hn; exact hS, Below.refl _ _, hB⟩ hn hXB i hi p
  exact ⟨gb, os4, h1, h2, h3, h4, h5, h6, h7, h8.out.2.1⟩

set_option maxHeartbeats 2000000 in
set_option maxRecDepth 20000 in
theorem refAck_none (base total pos : Int) (s t : Value) (sb : List Sb) (name : ByteArray) (w : World) (hs : ∃ so n sc, s = .slice so n sc) (ht : LstS w t sb) (h8 : sb.length ≤ 1000) (hc : ∀ i j (hi : i < sb.length) (hj : j < sb.length), i < j → lessP sb[i].name sb[j].name = true) (hn : hasAt name sb = false) :
    Calls Try.prog 23 #[.agg #[.int .i64 base, .int .i64 total, s, t], .string name, .int .i64 pos] w fun e w' => e = .returned (.tuple #[.agg #[.int .i64 base, .int .i64 total, s, t], .int .i64 4]) ∧ Adds w w' := by
  have kA := fun w' (hA : Adds w w') => refAt_any base total s t sb name w' (ht.adds hA) h8 hc
  rw [show atI name sb = -1 by simp [atI, hn]] at kA
  obtain ⟨so, n, sc, rfl⟩ := hs
  obtain ⟨uo, uc, rfl, _, _⟩ := ht
  clear hc hn
  go_enter Try.func23, Try.ntmps23
  go_wp2_with (first
    | (go_at_call 44; refine (kA _ (by repeat (first | with_reducible exact Adds.refl _ | with_reducible refine Adds.alloc ?_ _ | with_reducible refine Adds.more ?_ _ _ | with_reducible refine Adds.drew ?_ | with_reducible refine Adds.drewN ?_ _))).mono ?_; rintro e w1 ⟨rfl, os1, n1, rfl⟩))
  exact bodyPost_ret (v := .tuple #[.agg #[.int .i64 base, .int .i64 total, .slice so n sc, .slice uo sb.length uc], .int .i64 4]) (by simp [results, Try.results23, go_sem]) rfl ⟨rfl, (by repeat (first | with_reducible exact Adds.refl _ | with_reducible refine Adds.alloc ?_ _ | with_reducible refine Adds.more ?_ _ _ | with_reducible refine Adds.drew ?_ | with_reducible refine Adds.drewN ?_ _))⟩

set_option maxHeartbeats 2000000 in
set_option maxRecDepth 20000 in
theorem refAck_err (base total pos c : Int) (s t : Value) (sb : List Sb) (name : ByteArray) (w : World) (hs : ∃ so n sc, s = .slice so n sc) (ht : LstS w t sb) (h8 : sb.length ≤ 1000) (hc : ∀ i j (hi : i < sb.length) (hj : j < sb.length), i < j → lessP sb[i].name sb[j].name = true) (at_ : Nat) (hcc : cutAt name sb = at_) (hlt : at_ < sb.length) (hn : hasAt name sb = true) (he : (total < pos ∧ c = 1) ∨ (¬ total < pos ∧ pos < sb[at_].pos ∧ c = 8)) :
    Calls Try.prog 23 #[.agg #[.int .i64 base, .int .i64 total, s, t], .string name, .int .i64 pos] w fun e w' => e = .returned (.tuple #[.agg #[.int .i64 base, .int .i64 total, s, t], .int .i64 c]) ∧ Adds w w' := by
  have kA := fun w' (hA : Adds w w') => refAt_any base total s t sb name w' (ht.adds hA) h8 hc
  rw [show atI name sb = (at_ : Int) by simp [atI, hn, hcc]] at kA
  obtain ⟨so, n, sc, rfl⟩ := hs
  have hnil : sb ≠ [] := by rintro rfl; simp at hlt
  obtain ⟨uo, uc, rfl, huc, hul | ⟨b, off, rfl, hb, hl⟩⟩ := ht
  · exact absurd hul hnil
  have hq0 : ¬ (at_ : Int) < 0 := by omega
  have hlt' : (at_ : Int) < (sb.length : Int) := by omega
  obtain ⟨c0, c1⟩ := hl at_ hlt
  clear hc hn hcc hnil hl
  generalize sb[at_].pos = pp at *
  generalize sb[at_].name = nm at *
  rcases he with ⟨h1, rfl⟩ | ⟨h1, h2, rfl⟩
  all_goals
    go_enter Try.func23, Try.ntmps23
    go_wp2_with (first
      | (go_at_call 44; refine (kA _ (by repeat (first | with_reducible exact Adds.refl _ | with_reducible refine Adds.alloc ?_ _ | with_reducible refine Adds.more ?_ _ _ | with_reducible refine Adds.drew ?_ | with_reducible refine Adds.drewN ?_ _))).mono ?_; rintro e w1 ⟨rfl, os1, n1, rfl⟩))
    try go_quiet (fail)
    try go_wp2
  · exact bodyPost_ret (v := .tuple #[.agg #[.int .i64 base, .int .i64 total, .slice so n sc, .slice (some ⟨b, off, none⟩) sb.length uc], .int .i64 1]) (by simp [results, Try.results23, go_sem]) rfl ⟨rfl, (by repeat (first | with_reducible exact Adds.refl _ | with_reducible refine Adds.alloc ?_ _ | with_reducible refine Adds.more ?_ _ _ | with_reducible refine Adds.drew ?_ | with_reducible refine Adds.drewN ?_ _))⟩
  · exact bodyPost_ret (v := .tuple #[.agg #[.int .i64 base, .int .i64 total, .slice so n sc, .slice (some ⟨b, off, none⟩) sb.length uc], .int .i64 8]) (by simp [results, Try.results23, go_sem]) rfl ⟨rfl, (by repeat (first | with_reducible exact Adds.refl _ | with_reducible refine Adds.alloc ?_ _ | with_reducible refine Adds.more ?_ _ _ | with_reducible refine Adds.drew ?_ | with_reducible refine Adds.drewN ?_ _))⟩

set_option maxHeartbeats 4000000 in
set_option maxRecDepth 20000 in
theorem refAck_ok (base total pos : Int) (s t : Value) (sb : List Sb) (name : ByteArray) (w : World) (hs : ∃ so n sc, s = .slice so n sc) (ht : LstS w t sb) (h8 : sb.length ≤ 1000) (hc : ∀ i j (hi : i < sb.length) (hj : j < sb.length), i < j → lessP sb[i].name sb[j].name = true) (at_ : Nat) (hcc : cutAt name sb = at_) (hlt : at_ < sb.length) (hn : hasAt name sb = true) (h1 : ¬ total < pos) (h2 : ¬ pos < sb[at_].pos) :
    Calls Try.prog 23 #[.agg #[.int .i64 base, .int .i64 total, s, t], .string name, .int .i64 pos] w fun e w' => (∃ uo uc, e = .returned (.tuple #[.agg #[.int .i64 base, .int .i64 total, s, .slice uo sb.length uc], .int .i64 0]) ∧ Hid (LstS w' (.slice uo sb.length uc) (sb.set at_ ⟨sb[at_].name, pos⟩))) ∧ Adds w w' := by
  have kA := fun w' (hA : Adds w w') => refAt_any base total s t sb name w' (ht.adds hA) h8 hc
  rw [show atI name sb = (at_ : Int) by simp [atI, hn, hcc]] at kA
  obtain ⟨so, n, sc, rfl⟩ := hs
  have hnil : sb ≠ [] := by rintro rfl; simp at hlt
  have ht0 := ht
  obtain ⟨uo, uc, rfl, huc, hul | ⟨b, off, rfl, hb, hl⟩⟩ := ht
  · exact absurd hul hnil
  have HT : Hid (LstS w (.slice (some ⟨b, off, none⟩) sb.length uc) sb) := ht0
  have hq0 : ¬ (at_ : Int) < 0 := by omega
  have hlt' : (at_ : Int) < (sb.length : Int) := by omega
  obtain ⟨c0, c1⟩ := hl at_ hlt
  have HSet : Hid (∀ X os2 n2 B u n uc, RowS B (.slice u n uc) sb (more X os2 n2) → sb.length = n → B ≤ (more X os2 n2).heap.size → X.heap.size ≤ B → ∃ gb os4, u = some ⟨gb, 0, none⟩ ∧ X.heap.size ≤ gb ∧ gb < X.heap.size + os2.size ∧ (more X os2 n2).cell? ⟨gb, at_ * 2 + 1, none⟩ = some (.int .i64 sb[at_].pos) ∧ (more X os2 n2).frozen? ⟨gb, at_ * 2 + 1, none⟩ = false ∧ (more X os2 n2).setCell ⟨gb, at_ * 2 + 1, none⟩ (.int .i64 pos) = more X os4 n2 ∧ os4.size = os2.size ∧ Hid (RowS B (.slice u n uc) (sb.set at_ ⟨sb[at_].name, pos⟩) (more X os4 n2))) :=
    fun X os2 n2 B u n uc hS hn hB hX => row_store hS hn hB hX at_ hlt pos
  generalize sb[at_].pos = pp at *
  generalize sb.set at_ ⟨sb[at_].name, pos⟩ = ns at *
  generalize sb[at_].name = nm at *
  clear hc hn hcc hnil hl ht0
  go_enter Try.func23, Try.ntmps23
  go_wp2_with (first
    | (go_at_call 44; refine (kA _ (by repeat (first | with_reducible exact Adds.refl _ | with_reducible refine Adds.alloc ?_ _ | with_reducible refine Adds.more ?_ _ _ | with_reducible refine Adds.drew ?_ | with_reducible refine Adds.drewN ?_ _))).mono ?_; rintro e w1 ⟨rfl, os1, n1, rfl⟩)
    | (at_builtin; refine rowS_first (Y := ((w.alloc (Obj.cells #[.int .i64 base, .int .i64 total, .slice so n sc, .slice (some ⟨b, off, none⟩) sb.length uc] 25)).alloc (Obj.cells #[.int .i64 0, .int .i64 0, .slice none 0 0, .slice none 0 0] 25))) rfl (.tmp 30) (.tmp 32) rfl (RowS.emptyAt _ _ (by simp [go_sem])) rfl (LstS.adds HT.out (by repeat (first | with_reducible exact Adds.refl _ | with_reducible refine Adds.alloc ?_ _ | with_reducible refine Adds.more ?_ _ _ | with_reducible refine Adds.drew ?_ | with_reducible refine Adds.drewN ?_ _))) rfl rfl (by repeat (first | with_reducible exact Adds.refl _ | with_reducible refine Adds.alloc ?_ _ | with_reducible refine Adds.more ?_ _ _ | with_reducible refine Adds.drew ?_ | with_reducible refine Adds.drewN ?_ _)) (by simp [go_sem] <;> omega) (by simp [go_sem] <;> omega) (by omega) ?_; rintro v2 c2 os2 d2 H2; obtain ⟨gb, os4, rfl, hg1, hg2, x1, xf, xs, hz, H4⟩ := HSet.out _ _ _ _ _ _ _ H2.out.1 rfl H2.out.2 (by simp [go_sem] <;> omega); clear hg1 hg2))
  try go_quiet (fail)
  try go_wp2
  refine bodyPost_ret (v := .tuple #[.agg #[.int .i64 base, .int .i64 total, .slice so n sc, .slice (some ⟨gb, 0, none⟩) sb.length c2], .int .i64 0]) (by simp [results, Try.results23, go_sem]) rfl ⟨⟨some ⟨gb, 0, none⟩, c2, rfl, ?_⟩, (by repeat (first | with_reducible exact Adds.refl _ | with_reducible refine Adds.alloc ?_ _ | with_reducible refine Adds.more ?_ _ _ | with_reducible refine Adds.drew ?_ | with_reducible refine Adds.drewN ?_ _))⟩
  exact (RowS.far H4.out (by repeat (first | with_reducible exact Far.refl _ _ | with_reducible refine Far.mores ?_ (by simp [go_sem]) _ _ _ | with_reducible refine Far.allocs ?_ (by simp [go_sem]) _ | with_reducible refine Far.low ?_ (by simp [go_sem]) (by simp [go_sem] <;> omega) _ _ | with_reducible refine Far.more ?_ _ _ | with_reducible refine Far.alloc ?_ _))).lst

end Go.Proofs.Ytpjhohmbifpogaa
