/-
  Rows of changes that the reference joins; its Add, by contract. The reference's Add, by contract.
-/
import Derived.Test.YtpjhohmbifpogaaMadg
import Derived.Test.YtpjhohmbifpogaaRpl
import Derived.Test.YtpjhohmbifpogaaRmy
namespace Go.Proofs.Ytpjhohmbifpogaa
open Go.RowKit
attribute [local go_sem] cell?_more frozen?_more setCell_more size_more tape_more drew_more drewN_more more_drew more_drewN one_out plus_out plus_end lt_one le_p2 le_p3 le_p4 le_p5 le_p6 le_p7 le_p8 le_p9 le_p10 le_p11 le_p12 le_p13 le_p14 le_p15 le_p16 le_p17 le_p18 le_p19 le_p20 le_p21 le_p22 le_p23 le_p24 le_q0 le_q1 lt_q1 le_q2 lt_q2 le_q3 lt_q3 le_q4 lt_q4 le_q5 lt_q5 le_q6 lt_q6 le_q7 lt_q7 le_q8 lt_q8 le_q9 lt_q9 le_q10 lt_q10 le_q11 lt_q11 le_q12 lt_q12 le_q13 lt_q13 le_q14 lt_q14 le_q15 lt_q15 le_q16 lt_q16 le_q17 lt_q17 le_q18 lt_q18 le_q19 lt_q19 le_q20 lt_q20 le_q21 lt_q21 le_q22 lt_q22 le_q23 lt_q23 le_q24 lt_q24

/-- The slice v has the changes rs in a block from B on; their documents lie in w. -/
def RowG (B : Nat) (w : World) (v : Value) (rs : List Rh) (X : World) : Prop := X.ownsRow B 57 4 v rs.length (cellsH rs) ∧ ∀ r ∈ rs, Lst w r.2 r.1.doc

theorem RowG.far {B : Nat} {w X X' : World} {v : Value} {rs : List Rh} (h : RowG B w v rs X) (hf : Far B X X') : RowG B w v rs X' := ⟨row_far h.1 hf, h.2⟩

theorem RowG.lstH {B : Nat} {w X : World} {v : Value} {fs : List Rh} (h : RowG B w v fs X) (hA : Adds w X) : LstH X v (fs.map (·.1)) := by
  have hc := fun g => h.1.cells (g := g)
  have hlt := h.1.lt
  rcases h.1.2 with ⟨rfl, hn⟩ | ⟨g, cap, cur, rfl, hb, hg, hnc, hcm, hcs, htk⟩
  · have : fs = [] := List.eq_nil_of_length_eq_zero hn
    subst this
    exact ⟨none, 0, rfl, Nat.le_refl _, .inl rfl⟩
  · refine ⟨_, cap, by simp, by simpa using hnc, .inr ⟨g, 0, rfl, (hlt g rfl).2, ?_⟩⟩
    intro j hj
    have hj' : j < fs.length := by simpa using hj
    have q := fun r hr u hu => hc g rfl (j * 4 + r) u (by rw [cellsH_get fs j hj' r hr]; exact hu)
    simp only [Addr.add_lit] at q
    refine ⟨fs[j].2, ?_, ?_, ?_, ?_, ?_⟩
    · simpa using q 0 (by omega) _ rfl
    · simpa [Nat.add_assoc] using q 1 (by omega) _ rfl
    · simpa [Nat.add_assoc] using q 2 (by omega) _ rfl
    · simpa [Nat.add_assoc] using q 3 (by omega) _ rfl
    · simpa using (h.2 _ (List.getElem_mem hj')).adds hA

theorem RowG.empty (w X : World) : RowG X.heap.size w (.slice (some ⟨X.heap.size, 0, none⟩) 0 0) [] (X.alloc (.cells #[] 57)) :=
  ⟨⟨by simp [cellsH], .inr ⟨X.heap.size, 0, #[], rfl, Nat.le_refl _, new_block2 X _, Nat.zero_le _, by unfold maxLen; omega, by simp, by simp [cellsH]⟩⟩, fun r h => by cases h⟩

theorem RowG.emptyAt (w X : World) (k : Nat) (hk : k = X.heap.size) : RowG k w (.slice (some ⟨k, 0, none⟩) 0 0) [] (X.alloc (.cells #[] 57)) := by
  subst hk
  exact RowG.empty w X

/-- The values that changes lie by. -/
theorem lies_rows {w : World} {b off : Nat} {ch : List Ch} (h : LiesH w b off ch) : ∃ rs : List Rh, rs.map (·.1) = ch ∧ (∀ j u, (cellsH rs)[j]? = some u → w.cell? ((⟨b, off, none⟩ : Addr).add j) = some u) ∧ ∀ r ∈ rs, Lst w r.2 r.1.doc := by
  have hv : ∀ j : Fin ch.length, ∃ v, w.cell? ⟨b, off + j * 4, none⟩ = some (.int .i64 ch[j].pos) ∧ w.cell? ⟨b, off + j * 4 + 1, none⟩ = some (.string ch[j].key) ∧ w.cell? ⟨b, off + j * 4 + 2, none⟩ = some (.bool ch[j].has) ∧ w.cell? ⟨b, off + j * 4 + 3, none⟩ = some v ∧ Lst w v ch[j].doc := fun j => h j j.2
  obtain ⟨V, hV⟩ := Classical.axiomOfChoice hv
  have hlen : (List.ofFn fun j : Fin ch.length => ((ch[j], V j) : Rh)).length = ch.length := by simp
  refine ⟨List.ofFn fun j => (ch[j], V j), ?_, ?_, ?_⟩
  · apply List.ext_getElem
    · simp
    · intro i h1 h2
      simp
  · intro j u hu
    have hj : j < ch.length * 4 := by
      by_cases hj : j < ch.length * 4
      · exact hj
      · rw [List.getElem?_eq_none (by rw [cellsH_length, hlen]; omega)] at hu
        cases hu
    have hi : j / 4 < ch.length := by omega
    have he : j / 4 * 4 + j % 4 = j := by omega
    rw [← he, cellsH_get _ (j / 4) (by rw [hlen]; exact hi) (j % 4) (by omega)] at hu
    obtain ⟨h0, h1, h2, h3, _⟩ := hV ⟨j / 4, hi⟩
    have ha : ((⟨b, off, none⟩ : Addr).add j) = ⟨b, off + j / 4 * 4 + j % 4, none⟩ := by
      rw [Addr.add_lit]
      congr 1
      omega
    rw [ha]
    have h6 : j % 4 = 0 ∨ j % 4 = 1 ∨ j % 4 = 2 ∨ j % 4 = 3 := by omega
    rcases h6 with h | h | h | h <;> rw [h] at hu ⊢ <;> simp [Ch.cells] at hu <;> subst hu <;> assumption
  · intro r hr
    obtain ⟨j, hj, rfl⟩ := List.getElem_of_mem hr
    have hj' : j < ch.length := by rw [hlen] at hj; exact hj
    simpa using (hV ⟨j, hj'⟩).2.2.2.2

theorem rowG_run {w X Y : World} (ty : TypeId) {B : Nat} {v : Value} {fs : List Rh} (h : RowG B w v fs X) {x : Value} {gs : List Ch} (hx : LstH w x gs) (hA : Adds w X) (hY : Adds Y X) (hYB : Y.heap.size ≤ B) (hBX : B ≤ X.heap.size) (hlen : fs.length + gs.length ≤ 10000) :
    ∃ vo vc os d qs, (Builtin.append_ #[22, 22] ty #[v, x]).run Try.prog X = .ok (.slice vo (fs.length + gs.length) vc) (more Y os d) ∧ Hid (qs.map (·.1) = gs ∧ RowG B w (.slice vo (fs.length + gs.length) vc) (fs ++ qs) (more Y os d) ∧ B ≤ (more Y os d).heap.size) := by
  obtain ⟨i0, hi, hz0, hz1, hz2⟩ := info_parts Try.info57
  obtain ⟨ao, cap, rfl, hcap, hxs⟩ := hx
  have key : ∀ v' w' (qs : List Rh), qs.map (·.1) = gs → (∀ r ∈ qs, Lst w r.2 r.1.doc) → (Builtin.append_ #[22, 22] ty #[v, .slice ao gs.length cap]).run Try.prog X = .ok v' w' → w'.ownsRow B 57 4 v' (fs.length + qs.length) (cellsH fs ++ cellsH qs) → X.grownBy w' v.ownBlock → ∃ vo vc os d qs, (Builtin.append_ #[22, 22] ty #[v, .slice ao gs.length cap]).run Try.prog X = .ok (.slice vo (fs.length + gs.length) vc) (more Y os d) ∧ Hid (qs.map (·.1) = gs ∧ RowG B w (.slice vo (fs.length + gs.length) vc) (fs ++ qs) (more Y os d) ∧ B ≤ (more Y os d).heap.size) := by
    intro v' w' qs hq hqd h1 h2 h3
    have hql : qs.length = gs.length := by rw [← hq]; simp
    have hAY : Adds Y w' := by
      refine Adds.of ?_
      have hb := hY.below
      refine ⟨h3.os.trans hb.os, h3.tape.trans hb.tape, h3.output.trans hb.output, Nat.le_trans hb.size h3.size, fun q hq => ?_⟩
      rw [h3.block q (Nat.lt_of_lt_of_le hq hb.size) ?_]
      · exact hb.block q hq
      · intro e
        have := h.1.lt q e.symm
        omega
    obtain ⟨os, d, rfl⟩ := hAY
    have h4 : (more Y os d).ownsRow B 57 4 v' (fs ++ qs).length (cellsH (fs ++ qs)) := by rw [List.length_append, cellsH_append]; exact h2
    obtain ⟨vo, vc, rfl⟩ : ∃ vo vc, v' = .slice vo (fs.length + gs.length) vc := by
      rcases h2.2 with ⟨e, hn⟩ | ⟨g, cp, cur, e, _⟩
      · exact ⟨none, 0, by rw [e]; congr 1; omega⟩
      · exact ⟨some ⟨g, 0, none⟩, cp, by rw [e, hql]⟩
    refine ⟨vo, vc, os, d, qs, h1, hq, ⟨h4, fun r hr => ?_⟩, Nat.le_trans hBX h3.size⟩
    rcases List.mem_append.1 hr with hr | hr
    · exact h.2 r hr
    · exact hqd r hr
  rcases hxs with rfl | ⟨b, off, rfl, hb, hl⟩
  · have hrun : (Builtin.append_ #[22, 22] ty #[v, .slice ao 0 cap]).run Try.prog X = .ok v X := by
      rcases h.1.2 with ⟨rfl, hn⟩ | ⟨g, cp, cur, rfl, hbb, hg, hnc, hcm, hcs, htk⟩
      · cases ao <;> simp [Builtin.append_, run_underlying Try.underlying22, sizeOf, typeInfo, hi, Builtin.lenOf, Builtin.firstCells, loadCells, loadCellsFrom]
      · cases ao <;> simp [Builtin.append_, run_underlying Try.underlying22, sizeOf, typeInfo, hi, Builtin.lenOf, Builtin.firstCells, loadCells, loadCellsFrom, hnc, storeCells]
    exact key v X [] rfl (fun r h => by cases h) (by simpa using hrun) (by simpa [cellsH] using h.1) ⟨rfl, rfl, rfl, Nat.le_refl _, fun k _ _ => rfl⟩
  · obtain ⟨qs, hq, hqc, hqd⟩ := lies_rows hl
    have hql : gs.length = qs.length := by rw [← hq]; simp
    have hone : ∀ u ∈ cellsH qs, u.oneCell' = true := by
      intro u hu
      simp only [cellsH, List.mem_flatMap] at hu
      obtain ⟨r, hm, hf⟩ := hu
      simp only [Ch.cells, List.mem_cons, List.mem_nil_iff, or_false] at hf
      rcases hf with rfl | rfl | rfl | rfl
      · rfl
      · rfl
      · rfl
      · obtain ⟨ao, cap, e, _⟩ := hqd r hm
        rw [e]
        rfl
    obtain ⟨v', w', h1, h2, h3, _⟩ := run_append_own (P := Try.prog) X B 22 ty 57 i0 _ 4 56 Try.underlying22 hi hz0 hz1 hz2 rfl (by decide) v fs.length (cellsH fs) h.1 ⟨b, off, none⟩ qs.length cap (cellsH qs) (cellsH_length qs) (fun j u hu => by
      have := hqc j u hu
      rw [Addr.add_lit] at this ⊢
      exact (hA.below.cell (by exact hb)).trans this) hone (by unfold maxLen; omega) (by omega) hBX
    exact key v' w' qs hq hqd (by rw [hql]; exact h1) h2 h3

theorem rowG_first {ops : Array Oper} {rest : List Oper} {o : Oper} {a : Act} {w X Y : World} {Q : Exit → Act → World → Prop} (hgd : o.guard = none) (s x : Operand) (ho : o.op = .call { callee := .builtin .append, args := #[s, x], argTypes := #[22, 22] })
    {B : Nat} {v : Value} (h : RowG B w v [] X) (hs : a.eval s = v) {x' : Value} {gs : List Ch} (hx : LstH w x' gs) (hxe : a.eval x = x') (hA : Adds w X) (hY : Adds Y X) (hYB : Y.heap.size ≤ B) (hBX : B ≤ X.heap.size) (hlen : gs.length ≤ 10000)
    (hQ : ∀ vo vc os d qs, Hid (qs.map (·.1) = gs ∧ RowG B w (.slice vo gs.length vc) qs (more Y os d) ∧ B ≤ (more Y os d).heap.size) → wpList Try.prog ops Q rest (a.put o.dst (.slice vo gs.length vc)) (more Y os d)) : wpList Try.prog ops Q (o :: rest) a X := by
  obtain ⟨vo, vc, os, d, qs, hr, H⟩ := rowG_run o.type h hx hA hY hYB hBX (by simpa using hlen)
  have H' := H.out
  simp only [List.length_nil, Nat.zero_add, List.nil_append] at hr H'
  exact Lib.wpList_append_run X hgd s x 22 22 ho v x' hs hxe _ _ hr (hQ vo vc os d qs H')

theorem rowG_apps {ops : Array Oper} {rest : List Oper} {o : Oper} {a : Act} {w X Y : World} {Q : Exit → Act → World → Prop} (hgd : o.guard = none) (s x : Operand) (ho : o.op = .call { callee := .builtin .append, args := #[s, x], argTypes := #[22, 22] })
    {B : Nat} {v : Value} {fs : List Rh} {n : Nat} (h : RowG B w v fs X) (hn : fs.length = n) (hs : a.eval s = v) {x' : Value} {gs : List Ch} (hx : LstH w x' gs) (hxe : a.eval x = x') (hA : Adds w X) (hY : Adds Y X) (hYB : Y.heap.size ≤ B) (hBX : B ≤ X.heap.size) (hlen : n + gs.length ≤ 10000)
    (hQ : ∀ vo vc os d qs, Hid (qs.map (·.1) = gs ∧ RowG B w (.slice vo (n + gs.length) vc) (fs ++ qs) (more Y os d) ∧ B ≤ (more Y os d).heap.size) → wpList Try.prog ops Q rest (a.put o.dst (.slice vo (n + gs.length) vc)) (more Y os d)) : wpList Try.prog ops Q (o :: rest) a X := by
  subst hn
  obtain ⟨vo, vc, os, d, qs, hr, H⟩ := rowG_run o.type h hx hA hY hYB hBX hlen
  exact Lib.wpList_append_run X hgd s x 22 22 ho v x' hs hxe _ _ hr (hQ vo vc os d qs H)

theorem rows_length {qs : List Rh} {ch : List Ch} (h : qs.map (·.1) = ch) : qs.length = ch.length := by
  have := congrArg List.length h
  simpa using this

end Go.Proofs.Ytpjhohmbifpogaa

namespace Go.Proofs.Ytpjhohmbifpogaa
open Go.RowKit
attribute [local go_sem] cell?_more frozen?_more setCell_more size_more tape_more drew_more drewN_more more_drew more_drewN one_out plus_out plus_end lt_one le_p2 le_p3 le_p4 le_p5 le_p6 le_p7 le_p8 le_p9 le_p10 le_p11 le_p12 le_p13 le_p14 le_p15 le_p16 le_p17 le_p18 le_p19 le_p20 le_p21 le_p22 le_p23 le_p24 le_q0 le_q1 lt_q1 le_q2 lt_q2 le_q3 lt_q3 le_q4 lt_q4 le_q5 lt_q5 le_q6 lt_q6 le_q7 lt_q7 le_q8 lt_q8 le_q9 lt_q9 le_q10 lt_q10 le_q11 lt_q11 le_q12 lt_q12 le_q13 lt_q13 le_q14 lt_q14 le_q15 lt_q15 le_q16 lt_q16 le_q17 lt_q17 le_q18 lt_q18 le_q19 lt_q19 le_q20 lt_q20 le_q21 lt_q21 le_q22 lt_q22 le_q23 lt_q23 le_q24 lt_q24

set_option maxHeartbeats 2000000 in
set_option maxRecDepth 20000 in
theorem refAdd_long (v : Value) (f : Fd) (x : Value) (l : List Ch) (w : World) (h : LstF w v f) (hx : LstH w x l) (h0 : 0 ≤ f.total) (hT0 : f.total ≤ 2147483647) (hT : 2147483647 < f.total + l.length) :
    Calls Try.prog 15 #[v, x] w fun e w' => e = .returned (.tuple #[v, .bool false]) ∧ Adds w w' := by
  obtain ⟨s, t, rfl, hs, ht⟩ := h
  obtain ⟨xo, xc, rfl, _, _⟩ := hx
  obtain ⟨so, sc, rfl, _, _⟩ := hs
  obtain ⟨uo, uc, rfl, _, _⟩ := ht
  obtain ⟨base, total, ch, sb⟩ := f
  simp only at *
  have hw1 : IntKind.i64.wrap (2147483647 - total) = 2147483647 - total := by rw [IntKind.wrap_i64]; omega
  have hle : 2147483647 - total < (l.length : Int) := by omega
  go_enter Try.func15, Try.ntmps15
  go_wp2
  exact bodyPost_ret (v := .tuple #[.agg #[.int .i64 base, .int .i64 total, .slice so ch.length sc, .slice uo sb.length uc], .bool false]) (by simp [results, Try.results15, go_sem]) rfl ⟨rfl, (by repeat (first | with_reducible exact Adds.refl _ | with_reducible refine Adds.alloc ?_ _ | with_reducible refine Adds.more ?_ _ _ | with_reducible refine Adds.drew ?_ | with_reducible refine Adds.drewN ?_ _))⟩

set_option maxHeartbeats 4000000 in
set_option maxRecDepth 20000 in
theorem refAdd_ok (base total : Int) (s t x : Value) (ch l : List Ch) (sb : List Sb) (w : World) (hs : LstH w s ch) (ht : LstS w t sb) (hx : LstH w x l) (h0 : 0 ≤ total) (hT : total + l.length ≤ 2147483647) (hc : ch.length ≤ 400) (hl : l.length ≤ 400) (hd : ∀ d ∈ ch ++ l, d.doc.length ≤ 1000) (hM : MayF ⟨base, total + l.length, ch ++ l, sb⟩) :
    Calls Try.prog 15 #[.agg #[.int .i64 base, .int .i64 total, s, t], x] w fun e w' => (∃ vo vc uo uc, e = .returned (.tuple #[.agg #[.int .i64 base, .int .i64 (total + l.length), .slice vo (ch.length + l.length) vc, .slice uo sb.length uc], .bool true]) ∧ Hid (LstH w' (.slice vo (ch.length + l.length) vc) (ch ++ l) ∧ LstS w' (.slice uo sb.length uc) sb)) ∧ Adds w w' := by
  have hs0 := hs
  have ht0 := ht
  have hx0 := hx
  obtain ⟨xo, xc, rfl, _, _⟩ := hx
  obtain ⟨so, sc, rfl, _, _⟩ := hs
  obtain ⟨uo, uc, rfl, _, _⟩ := ht
  have hw1 : IntKind.i64.wrap (2147483647 - total) = 2147483647 - total := by rw [IntKind.wrap_i64]; omega
  have hw2 : IntKind.i64.wrap (total + l.length) = total + l.length := by rw [IntKind.wrap_i64]; omega
  have hle : ¬ 2147483647 - total < (l.length : Int) := by omega
  have kM := fun W vo vc (hA : Adds w W) (hL : LstH W (.slice vo (ch.length + l.length) vc) (ch ++ l)) => refMayF_any (.agg #[.int .i64 base, .int .i64 (total + l.length), .slice vo (ch.length + l.length) vc, .slice uo sb.length uc]) ⟨base, total + l.length, ch ++ l, sb⟩ W ⟨_, _, rfl, hL, ht0.adds hA⟩ (by simp; omega) (fun k hk => hd _ (List.getElem_mem hk))
  rw [decide_eq_true hM] at kM
  have HS : Hid (LstS w (.slice uo sb.length uc) sb) := ht0
  have HX : Hid (LstH w (.slice xo l.length xc) l) := hx0
  have HC : Hid (LstH w (.slice so ch.length sc) ch) := hs0
  have hl1 : ch.length ≤ 10000 := by omega
  have hl2 : ch.length + l.length ≤ 10000 := by omega
  clear hs0 ht0 hx0 hd hM
  go_enter Try.func15, Try.ntmps15
  go_wp2_with (first
    | (at_builtin; refine rowG_first (Y := ((w.alloc (Obj.cells #[.int .i64 base, .int .i64 total, .slice so ch.length sc, .slice uo sb.length uc] 25)).alloc (Obj.cells #[.int .i64 0, .int .i64 0, .slice none 0 0, .slice none 0 0] 25)).alloc (Obj.cells #[.int .i64 base, .int .i64 (total + l.length), .slice so ch.length sc, .slice uo sb.length uc] 25)) rfl (.tmp 21) (.tmp 23) rfl (RowG.emptyAt w _ _ (by simp [go_sem])) rfl HC.out rfl (by repeat (first | with_reducible exact Adds.refl _ | with_reducible refine Adds.alloc ?_ _ | with_reducible refine Adds.more ?_ _ _ | with_reducible refine Adds.drew ?_ | with_reducible refine Adds.drewN ?_ _)) (by repeat (first | with_reducible exact Adds.refl _ | with_reducible refine Adds.alloc ?_ _ | with_reducible refine Adds.more ?_ _ _ | with_reducible refine Adds.drew ?_ | with_reducible refine Adds.drewN ?_ _)) (by simp [go_sem]) (by simp [go_sem]) hl1 ?_; rintro v1 c1 os1 d1 q1 H1)
    | (at_builtin; refine rowG_apps (Y := ((w.alloc (Obj.cells #[.int .i64 base, .int .i64 total, .slice so ch.length sc, .slice uo sb.length uc] 25)).alloc (Obj.cells #[.int .i64 0, .int .i64 0, .slice none 0 0, .slice none 0 0] 25)).alloc (Obj.cells #[.int .i64 base, .int .i64 (total + l.length), .slice so ch.length sc, .slice uo sb.length uc] 25)) rfl (.tmp 24) (.tmp 25) rfl H1.out.2.1 (rows_length H1.out.1) rfl HX.out rfl (by repeat (first | with_reducible exact Adds.refl _ | with_reducible refine Adds.alloc ?_ _ | with_reducible refine Adds.more ?_ _ _ | with_reducible refine Adds.drew ?_ | with_reducible refine Adds.drewN ?_ _)) (by repeat (first | with_reducible exact Adds.refl _ | with_reducible refine Adds.alloc ?_ _ | with_reducible refine Adds.more ?_ _ _ | with_reducible refine Adds.drew ?_ | with_reducible refine Adds.drewN ?_ _)) (by simp [go_sem]) H1.out.2.2 hl2 ?_; rintro v2 c2 os2 d2 q2 H2)
    | (go_at_call 12; refine (kM _ _ _ (by repeat (first | with_reducible exact Adds.refl _ | with_reducible refine Adds.alloc ?_ _ | with_reducible refine Adds.more ?_ _ _ | with_reducible refine Adds.drew ?_ | with_reducible refine Adds.drewN ?_ _)) ?_).mono ?_; (have hm : (q1 ++ q2).map (·.1) = ch ++ l := by rw [List.map_append, H1.out.1, H2.out.1]); rw [← hm]; exact RowG.lstH (RowG.far H2.out.2.1 (by repeat (first | with_reducible exact Far.refl _ _ | with_reducible refine Far.mores ?_ (by simp [go_sem]) _ _ _ | with_reducible refine Far.allocs ?_ (by simp [go_sem]) _ | with_reducible refine Far.low ?_ (by simp [go_sem]) (by simp [go_sem] <;> omega) _ _ | with_reducible refine Far.more ?_ _ _ | with_reducible refine Far.alloc ?_ _))) (by repeat (first | with_reducible exact Adds.refl _ | with_reducible refine Adds.alloc ?_ _ | with_reducible refine Adds.more ?_ _ _ | with_reducible refine Adds.drew ?_ | with_reducible refine Adds.drewN ?_ _)); rintro e w3 ⟨rfl, os3, n3, rfl⟩))
  refine bodyPost_ret (v := .tuple #[.agg #[.int .i64 base, .int .i64 (total + l.length), .slice v2 (ch.length + l.length) c2, .slice uo sb.length uc], .bool true]) (by simp [results, Try.results15, go_sem]) rfl ⟨⟨v2, c2, uo, uc, rfl, ?_⟩, (by repeat (first | with_reducible exact Adds.refl _ | with_reducible refine Adds.alloc ?_ _ | with_reducible refine Adds.more ?_ _ _ | with_reducible refine Adds.drew ?_ | with_reducible refine Adds.drewN ?_ _))⟩
  have hm : (q1 ++ q2).map (·.1) = ch ++ l := by rw [List.map_append, H1.out.1, H2.out.1]
  refine ⟨?_, HS.out.adds (by repeat (first | with_reducible exact Adds.refl _ | with_reducible refine Adds.alloc ?_ _ | with_reducible refine Adds.more ?_ _ _ | with_reducible refine Adds.drew ?_ | with_reducible refine Adds.drewN ?_ _))⟩
  rw [← hm]
  exact RowG.lstH (RowG.far H2.out.2.1 (by repeat (first | with_reducible exact Far.refl _ _ | with_reducible refine Far.mores ?_ (by simp [go_sem]) _ _ _ | with_reducible refine Far.allocs ?_ (by simp [go_sem]) _ | with_reducible refine Far.low ?_ (by simp [go_sem]) (by simp [go_sem] <;> omega) _ _ | with_reducible refine Far.more ?_ _ _ | with_reducible refine Far.alloc ?_ _))) (by repeat (first | with_reducible exact Adds.refl _ | with_reducible refine Adds.alloc ?_ _ | with_reducible refine Adds.more ?_ _ _ | with_reducible refine Adds.drew ?_ | with_reducible refine Adds.drewN ?_ _))

set_option maxHeartbeats 4000000 in
set_option maxRecDepth 20000 in
theorem refAdd_no (base total : Int) (s t x : Value) (ch l : List Ch) (sb : List Sb) (w : World) (hs : LstH w s ch) (ht : LstS w t sb) (hx : LstH w x l) (h0 : 0 ≤ total) (hT : total + l.length ≤ 2147483647) (hc : ch.length ≤ 400) (hl : l.length ≤ 400) (hd : ∀ d ∈ ch ++ l, d.doc.length ≤ 1000) (hM : ¬ MayF ⟨base, total + l.length, ch ++ l, sb⟩) :
    Calls Try.prog 15 #[.agg #[.int .i64 base, .int .i64 total, s, t], x] w fun e w' => e = .returned (.tuple #[.agg #[.int .i64 base, .int .i64 total, s, t], .bool false]) ∧ Adds w w' := by
  have hs0 := hs
  have ht0 := ht
  have hx0 := hx
  obtain ⟨xo, xc, rfl, _, _⟩ := hx
  obtain ⟨so, sc, rfl, _, _⟩ := hs
  obtain ⟨uo, uc, rfl, _, _⟩ := ht
  have hw1 : IntKind.i64.wrap (2147483647 - total) = 2147483647 - total := by rw [IntKind.wrap_i64]; omega
  have hw2 : IntKind.i64.wrap (total + l.length) = total + l.length := by rw [IntKind.wrap_i64]; omega
  have hle : ¬ 2147483647 - total < (l.length : Int) := by omega
  have kM := fun W vo vc (hA : Adds w W) (hL : LstH W (.slice vo (ch.length + l.length) vc) (ch ++ l)) => refMayF_any (.agg #[.int .i64 base, .int .i64 (total + l.length), .slice vo (ch.length + l.length) vc, .slice uo sb.length uc]) ⟨base, total + l.length, ch ++ l, sb⟩ W ⟨_, _, rfl, hL, ht0.adds hA⟩ (by simp; omega) (fun k hk => hd _ (List.getElem_mem hk))
  rw [decide_eq_false hM] at kM
  have HS : Hid (LstS w (.slice uo sb.length uc) sb) := ht0
  have HX : Hid (LstH w (.slice xo l.length xc) l) := hx0
  have HC : Hid (LstH w (.slice so ch.length sc) ch) := hs0
  have hl1 : ch.length ≤ 10000 := by omega
  have hl2 : ch.length + l.length ≤ 10000 := by omega
  clear hs0 ht0 hx0 hd hM
  go_enter Try.func15, Try.ntmps15
  go_wp2_with (first
    | (at_builtin; refine rowG_first (Y := ((w.alloc (Obj.cells #[.int .i64 base, .int .i64 total, .slice so ch.length sc, .slice uo sb.length uc] 25)).alloc (Obj.cells #[.int .i64 0, .int .i64 0, .slice none 0 0, .slice none 0 0] 25)).alloc (Obj.cells #[.int .i64 base, .int .i64 (total + l.length), .slice so ch.length sc, .slice uo sb.length uc] 25)) rfl (.tmp 21) (.tmp 23) rfl (RowG.emptyAt w _ _ (by simp [go_sem])) rfl HC.out rfl (by repeat (first | with_reducible exact Adds.refl _ | with_reducible refine Adds.alloc ?_ _ | with_reducible refine Adds.more ?_ _ _ | with_reducible refine Adds.drew ?_ | with_reducible refine Adds.drewN ?_ _)) (by repeat (first | with_reducible exact Adds.refl _ | with_reducible refine Adds.alloc ?_ _ | with_reducible refine Adds.more ?_ _ _ | with_reducible refine Adds.drew ?_ | with_reducible refine Adds.drewN ?_ _)) (by simp [go_sem]) (by simp [go_sem]) hl1 ?_; rintro v1 c1 os1 d1 q1 H1)
    | (at_builtin; refine rowG_apps (Y := ((w.alloc (Obj.cells #[.int .i64 base, .int .i64 total, .slice so ch.length sc, .slice uo sb.length uc] 25)).alloc (Obj.cells #[.int .i64 0, .int .i64 0, .slice none 0 0, .slice none 0 0] 25)).alloc (Obj.cells #[.int .i64 base, .int .i64 (total + l.length), .slice so ch.length sc, .slice uo sb.length uc] 25)) rfl (.tmp 24) (.tmp 25) rfl H1.out.2.1 (rows_length H1.out.1) rfl HX.out rfl (by repeat (first | with_reducible exact Adds.refl _ | with_reducible refine Adds.alloc ?_ _ | with_reducible refine Adds.more ?_ _ _ | with_reducible refine Adds.drew ?_ | with_reducible refine Adds.drewN ?_ _)) (by repeat (first | with_reducible exact Adds.refl _ | with_reducible refine Adds.alloc ?_ _ | with_reducible refine Adds.more ?_ _ _ | with_reducible refine Adds.drew ?_ | with_reducible refine Adds.drewN ?_ _)) (by simp [go_sem]) H1.out.2.2 hl2 ?_; rintro v2 c2 os2 d2 q2 H2)
    | (go_at_call 12; refine (kM _ _ _ (by repeat (first | with_reducible exact Adds.refl _ | with_reducible refine Adds.alloc ?_ _ | with_reducible refine Adds.more ?_ _ _ | with_reducible refine Adds.drew ?_ | with_reducible refine Adds.drewN ?_ _)) ?_).mono ?_; (have hm : (q1 ++ q2).map (·.1) = ch ++ l := by rw [List.map_append, H1.out.1, H2.out.1]); rw [← hm]; exact RowG.lstH (RowG.far H2.out.2.1 (by repeat (first | with_reducible exact Far.refl _ _ | with_reducible refine Far.mores ?_ (by simp [go_sem]) _ _ _ | with_reducible refine Far.allocs ?_ (by simp [go_sem]) _ | with_reducible refine Far.low ?_ (by simp [go_sem]) (by simp [go_sem] <;> omega) _ _ | with_reducible refine Far.more ?_ _ _ | with_reducible refine Far.alloc ?_ _))) (by repeat (first | with_reducible exact Adds.refl _ | with_reducible refine Adds.alloc ?_ _ | with_reducible refine Adds.more ?_ _ _ | with_reducible refine Adds.drew ?_ | with_reducible refine Adds.drewN ?_ _)); rintro e w3 ⟨rfl, os3, n3, rfl⟩))
  exact bodyPost_ret (v := .tuple #[.agg #[.int .i64 base, .int .i64 total, .slice so ch.length sc, .slice uo sb.length uc], .bool false]) (by simp [results, Try.results15, go_sem]) rfl ⟨rfl, (by repeat (first | with_reducible exact Adds.refl _ | with_reducible refine Adds.alloc ?_ _ | with_reducible refine Adds.more ?_ _ _ | with_reducible refine Adds.drew ?_ | with_reducible refine Adds.drewN ?_ _))⟩

end Go.Proofs.Ytpjhohmbifpogaa
