/-
  The law ShelfTrue, by contract: the history brought into order.
  What Apply of shelves tells within a history that is in order: the entries are those of its first changes, folded.
  Askings in their cells, and what the rest of a round tells, for the law ShelfTrue.
-/
import Derived.Test.YtiacnmcdfpmcfaaGreatDoorT52
import Derived.Test.YtiacnmcdfpmcfaaGreatDoorT48
import Derived.Test.YtiacnmcdfpmcfaaGreatDoorT13
import Derived.Test.YtiacnmcdfpmcfaaGreatDoorT45
import Derived.Test.YtiacnmcdfpmcfaaGreatDoorT07
namespace Go.Proofs.YtiacnmcdfpmcfaaGreatDoor
open Go.RowKit
attribute [local go_sem] cell?_more frozen?_more setCell_more size_more tape_more drew_more drewN_more more_drew more_drewN one_out plus_out plus_end lt_one le_p2 le_p3 le_p4 le_p5 le_p6 le_p7 le_p8 le_p9 le_p10 le_p11 le_p12 le_p13 le_p14 le_p15 le_p16 le_p17 le_p18 le_p19 le_p20 le_p21 le_p22 le_p23 le_p24 le_q0 le_q1 lt_q1 le_q2 lt_q2 le_q3 lt_q3 le_q4 lt_q4 le_q5 lt_q5 le_q6 lt_q6 le_q7 lt_q7 le_q8 lt_q8 le_q9 lt_q9 le_q10 lt_q10 le_q11 lt_q11 le_q12 lt_q12 le_q13 lt_q13 le_q14 lt_q14 le_q15 lt_q15 le_q16 lt_q16 le_q17 lt_q17 le_q18 lt_q18 le_q19 lt_q19 le_q20 lt_q20 le_q21 lt_q21 le_q22 lt_q22 le_q23 lt_q23 le_q24 lt_q24

attribute [local go_sem] cell?_addTo

theorem call_step2 {ops : Array Oper} {o : Oper} {a : Act} {w : World} {K : Act → World → Prop} {Q : Exit → Act → World → Prop} {E : Prop} (hg : o.guard = none) (f : FuncId) (x y : Operand) (t t' : TypeId)
    (_ho : o.op = .call { callee := .value (.func f), args := #[x, y], argTypes := #[t, t'] }) (v v' : Value) (hx : a.eval x = v) (hy : a.eval y = v') {R : Ending → World → Prop}
    (hc : Calls Tryz.prog f #[v, v'] w R) (hR : ∀ e w', R e w' → ∃ u, e = .returned u) (hrun : (execOp a.eval o).run Tryz.prog w = .ok (.enter f #[a.eval x, a.eval y]) w) (hk : ∀ u w', R (.returned u) w' → K (a.put o.dst u) w') : if Region.wanted o (yielded ops a.tmps) = true then Oper.wp Tryz.prog o a w K Q else E := by
  have hw : Region.wanted o (yielded ops a.tmps) = true := by simp [Region.wanted, hg]
  rw [if_pos hw]
  unfold Oper.wp
  rw [hrun, hx, hy]
  simp only [Oper.upon]
  refine hc.mono ?_
  intro e w' h
  obtain ⟨u, rfl⟩ := hR e w' h
  exact hk u w' h

/-- A change at a place. -/
abbrev Ch.at (c : Ch) (n : Int) : Ch := ⟨n, c.key, c.has, c.doc⟩

/-- The first i stand in order, and may be. -/
def GoodC (i : Nat) (ls : List Ch) : Prop := ∀ j (h : j < ls.length), j < i → ls[j].pos = (j : Int) + 1 ∧ isKey ls[j].key = true ∧ May ls[j].doc

/-- A list with one at its place. -/
def putAt (i : Nat) (ls : List Ch) (c : Ch) : List Ch := ls.take i ++ [c.at ((i : Int) + 1)] ++ ls.drop (i + 1)

theorem putAt_length {i : Nat} {ls : List Ch} {c : Ch} (h : i < ls.length) : (putAt i ls c).length = ls.length := by
  simp [putAt]
  omega

theorem putAt_good {i : Nat} {ls : List Ch} (h : i < ls.length) (hg : GoodC i ls) (h1 : isKey ls[i].key = true) (h2 : May ls[i].doc) : GoodC (i + 1) (putAt i ls ls[i]) := by
  intro j hj0 hji
  have hj : j < ls.length := by rw [putAt_length h] at hj0; exact hj0
  by_cases e : j = i
  · subst e
    have : (putAt j ls ls[j])[j]'(by rw [putAt_length h]; exact hj) = ls[j].at ((j : Int) + 1) := by
      unfold putAt
      rw [List.getElem_append_left (by simp; omega), List.getElem_append_right (by simp; omega)]
      simp [Nat.min_eq_left (Nat.le_of_lt h)]
    rw [this]
    exact ⟨rfl, h1, h2⟩
  · have : (putAt i ls ls[i])[j]'(by rw [putAt_length h]; exact hj) = ls[j] := by
      unfold putAt
      rw [List.getElem_append_left (by simp; omega), List.getElem_append_left (by simp; omega), List.getElem_take]
    rw [this]
    exact hg j hj (by omega)

theorem cells_take {rs : List Rh} {i j : Nat} {u : Value} (h : (cellsH (rs.take i))[j]? = some u) : (cellsH rs)[j]? = some u := by
  have e : cellsH rs = cellsH (rs.take i) ++ cellsH (rs.drop i) := by rw [← cellsH_append, List.take_append_drop]
  rw [e, List.getElem?_append_left (List.getElem?_eq_some_iff.1 h).1]
  exact h

theorem cells_drop {rs : List Rh} {i j : Nat} {u : Value} (hi : i ≤ rs.length) (h : (cellsH (rs.drop i))[j]? = some u) : (cellsH rs)[i * 4 + j]? = some u := by
  have e : cellsH rs = cellsH (rs.take i) ++ cellsH (rs.drop i) := by rw [← cellsH_append, List.take_append_drop]
  have hl : (cellsH (rs.take i)).length = i * 4 := by rw [cellsH_length, List.length_take, Nat.min_eq_left hi]
  rw [e, List.getElem?_append_right (by omega), hl, show i * 4 + j - i * 4 = j by omega]
  exact h


theorem grown_at {W W' : World} {r : Option Nat} {k : Nat} {o : Obj} (g : W.grownBy W' r) (hk : some k ≠ r) (h : W.heap[k]? = some o) : W'.heap[k]? = some o :=
  (g.block k (Array.getElem?_eq_some_iff.1 h).1 hk).trans h

theorem one_cells {W : World} {k : Nat} {c : Ch} {x : Value} (h : W.heap[k]? = some (.cells #[.int .i64 c.pos, .string c.key, .bool c.has, x] 36 (0, 0))) : ∀ j u, (cellsH [(c, x)])[j]? = some u → W.cell? ((⟨k, 0, none⟩ : Addr).add j) = some u := by
  intro j u hu
  rw [Addr.add_lit]
  simp only [cellsH, List.flatMap_cons, List.flatMap_nil, List.append_nil] at hu
  simp only [World.cell?, h, Nat.zero_add]
  simpa using hu

/-- Apply's contract where documents are loaded. -/
def ApplyLoad : Prop := ∀ (s : Shl) (v : Value) (o : Ov) (ds : List Dn) (xs : List E) (w : World), s.df.size ≤ 1100 → s.es.length ≤ 300 → Sh.Lst w v s.es → o.Sl → MayS s → o.kind = 101 → parseA s.df.toList = .ok xs → LstD w o.sv ds → ds.length ≤ 200 → MayD ds → countB o.n = true →
  Calls Tryz.prog 10 #[s.val v, o.val] w fun e w' => (∃ v', e = .returned (.tuple #[(loadS s o.n (Sh.sortE (ents xs ds))).val v', ansV (loadC s o.n) 0 (.slice none 0 0), .int .i64 0]) ∧ Sh.Lst w' v' (loadS s o.n (Sh.sortE (ents xs ds))).es) ∧ Adds w w'

/-- Apply's contract where changes are fed. -/
def ApplyFeed : Prop := ∀ (s : Shl) (v : Value) (o : Ov) (cs : List Ch) (xs : List E) (ds : List Dn) (w : World), s.df.size ≤ 1100 → s.es.length ≤ 300 → Sh.Lst w v s.es → o.Sl → MayS s → o.kind = 102 → parseA s.df.toList = .ok xs → s.es = Sh.sortE (ents xs ds) → MayD ds → ds.length ≤ 100 → LstH w o.nv cs → Fed o.n cs → cs.length ≤ 16 → 0 ≤ o.n → o.n ≤ 100000 →
  Calls Tryz.prog 10 #[s.val v, o.val] w fun e w' => (∃ v', e = .returned (.tuple #[(feedS s o.n cs.length (Sh.sortE (ents xs (foldN ds cs)))).val v', ansV (feedC s o.n) 0 (.slice none 0 0), .int .i64 0]) ∧ Sh.Lst w' v' (feedS s o.n cs.length (Sh.sortE (ents xs (foldN ds cs)))).es) ∧ Adds w w'

/-- A shelf that is the truth at its mark. -/
def TrueS (df : ByteArray) (xs : List E) (ls : List Ch) (s : Shl) : Prop := s.df = df ∧ ∃ m : Nat, s.mark = m ∧ m ≤ ls.length ∧ s.es = Sh.sortE (ents xs (foldN [] (ls.take m)))

theorem good_may {ls : List Ch} (h : GoodC ls.length ls) : ∀ c ∈ ls, MayC c.key c.has c.doc := fun c hc => by
  obtain ⟨j, hj, rfl⟩ := List.mem_iff_getElem.1 hc
  have := h j hj hj
  exact ⟨this.2.1, fun _ => this.2.2⟩

theorem nil_mayD : MayD [] := fun k h => by simp at h

theorem take_may {ls : List Ch} (h : GoodC ls.length ls) (m : Nat) : MayD (foldN [] (ls.take m)) := foldN_may nil_mayD (fun c hc => good_may h c (List.mem_of_mem_take hc))

theorem take_len (ls : List Ch) (m : Nat) : (foldN [] (ls.take m)).length ≤ ls.length := by
  have := foldN_length [] (ls.take m)
  simp only [List.length_nil, List.length_take] at this
  omega

theorem TrueS.may {df : ByteArray} {xs : List E} {ls : List Ch} {s : Shl} (h : TrueS df xs ls s) (hp : parseA df.toList = .ok xs) (hg : GoodC ls.length ls) (hl : ls.length ≤ 40) : MayS s ∧ s.es.length ≤ 40 ∧ Sh.May s.es := by
  obtain ⟨rfl, m, h1, h2, h3⟩ := h
  have hm : Sh.May s.es := by
    rw [h3]
    exact build_may (take_may hg m)
  refine ⟨⟨by rw [hp]; rfl, hm, by rw [h1]; simp [countB]; omega⟩, ?_, hm⟩
  rw [h3]
  have h4 := ents_len xs (foldN [] (ls.take m))
  have h5 := take_len ls m
  omega

/-- What is told within a history that is in order. -/
def StepOk (df : ByteArray) (xs : List E) (ls : List Ch) (s : Shl) (o : Ov) (s' : Shl) (c n : Int) (kv : Value) (w' : World) : Prop :=
  TrueS df xs ls s' ∧ s.mark ≤ s'.mark ∧ (o.kind = 104 → c = 0 → s'.rdy = true ∧ n = s'.mark ∧ o.n ≤ n ∧ 1 ≤ o.most ∧ o.most ≤ 24 ∧ Sh.Lst w' kv ((s'.es.filter (Sh.isIn o.key o.to)).take o.most.toNat))

/-- Apply, as the law uses it. -/
def AppliesTo (df : ByteArray) (xs : List E) (ls : List Ch) (s : Shl) (v : Value) (o : Ov) (w : World) : Prop := Calls Tryz.prog 10 #[s.val v, o.val] w fun e w' =>
  (∃ (s' : Shl) (c n : Int) (ao : Option Addr) (cap : Nat) (ko : Option Addr) (kn kc : Nat), e = .returned (.tuple #[.agg #[.string s'.df, .bool s'.rdy, .int .i64 s'.mark, .slice ao s'.es.length cap], ansA c n ko kn kc, .int .i64 0]) ∧ Hid (Sh.Lst w' (.slice ao s'.es.length cap) s'.es) ∧ Hid (StepOk df xs ls s o s' c n (.slice ko kn kc) w')) ∧ Adds w w'

theorem applies_small {df : ByteArray} {xs : List E} {ls : List Ch} {s : Shl} {v : Value} {o : Ov} {w : World} (hAp : ApplyOk) (ht : TrueS df xs ls s) (hp : parseA df.toList = .ok xs) (hs : df.size ≤ 1100) (hg : GoodC ls.length ls) (hl : ls.length ≤ 40) (hv : Sh.Lst w v s.es) (ho : o.Sl) (k1 : o.kind ≠ 101) (k2 : o.kind ≠ 102) : AppliesTo df xs ls s v o w := by
  obtain ⟨hm, he, _⟩ := ht.may hp hg hl
  refine (hAp s v o w (by rw [ht.1]; exact hs) (by omega) hv ho hm k1 k2).mono ?_
  rintro e w' ⟨⟨s', v', ans, rfl, hl', hst⟩, hA⟩
  obtain ⟨ao, cap, rfl, _, _⟩ := id hl'
  rcases hst with ⟨h4, rfl, hF⟩ | ⟨h3, rfl, rfl⟩ | ⟨_, _, _, h4, rfl, rfl⟩
  · rcases hF with ⟨_, h'⟩ | ⟨_, _, h'⟩ | ⟨hq, ⟨hr, hn⟩, kv, h', hk⟩
    · obtain rfl : ans = ansV 1 0 (.slice none 0 0) := by simpa using h'
      exact ⟨⟨s', 1, 0, ao, cap, none, 0, 0, rfl, hl', ht, by omega, fun _ h => by cases h⟩, hA⟩
    · obtain rfl : ans = ansV 9 0 (.slice none 0 0) := by simpa using h'
      exact ⟨⟨s', 9, 0, ao, cap, none, 0, 0, rfl, hl', ht, by omega, fun _ h => by cases h⟩, hA⟩
    · obtain rfl : ans = ansV 0 s'.mark kv := by simpa using h'
      have h3 := hk.lst
      obtain ⟨ko, kc, rfl, _, _⟩ := id h3
      exact ⟨⟨s', 0, s'.mark, ao, cap, ko, _, kc, rfl, hl', ht, by omega, fun _ _ => ⟨hr, rfl, hn, hq.1, hq.2, h3⟩⟩, hA⟩
  · exact ⟨⟨_, 0, 0, ao, cap, none, 0, 0, rfl, hl', ht, by show s.mark ≤ s.mark; omega, fun h => by omega⟩, hA⟩
  · exact ⟨⟨_, 1, 0, ao, cap, none, 0, 0, rfl, hl', ht, by omega, fun _ h => by cases h⟩, hA⟩

theorem applies_load {df : ByteArray} {xs : List E} {ls : List Ch} {s : Shl} {v : Value} {o : Ov} {w : World} {m : Nat} (hAp : ApplyLoad) (ht : TrueS df xs ls s) (hp : parseA df.toList = .ok xs) (hs : df.size ≤ 1100) (hg : GoodC ls.length ls) (hl : ls.length ≤ 40) (hv : Sh.Lst w v s.es) (ho : o.Sl) (k1 : o.kind = 101) (hn : o.n = m) (hm : m ≤ ls.length) (hd : LstD w o.sv (foldN [] (ls.take m))) : AppliesTo df xs ls s v o w := by
  obtain ⟨hms, he, _⟩ := ht.may hp hg hl
  have hlen := take_len ls m
  refine (hAp s v o (foldN [] (ls.take m)) xs w (by rw [ht.1]; exact hs) (by omega) hv ho hms k1 (by rw [ht.1]; exact hp) hd (by omega) (take_may hg m) (by rw [hn]; simp [countB]; omega)).mono ?_
  rintro e w' ⟨⟨v', rfl, hl'⟩, hA⟩
  obtain ⟨ao, cap, rfl, _, _⟩ := id hl'
  refine ⟨⟨_, loadC s o.n, 0, ao, cap, none, 0, 0, rfl, hl', ?_, ?_, fun h => by omega⟩, hA⟩
  · unfold loadS
    split
    · exact ht
    · exact ⟨ht.1, m, hn, hm, rfl⟩
  · unfold loadS
    split
    · omega
    · show s.mark ≤ o.n
      omega

theorem good_fed {ls : List Ch} (h : GoodC ls.length ls) (m k : Nat) : Fed m ((ls.take k).drop m) := by
  intro j hj
  simp only [List.length_drop, List.length_take] at hj
  have hj' : m + j < ls.length := by omega
  have e : ((ls.take k).drop m)[j]'(by simp; omega) = ls[m + j] := by
    rw [List.getElem_drop, List.getElem_take]
  rw [e]
  obtain ⟨h1, h2, h3⟩ := h (m + j) hj' hj'
  exact ⟨by rw [h1]; omega, h2, fun _ => h3⟩

theorem fold_more (ls : List Ch) {m k : Nat} (h : m ≤ k) : foldN (foldN [] (ls.take m)) ((ls.take k).drop m) = foldN [] (ls.take k) := by
  have e : ls.take k = ls.take m ++ (ls.take k).drop m := by
    have h1 := List.take_append_drop m (ls.take k)
    rw [List.take_take, Nat.min_eq_left h] at h1
    exact h1.symm
  have app : ∀ (a b : List Ch) (ds : List Dn), foldN ds (a ++ b) = foldN (foldN ds a) b := by
    intro a
    induction a with
    | nil => intro b ds; rfl
    | cons c r ih => intro b ds; exact ih b _
  rw [← app, ← e]

theorem applies_feed {df : ByteArray} {xs : List E} {ls : List Ch} {s : Shl} {v : Value} {o : Ov} {w : World} {m k : Nat} (hAp : ApplyFeed) (ht : TrueS df xs ls s) (hp : parseA df.toList = .ok xs) (hs : df.size ≤ 1100) (hg : GoodC ls.length ls) (hl : ls.length ≤ 40) (hv : Sh.Lst w v s.es) (ho : o.Sl) (k1 : o.kind = 102) (hn : o.n = m) (hm : m ≤ k) (hk : k ≤ ls.length) (h16 : k - m ≤ 16) (hd : LstH w o.nv ((ls.take k).drop m)) : AppliesTo df xs ls s v o w := by
  obtain ⟨hms, he, _⟩ := ht.may hp hg hl
  obtain ⟨hdf, q, hq1, hq2, hq3⟩ := id ht
  have hlen := take_len ls q
  have hcl : ((ls.take k).drop m).length = k - m := by simp; omega
  refine (hAp s v o ((ls.take k).drop m) xs (foldN [] (ls.take q)) w (by rw [hdf]; exact hs) (by omega) hv ho hms k1 (by rw [hdf]; exact hp) hq3 (take_may hg q) (by omega) hd (by rw [hn]; exact good_fed hg m k) (by omega) (by omega) (by omega)).mono ?_
  rintro e w' ⟨⟨v', rfl, hl'⟩, hA⟩
  obtain ⟨ao, cap, rfl, _, _⟩ := id hl'
  refine ⟨⟨_, feedC s o.n, 0, ao, cap, none, 0, 0, rfl, hl', ?_, ?_, fun h => by omega⟩, hA⟩
  · unfold feedS
    split
    · rename_i heq
      have hqm : q = m := by omega
      subst hqm
      rw [fold_more ls hm]
      exact ⟨hdf, k, by show o.n + _ = _; rw [hcl, hn]; omega, hk, rfl⟩
    · exact ht
  · unfold feedS
    split
    · show s.mark ≤ o.n + _
      omega
    · omega

/-- An asking, in its cells. -/
structure Ac where
  d : Int
  n : Nat
  many : Nat
  op : Ov

/-- The measure of one that is asked tells a truth, whichever. -/
def LightOk (w : World) (o : Ov) : Prop := ∀ W, Adds w W → Calls Tryz.prog 7 #[o.val] W fun e w' => (∃ b : Bool, e = .returned (.bool b)) ∧ Adds W w'

def LiesA (w : World) (b off : Nat) (qs : List Ac) : Prop := ∀ j (h : j < qs.length),
  (w.cell? ⟨b, off + j * 14, none⟩ = some (.int .i64 qs[j].d) ∧ w.cell? ⟨b, off + j * 14 + 1, none⟩ = some (.int .u8 (qs[j].n : Int)) ∧ w.cell? ⟨b, off + j * 14 + 2, none⟩ = some (.int .u8 (qs[j].many : Int)) ∧
   w.cell? ⟨b, off + j * 14 + 3, none⟩ = some (.int .i64 qs[j].op.kind) ∧ w.cell? ⟨b, off + j * 14 + 3 + 1, none⟩ = some (.string qs[j].op.key) ∧ w.cell? ⟨b, off + j * 14 + 3 + 2, none⟩ = some (.string qs[j].op.to) ∧ w.cell? ⟨b, off + j * 14 + 3 + 3, none⟩ = some qs[j].op.dv ∧ w.cell? ⟨b, off + j * 14 + 3 + 4, none⟩ = some qs[j].op.wv ∧
   w.cell? ⟨b, off + j * 14 + 3 + 5, none⟩ = some (.bool qs[j].op.has) ∧ w.cell? ⟨b, off + j * 14 + 3 + 6, none⟩ = some (.int .i64 qs[j].op.n) ∧ w.cell? ⟨b, off + j * 14 + 3 + 7, none⟩ = some (.int .i64 qs[j].op.most) ∧ w.cell? ⟨b, off + j * 14 + 3 + 8, none⟩ = some qs[j].op.lv ∧ w.cell? ⟨b, off + j * 14 + 3 + 9, none⟩ = some qs[j].op.sv ∧ w.cell? ⟨b, off + j * 14 + 3 + 10, none⟩ = some qs[j].op.nv) ∧
  qs[j].n < 256 ∧ qs[j].many < 256 ∧ qs[j].op.Sl ∧ LightOk w qs[j].op

def LstA (w : World) (v : Value) (qs : List Ac) : Prop := ∃ ao cap, v = .slice ao qs.length cap ∧ qs.length ≤ cap ∧ qs.length ≤ 9223372036854775807 ∧ (qs = [] ∨ ∃ b off, ao = some ⟨b, off, none⟩ ∧ b < w.heap.size ∧ LiesA w b off qs)

theorem LiesA.adds {w w' : World} {b off : Nat} {qs : List Ac} (h : LiesA w b off qs) (hA : Adds w w') (hb : b < w.heap.size) : LiesA w' b off qs := by
  intro j hj
  obtain ⟨⟨h0, h1, h2, h3, h4, h5, h6, h7, h8, h9, h10, h11, h12, h13⟩, n1, n2, n3, n4⟩ := h j hj
  have q := hA.below
  exact ⟨⟨(q.cell (by exact hb)).trans h0, (q.cell (by exact hb)).trans h1, (q.cell (by exact hb)).trans h2, (q.cell (by exact hb)).trans h3, (q.cell (by exact hb)).trans h4, (q.cell (by exact hb)).trans h5, (q.cell (by exact hb)).trans h6, (q.cell (by exact hb)).trans h7, (q.cell (by exact hb)).trans h8, (q.cell (by exact hb)).trans h9, (q.cell (by exact hb)).trans h10, (q.cell (by exact hb)).trans h11, (q.cell (by exact hb)).trans h12, (q.cell (by exact hb)).trans h13⟩, n1, n2, n3, fun W hA' => n4 W (hA.trans hA')⟩

/-- Build of a history's first changes, folded. -/
theorem rbuild_told (df : ByteArray) (xs : List E) (ls : List Ch) (dv : Value) (m : Nat) (w : World) (hs : df.size ≤ 1100) (hp : parseA df.toList = .ok xs) (hg : GoodC ls.length ls) (hl : ls.length ≤ 40) (hd : LstD w dv (foldN [] (ls.take m))) (h20 : ∀ d ∈ foldN [] (ls.take m), d.doc.length ≤ 1000) :
    Calls Tryz.prog 23 #[.string df, dv] w fun e w' => (∃ ko kn kc, e = .returned (.tuple #[.slice ko kn kc, .int .i64 0]) ∧ Hid (Sh.Lst w' (.slice ko kn kc) (Sh.sortE (ents xs (foldN [] (ls.take m)))))) ∧ Adds w w' :=
  (rBuild_ok df dv (foldN [] (ls.take m)) w (by omega) hd (by have := take_len ls m; omega) h20 xs hp (take_may hg m)).mono (by
    rintro e w' ⟨⟨v, rfl, hv⟩, hA⟩
    obtain ⟨ko, kc, rfl, _, _⟩ := id hv
    exact ⟨⟨ko, _, kc, rfl, hv⟩, hA⟩)

theorem may_short {d : List F} (h : May d) : d.length ≤ 1000 := by
  have := h.1
  omega

theorem fold_short {ls : List Ch} (h : GoodC ls.length ls) (m : Nat) : ∀ d ∈ foldN [] (ls.take m), d.doc.length ≤ 1000 := fun d hd => by
  have h1 := (mayD_iff.1 (take_may h m)).1 d hd
  exact may_short h1.2

/-- The reference's Find, its answer a slice. -/
theorem rfind_told (s : Value) (fs : List Sh.F) (p t : ByteArray) (most : Int) (w : World) (h : Sh.Lst w s fs) (hle : fs.length ≤ 1000) (h1 : 1 ≤ most) :
    Calls Tryz.prog 25 #[s, .string p, .string t, .int .i64 most] w fun e w' => (∃ ko kn kc, e = .returned (.slice ko kn kc) ∧ Hid (Sh.Lst w' (.slice ko kn kc) ((fs.filter (Sh.isIn p t)).take most.toNat))) ∧ Adds w w' := by
  obtain ⟨m, rfl⟩ : ∃ m : Nat, most = m := ⟨most.toNat, by omega⟩
  exact (Sh.refScan_any s fs p t m w h hle).mono (by
    rintro e w' ⟨v, rfl, hv, hA⟩
    obtain ⟨ko, kc, rfl, _, _⟩ := id hv
    exact ⟨⟨ko, _, kc, rfl, hv⟩, hA⟩)

theorem filt_len (l : List Sh.F) (q : Sh.F → Bool) (m : Nat) (h : l.length ≤ 40) : ((l.filter q).take m).length ≤ 1000 := by
  have h1 := List.length_filter_le q l
  simp only [List.length_take]
  omega

/-- Documents that are new do not lie in a box that was there, where the box has no text ahead of a number. -/
theorem docs_oth {W w w' : World} {k : Nat} {v : Value} {ds : List Dn} (h : LstD w v ds) (hf : FreshD W v) (hk : k < W.heap.size) (ho : Oth k w w') (hbox : ∀ (off : Nat) (x : ByteArray) (y : Int), w.cell? ⟨k, off, none⟩ = some (.string x) → w.cell? ⟨k, off + 1, none⟩ = some (.int .i64 y) → False) : LstD w' v ds := by
  have hc : ∀ (b j : Nat), b ≠ k → w'.cell? ⟨b, j, none⟩ = w.cell? ⟨b, j, none⟩ := fun b j hb => by
    have := ho.2 b hb
    simp only [World.cell?, this]
  obtain ⟨ao, cap, rfl, hcap, h0 | ⟨b, off, rfl, hlt, hl⟩⟩ := h
  · exact ⟨ao, cap, rfl, hcap, .inl h0⟩
  have hbk : b ≠ k := by
    have := hf _ _ _ rfl
    simp only at this
    omega
  refine ⟨_, cap, rfl, hcap, .inr ⟨b, off, rfl, by rw [ho.1]; exact hlt, fun j hj => ?_⟩⟩
  obtain ⟨d, c0, c1, hd⟩ := hl j hj
  refine ⟨d, (hc _ _ hbk).trans c0, (hc _ _ hbk).trans c1, ?_⟩
  obtain ⟨ao2, cap2, rfl, hcap2, h2 | ⟨b2, off2, rfl, hlt2, hl2⟩⟩ := hd
  · exact ⟨ao2, cap2, rfl, hcap2, .inl h2⟩
  by_cases hn : ds[j].doc = []
  · exact ⟨_, cap2, rfl, hcap2, .inl hn⟩
  have hlen : 0 < ds[j].doc.length := List.length_pos_iff.2 hn
  have hb2 : b2 ≠ k := by
    rintro rfl
    obtain ⟨e0, e1, _⟩ := hl2 0 hlen
    exact hbox _ _ _ e0 e1
  refine ⟨_, cap2, rfl, hcap2, .inr ⟨b2, off2, rfl, by rw [ho.1]; exact hlt2, fun i hi => ?_⟩⟩
  obtain ⟨e0, e1, e2, e3, e4, e5⟩ := hl2 i hi
  exact ⟨(hc _ _ hb2).trans e0, (hc _ _ hb2).trans e1, (hc _ _ hb2).trans e2, (hc _ _ hb2).trans e3, (hc _ _ hb2).trans e4, (hc _ _ hb2).trans e5⟩

theorem opbox_no {w : World} {k : Nat} {kd n m : Int} {ky tx : ByteArray} {hs : Bool} {a b c d f : Option Addr} {a1 a2 b1 b2 c1 c2 d1 d2 f1 f2 : Nat} {T : TypeId} (h : w.heap[k]? = some (.cells #[.int .i64 kd, .string ky, .string tx, .slice a a1 a2, .slice b b1 b2, .bool hs, .int .i64 n, .int .i64 m, .slice c c1 c2, .slice d d1 d2, .slice f f1 f2] T (0, 0))) :
    ∀ (off : Nat) (x : ByteArray) (y : Int), w.cell? ⟨k, off, none⟩ = some (.string x) → w.cell? ⟨k, off + 1, none⟩ = some (.int .i64 y) → False := by
  intro off x y e0 e1
  simp only [World.cell?, h] at e0 e1
  have hj : off = 0 ∨ off = 1 ∨ off = 2 ∨ off = 3 ∨ off = 4 ∨ off = 5 ∨ off = 6 ∨ off = 7 ∨ off = 8 ∨ off = 9 ∨ off = 10 ∨ 11 ≤ off := by omega
  rcases hj with rfl | rfl | rfl | rfl | rfl | rfl | rfl | rfl | rfl | rfl | rfl | e
  all_goals first
    | (simp at e0; done)
    | (simp at e1; done)
    | (rw [Array.getElem?_eq_none (by simpa using e)] at e0; cases e0)

/-- A shelf laid into the box of another one. -/
abbrev setShl (w : World) (S : Nat) (df : ByteArray) (r : Bool) (m : Int) (v : Value) : World := (((w.setCell ⟨S, 0, none⟩ (.string df)).setCell ⟨S, 1, none⟩ (.bool r)).setCell ⟨S, 2, none⟩ (.int .i64 m)).setCell ⟨S, 3, none⟩ v

theorem setShl_box {w : World} {S : Nat} {s : Shl} {v : Value} (h : ShlBox w S s v) (df : ByteArray) (r : Bool) (m : Int) (es : List Sh.F) (v' : Value) : ShlBox (setShl w S df r m v') S ⟨df, r, m, es⟩ v' := by
  unfold ShlBox at h ⊢
  have h0 := set_heap (i := 0) (x := .string df) h
  have h1 := set_heap (i := 1) (x := .bool r) h0
  have h2 := set_heap (i := 2) (x := .int .i64 m) h1
  have h3 := set_heap (i := 3) (x := v') h2
  simpa using h3

theorem setShl_grown (w : World) (S : Nat) (df : ByteArray) (r : Bool) (m : Int) (v' : Value) : w.grownBy (setShl w S df r m v') (some S) :=
  grown_set (grown_set (grown_set (grown_set (grown_by (Adds.refl w) _))))

theorem setShl_below {w wr : World} {S : Nat} (hA : Adds w wr) (hS : w.heap.size ≤ S) (df : ByteArray) (r : Bool) (m : Int) (v' : Value) {W : World} (h : Adds (setShl wr S df r m v') W) : Adds w W := by
  have g1 := setShl_grown wr S df r m v'
  have b1 := hA.below
  have b2 := h.below
  exact Adds.of ⟨b2.os.trans (g1.os.trans b1.os), b2.tape.trans (g1.tape.trans b1.tape), b2.output.trans (g1.output.trans b1.output), Nat.le_trans b1.size (Nat.le_trans g1.size b2.size), fun k hk => by
    have h1 : k < wr.heap.size := Nat.lt_of_lt_of_le hk b1.size
    rw [b2.block k (Nat.lt_of_lt_of_le h1 g1.size), g1.block k h1 (by simp; omega), b1.block k hk]⟩

end Go.Proofs.YtiacnmcdfpmcfaaGreatDoor
