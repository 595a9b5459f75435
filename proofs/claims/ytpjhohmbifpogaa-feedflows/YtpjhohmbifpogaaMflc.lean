/-
  The law of a subscription: its calls, by contract. The law of a subscription: what lies where.
-/
import Derived.Test.YtpjhohmbifpogaaFla
import Derived.Test.YtpjhohmbifpogaaFow
import Derived.Test.YtpjhohmbifpogaaMfog
import Derived.Maps.AppendAt
namespace Go.Proofs.Ytpjhohmbifpogaa
open Go.RowKit
attribute [local go_sem] cell?_more frozen?_more setCell_more size_more tape_more drew_more drewN_more more_drew more_drewN one_out plus_out plus_end lt_one le_p2 le_p3 le_p4 le_p5 le_p6 le_p7 le_p8 le_p9 le_p10 le_p11 le_p12 le_p13 le_p14 le_p15 le_p16 le_p17 le_p18 le_p19 le_p20 le_p21 le_p22 le_p23 le_p24 le_q0 le_q1 lt_q1 le_q2 lt_q2 le_q3 lt_q3 le_q4 lt_q4 le_q5 lt_q5 le_q6 lt_q6 le_q7 lt_q7 le_q8 lt_q8 le_q9 lt_q9 le_q10 lt_q10 le_q11 lt_q11 le_q12 lt_q12 le_q13 lt_q13 le_q14 lt_q14 le_q15 lt_q15 le_q16 lt_q16 le_q17 lt_q17 le_q18 lt_q18 le_q19 lt_q19 le_q20 lt_q20 le_q21 lt_q21 le_q22 lt_q22 le_q23 lt_q23 le_q24 lt_q24

def ss : ByteArray := ⟨#[115]⟩

/-- The feed of the changes cs, trimmed to b, with one subscription at a. -/
def fdOf (cs : List Ch) (b a : Nat) : Fd := ⟨b, cs.length, cs.drop b, [⟨ss, a⟩]⟩

theorem sub_one {a lo hi : Int} (h0 : lo ≤ a) (h1 : a ≤ hi) : Subsc [⟨ss, a⟩] lo hi := by
  refine ⟨by simp, fun k hk => ?_⟩
  obtain rfl : k = 0 := by simp at hk; omega
  exact ⟨rfl, h0, h1, fun h => absurd h (by omega)⟩

theorem fdOf_may {cs : List Ch} (h : Run cs) {b a : Nat} (hb : b ≤ a) (ha : a ≤ cs.length) (hl : cs.length ≤ 1000) : MayF (fdOf cs b a) :=
  ⟨by show (0 : Int) ≤ b; omega, by show (b : Int) ≤ cs.length; omega, by show (cs.length : Int) ≤ 2147483647; omega, by show ((cs.drop b).length : Int) = cs.length - b; rw [List.length_drop]; omega, h.follow b (by omega), sub_one (by show (b : Int) ≤ a; omega) (by show (a : Int) ≤ cs.length; omega)⟩

theorem cut_ss (a : Int) : cutAt ss [⟨ss, a⟩] = 0 ∧ hasAt ss [⟨ss, a⟩] = true := cut_at (k := 0) (fun i j hi hj hij => absurd hij (by simp at hi hj; omega)) (by simp) rfl

/-- What is told of a feed, spelled. -/
def TellsV (fn : FuncId) (args : Array Value) (g : Fd) (b t : Int) (n m : Nat) (W : World) : Prop :=
  Calls Try.prog fn args W fun e w' => (∃ vo vc uo uc, e = .returned (.tuple #[.agg #[.int .i64 b, .int .i64 t, .slice vo n vc, .slice uo m uc], .int .i64 0]) ∧ Hid (LstF w' (.agg #[.int .i64 b, .int .i64 t, .slice vo n vc, .slice uo m uc]) g)) ∧ Adds W w'

theorem addZ (x : Value) (cs : List Ch) (k : Nat) (W : World) (hx : LstH W x cs) (hR : Run cs) (hk : cs.length = k) (hk7 : k ≤ 100) :
    TellsV 11 #[.agg #[.int .i64 0, .int .i64 0, .slice none 0 0, .slice none 0 0], x] ⟨0, k, cs, []⟩ 0 k k 0 W := by
  have hF : Follow cs 0 := by simpa using hR.follow 0 (Nat.zero_le _)
  have hd : ∀ d ∈ cs, d.doc.length ≤ 1000 := by simpa using hR.doc 0
  subst hk
  refine (add_ok _ ⟨0, 0, [], []⟩ x cs W (lstF_zero W) hx mayF_zero hF (by simp; omega) (by simp) (by simp) (by omega) hd).mono ?_
  rintro e w' ⟨⟨vo, vc, uo, uc, rfl, H⟩, hA⟩
  simp only [List.length_nil, Nat.zero_add, Int.zero_add, List.nil_append] at H ⊢
  exact ⟨⟨vo, vc, uo, uc, rfl, ⟨_, _, rfl, H.out.1, H.out.2⟩⟩, hA⟩

theorem openZ (v : Value) (cs : List Ch) (k : Nat) (a : Nat) (ai : Int) (hai : ai = a) (W : World) (hv : LstF W v ⟨0, k, cs, []⟩) (hR : Run cs) (hk : cs.length = k) (hk7 : k ≤ 100) (ha : a ≤ k) :
    TellsV 18 #[v, .string ss, .int .i64 ai] (fdOf cs 0 a) 0 k k 1 W := by
  subst hai
  subst hk
  have hF : Follow cs 0 := by simpa using hR.follow 0 (Nat.zero_le _)
  have hd : ∀ d ∈ cs, d.doc.length ≤ 1000 := by simpa using hR.doc 0
  have hM : MayF ⟨0, cs.length, cs, []⟩ := ⟨Int.le_refl _, by show (0 : Int) ≤ cs.length; omega, by show (cs.length : Int) ≤ 2147483647; omega, by simp, hF, by simp, fun k h => absurd h (by simp)⟩
  refine (open_ok v ⟨0, cs.length, cs, []⟩ ss a W hv hM (by show cs.length ≤ 1000; omega) hd rfl rfl (by simp) (by show (0 : Int) ≤ a; omega) (by show (a : Int) ≤ cs.length; omega)).mono ?_
  rintro e w' ⟨⟨vo, vc, uo, uc, rfl, H⟩, hA⟩
  refine ⟨⟨vo, vc, uo, uc, rfl, ⟨_, _, rfl, by simpa [fdOf] using H.out.1, ?_⟩⟩, hA⟩
  have := H.out.2
  simpa [fdOf, insS, cutAt] using this

/-- The same, and that it lies in memory of its own. -/
def TellsW (fn : FuncId) (args : Array Value) (g : Fd) (b t : Int) (n m : Nat) (W : World) : Prop :=
  Calls Try.prog fn args W fun e w' => (∃ vo vc uo uc, e = .returned (.tuple #[.agg #[.int .i64 b, .int .i64 t, .slice vo n vc, .slice uo m uc], .int .i64 0]) ∧ Hid (LstF w' (.agg #[.int .i64 b, .int .i64 t, .slice vo n vc, .slice uo m uc]) g ∧ FromB W.heap.size (.slice vo n vc) ∧ FromB W.heap.size (.slice uo m uc))) ∧ Adds W w'

theorem addN (v x : Value) (cs : List Ch) (c : Ch) (b a : Nat) (bi ti : Int) (n : Nat) (W : World) (hv : LstF W v (fdOf cs b a)) (hx : LstH W x [c]) (hR : Run cs) (hR' : Run (cs ++ [c])) (hb : b ≤ a) (ha : a ≤ cs.length) (hl : cs.length ≤ 500) (hbi : bi = b) (hti : ti = (cs.length : Int) + 1) (hn : n = cs.length - b + 1) :
    TellsW 11 #[v, x] (fdOf (cs ++ [c]) b a) bi ti n 1 W := by
  subst hbi hti hn
  have hM := fdOf_may hR hb ha (by omega)
  have hF : Follow [c] (cs.length : Int) := by
    have := hR'.follow cs.length (by simp)
    rwa [List.drop_left] at this
  have hd : ∀ d ∈ [c], d.doc.length ≤ 1000 := by
    have := hR'.doc cs.length
    rwa [List.drop_left] at this
  refine (add_okO v (fdOf cs b a) x [c] W hv hx hM hF (by show (cs.length : Int) + 1 ≤ 2147483647; omega) (by show (cs.drop b).length ≤ 1000; rw [List.length_drop]; omega) (hR.doc b) (by simp) hd).mono ?_
  rintro e w' ⟨⟨vo, vc, uo, uc, rfl, H⟩, hA⟩
  have hl : (fdOf cs b a).ch.length + [c].length = cs.length - b + 1 := by show (cs.drop b).length + 1 = _; rw [List.length_drop]
  have hdr : (cs ++ [c]).drop b = cs.drop b ++ [c] := List.drop_append_of_le_length (by omega)
  rw [hl] at H ⊢
  refine ⟨⟨vo, vc, uo, uc, rfl, ⟨.slice vo (cs.length - b + 1) vc, .slice uo 1 uc, ?_, ?_, H.out.1.2⟩, H.out.2⟩, hA⟩
  · show Value.agg #[.int .i64 b, .int .i64 ((cs.length : Int) + 1), _, _] = Value.agg #[.int .i64 b, .int .i64 (((cs ++ [c]).length : Nat) : Int), _, _]
    rw [List.length_append]
    rfl
  · show LstH w' _ ((cs ++ [c]).drop b)
    rw [hdr]
    exact H.out.1.1

theorem ackN (v : Value) (cs : List Ch) (b a a' : Nat) (ai bi ti : Int) (n : Nat) (W : World) (hv : LstF W v (fdOf cs b a)) (hR : Run cs) (hb : b ≤ a) (ha : a ≤ a') (ha' : a' ≤ cs.length) (hl : cs.length ≤ 500) (hai : ai = a') (hbi : bi = b) (hti : ti = (cs.length : Int)) (hn : n = cs.length - b) :
    TellsW 19 #[v, .string ss, .int .i64 ai] (fdOf cs b a') bi ti n 1 W := by
  subst hai hbi hti hn
  have hM := fdOf_may hR hb (by omega) (by omega)
  refine (ack_okO v (fdOf cs b a) ss a' W hv hM (by show (cs.drop b).length ≤ 1000; rw [List.length_drop]; omega) (hR.doc b) (cut_ss a).2 0 (cut_ss a).1 (by simp [fdOf]) (by show (a' : Int) ≤ cs.length; omega) (by show (a : Int) ≤ a'; omega)).mono ?_
  rintro e w' ⟨⟨vo, vc, uo, uc, rfl, H⟩, hA⟩
  have hl : (fdOf cs b a).ch.length = cs.length - b := by show (cs.drop b).length = _; rw [List.length_drop]
  rw [hl] at H ⊢
  exact ⟨⟨vo, vc, uo, uc, rfl, ⟨_, _, rfl, H.out.1.1, H.out.1.2⟩, H.out.2⟩, hA⟩

theorem readN (v : Value) (cs : List Ch) (b a m : Nat) (mi ai : Int) (L : Nat) (W : World) (hv : LstF W v (fdOf cs b a)) (hR : Run cs) (hb : b ≤ a) (ha : a ≤ cs.length) (hl : cs.length ≤ 500) (hm1 : 1 ≤ m) (hm2 : m ≤ 16) (hmi : mi = m) (hai : ai = a) (hL : L = ((cs.drop a).take m).length) :
    Calls Try.prog 26 #[v, .string ss, .int .i64 mi] W fun e w' => (∃ vo vc, e = .returned (.tuple #[.slice vo L vc, .int .i64 ai, .int .i64 0]) ∧ Hid (LstH w' (.slice vo L vc) ((cs.drop a).take m))) ∧ Adds W w' := by
  subst hmi hai hL
  have hM := fdOf_may hR hb ha (by omega)
  have hr := read_at v (fdOf cs b a) ss m W hv (by show (cs.drop b).length ≤ 1000; rw [List.length_drop]; omega) (hR.doc b) hM 0 (cut_ss a).1 (by simp [fdOf]) (cut_ss a).2 hm1 hm2 (a - b) (by show (a : Int) - b = _; omega)
  have hc : cutC (fdOf cs b a).ch (a - b) m = (cs.drop a).take m := by
    show ((cs.drop b).drop (a - b)).take m = _
    rw [List.drop_drop, show b + (a - b) = a by omega]
  rw [hc] at hr
  refine hr.mono ?_
  rintro e w' ⟨⟨vo, vc, rs, rfl, H⟩, hA⟩
  refine ⟨⟨vo, vc, rfl, ?_⟩, hA⟩
  have h1 := H.out.1.lstH
  rw [H.out.2] at h1
  exact h1

theorem trimF_of {cs : List Ch} {b a : Nat} (hb : b ≤ a) (pos : Int) : ∃ b' : Nat, b' ≤ a ∧ trimF (fdOf cs b a) pos = fdOf cs b' a := by
  have hB : trimB (fdOf cs b a) pos ≤ a := by
    simp [trimB, fdOf, leastS]
    omega
  unfold trimF
  split
  · rename_i h
    have hb0 : (b : Int) < trimB (fdOf cs b a) pos := h
    refine ⟨(trimB (fdOf cs b a) pos).toNat, by omega, ?_⟩
    have e1 : (((trimB (fdOf cs b a) pos).toNat : Nat) : Int) = trimB (fdOf cs b a) pos := by omega
    have e2 : b + (trimB (fdOf cs b a) pos - (fdOf cs b a).base).toNat = (trimB (fdOf cs b a) pos).toNat := by show b + (_ - (b : Int)).toNat = _; omega
    unfold fdOf at e1 e2 ⊢
    simp only [List.drop_drop] at e1 e2 ⊢
    rw [e1, e2]
  · exact ⟨b, hb, rfl⟩

theorem trimN (v : Value) (cs : List Ch) (b a : Nat) (pos : Int) (W : World) (hv : LstF W v (fdOf cs b a)) (hR : Run cs) (hb : b ≤ a) (ha : a ≤ cs.length) (hl : cs.length ≤ 500) (b' : Nat) (bi ti : Int) (n : Nat) (hbi : bi = b') (hti : ti = (cs.length : Int)) (hn : n = cs.length - b') (e : trimF (fdOf cs b a) pos = fdOf cs b' a) :
    TellsW 21 #[v, .int .i64 pos] (fdOf cs b' a) bi ti n 1 W := by
  subst hbi hti hn
  have hM := fdOf_may hR hb ha (by omega)
  have hlen : (fdOf cs b a).ch.length ≤ 1000 := by show (cs.drop b).length ≤ 1000; rw [List.length_drop]; omega
  obtain ⟨s, t, rfl, hs, ht⟩ := hv
  have hTT : Calls Try.prog 21 #[.agg #[.int .i64 (fdOf cs b a).base, .int .i64 (fdOf cs b a).total, s, t], .int .i64 pos] W fun e w' => (∃ vo vc uo uc, e = .returned (.tuple #[.agg #[.int .i64 (trimF (fdOf cs b a) pos).base, .int .i64 (fdOf cs b a).total, .slice vo (trimF (fdOf cs b a) pos).ch.length vc, .slice uo (fdOf cs b a).sb.length uc], .int .i64 0]) ∧ Hid (LstG W.heap.size w' (.slice vo (trimF (fdOf cs b a) pos).ch.length vc) (trimF (fdOf cs b a) pos).ch (.slice uo (fdOf cs b a).sb.length uc) (fdOf cs b a).sb)) ∧ Adds W w' := by
    by_cases hp : (fdOf cs b a).total < pos
    · exact trim_farO _ _ pos s t _ _ W hs ht hM hlen (hR.doc b) hp
    · exact trim_nearO _ _ pos s t _ _ W hs ht hM hlen (hR.doc b) hp
  rw [e] at hTT
  refine hTT.mono ?_
  rintro e' w' ⟨⟨vo, vc, uo, uc, rfl, H⟩, hA⟩
  have hn : (fdOf cs b' a).ch.length = cs.length - b' := by show (cs.drop b').length = _; rw [List.length_drop]
  rw [hn] at H ⊢
  exact ⟨⟨vo, vc, uo, uc, rfl, ⟨_, _, rfl, H.out.1.1, H.out.1.2⟩, H.out.2⟩, hA⟩

end Go.Proofs.Ytpjhohmbifpogaa

namespace Go.Proofs.Ytpjhohmbifpogaa
open Go.RowKit
attribute [local go_sem] cell?_more frozen?_more setCell_more size_more tape_more drew_more drewN_more more_drew more_drewN one_out plus_out plus_end lt_one le_p2 le_p3 le_p4 le_p5 le_p6 le_p7 le_p8 le_p9 le_p10 le_p11 le_p12 le_p13 le_p14 le_p15 le_p16 le_p17 le_p18 le_p19 le_p20 le_p21 le_p22 le_p23 le_p24 le_q0 le_q1 lt_q1 le_q2 lt_q2 le_q3 lt_q3 le_q4 lt_q4 le_q5 lt_q5 le_q6 lt_q6 le_q7 lt_q7 le_q8 lt_q8 le_q9 lt_q9 le_q10 lt_q10 le_q11 lt_q11 le_q12 lt_q12 le_q13 lt_q13 le_q14 lt_q14 le_q15 lt_q15 le_q16 lt_q16 le_q17 lt_q17 le_q18 lt_q18 le_q19 lt_q19 le_q20 lt_q20 le_q21 lt_q21 le_q22 lt_q22 le_q23 lt_q23 le_q24 lt_q24

open Go.ChangeShapes Go.WideShapes Go.ChangeAt Go.RowKit Go.Joins Go.ChangeMaps

/-- append of one change that lies in a block of its own; the world behind it is named. -/
theorem rowZ_one {ops : Array Oper} {rest : List Oper} {o : Oper} {a : Act} {w X : World} {Q : Exit → Act → World → Prop} (hgd : o.guard = none) (s x : Operand) (ho : o.op = .call { callee := .builtin .append, args := #[s, x], argTypes := #[22, 22] })
    {B : Nat} {v : Value} {fs : List Rh} {n : Nat} (h : RowG B w v fs X) (hn : fs.length = n) (hs : a.eval s = v) {x' : Value} {c : Ch} (hx : LstH X x' [c]) (hxe : a.eval x = x') (hc : c.doc = []) (hBX : B ≤ X.heap.size) (hlen : n ≤ 9000)
    (hQ : ∀ vo vc Z q, Hid (q.1 = c ∧ RowG B w (.slice vo (n + 1) vc) (fs ++ [q]) Z ∧ X.grownBy Z v.ownBlock ∧ ((Value.slice vo (n + 1) vc).ownBlock = v.ownBlock ∨ (Value.slice vo (n + 1) vc).ownBlock = some X.heap.size)) → wpList Try.prog ops Q rest (a.put o.dst (.slice vo (n + 1) vc)) Z) : wpList Try.prog ops Q (o :: rest) a X := by
  subst hn
  obtain ⟨i0, hi, hz0, hz1, hz2⟩ := info_parts Try.info57
  obtain ⟨ao, cap, rfl, hcap, hxs⟩ := hx
  rcases hxs with hxs | ⟨b, off, rfl, hb, hl⟩
  · cases hxs
  obtain ⟨qs, hq, hqc, hqd⟩ := lies_rows hl
  have hql : qs.length = 1 := by
    have := congrArg List.length hq
    simpa using this
  obtain ⟨q, rfl⟩ := List.length_eq_one_iff.1 hql
  have hqc1 : q.1 = c := by simpa using hq
  have hone : ∀ u ∈ cellsH [q], u.oneCell' = true := by
    intro u hu
    simp only [cellsH, List.mem_flatMap] at hu
    obtain ⟨r, hm, hf⟩ := hu
    simp only [Ch.cells, List.mem_cons, List.mem_nil_iff, or_false] at hf
    rcases hf with rfl | rfl | rfl | rfl
    · rfl
    · rfl
    · rfl
    · obtain ⟨ao, cap, e, _⟩ := hqd r hm
      rw [e]
      rfl
  obtain ⟨v', w', h1, h2, h3, h4, h5⟩ := run_append_own_at (P := Try.prog) X B 22 o.type 57 i0 _ 4 56 Try.underlying22 hi hz0 hz1 hz2 rfl (by decide) v fs.length (cellsH fs) h.1 ⟨b, off, none⟩ 1 cap (cellsH [q]) (cellsH_length [q]) hqc hone (by unfold maxLen; omega) (by omega) hBX
  obtain ⟨vo, vc, rfl⟩ : ∃ vo vc, v' = .slice vo (fs.length + 1) vc := by
    rcases h2.2 with ⟨e, hn⟩ | ⟨g, cp, cur, e, _⟩
    · omega
    · exact ⟨some ⟨g, 0, none⟩, cp, e⟩
  refine Lib.wpList_append_run X hgd s x 22 22 ho v _ hs hxe _ _ h1 (hQ vo vc w' q ⟨hqc1, ⟨?_, ?_⟩, h3, h5⟩)
  · rw [List.length_append, cellsH_append]
    exact h2
  · intro r hr
    rcases List.mem_append.1 hr with hr | hr
    · exact h.2 r hr
    · have := hqd r hr
      obtain rfl : r = q := by simpa using hr
      rw [hqc1, hc] at this ⊢
      exact this.nil_any

/-- The block p has turned to o, and nothing else has. -/
structure Put (p : Nat) (X : World) (o : Obj) (Z : World) : Prop where
  os : Z.os = X.os
  tape : Z.tape = X.tape
  output : Z.output = X.output
  size : X.heap.size ≤ Z.heap.size
  here : Z.heap[p]? = some o
  lt : p < X.heap.size
  block : ∀ j, j < X.heap.size → j ≠ p → Z.heap[j]? = X.heap[j]?

theorem Put.more {p : Nat} {X Z : World} {o : Obj} (h : Put p X o Z) (os : Array Obj) (d : Nat) : Put p X o (Ytpjhohmbifpogaa.more Z os d) :=
  ⟨h.os, h.tape, h.output, by rw [size_more]; exact Nat.le_trans h.size (Nat.le_add_right _ _), (more_block os d (Nat.lt_of_lt_of_le h.lt h.size)).trans h.here, h.lt, fun j hj hp => (more_block os d (Nat.lt_of_lt_of_le hj h.size)).trans (h.block j hj hp)⟩
theorem Put.alloc {p : Nat} {X Z : World} {o : Obj} (h : Put p X o Z) (q : Obj) : Put p X o (Z.alloc q) :=
  ⟨h.os, h.tape, h.output, by rw [alloc_size]; exact Nat.le_succ_of_le h.size, (alloc_at q (Nat.lt_of_lt_of_le h.lt h.size)).trans h.here, h.lt, fun j hj hp => (alloc_at q (Nat.lt_of_lt_of_le hj h.size)).trans (h.block j hj hp)⟩
theorem Put.drew {p : Nat} {X Z : World} {o : Obj} (h : Put p X o Z) : Put p X o Z.drew := ⟨h.os, h.tape, h.output, h.size, h.here, h.lt, h.block⟩

theorem Put.sets {p : Nat} {X : World} {c0 c1 c2 c3 : Value} {T : TypeId} (hbox : X.heap[p]? = some (.cells #[c0, c1, c2, c3] T)) (v0 v1 v2 v3 : Value) :
    Put p X (.cells #[v0, v1, v2, v3] T) ((((X.setCell ⟨p, 0, none⟩ v0).setCell ⟨p, 1, none⟩ v1).setCell ⟨p, 2, none⟩ v2).setCell ⟨p, 3, none⟩ v3) := by
  have h0 := heap_setCell_same _ _ 0 _ _ v0 hbox
  have h1 := heap_setCell_same _ _ 1 _ _ v1 h0
  have h2 := heap_setCell_same _ _ 2 _ _ v2 h1
  have h3 := heap_setCell_same _ _ 3 _ _ v3 h2
  refine ⟨rfl, rfl, rfl, by simp [World.setCell], ?_, ?_, fun j _ hj => ?_⟩
  · rw [h3]
    rfl
  · by_cases hl : p < X.heap.size
    · exact hl
    · rw [Array.getElem?_eq_none (Nat.le_of_not_lt hl)] at hbox
      cases hbox
  · rw [Deep.blk_setCell_other _ _ _ _ hj, Deep.blk_setCell_other _ _ _ _ hj, Deep.blk_setCell_other _ _ _ _ hj, Deep.blk_setCell_other _ _ _ _ hj]

theorem Turned.sets {p : Nat} {X : World} {a b : Int} {c d : Option Addr} {e f g h : Nat} (hbox : X.heap[p]? = some (.cells #[.int .i64 a, .int .i64 b, .slice c e f, .slice d g h] 25)) (v0 v1 v2 v3 : Value) :
    Turned X ((((X.setCell ⟨p, 0, none⟩ v0).setCell ⟨p, 1, none⟩ v1).setCell ⟨p, 2, none⟩ v2).setCell ⟨p, 3, none⟩ v3) := by
  have hP := Put.sets hbox v0 v1 v2 v3
  exact ⟨p, hP.lt, hP.size, fun j hj hl => hP.block j hl hj, fun _ => ⟨_, _, _, _, _, _, _, _, hbox⟩⟩

/-- The feed's box, its lists, and the row of all changes. -/
structure Flow (w X : World) (b a n : Nat) (fo : Option Addr) (fc : Nat) (so : Option Addr) (sc : Nat) (vo : Option Addr) (vc : Nat) (rs : List Rh) : Prop where
  below : Below w.heap.size w X
  size : w.heap.size < X.heap.size
  box : X.heap[w.heap.size]? = some (.cells #[.int .i64 b, .int .i64 n, .slice fo (n - b) fc, .slice so 1 sc] 25)
  feed : LstF X (.agg #[.int .i64 b, .int .i64 n, .slice fo (n - b) fc, .slice so 1 sc]) (fdOf (rs.map (·.1)) b a)
  row : RowG (w.heap.size + 1) w (.slice vo n vc) rs X
  run : Run (rs.map (·.1))
  len : rs.length = n
  hb : b ≤ a
  ha : a ≤ n
  spot : ∃ g, vo = some ⟨g, 0, none⟩

theorem Put.far {p : Nat} {X Z : World} {o : Obj} (h : Put p X o Z) : Far (p + 1) X Z := ⟨h.size, fun g hg hl => h.block g hl (by omega)⟩

theorem RowG.spot {B : Nat} {w X : World} {vo : Option Addr} {n vc : Nat} {rs : List Rh} (h : RowG B w (.slice vo n vc) rs X) (hn : 0 < n) : ∃ g, vo = some ⟨g, 0, none⟩ := by
  rcases h.1.2 with ⟨e, _⟩ | ⟨g, cp, cur, e, _⟩
  · cases e
    omega
  · cases e
    exact ⟨g, rfl⟩

theorem Flow.put {w X Z : World} {b a n b' a' : Nat} {fo so vo fo' so' : Option Addr} {fc sc vc fc' sc' : Nat} {rs : List Rh} (h : Flow w X b a n fo fc so sc vo vc rs)
    (hP : Put w.heap.size X (.cells #[.int .i64 b', .int .i64 n, .slice fo' (n - b') fc', .slice so' 1 sc'] 25) Z) (hL : LstF Z (.agg #[.int .i64 b', .int .i64 n, .slice fo' (n - b') fc', .slice so' 1 sc']) (fdOf (rs.map (·.1)) b' a')) (hb : b' ≤ a') (ha : a' ≤ n) :
    Flow w Z b' a' n fo' fc' so' sc' vo vc rs :=
  ⟨⟨hP.os.trans h.below.os, hP.tape.trans h.below.tape, hP.output.trans h.below.output, Nat.le_trans h.below.size hP.size, fun k hk => (hP.block k (Nat.lt_trans hk h.size) (Nat.ne_of_lt hk)).trans (h.below.block k hk)⟩,
    Nat.lt_of_lt_of_le h.size hP.size, hP.here, hL, h.row.far hP.far, h.run, h.len, hb, ha, h.spot⟩

theorem LstF.grown {X Z : World} {b t : Int} {fo so : Option Addr} {n m fc sc : Nat} {g : Fd} {q : Option Nat} (h : LstF X (.agg #[.int .i64 b, .int .i64 t, .slice fo n fc, .slice so m sc]) g) (hg : X.grownBy Z q) (hd : ∀ d ∈ g.ch, d.doc = [])
    (h1 : ∀ k off, fo = some ⟨k, off, none⟩ → some k ≠ q) (h2 : ∀ k off, so = some ⟨k, off, none⟩ → some k ≠ q) : LstF Z (.agg #[.int .i64 b, .int .i64 t, .slice fo n fc, .slice so m sc]) g := by
  obtain ⟨s, t', e, hs, ht⟩ := h
  refine ⟨s, t', e, ?_, ?_⟩
  · obtain ⟨ao, cap, rfl, hc, h | ⟨k, off, rfl, hlt, hl⟩⟩ := hs
    · exact ⟨ao, cap, rfl, hc, .inl h⟩
    · simp only [Value.agg.injEq] at e
      have hk : Z.heap[k]? = X.heap[k]? := hg.block k hlt (h1 k off (by simp at e; exact e.2.2.1.1))
      refine ⟨_, cap, rfl, hc, .inr ⟨k, off, rfl, Nat.lt_of_lt_of_le hlt hg.size, fun j hj => ?_⟩⟩
      obtain ⟨u, q0, q1, q2, q3, q4⟩ := hl j hj
      have hdj := hd _ (List.getElem_mem hj)
      rw [hdj] at q4 ⊢
      exact ⟨u, (World.cell?_of_block hk).trans q0, (World.cell?_of_block hk).trans q1, (World.cell?_of_block hk).trans q2, (World.cell?_of_block hk).trans q3, q4.nil_any⟩
  · obtain ⟨ao, cap, rfl, hc, h | ⟨k, off, rfl, hlt, hl⟩⟩ := ht
    · exact ⟨ao, cap, rfl, hc, .inl h⟩
    · have hk : Z.heap[k]? = X.heap[k]? := hg.block k hlt (h2 k off (by simp at e; exact e.2.2.2.1))
      refine ⟨_, cap, rfl, hc, .inr ⟨k, off, rfl, Nat.lt_of_lt_of_le hlt hg.size, fun j hj => ?_⟩⟩
      obtain ⟨q0, q1⟩ := hl j hj
      exact ⟨(World.cell?_of_block hk).trans q0, (World.cell?_of_block hk).trans q1⟩

theorem Flow.add {w X W Z : World} {b a n : Nat} {fo so vo fo' so' vo' : Option Addr} {fc sc vc fc' sc' vc' : Nat} {rs : List Rh} {c : Ch} {q : Rh} (h : Flow w X b a n fo fc so sc vo vc rs)
    (hP : Put w.heap.size X (.cells #[.int .i64 b, .int .i64 ((n : Int) + 1), .slice fo' (n - b + 1) fc', .slice so' 1 sc'] 25) W) (hL : LstF W (.agg #[.int .i64 b, .int .i64 ((n : Int) + 1), .slice fo' (n - b + 1) fc', .slice so' 1 sc']) (fdOf (rs.map (·.1) ++ [c]) b a))
    (h1 : FromB X.heap.size (.slice fo' (n - b + 1) fc')) (h2 : FromB X.heap.size (.slice so' 1 sc')) (hq : q.1 = c) (hR : RowG (w.heap.size + 1) w (.slice vo' (n + 1) vc') (rs ++ [q]) Z) (hg : W.grownBy Z (Value.slice vo n vc).ownBlock) (hr : Run (rs.map (·.1) ++ [c])) :
    Flow w Z b a (n + 1) fo' fc' so' sc' vo' vc' (rs ++ [q]) := by
  have hm : (rs ++ [q]).map (·.1) = rs.map (·.1) ++ [c] := by rw [List.map_append]; simp [hq]
  have hb := h.hb
  have ha := h.ha
  have hn : n + 1 - b = n - b + 1 := by omega
  have hi : ((n + 1 : Nat) : Int) = (n : Int) + 1 := by omega
  have own : ∀ g, some g = (Value.slice vo n vc).ownBlock → w.heap.size + 1 ≤ g ∧ g < X.heap.size := by
    intro g hg
    rcases h.row.1.2 with ⟨e, _⟩ | ⟨g', cap, cur, e, hb', hc', _⟩
    · rw [e] at hg
      cases hg
    · rw [e] at hg
      obtain rfl : g = g' := by simpa [Value.ownBlock] using hg
      refine ⟨hb', ?_⟩
      by_cases hl : g < X.heap.size
      · exact hl
      · rw [Array.getElem?_eq_none (Nat.le_of_not_lt hl)] at hc'
        cases hc'
  have hd : ∀ d ∈ (fdOf (rs.map (·.1) ++ [c]) b a).ch, d.doc = [] := by
    intro d hd
    obtain ⟨j, hj, rfl⟩ := List.getElem_of_mem (List.mem_of_mem_drop hd)
    exact (hr j hj).2.2
  have hps : w.heap.size < W.heap.size := Nat.lt_of_lt_of_le hP.lt hP.size
  refine ⟨?_, Nat.lt_of_lt_of_le hps hg.size, ?_, ?_, hR, by rw [hm]; exact hr, by simp [h.len], hb, by omega, hR.spot (Nat.succ_pos _)⟩
  · refine ⟨hg.os.trans (hP.os.trans h.below.os), hg.tape.trans (hP.tape.trans h.below.tape), hg.output.trans (hP.output.trans h.below.output), Nat.le_trans h.below.size (Nat.le_trans hP.size hg.size), fun k hk => ?_⟩
    have hk1 := Nat.lt_trans hk h.size
    rw [hg.block k (Nat.lt_of_lt_of_le hk1 hP.size) (fun e => by have := (own k e).1; omega), hP.block k hk1 (Nat.ne_of_lt hk)]
    exact h.below.block k hk
  · rw [hg.block _ hps (fun e => by have := (own _ e).1; omega), hP.here, hn, hi]
  · rw [hn, hi, hm]
    refine LstF.grown hL hg hd ?_ ?_
    · intro k off e he
      have := h1 k off _ _ (by rw [e])
      have := (own k he).2
      omega
    · intro k off e he
      have := h2 k off _ _ (by rw [e])
      have := (own k he).2
      omega

theorem Flow.cells {w X : World} {b a n : Nat} {fo so vo : Option Addr} {fc sc vc : Nat} {rs : List Rh} (h : Flow w X b a n fo fc so sc vo vc rs) :
    (X.cell? ⟨w.heap.size, 0, none⟩ = some (.int .i64 b) ∧ X.cell? ⟨w.heap.size, 1, none⟩ = some (.int .i64 n) ∧ X.cell? ⟨w.heap.size, 2, none⟩ = some (.slice fo (n - b) fc) ∧ X.cell? ⟨w.heap.size, 3, none⟩ = some (.slice so 1 sc)) ∧
    X.frozen? ⟨w.heap.size, 0, none⟩ = false ∧ X.frozen? ⟨w.heap.size, 1, none⟩ = false ∧ X.frozen? ⟨w.heap.size, 2, none⟩ = false ∧ X.frozen? ⟨w.heap.size, 3, none⟩ = false := by
  have hb := h.box
  refine ⟨⟨?_, ?_, ?_, ?_⟩, ?_, ?_, ?_, ?_⟩
  · rw [cell_of_row X _ 0 _ _ _ hb]; rfl
  · rw [cell_of_row X _ 1 _ _ _ hb]; rfl
  · rw [cell_of_row X _ 2 _ _ _ hb]; rfl
  · rw [cell_of_row X _ 3 _ _ _ hb]; rfl
  all_goals simp [World.frozen?, hb]

theorem FromB.mono {B C : Nat} {v : Value} (h : FromB B v) (hC : C ≤ B) : FromB C v := fun b off n c e => Nat.le_trans hC (h b off n c e)

theorem Flow.adds {w X Z : World} {b a n : Nat} {fo so vo : Option Addr} {fc sc vc : Nat} {rs : List Rh} (h : Flow w X b a n fo fc so sc vo vc rs) (hA : Adds X Z) : Flow w Z b a n fo fc so sc vo vc rs := by
  have hb := hA.below
  exact ⟨⟨hb.os.trans h.below.os, hb.tape.trans h.below.tape, hb.output.trans h.below.output, Nat.le_trans h.below.size hb.size, fun k hk => (hb.block k (Nat.lt_trans hk h.size)).trans (h.below.block k hk)⟩,
    Nat.lt_of_lt_of_le h.size hb.size, (hb.block _ h.size).trans h.box, h.feed.adds hA, h.row.far ⟨hb.size, fun g _ hl => hb.block g hl⟩, h.run, h.len, h.hb, h.ha, h.spot⟩

/-- A part of all changes, as it is cut out. -/
theorem Flow.part {w X : World} {b a n g : Nat} {fo so : Option Addr} {fc sc vc : Nat} {rs : List Rh} (h : Flow w X b a n fo fc so sc (some ⟨g, 0, none⟩) vc rs) (m L : Nat) (hL : L = (((rs.map (·.1)).drop a).take m).length) (W : World) (q c : Nat) (hA : Adds X W)
    (hq : (q = a * 4 ∧ L ≤ c) ∨ L = 0) : LstH W (.slice (some ⟨g, q, none⟩) L c) (((rs.map (·.1)).drop a).take m) := by
  by_cases h0 : L = 0
  · have he : (((rs.map (·.1)).drop a).take m) = [] := List.eq_nil_of_length_eq_zero (by omega)
    rw [he]
    subst h0
    exact ⟨_, c, rfl, Nat.zero_le _, .inl rfl⟩
  rcases hq with ⟨rfl, hc⟩ | hq
  · have hr : RowG (w.heap.size + 1) X (.slice (some ⟨g, 0, none⟩) n vc) rs X := by
      refine ⟨h.row.1, fun r hr => ?_⟩
      have h1 := h.row.2 r hr
      have h2 := h.run.bare rfl r hr
      rw [h2] at h1 ⊢
      exact h1.nil_any
    obtain ⟨ao, cap, e, _, hl⟩ := hr.lstH (Adds.refl X)
    cases e
    rcases hl with hl | ⟨k, off, e, hk, hl⟩
    · rw [hl] at hL
      simp at hL
      omega
    · cases e
      refine LstH.adds ?_ hA
      refine ⟨_, c, by rw [← hL], by rw [← hL]; exact hc, .inr ⟨g, a * 4, rfl, hk, ?_⟩⟩
      have := (hl.drop a).take m
      rwa [Nat.zero_add] at this
  · exact absurd hq h0

end Go.Proofs.Ytpjhohmbifpogaa
