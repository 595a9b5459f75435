/-
  Apply of shelves, by contract: asked for entries, to be ready, or for nothing.
  From a walk to a row: a call that returns true and leaves all old memory alone keeps every argument's reading.
  Arguments opened: a value of package api, and a document, as they lie in memory.
  The reference's raw, by a contract: num.
  The reference's raw, by a contract: path.
-/
import Derived.Test.YtiacnmcdfpmcfaaGreatDoorQ42
import Derived.Test.YtiacnmcdfpmcfaaGreatDoorRows
import Derived.ProofKit
import Derived.Lib.SmallJoins
import Derived.Test.YtiacnmcdfpmcfaaGreatDoorQ03
import Derived.Test.YtiacnmcdfpmcfaaGreatDoorQ19
import Derived.Test.YtiacnmcdfpmcfaaGreatDoorQ17
import Derived.BigQuiet
namespace Go.Proofs.YtiacnmcdfpmcfaaGreatDoor
open Go.RowKit
attribute [local go_sem] cell?_more frozen?_more setCell_more size_more tape_more drew_more drewN_more more_drew more_drewN one_out plus_out plus_end lt_one le_p2 le_p3 le_p4 le_p5 le_p6 le_p7 le_p8 le_p9 le_p10 le_p11 le_p12 le_p13 le_p14 le_p15 le_p16 le_p17 le_p18 le_p19 le_p20 le_p21 le_p22 le_p23 le_p24 le_q0 le_q1 lt_q1 le_q2 lt_q2 le_q3 lt_q3 le_q4 lt_q4 le_q5 lt_q5 le_q6 lt_q6 le_q7 lt_q7 le_q8 lt_q8 le_q9 lt_q9 le_q10 lt_q10 le_q11 lt_q11 le_q12 lt_q12 le_q13 lt_q13 le_q14 lt_q14 le_q15 lt_q15 le_q16 lt_q16 le_q17 lt_q17 le_q18 lt_q18 le_q19 lt_q19 le_q20 lt_q20 le_q21 lt_q21 le_q22 lt_q22 le_q23 lt_q23 le_q24 lt_q24

theorem stepT_stays (s : Shl) (o : Ov) : Stays (fun s' ans W w' => StepT W s o s' ans w' ∧ ∃ c m ko kn kc, ans = ansV c m (.slice ko kn kc)) where
  adds := by
    rintro s' a W w w' ⟨h, hs⟩ hA
    refine ⟨?_, hs⟩
    rcases h with ⟨h1, h2, h3⟩ | h | h
    · exact .inl ⟨h1, h2, h3.adds hA⟩
    · exact .inr (.inl h)
    · exact .inr (.inr h)
  oth := by
    rintro s' a W w w' k ⟨h, hs⟩ hk ho
    refine ⟨?_, hs⟩
    rcases h with ⟨h1, h2, h3⟩ | h | h
    · exact .inl ⟨h1, h2, h3.oth ho hk (Nat.le_refl _)⟩
    · exact .inr (.inl h)
    · exact .inr (.inr h)

theorem stepT_low {w W : World} {s s' : Shl} {o : Ov} {ans : Value} {w' : World} (h : StepT W s o s' ans w') (hs : w.heap.size ≤ W.heap.size) : StepT w s o s' ans w' := by
  rcases h with ⟨h1, h2, h3 | h3 | ⟨h3, h4, kv, h5, B, W0, hB, ho⟩⟩ | h | h
  · exact .inl ⟨h1, h2, .inl h3⟩
  · exact .inl ⟨h1, h2, .inr (.inl h3)⟩
  · exact .inl ⟨h1, h2, .inr (.inr ⟨h3, h4, kv, h5, B, W0, Nat.le_trans hs hB, ho⟩)⟩
  · exact .inr (.inl h)
  · exact .inr (.inr h)

theorem apply_ok : ApplyOk := by
  intro s v o w h1 h2 hv ho hm k1 k2
  refine (apply_gen s v o w _ (by omega) (by omega) hv ho hm (stepT_stays s o) (fun W g u hA hg hb hu => ?_)).mono ?_
  · refine (ask_small s u g o W hb hu ho (by omega) hm.2.1 k1 k2).mono ?_
    rintro e w' ⟨s', c, m, ko, kn, kc, rfl, hS, hB⟩
    exact ⟨s', c, m, ko, kn, kc, rfl, ⟨hS, c, m, ko, kn, kc, rfl⟩, hB⟩
  · rintro e w' ⟨s', v', ans, W, hA, rfl, hl, ⟨hS, _⟩, hA'⟩
    refine ⟨⟨s', v', ans, rfl, hl, ?_⟩, hA'⟩
    exact stepT_low hS hA.below.size

end Go.Proofs.YtiacnmcdfpmcfaaGreatDoor

namespace Go.Proofs.YtiacnmcdfpmcfaaGreatDoor
open Go.ChangeShapes Go.WideShapes Go.ChangeAt Go.RowKit

theorem Tryz.own : ownKnob Tryz.prog.godebug = none := by kernel_rfl
theorem Tryz.laidOut : laidOutB Tryz.prog = true := by kernel_rfl

theorem trodAll_below {H : Type} {enc : TypeId × Value → H} {P : Program} (hl : laidOutB P = true) {W W' : World} (hb : Below W.heap.size W W') :
    ∀ (ts : List TypeId) (vs : List Value) (ds : List (DataW H)) (ps : List MemPlace), (∀ t ∈ ts, P.readableRec t = true ∧ t < P.types.size) → (∀ x ∈ ps, x.block < W.heap.size) →
      DataW.TrodAll enc P W 0 (fun _ => true) true ts vs ds ps → DataW.TrodAll enc P W' 0 (fun b => decide (b < W.heap.size)) true ts vs ds ps
  | [], [], [], ps, _, _, h => h
  | t :: ts, v :: vs, d :: ds, ps, hr, hlt, h => by
    obtain ⟨p, q, h1, h2, rfl⟩ := h
    have ht := hr t (by simp)
    exact ⟨p, q, Below.trod hl ht.1 ht.2 h1 hb (fun x hx => hlt x (by simp [hx])), trodAll_below hl hb ts vs ds q (fun t ht => hr t (by simp [ht])) (fun x hx => hlt x (by simp [hx])) h2, rfl⟩
  | [], [], _ :: _, _, _, _, h => h.elim
  | [], _ :: _, _, _, _, _, h => h.elim
  | _ :: _, [], _, _, _, _, h => h.elim
  | _ :: _, _ :: _, [], _, _, _, h => h.elim

theorem law_post {H : Type} {enc : TypeId × Value → H} {P : Program} {fn : Func} {s : ChangeSpec} {W W' : World} {args : Array Value} {ds : List (DataW H)} {before : List MemPlace} {tb : TypeId}
    (hl : laidOutB P = true) (hvars : s.vars = []) (hW : DataW.Whole enc P fn.params.toList s.vars false W args.toList ds [] before) (hres : fn.resultTypes = #[tb]) (htb : P.underlying tb = some .bool)
    (hr : ∀ t ∈ fn.params.toList, P.readableRec t = true ∧ t < P.types.size) (hfn : s.fn H (ds ++ []) = { results := [.lit (.bool true)], args := ds }) (hb : Below W.heap.size W W') :
    s.post enc P fn false true false false W args (.bool true) W' := by
  have hW' := hW
  obtain ⟨p, q, hA, hV, rfl, _, _⟩ := hW
  refine ⟨ds, [], _, [], p, [], hW', ?_, ?_, ?_, hb.frame _, fun h => by cases h⟩
  · rw [hfn, hres]
    exact trodAll_mk1 (shut_bool htb true)
  · rw [hfn]
    exact trodAll_below hl hb _ _ _ _ hr (fun x hx => by simpa using hW'.lt x (by simp [hx])) hA
  · rw [hfn, hvars]
    rfl

end Go.Proofs.YtiacnmcdfpmcfaaGreatDoor

namespace Go.Proofs.YtiacnmcdfpmcfaaGreatDoor
open Go.ChangeShapes Go.WideShapes Go.ChangeAt Go.RowKit Go.Joins Go.ChangeMaps

theorem Tryz.cells89 : Tryz.prog.cellsOf 89 = 6 := by kernel_rfl
theorem Tryz.cells87 : Tryz.prog.cellsOf 87 = 5 := by kernel_rfl
theorem Tryz.cells85 : Tryz.prog.cellsOf 85 = 2 := by kernel_rfl
theorem Tryz.cells3 : Tryz.prog.cellsOf 3 = 1 := by kernel_rfl
theorem Tryz.cells9 : Tryz.prog.cellsOf 9 = 1 := by kernel_rfl

def V.cellList (v : V) : List Value := [.int .i64 v.kind, .int .i64 v.num, .string v.text, .int .i64 v.re, .int .i64 v.im]
def F.cellList (f : F) : List Value := [.string f.path, .int .i64 f.val.kind, .int .i64 f.val.num, .string f.val.text, .int .i64 f.val.re, .int .i64 f.val.im]

set_option maxRecDepth 20000 in
theorem trod_V {H : Type} {enc : TypeId × Value → H} {w : World} {base : Nat} {sp : Nat → Bool} {held : Bool} {fuel : Nat} {cs : List Value} {x : DataW H × List MemPlace}
    (h : DataW.trod enc Tryz.prog w base sp held fuel 87 cs = some x) : ∃ v : V, cs = v.cellList := by
  obtain ⟨y0, y1, y2, y3, n, _, hl, h0, h1, h2, h3⟩ := trod_struct4 Tryz.underlying87 h
  rw [Tryz.cells87] at hl
  match cs, hl with
  | [c0, c1, c2, c3, c4], _ =>
    simp only [Tryz.cells3, Tryz.cells9, Tryz.cells85, List.drop_zero, List.take_succ_cons, List.take_zero, List.drop_succ_cons] at h0 h1 h2 h3
    obtain ⟨k, e0, _, _⟩ := DataW.trod_int Tryz.underlying3 h0
    obtain ⟨m, e1, _, _⟩ := DataW.trod_int Tryz.underlying3 h1
    obtain ⟨s, e2, _⟩ := DataW.trod_string Tryz.underlying9 h2
    obtain ⟨z0, z1, n', _, _, g0, g1⟩ := trod_struct2 Tryz.underlying85 h3
    simp only [Tryz.cells3, List.drop_zero, List.take_succ_cons, List.take_zero, List.drop_succ_cons] at g0 g1
    obtain ⟨re, e3, _, _⟩ := DataW.trod_int Tryz.underlying3 g0
    obtain ⟨im, e4, _, _⟩ := DataW.trod_int Tryz.underlying3 g1
    simp at e0 e1 e2 e3 e4
    subst e0 e1 e2 e3 e4
    exact ⟨⟨k, m, s, re, im⟩, rfl⟩

set_option maxRecDepth 20000 in
theorem open_V {H : Type} {enc : TypeId × Value → H} {w : World} {base b0 : Nat} {r : Reach} {sp : Nat → Bool} {held : Bool} {v : Value} {d : DataW H} {ps : List MemPlace}
    (hv : Value.okWide Tryz.prog w r b0 87 v) (h : DataW.Trod enc Tryz.prog w base sp held 87 v d ps) : ∃ x : V, v = x.val := by
  obtain ⟨cs, rfl, hsz⟩ := okWide_struct Tryz.underlying87 hv
  obtain ⟨fuel, hf⟩ := h
  obtain ⟨x, hx⟩ := trod_V hf
  refine ⟨x, ?_⟩
  simp only [Value.cells] at hx
  unfold V.val
  congr 1
  apply Array.toList_inj.1
  exact hx

set_option maxRecDepth 20000 in
theorem trod_F {H : Type} {enc : TypeId × Value → H} {w : World} {base : Nat} {sp : Nat → Bool} {held : Bool} {fuel : Nat} {cs : List Value} {x : DataW H × List MemPlace}
    (h : DataW.trod enc Tryz.prog w base sp held fuel 89 cs = some x) : ∃ f : F, cs = f.cellList := by
  obtain ⟨y0, y1, n, _, hl, h0, h1⟩ := trod_struct2 Tryz.underlying89 h
  rw [Tryz.cells89] at hl
  match cs, hl with
  | [c0, c1, c2, c3, c4, c5], _ =>
    simp only [Tryz.cells9, Tryz.cells87, List.drop_zero, List.take_succ_cons, List.take_zero, List.drop_succ_cons] at h0 h1
    obtain ⟨p, e0, _, hp⟩ := DataW.trod_string Tryz.underlying9 h0
    obtain ⟨v, hv⟩ := trod_V h1
    simp [V.cellList] at e0 hv
    obtain ⟨rfl, rfl, rfl, rfl, rfl⟩ := hv
    subst e0
    exact ⟨⟨p, v, hp⟩, rfl⟩

set_option maxRecDepth 20000 in
theorem open_Lst {H : Type} {enc : TypeId × Value → H} {w : World} {b0 : Nat} {r : Reach} {v : Value} {d : DataW H} {ps : List MemPlace}
    (hv : Value.okWide Tryz.prog w r b0 26 v) (h : DataW.Trod enc Tryz.prog w 0 (fun _ => true) true 26 v d ps) (hlt : ∀ x ∈ ps, x.block < w.heap.size) :
    ∃ fs, Lst w v fs := by
  obtain ⟨a0, len, cap, rfl⟩ := okWide_slice Tryz.underlying26 hv
  obtain ⟨fuel, hf⟩ := h
  rcases Deep.open_slice Tryz.underlying26 hf with ⟨hcs, hx⟩ | ⟨a, len', cap', m, n, D, Pl, hcs, _, hl, hm, hmm, hx, hcell⟩
  · simp [Value.cells] at hcs
    obtain ⟨rfl, rfl, rfl⟩ := hcs
    exact ⟨[], none, 0, rfl, Nat.le_refl _, .inl rfl⟩
  · simp [Value.cells] at hcs
    obtain ⟨rfl, rfl, rfl⟩ := hcs
    simp only [if_true] at hmm
    subst hmm
    have each : ∀ i, i < len → ∃ x : F, ∀ j (hj : j < 6), w.cell? (a.add (i * 6 + j)) = some (x.cellList[j]'(by simpa [F.cellList] using hj)) := by
      intro i hi
      obtain ⟨cs', h1, h2⟩ := hcell i (by omega)
      rw [Tryz.cells89] at h1
      obtain ⟨_, hlen, hc⟩ := World.cells?_some h1
      obtain ⟨x, rfl⟩ := trod_F h2
      refine ⟨x, fun j hj => ?_⟩
      have := hc j (by omega)
      rw [Deep.add_add] at this
      rw [this]
      simp [F.cellList, hj]
    by_cases hl0 : len = 0
    · subst hl0
      exact ⟨[], some a, _, rfl, Nat.zero_le _, .inl rfl⟩
    obtain ⟨b, off, spot⟩ := a
    have hspot : spot = none := by
      obtain ⟨x, hx⟩ := each 0 (by omega)
      simpa [Addr.add] using World.cell?_spot (hx 0 (by omega))
    subst hspot
    have hbW : b < w.heap.size := by
      simp only [Prod.mk.injEq] at hx
      refine hlt (.cell b off) ?_
      rw [hx.2]
      refine List.mem_append.2 (.inl (MemPlace.mem_row.2 ⟨0, ?_, by simp⟩))
      rw [Tryz.cells89]
      omega
    have : Nonempty F := ⟨⟨⟨#[]⟩, ⟨0, 0, ⟨#[]⟩, 0, 0⟩, by decide⟩⟩
    obtain ⟨X, hX⟩ : ∃ X : Nat → F, ∀ i, i < len → ∀ j (hj : j < 6), w.cell? ((⟨b, off, none⟩ : Addr).add (i * 6 + j)) = some ((X i).cellList[j]'(by simpa [F.cellList] using hj)) :=
      ⟨fun i => if h : i < len then (each i h).choose else Classical.choice this, fun i hi => by simp only [hi, dif_pos]; exact (each i hi).choose_spec⟩
    refine ⟨(List.range len).map X, some ⟨b, off, none⟩, m, by simp, by simp; omega, .inr ⟨b, off, rfl, hbW, ?_⟩⟩
    intro i hi
    have hi' : i < len := by simpa using hi
    have hq := hX i hi'
    have c0 := hq 0 (by omega)
    have c1 := hq 1 (by omega)
    have c2 := hq 2 (by omega)
    have c3 := hq 3 (by omega)
    have c4 := hq 4 (by omega)
    have c5 := hq 5 (by omega)
    simp only [Addr.add_lit] at c0 c1 c2 c3 c4 c5
    simp only [List.getElem_map, List.getElem_range]
    refine ⟨?_, ?_, ?_, ?_, ?_, ?_⟩
    · simpa [F.cellList] using c0
    · simpa [F.cellList, Nat.add_assoc] using c1
    · simpa [F.cellList, Nat.add_assoc] using c2
    · simpa [F.cellList, Nat.add_assoc] using c3
    · simpa [F.cellList, Nat.add_assoc] using c4
    · simpa [F.cellList, Nat.add_assoc] using c5

end Go.Proofs.YtiacnmcdfpmcfaaGreatDoor

namespace Go.Proofs.YtiacnmcdfpmcfaaGreatDoor
open Go.RowKit
attribute [local go_sem] cell?_more frozen?_more setCell_more size_more tape_more drew_more drewN_more more_drew more_drewN one_out plus_out plus_end lt_one le_p2 le_p3 le_p4 le_p5 le_p6 le_p7 le_p8 le_p9 le_p10 le_p11 le_p12 le_p13 le_p14 le_p15 le_p16 le_p17 le_p18 le_p19 le_p20 le_p21 le_p22 le_p23 le_p24 le_q0 le_q1 lt_q1 le_q2 lt_q2 le_q3 lt_q3 le_q4 lt_q4 le_q5 lt_q5 le_q6 lt_q6 le_q7 lt_q7 le_q8 lt_q8 le_q9 lt_q9 le_q10 lt_q10 le_q11 lt_q11 le_q12 lt_q12 le_q13 lt_q13 le_q14 lt_q14 le_q15 lt_q15 le_q16 lt_q16 le_q17 lt_q17 le_q18 lt_q18 le_q19 lt_q19 le_q20 lt_q20 le_q21 lt_q21 le_q22 lt_q22 le_q23 lt_q23 le_q24 lt_q24


set_option maxHeartbeats 4000000 in
theorem raw_num {ok : Nat → Prop} {d : Nat} (cs : List E) (hcs : cs.length = 0) (t : ByteArray) (n : Int) (fs : List F) (hm : May fs) (dv : Value) (sn : Value) (w : World) (hT : Tn ok d w sn (cs.map E.toN)) (_hL : Lst w dv fs) (hok : ∀ c ∈ cs, c.ok)
    (HV : ∀ (j : Nat) (h : j < cs.length) (e : Nat) (x : Value) (W : World), Adds w W → Tn ok e W x cs[j].toN.args → Calls Tryz.prog 100 #[nodeV cs[j].toN x, dv] W fun z w' => z = .returned (optV (valE fs cs[j])) ∧ Adds W w') :
    Calls Tryz.prog 126 #[.agg #[.int .i64 2, .string t, .int .i64 n, sn], dv] w fun x w' => x = .returned (optV ((kidsV fs cs).bind (fun _ => some (V.mkNum n)))) ∧ Adds w w' := by
  obtain ⟨ao, cap, rfl⟩ := hT.shape
  have HCS : Hid (cs.length = 0) := hcs
  rw [List.length_map, hcs] at hT ⊢
  have HT : Hid (Tn ok d w (.slice ao 0 cap) (cs.map E.toN)) := hT
  have HC : Hid (∀ (j : Nat) (h : j < cs.length) v, valE fs cs[j] = some v → v.check = 0) := fun j h v hv => valE_ok hm (hok _ (List.getElem_mem h)) hv
  have kN := rNum_any n
  clear hT hok hm _hL
  clear hcs
  have HX : Hid _ := HV
  clear HV
  go_enter Tryz.func126, Tryz.ntmps126
  go_wp2
  go_loopw [6, 7] (fun lv iv wr => ∃ (j : Nat) (vs : List V), j ≤ 0 ∧ iv = .int .i64 j ∧ Hid (Kn fs cs ((w.alloc (.cells #[.int .i64 2, .string t, .int .i64 n, .slice ao 0 cap] 81)).alloc (.cells #[.int .i64 0, .int .i64 0, .string ⟨#[]⟩, .int .i64 0, .int .i64 0] 87)) wr lv j vs)) (fun _ iv _ => 0 - (intOf iv).toNat)
  case atStart =>
    refine ⟨0, [], Nat.zero_le _, rfl, ⟨rfl, ?_, by simp, own_empty (by simp) (Nat.le_refl _), by repeat (first | with_reducible exact Adds.refl _ | with_reducible refine Adds.alloc ?_ _ | with_reducible refine Adds.more ?_ _ _ | with_reducible refine Adds.drew ?_ | with_reducible refine Adds.drewN ?_ _)⟩⟩
    rw [List.drop_zero]
    cases kidsV fs cs <;> rfl
  case round =>
    obtain ⟨j, vs, hj, rfl, hK⟩ := hrel
    by_cases hltM : j < 0
    · exact absurd hltM (by omega)
    · have hj' : j = cs.length := by rw [HCS.out]; omega
      subst hj'
      rw [HCS.out] at hj hltM
      have HLa : Hid (kidsV fs cs = some vs) := hK.out.last
      have hvl := hK.out.len
      have hgood := hK.out.good
      have hown := hK.out.own
      have HA1 : Hid (Adds w wr) := Adds.trans (by repeat (first | with_reducible exact Adds.refl _ | with_reducible refine Adds.alloc ?_ _ | with_reducible refine Adds.more ?_ _ _ | with_reducible refine Adds.drew ?_ | with_reducible refine Adds.drewN ?_ _)) hK.out.adds
      have hA1 := hK.out.adds
      have hbel := hA1.below
      have hsz := hbel.size
      simp only [World.size_alloc] at hsz
      have fB : ∀ i, wr.cell? ⟨w.heap.size, i, none⟩ = (((w.alloc (.cells #[.int .i64 2, .string t, .int .i64 n, .slice ao 0 cap] 81)).alloc (.cells #[.int .i64 0, .int .i64 0, .string ⟨#[]⟩, .int .i64 0, .int .i64 0] 87))).cell? ⟨w.heap.size, i, none⟩ := fun i => World.cell?_of_block (hbel.block _ (by rw [World.size_alloc, World.size_alloc]; show _ < w.heap.size + 1 + 1; simp only; omega))
      have gB : ∀ i, wr.cell? ⟨w.heap.size + 1, i, none⟩ = (((w.alloc (.cells #[.int .i64 2, .string t, .int .i64 n, .slice ao 0 cap] 81)).alloc (.cells #[.int .i64 0, .int .i64 0, .string ⟨#[]⟩, .int .i64 0, .int .i64 0] 87))).cell? ⟨w.heap.size + 1, i, none⟩ := fun i => World.cell?_of_block (hbel.block _ (by rw [World.size_alloc, World.size_alloc]; show _ < w.heap.size + 1 + 1; simp only; omega))
      have zB : ∀ i, wr.frozen? ⟨w.heap.size + 1, i, none⟩ = (((w.alloc (.cells #[.int .i64 2, .string t, .int .i64 n, .slice ao 0 cap] 81)).alloc (.cells #[.int .i64 0, .int .i64 0, .string ⟨#[]⟩, .int .i64 0, .int .i64 0] 87))).frozen? ⟨w.heap.size + 1, i, none⟩ := fun i => World.frozen?_of_block (hbel.block _ (by rw [World.size_alloc, World.size_alloc]; show _ < w.heap.size + 1 + 1; simp only; omega))
      have f0 := (fB 0).trans (show _ = some (.int .i64 2) by simp)
      have f1 := (fB 1).trans (show _ = some (.string t) by simp)
      have f2 := (fB 2).trans (show _ = some (.int .i64 n) by simp)
      have f3 := (fB 3).trans (show _ = some (.slice ao 0 cap) by simp)
      have g0 := (gB 0).trans (show _ = some (.int .i64 0) by simp)
      have g1 := (gB 1).trans (show _ = some (.int .i64 0) by simp)
      have g2 := (gB 2).trans (show _ = some (.string ⟨#[]⟩) by simp)
      have g3 := (gB 3).trans (show _ = some (.int .i64 0) by simp)
      have g4 := (gB 4).trans (show _ = some (.int .i64 0) by simp)
      have z0 := (zB 0).trans (show _ = false by simp)
      have z1 := (zB 1).trans (show _ = false by simp)
      have z2 := (zB 2).trans (show _ = false by simp)
      have z3 := (zB 3).trans (show _ = false by simp)
      have z4 := (zB 4).trans (show _ = false by simp)
      have s0 : w.heap.size < wr.heap.size := by omega
      have s1 : w.heap.size + 1 < wr.heap.size := by omega
      rw [HCS.out] at hvl ⊢
      clear hK HT HX HC hA1 hbel fB gB zB
      clear hgood hown
      go_wp2_with (first
        | (go_at_call 147; refine (kN _).mono ?_; rintro e w2 ⟨rfl, os2, n2, rfl⟩))
      exact bodyPost_ret (v := .tuple #[.agg #[.int .i64 1, .int .i64 n, .string ⟨#[]⟩, .int .i64 0, .int .i64 0], .bool true]) (by simp [results, Tryz.results126, go_sem, s1, g0, g1, g2, g3, g4]) rfl ⟨by rw [HLa.out]; rfl, by repeat (first | with_reducible exact HA1.out | with_reducible refine Adds.put ?_ (by omega) _ _ | with_reducible refine Adds.alloc ?_ _ | with_reducible refine Adds.more ?_ _ _ | with_reducible refine Adds.drew ?_ | with_reducible refine Adds.drewN ?_ _)⟩

end Go.Proofs.YtiacnmcdfpmcfaaGreatDoor

namespace Go.Proofs.YtiacnmcdfpmcfaaGreatDoor
open Go.RowKit
attribute [local go_sem] cell?_more frozen?_more setCell_more size_more tape_more drew_more drewN_more more_drew more_drewN one_out plus_out plus_end lt_one le_p2 le_p3 le_p4 le_p5 le_p6 le_p7 le_p8 le_p9 le_p10 le_p11 le_p12 le_p13 le_p14 le_p15 le_p16 le_p17 le_p18 le_p19 le_p20 le_p21 le_p22 le_p23 le_p24 le_q0 le_q1 lt_q1 le_q2 lt_q2 le_q3 lt_q3 le_q4 lt_q4 le_q5 lt_q5 le_q6 lt_q6 le_q7 lt_q7 le_q8 lt_q8 le_q9 lt_q9 le_q10 lt_q10 le_q11 lt_q11 le_q12 lt_q12 le_q13 lt_q13 le_q14 lt_q14 le_q15 lt_q15 le_q16 lt_q16 le_q17 lt_q17 le_q18 lt_q18 le_q19 lt_q19 le_q20 lt_q20 le_q21 lt_q21 le_q22 lt_q22 le_q23 lt_q23 le_q24 lt_q24


set_option maxHeartbeats 4000000 in
theorem raw_path {ok : Nat → Prop} {d : Nat} (cs : List E) (hcs : cs.length = 0) (t : ByteArray) (n : Int) (fs : List F) (hm : May fs) (dv : Value) (sn : Value) (w : World) (hT : Tn ok d w sn (cs.map E.toN)) (hL : Lst w dv fs) (hok : ∀ c ∈ cs, c.ok)
    (HV : ∀ (j : Nat) (h : j < cs.length) (e : Nat) (x : Value) (W : World), Adds w W → Tn ok e W x cs[j].toN.args → Calls Tryz.prog 100 #[nodeV cs[j].toN x, dv] W fun z w' => z = .returned (optV (valE fs cs[j])) ∧ Adds W w') :
    Calls Tryz.prog 126 #[.agg #[.int .i64 1, .string t, .int .i64 n, sn], dv] w fun x w' => x = .returned (optV ((kidsV fs cs).bind (fun _ => if firstAt t fs < fs.length then some (got t fs) else none))) ∧ Adds w w' := by
  obtain ⟨ao, cap, rfl⟩ := hT.shape
  have HCS : Hid (cs.length = 0) := hcs
  rw [List.length_map, hcs] at hT ⊢
  have HT : Hid (Tn ok d w (.slice ao 0 cap) (cs.map E.toN)) := hT
  have HC : Hid (∀ (j : Nat) (h : j < cs.length) v, valE fs cs[j] = some v → v.check = 0) := fun j h v hv => valE_ok hm (hok _ (List.getElem_mem h)) hv
  have kG := fun W hA => refGet_any dv fs t W (hL.adds hA) (by have := hm.1; omega)
  have hdl := hL
  have hml := hm.1
  obtain ⟨do_, dcap, rfl, hdc, hdl⟩ := hdl
  generalize hres : (if firstAt t fs < fs.length then some (got t fs) else none) = res
  have HRES : Hid ((if firstAt t fs < fs.length then some (got t fs) else none) = res) := hres
  clear hres
  clear hT hok hm hL
  clear hcs
  have HX : Hid _ := HV
  clear HV
  go_enter Tryz.func126, Tryz.ntmps126
  go_wp2
  go_loopw [6, 7] (fun lv iv wr => ∃ (j : Nat) (vs : List V), j ≤ 0 ∧ iv = .int .i64 j ∧ Hid (Kn fs cs ((w.alloc (.cells #[.int .i64 1, .string t, .int .i64 n, .slice ao 0 cap] 81)).alloc (.cells #[.int .i64 0, .int .i64 0, .string ⟨#[]⟩, .int .i64 0, .int .i64 0] 87)) wr lv j vs)) (fun _ iv _ => 0 - (intOf iv).toNat)
  case atStart =>
    refine ⟨0, [], Nat.zero_le _, rfl, ⟨rfl, ?_, by simp, own_empty (by simp) (Nat.le_refl _), by repeat (first | with_reducible exact Adds.refl _ | with_reducible refine Adds.alloc ?_ _ | with_reducible refine Adds.more ?_ _ _ | with_reducible refine Adds.drew ?_ | with_reducible refine Adds.drewN ?_ _)⟩⟩
    rw [List.drop_zero]
    cases kidsV fs cs <;> rfl
  case round =>
    obtain ⟨j, vs, hj, rfl, hK⟩ := hrel
    by_cases hltM : j < 0
    · exact absurd hltM (by omega)
    · have hj' : j = cs.length := by rw [HCS.out]; omega
      subst hj'
      rw [HCS.out] at hj hltM
      have HLa : Hid (kidsV fs cs = some vs) := hK.out.last
      have hvl := hK.out.len
      have hgood := hK.out.good
      have hown := hK.out.own
      have HA1 : Hid (Adds w wr) := Adds.trans (by repeat (first | with_reducible exact Adds.refl _ | with_reducible refine Adds.alloc ?_ _ | with_reducible refine Adds.more ?_ _ _ | with_reducible refine Adds.drew ?_ | with_reducible refine Adds.drewN ?_ _)) hK.out.adds
      have hA1 := hK.out.adds
      have hbel := hA1.below
      have hsz := hbel.size
      simp only [World.size_alloc] at hsz
      have fB : ∀ i, wr.cell? ⟨w.heap.size, i, none⟩ = (((w.alloc (.cells #[.int .i64 1, .string t, .int .i64 n, .slice ao 0 cap] 81)).alloc (.cells #[.int .i64 0, .int .i64 0, .string ⟨#[]⟩, .int .i64 0, .int .i64 0] 87))).cell? ⟨w.heap.size, i, none⟩ := fun i => World.cell?_of_block (hbel.block _ (by rw [World.size_alloc, World.size_alloc]; show _ < w.heap.size + 1 + 1; simp only; omega))
      have gB : ∀ i, wr.cell? ⟨w.heap.size + 1, i, none⟩ = (((w.alloc (.cells #[.int .i64 1, .string t, .int .i64 n, .slice ao 0 cap] 81)).alloc (.cells #[.int .i64 0, .int .i64 0, .string ⟨#[]⟩, .int .i64 0, .int .i64 0] 87))).cell? ⟨w.heap.size + 1, i, none⟩ := fun i => World.cell?_of_block (hbel.block _ (by rw [World.size_alloc, World.size_alloc]; show _ < w.heap.size + 1 + 1; simp only; omega))
      have zB : ∀ i, wr.frozen? ⟨w.heap.size + 1, i, none⟩ = (((w.alloc (.cells #[.int .i64 1, .string t, .int .i64 n, .slice ao 0 cap] 81)).alloc (.cells #[.int .i64 0, .int .i64 0, .string ⟨#[]⟩, .int .i64 0, .int .i64 0] 87))).frozen? ⟨w.heap.size + 1, i, none⟩ := fun i => World.frozen?_of_block (hbel.block _ (by rw [World.size_alloc, World.size_alloc]; show _ < w.heap.size + 1 + 1; simp only; omega))
      have f0 := (fB 0).trans (show _ = some (.int .i64 1) by simp)
      have f1 := (fB 1).trans (show _ = some (.string t) by simp)
      have f2 := (fB 2).trans (show _ = some (.int .i64 n) by simp)
      have f3 := (fB 3).trans (show _ = some (.slice ao 0 cap) by simp)
      have g0 := (gB 0).trans (show _ = some (.int .i64 0) by simp)
      have g1 := (gB 1).trans (show _ = some (.int .i64 0) by simp)
      have g2 := (gB 2).trans (show _ = some (.string ⟨#[]⟩) by simp)
      have g3 := (gB 3).trans (show _ = some (.int .i64 0) by simp)
      have g4 := (gB 4).trans (show _ = some (.int .i64 0) by simp)
      have z0 := (zB 0).trans (show _ = false by simp)
      have z1 := (zB 1).trans (show _ = false by simp)
      have z2 := (zB 2).trans (show _ = false by simp)
      have z3 := (zB 3).trans (show _ = false by simp)
      have z4 := (zB 4).trans (show _ = false by simp)
      have s0 : w.heap.size < wr.heap.size := by omega
      have s1 : w.heap.size + 1 < wr.heap.size := by omega
      rw [HCS.out] at hvl ⊢
      clear hK HT HX HC hA1 hbel fB gB zB
      clear hgood hown
      by_cases hf : firstAt t fs < fs.length
      · have hpl : placeOf t fs = firstAt t fs := by simp [placeOf, hf]
        rw [hpl] at kG
        rcases hdl with rfl | ⟨b, off, rfl, hbb, hll⟩
        · simp at hf
        have HR : Hid (res = some fs[firstAt t fs].val) := by
          show _ = _
          rw [← HRES.out, if_pos hf]
          simp only [got, hf, dif_pos]
        obtain ⟨d0, d1, d2, d3, d4, d5⟩ := hll _ hf
        have hW : ∀ i, wr.cell? ⟨b, i, none⟩ = w.cell? ⟨b, i, none⟩ := fun i => World.cell?_of_block (HA1.out.below.block _ hbb)
        rw [← hW] at d1 d2 d3 d4 d5
        have hbw : b < wr.heap.size := by omega
        have HRR : Hid ((kidsV fs cs).bind (fun _ => res) = some fs[firstAt t fs].val) := by show _ = _; rw [HLa.out]; exact HR.out
        have kG' := kG wr HA1.out
        clear kG hpl hll hW HR HRES d0
        generalize fs[firstAt t fs].val = x at *
        obtain ⟨xk, xn, xt, xr, xi⟩ := x
        generalize hfa : firstAt t fs = fa at *
        simp only at d1 d2 d3 d4 d5
        go_wp2_with (first
          | (go_at_call 146; refine kG'.mono ?_; rintro e w2 ⟨rfl, hw⟩; subst w2))
        exact bodyPost_ret (v := .tuple #[.agg #[.int .i64 xk, .int .i64 xn, .string xt, .int .i64 xr, .int .i64 xi], .bool true]) (by simp [results, Tryz.results126, go_sem, g0, g1, g2, g3, g4]) rfl ⟨by rw [HRR.out]; rfl, by repeat (first | with_reducible exact HA1.out | with_reducible refine Adds.put ?_ (by omega) _ _ | with_reducible refine Adds.alloc ?_ _ | with_reducible refine Adds.more ?_ _ _ | with_reducible refine Adds.drew ?_ | with_reducible refine Adds.drewN ?_ _)⟩
      · have hpl : placeOf t fs = -1 := by simp [placeOf, hf]
        have HR : Hid (res = none) := by show _ = _; rw [← HRES.out, if_neg hf]
        have HRR : Hid ((kidsV fs cs).bind (fun _ => res) = none) := by show _ = _; rw [HLa.out]; exact HR.out
        have kG' := kG wr HA1.out
        rw [hpl] at kG'
        clear kG hpl hdl hf HRES HR
        go_wp2_with (first
          | (go_at_call 146; refine kG'.mono ?_; rintro e w2 ⟨rfl, hw⟩; subst w2))
        exact bodyPost_ret (v := .tuple #[.agg #[.int .i64 0, .int .i64 0, .string ⟨#[]⟩, .int .i64 0, .int .i64 0], .bool false]) (by simp [results, Tryz.results126, go_sem, g0, g1, g2, g3, g4]) rfl ⟨by rw [HRR.out]; rfl, by repeat (first | with_reducible exact HA1.out | with_reducible refine Adds.put ?_ (by omega) _ _ | with_reducible refine Adds.alloc ?_ _ | with_reducible refine Adds.more ?_ _ _ | with_reducible refine Adds.drew ?_ | with_reducible refine Adds.drewN ?_ _)⟩

end Go.Proofs.YtiacnmcdfpmcfaaGreatDoor
