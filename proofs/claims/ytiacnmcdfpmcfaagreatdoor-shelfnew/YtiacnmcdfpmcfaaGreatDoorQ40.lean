/-
  ParseAll of package expr, by a contract.
  The reference's cutting of a text, by laws.
-/
import Derived.Test.YtiacnmcdfpmcfaaGreatDoorQ39
namespace Go.Proofs.YtiacnmcdfpmcfaaGreatDoor
open Go.RowKit
attribute [local go_sem] cell?_more frozen?_more setCell_more size_more tape_more drew_more drewN_more more_drew more_drewN one_out plus_out plus_end lt_one le_p2 le_p3 le_p4 le_p5 le_p6 le_p7 le_p8 le_p9 le_p10 le_p11 le_p12 le_p13 le_p14 le_p15 le_p16 le_p17 le_p18 le_p19 le_p20 le_p21 le_p22 le_p23 le_p24 le_q0 le_q1 lt_q1 le_q2 lt_q2 le_q3 lt_q3 le_q4 lt_q4 le_q5 lt_q5 le_q6 lt_q6 le_q7 lt_q7 le_q8 lt_q8 le_q9 lt_q9 le_q10 lt_q10 le_q11 lt_q11 le_q12 lt_q12 le_q13 lt_q13 le_q14 lt_q14 le_q15 lt_q15 le_q16 lt_q16 le_q17 lt_q17 le_q18 lt_q18 le_q19 lt_q19 le_q20 lt_q20 le_q21 lt_q21 le_q22 lt_q22 le_q23 lt_q23 le_q24 lt_q24


set_option maxHeartbeats 2000000 in
theorem parseAll_many (s : ByteArray) (h4 : 4 < (spl s.toList).length) (w : World) : Calls Tryz.prog 28 #[.string s] w fun e w' => e = .returned (.tuple #[.slice none 0 0, .int .i64 5]) ∧ Adds w w' := by
  have kC := count_any s
  have hc : (4 : Int) ≤ ((s.toList.count 44 : Nat) : Int) := by rw [spl_len] at h4; omega
  clear h4
  generalize s.toList.count 44 = cn at *
  go_enter Tryz.func28, Tryz.ntmps28
  go_wp2_with (go_at_call 46; refine (kC _).mono ?_; rintro e w1 ⟨rfl, hw⟩; subst w1)
  exact bodyPost_ret (v := .tuple #[.slice none 0 0, .int .i64 5]) (by simp [results, Tryz.results28, go_sem]) rfl ⟨rfl, by repeat (first | with_reducible exact Adds.refl _ | with_reducible refine Adds.alloc ?_ _ | with_reducible refine Adds.more ?_ _ _ | with_reducible refine Adds.drew ?_ | with_reducible refine Adds.drewN ?_ _)⟩

theorem piece_cell {w : World} {ls : List (List UInt8)} {j : Nat} (hj : j < ls.length) : (w.alloc (.cells (ls.map (fun l => Value.string (toB l))).toArray 9)).cell? ⟨w.heap.size, j, none⟩ = some (.string (toB ls[j])) := by
  refine cell_new rfl ?_
  simp [hj]

set_option maxHeartbeats 4000000 in
set_option maxRecDepth 20000 in
theorem parseAll_few (s : ByteArray) (hs : s.size ≤ 2000) (h4 : ¬ 4 < (spl s.toList).length) (w : World) : Calls Tryz.prog 28 #[.string s] w fun e w' => GaveR (parseLs (spl s.toList)) e w' ∧ Adds w w' := by
  have kC := count_any s
  have kS := split_any s hs
  have hc : ¬ (4 : Int) ≤ ((s.toList.count 44 : Nat) : Int) := by rw [spl_len] at h4; omega
  generalize s.toList.count 44 = cn at *
  generalize spl s.toList = ls at *
  go_enter Tryz.func28, Tryz.ntmps28
  go_wp2_with (first
    | (go_at_call 46; refine (kC _).mono ?_; rintro e w1 ⟨rfl, hw⟩; subst w1)
    | (go_at_call 47; refine (kS _).mono ?_; rintro e w1 ⟨rfl, hw⟩; subst w1))
  clear kC kS
  have hcell : ∀ (j : Nat) (hj : j < ls.length), (w.alloc (.cells (ls.map (fun l => Value.string (toB l))).toArray 9)).cell? ⟨w.heap.size, j, none⟩ = some (.string (toB ls[j])) := fun j hj => piece_cell hj
  have HA1 : Hid (Adds w (w.alloc (.cells (ls.map (fun l => Value.string (toB l))).toArray 9))) := (Adds.refl w).alloc _
  have hws : w.heap.size < (w.alloc (.cells (ls.map (fun l => Value.string (toB l))).toArray 9)).heap.size := by simp
  generalize w.alloc (.cells (ls.map (fun l => Value.string (toB l))).toArray 9) = w1 at *
  have HCL : Hid _ := hcell
  clear hcell
  go_loopw [4, 15] (fun lv iv wr => ∃ (j D : Nat) (xs : List E) (ns : List NV), j ≤ ls.length ∧ iv = .int .i64 j ∧ Hid (Sofar ls j xs) ∧ Hid (Nr w1 wr lv xs ns D)) (fun _ iv _ => ls.length - (intOf iv).toNat)
  case atStart => exact ⟨0, 0, [], [], Nat.zero_le _, rfl, sofar_nil ls, nr_nil w1⟩
  case round =>
    obtain ⟨j, D, xs, ns, hj, rfl, HSo, HN⟩ := hrel
    obtain ⟨vo, vc, rfl⟩ := HN.out.shape
    have hlx : xs.length = j := HSo.out.1
    have hln : ns.length = j := HN.out.rx.1.trans hlx
    obtain ⟨os, n0, rfl⟩ := HN.out.adds
    by_cases hlt : j < ls.length
    · have cj := HCL.out j hlt
      have hnl : ns.length ≤ 10000 := by omega
      have HLN : Hid (ns.length = j) := hln
      clear hln hlx
      cases hp : parseL ls[j] with
      | error c =>
        have kP := fun W => (parse_E hp W).1
        have HE : Hid (parseLs ls = .error c) := HSo.out.err hlt hp
        have hc0 : (c == 0) = false := by simpa using parseL_err hp
        clear hp HCL HSo HN
        generalize toB ls[j] = one at *
        go_wp2_with (go_at_call 48; refine (kP _).mono ?_; rintro e w2 ⟨rfl, os2, n2, rfl⟩)
        exact bodyPost_ret (v := .tuple #[.slice none 0 0, .int .i64 c]) (by simp [results, Tryz.results28, go_sem]) rfl ⟨by rw [HE.out]; rfl, HA1.out.trans (by repeat (first | with_reducible exact Adds.refl _ | with_reducible refine Adds.alloc ?_ _ | with_reducible refine Adds.more ?_ _ _ | with_reducible refine Adds.drew ?_ | with_reducible refine Adds.drewN ?_ _))⟩
      | ok x =>
        have kP := fun W => (parse_O hp W).1
        have HNX : Hid (Sofar ls (j + 1) (xs ++ [x])) := HSo.out.next hlt hp
        clear hp HCL HSo
        generalize toB ls[j] = one at *
        simp only [Gave, nodeV] at kP
        go_wp2_with (first
          | (go_at_call 48; refine (kP _).mono ?_; rintro e w2 ⟨⟨ao, cap, D', rfl, hT⟩, os2, n2, rfl⟩)
          | (at_builtin; refine node_app rfl (.tmp 27) (.tmp 29) rfl (Nr.own HN.out) (by repeat (first | with_reducible exact Adds.refl _ | with_reducible refine Adds.alloc ?_ _ | with_reducible refine Adds.more ?_ _ _ | with_reducible refine Adds.drew ?_ | with_reducible refine Adds.drewN ?_ _)) (by simp [size_more]) rfl (by first | rfl | simp [size_more] | (simp [size_more]; omega)) rfl hnl ?_; intro v6 w6 ho6 hg6 hv6))
        go_roundw
        case rel =>
          refine ⟨j + 1, _, xs ++ [x], _, by omega, by go_num, HNX, Nr.push (D' := D') HN.out (by repeat (first | with_reducible exact Adds.refl _ | with_reducible refine Adds.alloc ?_ _ | with_reducible refine Adds.more ?_ _ _ | with_reducible refine Adds.drew ?_ | with_reducible refine Adds.drewN ?_ _)) ?_ ho6 hg6 hv6⟩
          exact (Tn.adds hT.out (by repeat (first | with_reducible exact Adds.refl _ | with_reducible refine Adds.alloc ?_ _ | with_reducible refine Adds.more ?_ _ _ | with_reducible refine Adds.drew ?_ | with_reducible refine Adds.drewN ?_ _))).weak (fun b hb _ => Nat.le_trans (Nat.le_succ _) hb)
        case measure => simp [intOf]; omega
    · have hj' : j = ls.length := by omega
      subst hj'
      have HG := HN.out.gave HSo.out
      have HG' : Hid _ := HG
      clear HG HSo HN hln
      go_wp2
      exact bodyPost_ret (v := .tuple #[.slice vo xs.length vc, .int .i64 0]) (by simp [results, Tryz.results28, go_sem]) rfl ⟨HG'.out, HA1.out.trans (by repeat (first | with_reducible exact Adds.refl _ | with_reducible refine Adds.alloc ?_ _ | with_reducible refine Adds.more ?_ _ _ | with_reducible refine Adds.drew ?_ | with_reducible refine Adds.drewN ?_ _))⟩

theorem parseAll_any (s : ByteArray) (hs : s.size ≤ 2000) (w : World) : Calls Tryz.prog 28 #[.string s] w fun e w' => GaveR (parseA s.toList) e w' ∧ Adds w w' := by
  unfold parseA
  split
  · rename_i h4
    exact parseAll_many s h4 w
  · rename_i h4
    exact parseAll_few s hs h4 w

end Go.Proofs.YtiacnmcdfpmcfaaGreatDoor

namespace Go.Proofs.YtiacnmcdfpmcfaaGreatDoor
open Go.RowKit
attribute [local go_sem] cell?_more frozen?_more setCell_more size_more tape_more drew_more drewN_more more_drew more_drewN one_out plus_out plus_end lt_one le_p2 le_p3 le_p4 le_p5 le_p6 le_p7 le_p8 le_p9 le_p10 le_p11 le_p12 le_p13 le_p14 le_p15 le_p16 le_p17 le_p18 le_p19 le_p20 le_p21 le_p22 le_p23 le_p24 le_q0 le_q1 lt_q1 le_q2 lt_q2 le_q3 lt_q3 le_q4 lt_q4 le_q5 lt_q5 le_q6 lt_q6 le_q7 lt_q7 le_q8 lt_q8 le_q9 lt_q9 le_q10 lt_q10 le_q11 lt_q11 le_q12 lt_q12 le_q13 lt_q13 le_q14 lt_q14 le_q15 lt_q15 le_q16 lt_q16 le_q17 lt_q17 le_q18 lt_q18 le_q19 lt_q19 le_q20 lt_q20 le_q21 lt_q21 le_q22 lt_q22 le_q23 lt_q23 le_q24 lt_q24


theorem infoStr : (Tryz.prog.info? 9).map (fun i => (i.zero, i.size, i.bytes)) = some (some (.string ⟨#[]⟩), 1, 16) := by kernel_rfl

/-- append of one text. -/
theorem str_app {ops : Array Oper} {rest : List Oper} {o : Oper} {a : Act} {X : World} {Q : Exit → Act → World → Prop} (hgd : o.guard = none) (s x : Operand) (ho : o.op = .call { callee := .builtin .append, args := #[s, x], argTypes := #[79, 79] })
    {B : Nat} {W : World} {v : Value} {xs : List ByteArray} {u : ByteArray} (h : W.ownsRow B 9 1 v xs.length (xs.map Value.string)) (hA : Adds W X) (hB : B ≤ W.heap.size) (hs : a.eval s = v) {kk c : Nat} (hkk : kk = X.heap.size) (hx : a.eval x = .slice (some ⟨kk, 0, none⟩) 1 c) (hlen : xs.length ≤ 10000)
    (hk : ∀ v' w', w'.ownsRow B 9 1 v' (xs ++ [u]).length ((xs ++ [u]).map Value.string) → (X.alloc (.cells #[.string u] 9)).grownBy w' v.ownBlock → wpList Tryz.prog ops Q rest (a.put o.dst v') w') : wpList Tryz.prog ops Q (o :: rest) a (X.alloc (.cells #[.string u] 9)) := by
  obtain ⟨i0, hi, hz0, hz1, hz2⟩ := info_parts infoStr
  have h' := own_adds h (hA.alloc (.cells #[.string u] 9))
  have hnews : ∀ j y, [Value.string u][j]? = some y → (X.alloc (.cells #[.string u] 9)).cell? ((⟨kk, 0, none⟩ : Addr).add j) = some y := by
    intro j y hj
    rw [Addr.add_lit, Nat.zero_add]
    exact cell_new hkk hj
  have hB' : B ≤ (X.alloc (.cells #[.string u] 9)).heap.size := by
    have := hA.below.size
    simp
    omega
  obtain ⟨v', w', h1, h2, h3, _⟩ := run_append_own (P := Tryz.prog) _ B 79 o.type 9 i0 _ 1 16 Tryz.underlying79 hi hz0 hz1 hz2 rfl (by decide) v xs.length (xs.map Value.string) h' ⟨kk, 0, none⟩ 1 c [Value.string u] rfl hnews (by intro y hy; simp at hy; rw [hy]; rfl) (by unfold maxLen; omega) (by omega) hB'
  refine Lib.wpList_append_run _ hgd s x 79 79 ho v _ hs hx v' w' h1 (hk v' w' ?_ h3)
  rw [List.length_append, List.map_append]
  exact h2

/-- The texts that were cut off so far. -/
structure Sr (w1 wr : World) (v : Value) (done : List ByteArray) : Prop where
  own : wr.ownsRow w1.heap.size 9 1 v done.length (done.map Value.string)
  adds : Adds w1 wr

theorem sr_empty {X : World} {k : Nat} (hk : k = X.heap.size) : Sr X (X.alloc (.cells #[] 9)) (.slice (some ⟨k, 0, none⟩) 0 0) [] := by
  subst hk
  exact ⟨⟨rfl, .inr ⟨X.heap.size, 0, #[], rfl, Nat.le_refl _, new_block _ _, Nat.le_refl _, by unfold maxLen; omega, rfl, rfl⟩⟩, (Adds.refl _).alloc _⟩

theorem Sr.shape {w1 wr : World} {v : Value} {done : List ByteArray} (h : Sr w1 wr v done) : ∃ ao cap, v = .slice ao done.length cap := by
  rcases h.own.2 with ⟨rfl, h0⟩ | ⟨g, cap, cur, rfl, _⟩
  · exact ⟨none, 0, by rw [h0]⟩
  · exact ⟨_, cap, rfl⟩

theorem Sr.push {w1 wr X w6 : World} {v v' : Value} {done : List ByteArray} {u : ByteArray} (h : Sr w1 wr v done) (hA : Adds wr X) (ho : w6.ownsRow w1.heap.size 9 1 v' (done ++ [u]).length ((done ++ [u]).map Value.string)) (hg : (X.alloc (.cells #[.string u] 9)).grownBy w6 v.ownBlock) : Sr w1 w6 v' (done ++ [u]) :=
  ⟨ho, grown_adds ((h.adds.trans hA).alloc _) hg (fun k hk => (h.own.lt k hk).1)⟩

theorem Sr.cell {w1 wr : World} {ao : Option Addr} {n cap : Nat} {done : List ByteArray} (h : Sr w1 wr (.slice ao n cap) done) {j : Nat} (hj : j < done.length) : ∃ g, ao = some ⟨g, 0, none⟩ ∧ g < wr.heap.size ∧ wr.cell? ⟨g, j, none⟩ = some (.string done[j]) := by
  rcases h.own.2 with ⟨he, h0⟩ | ⟨g, cap', cur, he, hb, hg, hr⟩
  · omega
  · simp only [Value.slice.injEq] at he
    refine ⟨g, he.1, lt_of_some hg, ?_⟩
    have := World.ownsRow.cells h.own (g := g) (by rw [he.1]; rfl) j (.string done[j]) (by simp [hj])
    rwa [Addr.add_lit, Nat.zero_add] at this

/-- Where the cutting stands: f is where the piece begins. -/
def Cut (s : List UInt8) (i f : Nat) (done : List ByteArray) : Prop :=
  (i ≤ s.length ∧ f ≤ i ∧ done.length ≤ f ∧ done.map ByteArray.toList ++ spl (s.drop f) = spl s ∧ (44 : UInt8) ∉ (s.drop f).take (i - f)) ∨ (i = s.length + 1 ∧ done.map ByteArray.toList = spl s)

theorem cut_nil (s : List UInt8) : Cut s 0 0 [] := .inl ⟨Nat.zero_le _, Nat.le_refl _, Nat.le_refl _, rfl, by simp⟩

theorem Cut.skip {s : List UInt8} {i f : Nat} {done : List ByteArray} (h : Cut s i f done) (hi : i < s.length) (hc : s[i] ≠ 44) : Cut s (i + 1) f done := by
  rcases h with ⟨_, h2, h3, h4, h5⟩ | ⟨h, _⟩
  · refine .inl ⟨hi, by omega, h3, h4, ?_⟩
    have hlt : i - f < (s.drop f).length := by rw [List.length_drop]; omega
    rw [show i + 1 - f = (i - f) + 1 by omega, List.take_succ_eq_append_getElem hlt]
    intro hm
    rcases List.mem_append.1 hm with hm | hm
    · exact h5 hm
    · rw [List.mem_singleton, List.getElem_drop] at hm
      exact hc (by simpa [show f + (i - f) = i by omega] using hm.symm)
  · omega

theorem Cut.comma {s : List UInt8} {i f : Nat} {done : List ByteArray} (h : Cut s i f done) (hi : i < s.length) (hc : s[i] = 44) {u : ByteArray} (hu : u.toList = (s.take i).drop f) : Cut s (i + 1) (i + 1) (done ++ [u]) := by
  rcases h with ⟨_, h2, h3, h4, h5⟩ | ⟨h, _⟩
  · refine .inl ⟨hi, Nat.le_refl _, by simp; omega, ?_, by simp⟩
    have e1 : (s.drop f).take (i - f) = (s.take i).drop f := by rw [List.drop_take]
    have e2 : s.drop f = (s.take i).drop f ++ 44 :: s.drop (i + 1) := by
      have h6 : s.drop f = (s.drop f).take (i - f) ++ (s.drop f).drop (i - f) := (List.take_append_drop _ _).symm
      rw [List.drop_drop, show f + (i - f) = i by omega, List.drop_eq_getElem_cons hi, hc, e1] at h6
      exact h6
    rw [e1] at h5
    rw [← h4, e2, spl_at h5, List.map_append, List.map_cons, List.map_nil, hu]
    simp
  · omega

theorem Cut.end {s : List UInt8} {f : Nat} {done : List ByteArray} (h : Cut s s.length f done) {u : ByteArray} (hu : u.toList = (s.take s.length).drop f) (f' : Nat) : Cut s (s.length + 1) f' (done ++ [u]) := by
  rcases h with ⟨_, h2, h3, h4, h5⟩ | ⟨h, _⟩
  · refine .inr ⟨rfl, ?_⟩
    rw [List.take_of_length_le (by rw [List.length_drop]; omega)] at h5
    rw [← h4, spl_none h5, List.map_append, List.map_cons, List.map_nil, hu, List.take_length]
  · omega

theorem Cut.end' {s : List UInt8} {i f : Nat} {done : List ByteArray} (h : Cut s i f done) (hi : i = s.length) {u : ByteArray} (hu : u.toList = (s.take i).drop f) (f' : Nat) : Cut s (i + 1) f' (done ++ [u]) := by
  subst hi
  exact h.end hu f'

theorem Cut.f_le {s : List UInt8} {i f : Nat} {done : List ByteArray} (h : Cut s i f done) (hi : i ≤ s.length) : f ≤ i ∧ done.length ≤ s.length := by
  rcases h with ⟨_, h2, h3, _⟩ | ⟨h, _⟩
  · omega
  · omega

theorem Cut.all {s : List UInt8} {i f : Nat} {done : List ByteArray} (h : Cut s i f done) (hi : ¬ i ≤ s.length) : done.map ByteArray.toList = spl s := by
  rcases h with ⟨h, _⟩ | ⟨_, h⟩
  · exact absurd h hi
  · exact h

end Go.Proofs.YtiacnmcdfpmcfaaGreatDoor
