/-
  Lists of expressions: what is told of a text.
  ParseAll of package expr, by a contract.
  The reference's cutting of a text, by laws.
-/
import Derived.Test.YtiacnmcdfpmcfaaGreatDoorQ23
import Derived.Test.YtiacnmcdfpmcfaaGreatDoorQ32
namespace Go.Proofs.YtiacnmcdfpmcfaaGreatDoor
open Go.RowKit


/-- Which expression a text is, or the number of the error. -/
def parseL (l : List UInt8) : Except Int E :=
  if 256 < l.length then .error 3 else
    match M l [] Fr.none none with
    | none => .error 5
    | some x => if x.depth ≤ 8 then .ok x else .error 13

theorem parseL_err {l : List UInt8} {c : Int} (h : parseL l = .error c) : c ≠ 0 := by
  unfold parseL at h
  split at h
  · cases h; decide
  · split at h
    · cases h; decide
    · split at h
      · cases h
      · cases h; decide

theorem parseL_ok {l : List UInt8} {x : E} (h : parseL l = .ok x) : l.length ≤ 256 ∧ G .sum l x ∧ x.depth ≤ 8 := by
  unfold parseL at h
  split at h
  · cases h
  · rename_i h1
    split at h
    · cases h
    · rename_i y hy
      split at h
      · rename_i h2
        cases h
        exact ⟨by omega, (M_is _ _).1 hy, h2⟩
      · cases h

theorem cnt_ok {l : List UInt8} {x : E} (h : parseL l = .ok x) : ∀ d, cntN d [x.toN] ≤ 256 := fun d => by
  obtain ⟨h1, h2, _⟩ := parseL_ok h
  have h3 := cnt_E x d
  have h4 := h2.nodes
  omega

/-- Parse where it refuses, on both sides. -/
theorem parse_E {l : List UInt8} {c : Int} (h : parseL l = .error c) (w : World) :
    Calls Tryz.prog 48 #[.string (toB l)] w (fun e w' => e = .returned (.tuple #[.agg #[.int .i64 0, .string ⟨#[]⟩, .int .i64 0, .slice none 0 0], .int .i64 c]) ∧ Adds w w') ∧ Calls Tryz.prog 38 #[.string (toB l)] w (fun e w' => e = .returned (.tuple #[.agg #[.int .i64 0, .string ⟨#[]⟩, .int .i64 0, .slice none 0 0], .int .i64 c]) ∧ Adds w w') := by
  have hs : (toB l).size = l.length := toB_size l
  have hl : (toB l).toList = l := toB_toList l
  unfold parseL at h
  split at h
  · cases h
    exact ⟨parse_long _ (by omega) w, rparse_long _ (by omega) w⟩
  · rename_i h1
    split at h
    · rename_i hM
      cases h
      have hG : ∀ x, ¬ G .sum (toB l).toList x := fun x hx => by
        rw [hl] at hx
        rw [M_whole hx] at hM
        cases hM
      exact ⟨parse_bad _ (by omega) hG w, rparse_bad _ (by omega) hG w⟩
    · rename_i y hy
      split at h
      · cases h
      · rename_i h2
        cases h
        have hG : G .sum (toB l).toList y := by rw [hl]; exact (M_is _ _).1 hy
        refine ⟨parse_deep _ (by omega) y hG h2 w, (rparse_some _ (by omega) y hG w).mono ?_⟩
        rintro e w' ⟨h3, hA⟩
        rw [if_neg h2] at h3
        exact ⟨h3, hA⟩

/-- What Parse tells of a text that is an expression. -/
def Gave (x : E) (w : World) (e : Ending) (w' : World) : Prop :=
  ∃ ao cap D, e = .returned (.tuple #[nodeV x.toN (.slice ao x.toN.args.length cap), .int .i64 0]) ∧ Hid (Tn (fun b => w.heap.size + 1 ≤ b) D w' (.slice ao x.toN.args.length cap) x.toN.args)

theorem parse_O {l : List UInt8} {x : E} (h : parseL l = .ok x) (w : World) :
    Calls Tryz.prog 48 #[.string (toB l)] w (fun e w' => Gave x w e w' ∧ Adds w w') ∧ Calls Tryz.prog 38 #[.string (toB l)] w (fun e w' => Gave x w e w' ∧ Adds w w') := by
  have hs : (toB l).size = l.length := toB_size l
  have hl : (toB l).toList = l := toB_toList l
  obtain ⟨h1, hG, hd⟩ := parseL_ok h
  have hc : ∀ d, cntN d [x.toN] ≤ 10000 := fun d => Nat.le_trans (cnt_ok h d) (by decide)
  constructor
  · refine (parse_ok (toB l) (by omega) x (by rw [hl]; exact M_whole hG) ((fits_deep 8 x hG.ok).2 hd) hG.ok hc w).mono ?_
    rintro e w' ⟨⟨sr, D, rfl, hT⟩, hA⟩
    obtain ⟨ao, cap, rfl⟩ := hT.shape
    exact ⟨⟨ao, cap, D, rfl, hT⟩, hA⟩
  · refine (rparse_some (toB l) (by omega) x (by rw [hl]; exact hG) w).mono ?_
    rintro e w' ⟨h3, hA⟩
    rw [if_pos hd] at h3
    obtain ⟨sr, D, rfl, hT⟩ := h3
    obtain ⟨ao, cap, rfl⟩ := hT.shape
    exact ⟨⟨ao, cap, D, rfl, hT⟩, hA⟩

/-- All of a list, or the first error. -/
def parseLs : List (List UInt8) → Except Int (List E)
  | [] => .ok []
  | l :: r => match parseL l with
    | .error c => .error c
    | .ok x => match parseLs r with
      | .error c => .error c
      | .ok xs => .ok (x :: xs)

/-- What has been read of a list so far. -/
def Sofar (ls : List (List UInt8)) (j : Nat) (xs : List E) : Prop :=
  xs.length = j ∧ (∀ x ∈ xs, x.ok ∧ ∀ d, cntN d [x.toN] ≤ 256) ∧ parseLs ls = match parseLs (ls.drop j) with
    | .error c => .error c
    | .ok ys => .ok (xs ++ ys)

theorem sofar_nil (ls : List (List UInt8)) : Sofar ls 0 [] := ⟨rfl, (fun x h => by cases h), (by simp only [List.drop_zero, List.nil_append]; cases parseLs ls <;> rfl)⟩

theorem Sofar.err {ls : List (List UInt8)} {j : Nat} {xs : List E} (h : Sofar ls j xs) (hj : j < ls.length) {c : Int} (hc : parseL ls[j] = .error c) : parseLs ls = .error c := by
  rw [h.2.2, List.drop_eq_getElem_cons hj, parseLs, hc]

theorem Sofar.next {ls : List (List UInt8)} {j : Nat} {xs : List E} (h : Sofar ls j xs) (hj : j < ls.length) {x : E} (hx : parseL ls[j] = .ok x) : Sofar ls (j + 1) (xs ++ [x]) := by
  refine ⟨by simp [h.1], fun y hy => ?_, ?_⟩
  · rcases List.mem_append.1 hy with hy | hy
    · exact h.2.1 y hy
    · rw [List.mem_singleton.1 hy]
      exact ⟨(parseL_ok hx).2.1.ok, cnt_ok hx⟩
  · rw [h.2.2, List.drop_eq_getElem_cons hj, parseLs, hx]
    cases parseLs (ls.drop (j + 1)) <;> simp

theorem Sofar.all {ls : List (List UInt8)} {xs : List E} (h : Sofar ls ls.length xs) : parseLs ls = .ok xs := by
  rw [h.2.2, List.drop_length]
  simp [parseLs]

theorem parseLs_err : ∀ {ls : List (List UInt8)} {c : Int}, parseLs ls = .error c → c ≠ 0 := by
  intro ls
  induction ls with
  | nil => intro c h; cases h
  | cons l r ih =>
    intro c h
    simp only [parseLs] at h
    split at h
    · rename_i c' hc
      cases h
      exact parseL_err hc
    · split at h
      · rename_i hr
        cases h
        exact ih hr
      · cases h

/-- The list of expressions that a text is. -/
def parseA (s : List UInt8) : Except Int (List E) := if 4 < (spl s).length then .error 5 else parseLs (spl s)

/-- What both sides' ParseAll tell. -/
def GaveR (R : Except Int (List E)) (e : Ending) (w' : World) : Prop :=
  match R with
  | .error c => e = .returned (.tuple #[.slice none 0 0, .int .i64 c])
  | .ok xs => ∃ ao cap D, e = .returned (.tuple #[.slice ao xs.length cap, .int .i64 0]) ∧ Tn (fun _ => True) D w' (.slice ao xs.length cap) (xs.map E.toN) ∧ ∀ x ∈ xs, x.ok ∧ ∀ d, cntN d [x.toN] ≤ 256

theorem Nr.shape {w1 wr : World} {v : Value} {xs : List E} {ns : List NV} {D : Nat} (h : Nr w1 wr v xs ns D) : ∃ ao cap, v = .slice ao xs.length cap := by
  have hl := h.rx.1
  rcases h.own.2 with ⟨rfl, h0⟩ | ⟨g, cap, cur, rfl, _⟩
  · exact ⟨none, 0, by rw [← hl, h0]⟩
  · exact ⟨_, cap, by rw [hl]⟩

theorem Nr.gave {w1 wr : World} {ao : Option Addr} {n cap : Nat} {xs : List E} {ns : List NV} {D : Nat} {ls : List (List UInt8)} (h : Nr w1 wr (.slice ao n cap) xs ns D) (hs : Sofar ls ls.length xs) : GaveR (parseLs ls) (.returned (.tuple #[.slice ao n cap, .int .i64 0])) wr := by
  rw [hs.all]
  obtain ⟨ao', cap', e⟩ := h.shape
  simp only [Value.slice.injEq] at e
  obtain ⟨rfl, rfl, rfl⟩ := e
  exact ⟨ao, cap, D + 1, rfl, h.tn (fun x hx => (hs.2.1 x hx).1), hs.2.1⟩

end Go.Proofs.YtiacnmcdfpmcfaaGreatDoor

namespace Go.Proofs.YtiacnmcdfpmcfaaGreatDoor
open Go.RowKit
attribute [local go_sem] cell?_more frozen?_more setCell_more size_more tape_more drew_more drewN_more more_drew more_drewN one_out plus_out plus_end lt_one le_p2 le_p3 le_p4 le_p5 le_p6 le_p7 le_p8 le_p9 le_p10 le_p11 le_p12 le_p13 le_p14 le_p15 le_p16 le_p17 le_p18 le_p19 le_p20 le_p21 le_p22 le_p23 le_p24 le_q0 le_q1 lt_q1 le_q2 lt_q2 le_q3 lt_q3 le_q4 lt_q4 le_q5 lt_q5 le_q6 lt_q6 le_q7 lt_q7 le_q8 lt_q8 le_q9 lt_q9 le_q10 lt_q10 le_q11 lt_q11 le_q12 lt_q12 le_q13 lt_q13 le_q14 lt_q14 le_q15 lt_q15 le_q16 lt_q16 le_q17 lt_q17 le_q18 lt_q18 le_q19 lt_q19 le_q20 lt_q20 le_q21 lt_q21 le_q22 lt_q22 le_q23 lt_q23 le_q24 lt_q24


set_option maxHeartbeats 2000000 in
theorem parseAll_many (s : ByteArray) (h4 : 4 < (spl s.toList).length) (w : World) : Calls Tryz.prog 28 #[.string s] w fun e w' => e = .returned (.tuple #[.slice none 0 0, .int .i64 5]) ∧ Adds w w' := by
  have kC := count_any s
  have hc : (4 : Int) ≤ ((s.toList.count 44 : Nat) : Int) := by rw [spl_len] at h4; omega
  clear h4
  generalize s.toList.count 44 = cn at *
  go_enter Tryz.func28, Tryz.ntmps28
  go_wp2_with (go_at_call 46; refine (kC _).mono ?_; rintro e w1 ⟨rfl, hw⟩; subst w1)
  exact bodyPost_ret (v := .tuple #[.slice none 0 0, .int .i64 5]) (by simp [results, Tryz.results28, go_sem]) rfl ⟨rfl, by repeat (first | with_reducible exact Adds.refl _ | with_reducible refine Adds.alloc ?_ _ | with_reducible refine Adds.more ?_ _ _ | with_reducible refine Adds.drew ?_ | with_reducible refine Adds.drewN ?_ _)⟩

theorem piece_cell {w : World} {ls : List (List UInt8)} {j : Nat} (hj : j < ls.length) : (w.alloc (.cells (ls.map (fun l => Value.string (toB l))).toArray 9)).cell? ⟨w.heap.size, j, none⟩ = some (.string (toB ls[j])) := by
  refine cell_new rfl ?_
  simp [hj]

set_option maxHeartbeats 4000000 in
set_option maxRecDepth 20000 in
theorem parseAll_few (s : ByteArray) (hs : s.size ≤ 2000) (h4 : ¬ 4 < (spl s.toList).length) (w : World) : Calls Tryz.prog 28 #[.string s] w fun e w' => GaveR (parseLs (spl s.toList)) e w' ∧ Adds w w' := by
  have kC := count_any s
  have kS := split_any s hs
  have hc : ¬ (4 : Int) ≤ ((s.toList.count 44 : Nat) : Int) := by rw [spl_len] at h4; omega
  generalize s.toList.count 44 = cn at *
  generalize spl s.toList = ls at *
  go_enter Tryz.func28, Tryz.ntmps28
  go_wp2_with (first
    | (go_at_call 46; refine (kC _).mono ?_; rintro e w1 ⟨rfl, hw⟩; subst w1)
    | (go_at_call 47; refine (kS _).mono ?_; rintro e w1 ⟨rfl, hw⟩; subst w1))
  clear kC kS
  have hcell : ∀ (j : Nat) (hj : j < ls.length), (w.alloc (.cells (ls.map (fun l => Value.string (toB l))).toArray 9)).cell? ⟨w.heap.size, j, none⟩ = some (.string (toB ls[j])) := fun j hj => piece_cell hj
  have HA1 : Hid (Adds w (w.alloc (.cells (ls.map (fun l => Value.string (toB l))).toArray 9))) := (Adds.refl w).alloc _
  have hws : w.heap.size < (w.alloc (.cells (ls.map (fun l => Value.string (toB l))).toArray 9)).heap.size := by simp
  generalize w.alloc (.cells (ls.map (fun l => Value.string (toB l))).toArray 9) = w1 at *
  have HCL : Hid _ := hcell
  clear hcell
  go_loopw [4, 15] (fun lv iv wr => ∃ (j D : Nat) (xs : List E) (ns : List NV), j ≤ ls.length ∧ iv = .int .i64 j ∧ Hid (Sofar ls j xs) ∧ Hid (Nr w1 wr lv xs ns D)) (fun _ iv _ => ls.length - (intOf iv).toNat)
  case atStart => exact ⟨0, 0, [], [], Nat.zero_le _, rfl, sofar_nil ls, nr_nil w1⟩
  case round =>
    obtain ⟨j, D, xs, ns, hj, rfl, HSo, HN⟩ := hrel
    obtain ⟨vo, vc, rfl⟩ := HN.out.shape
    have hlx : xs.length = j := HSo.out.1
    have hln : ns.length = j := HN.out.rx.1.trans hlx
    obtain ⟨os, n0, rfl⟩ := HN.out.adds
    by_cases hlt : j < ls.length
    · have cj := HCL.out j hlt
      have hnl : ns.length ≤ 10000 := by omega
      have HLN : Hid (ns.length = j) := hln
      clear hln hlx
      cases hp : parseL ls[j] with
      | error c =>
        have kP := fun W => (parse_E hp W).1
        have HE : Hid (parseLs ls = .error c) := HSo.out.err hlt hp
        have hc0 : (c == 0) = false := by simpa using parseL_err hp
        clear hp HCL HSo HN
        generalize toB ls[j] = one at *
        go_wp2_with (go_at_call 48; refine (kP _).mono ?_; rintro e w2 ⟨rfl, os2, n2, rfl⟩)
        exact bodyPost_ret (v := .tuple #[.slice none 0 0, .int .i64 c]) (by simp [results, Tryz.results28, go_sem]) rfl ⟨by rw [HE.out]; rfl, HA1.out.trans (by repeat (first | with_reducible exact Adds.refl _ | with_reducible refine Adds.alloc ?_ _ | with_reducible refine Adds.more ?_ _ _ | with_reducible refine Adds.drew ?_ | with_reducible refine Adds.drewN ?_ _))⟩
      | ok x =>
        have kP := fun W => (parse_O hp W).1
        have HNX : Hid (Sofar ls (j + 1) (xs ++ [x])) := HSo.out.next hlt hp
        clear hp HCL HSo
        generalize toB ls[j] = one at *
        simp only [Gave, nodeV] at kP
        go_wp2_with (first
          | (go_at_call 48; refine (kP _).mono ?_; rintro e w2 ⟨⟨ao, cap, D', rfl, hT⟩, os2, n2, rfl⟩)
          | (at_builtin; refine node_app rfl (.tmp 27) (.tmp 29) rfl (Nr.own HN.out) (by repeat (first | with_reducible exact Adds.refl _ | with_reducible refine Adds.alloc ?_ _ | with_reducible refine Adds.more ?_ _ _ | with_reducible refine Adds.drew ?_ | with_reducible refine Adds.drewN ?_ _)) (by simp [size_more]) rfl (by first | rfl | simp [size_more] | (simp [size_more]; omega)) rfl hnl ?_; intro v6 w6 ho6 hg6 hv6))
        go_roundw
        case rel =>
          refine ⟨j + 1, _, xs ++ [x], _, by omega, by go_num, HNX, Nr.push (D' := D') HN.out (by repeat (first | with_reducible exact Adds.refl _ | with_reducible refine Adds.alloc ?_ _ | with_reducible refine Adds.more ?_ _ _ | with_reducible refine Adds.drew ?_ | with_reducible refine Adds.drewN ?_ _)) ?_ ho6 hg6 hv6⟩
          exact (Tn.adds hT.out (by repeat (first | with_reducible exact Adds.refl _ | with_reducible refine Adds.alloc ?_ _ | with_reducible refine Adds.more ?_ _ _ | with_reducible refine Adds.drew ?_ | with_reducible refine Adds.drewN ?_ _))).weak (fun b hb _ => Nat.le_trans (Nat.le_succ _) hb)
        case measure => simp [intOf]; omega
    · have hj' : j = ls.length := by omega
      subst hj'
      have HG := HN.out.gave HSo.out
      have HG' : Hid _ := HG
      clear HG HSo HN hln
      go_wp2
      exact bodyPost_ret (v := .tuple #[.slice vo xs.length vc, .int .i64 0]) (by simp [results, Tryz.results28, go_sem]) rfl ⟨HG'.out, HA1.out.trans (by repeat (first | with_reducible exact Adds.refl _ | with_reducible refine Adds.alloc ?_ _ | with_reducible refine Adds.more ?_ _ _ | with_reducible refine Adds.drew ?_ | with_reducible refine Adds.drewN ?_ _))⟩

theorem parseAll_any (s : ByteArray) (hs : s.size ≤ 2000) (w : World) : Calls Tryz.prog 28 #[.string s] w fun e w' => GaveR (parseA s.toList) e w' ∧ Adds w w' := by
  unfold parseA
  split
  · rename_i h4
    exact parseAll_many s h4 w
  · rename_i h4
    exact parseAll_few s hs h4 w

end Go.Proofs.YtiacnmcdfpmcfaaGreatDoor

namespace Go.Proofs.YtiacnmcdfpmcfaaGreatDoor
open Go.RowKit
attribute [local go_sem] cell?_more frozen?_more setCell_more size_more tape_more drew_more drewN_more more_drew more_drewN one_out plus_out plus_end lt_one le_p2 le_p3 le_p4 le_p5 le_p6 le_p7 le_p8 le_p9 le_p10 le_p11 le_p12 le_p13 le_p14 le_p15 le_p16 le_p17 le_p18 le_p19 le_p20 le_p21 le_p22 le_p23 le_p24 le_q0 le_q1 lt_q1 le_q2 lt_q2 le_q3 lt_q3 le_q4 lt_q4 le_q5 lt_q5 le_q6 lt_q6 le_q7 lt_q7 le_q8 lt_q8 le_q9 lt_q9 le_q10 lt_q10 le_q11 lt_q11 le_q12 lt_q12 le_q13 lt_q13 le_q14 lt_q14 le_q15 lt_q15 le_q16 lt_q16 le_q17 lt_q17 le_q18 lt_q18 le_q19 lt_q19 le_q20 lt_q20 le_q21 lt_q21 le_q22 lt_q22 le_q23 lt_q23 le_q24 lt_q24


theorem infoStr : (Tryz.prog.info? 9).map (fun i => (i.zero, i.size, i.bytes)) = some (some (.string ⟨#[]⟩), 1, 16) := by kernel_rfl

/-- append of one text. -/
theorem str_app {ops : Array Oper} {rest : List Oper} {o : Oper} {a : Act} {X : World} {Q : Exit → Act → World → Prop} (hgd : o.guard = none) (s x : Operand) (ho : o.op = .call { callee := .builtin .append, args := #[s, x], argTypes := #[79, 79] })
    {B : Nat} {W : World} {v : Value} {xs : List ByteArray} {u : ByteArray} (h : W.ownsRow B 9 1 v xs.length (xs.map Value.string)) (hA : Adds W X) (hB : B ≤ W.heap.size) (hs : a.eval s = v) {kk c : Nat} (hkk : kk = X.heap.size) (hx : a.eval x = .slice (some ⟨kk, 0, none⟩) 1 c) (hlen : xs.length ≤ 10000)
    (hk : ∀ v' w', w'.ownsRow B 9 1 v' (xs ++ [u]).length ((xs ++ [u]).map Value.string) → (X.alloc (.cells #[.string u] 9)).grownBy w' v.ownBlock → wpList Tryz.prog ops Q rest (a.put o.dst v') w') : wpList Tryz.prog ops Q (o :: rest) a (X.alloc (.cells #[.string u] 9)) := by
  obtain ⟨i0, hi, hz0, hz1, hz2⟩ := info_parts infoStr
  have h' := own_adds h (hA.alloc (.cells #[.string u] 9))
  have hnews : ∀ j y, [Value.string u][j]? = some y → (X.alloc (.cells #[.string u] 9)).cell? ((⟨kk, 0, none⟩ : Addr).add j) = some y := by
    intro j y hj
    rw [Addr.add_lit, Nat.zero_add]
    exact cell_new hkk hj
  have hB' : B ≤ (X.alloc (.cells #[.string u] 9)).heap.size := by
    have := hA.below.size
    simp
    omega
  obtain ⟨v', w', h1, h2, h3, _⟩ := run_append_own (P := Tryz.prog) _ B 79 o.type 9 i0 _ 1 16 Tryz.underlying79 hi hz0 hz1 hz2 rfl (by decide) v xs.length (xs.map Value.string) h' ⟨kk, 0, none⟩ 1 c [Value.string u] rfl hnews (by intro y hy; simp at hy; rw [hy]; rfl) (by unfold maxLen; omega) (by omega) hB'
  refine Lib.wpList_append_run _ hgd s x 79 79 ho v _ hs hx v' w' h1 (hk v' w' ?_ h3)
  rw [List.length_append, List.map_append]
  exact h2

/-- The texts that were cut off so far. -/
structure Sr (w1 wr : World) (v : Value) (done : List ByteArray) : Prop where
  own : wr.ownsRow w1.heap.size 9 1 v done.length (done.map Value.string)
  adds : Adds w1 wr

theorem sr_empty {X : World} {k : Nat} (hk : k = X.heap.size) : Sr X (X.alloc (.cells #[] 9)) (.slice (some ⟨k, 0, none⟩) 0 0) [] := by
  subst hk
  exact ⟨⟨rfl, .inr ⟨X.heap.size, 0, #[], rfl, Nat.le_refl _, new_block _ _, Nat.le_refl _, by unfold maxLen; omega, rfl, rfl⟩⟩, (Adds.refl _).alloc _⟩

theorem Sr.shape {w1 wr : World} {v : Value} {done : List ByteArray} (h : Sr w1 wr v done) : ∃ ao cap, v = .slice ao done.length cap := by
  rcases h.own.2 with ⟨rfl, h0⟩ | ⟨g, cap, cur, rfl, _⟩
  · exact ⟨none, 0, by rw [h0]⟩
  · exact ⟨_, cap, rfl⟩

theorem Sr.push {w1 wr X w6 : World} {v v' : Value} {done : List ByteArray} {u : ByteArray} (h : Sr w1 wr v done) (hA : Adds wr X) (ho : w6.ownsRow w1.heap.size 9 1 v' (done ++ [u]).length ((done ++ [u]).map Value.string)) (hg : (X.alloc (.cells #[.string u] 9)).grownBy w6 v.ownBlock) : Sr w1 w6 v' (done ++ [u]) :=
  ⟨ho, grown_adds ((h.adds.trans hA).alloc _) hg (fun k hk => (h.own.lt k hk).1)⟩

theorem Sr.cell {w1 wr : World} {ao : Option Addr} {n cap : Nat} {done : List ByteArray} (h : Sr w1 wr (.slice ao n cap) done) {j : Nat} (hj : j < done.length) : ∃ g, ao = some ⟨g, 0, none⟩ ∧ g < wr.heap.size ∧ wr.cell? ⟨g, j, none⟩ = some (.string done[j]) := by
  rcases h.own.2 with ⟨he, h0⟩ | ⟨g, cap', cur, he, hb, hg, hr⟩
  · omega
  · simp only [Value.slice.injEq] at he
    refine ⟨g, he.1, lt_of_some hg, ?_⟩
    have := World.ownsRow.cells h.own (g := g) (by rw [he.1]; rfl) j (.string done[j]) (by simp [hj])
    rwa [Addr.add_lit, Nat.zero_add] at this

/-- Where the cutting stands: f is where the piece begins. -/
def Cut (s : List UInt8) (i f : Nat) (done : List ByteArray) : Prop :=
  (i ≤ s.length ∧ f ≤ i ∧ done.length ≤ f ∧ done.map ByteArray.toList ++ spl (s.drop f) = spl s ∧ (44 : UInt8) ∉ (s.drop f).take (i - f)) ∨ (i = s.length + 1 ∧ done.map ByteArray.toList = spl s)

theorem cut_nil (s : List UInt8) : Cut s 0 0 [] := .inl ⟨Nat.zero_le _, Nat.le_refl _, Nat.le_refl _, rfl, by simp⟩

theorem Cut.skip {s : List UInt8} {i f : Nat} {done : List ByteArray} (h : Cut s i f done) (hi : i < s.length) (hc : s[i] ≠ 44) : Cut s (i + 1) f done := by
  rcases h with ⟨_, h2, h3, h4, h5⟩ | ⟨h, _⟩
  · refine .inl ⟨hi, by omega, h3, h4, ?_⟩
    have hlt : i - f < (s.drop f).length := by rw [List.length_drop]; omega
    rw [show i + 1 - f = (i - f) + 1 by omega, List.take_succ_eq_append_getElem hlt]
    intro hm
    rcases List.mem_append.1 hm with hm | hm
    · exact h5 hm
    · rw [List.mem_singleton, List.getElem_drop] at hm
      exact hc (by simpa [show f + (i - f) = i by omega] using hm.symm)
  · omega

theorem Cut.comma {s : List UInt8} {i f : Nat} {done : List ByteArray} (h : Cut s i f done) (hi : i < s.length) (hc : s[i] = 44) {u : ByteArray} (hu : u.toList = (s.take i).drop f) : Cut s (i + 1) (i + 1) (done ++ [u]) := by
  rcases h with ⟨_, h2, h3, h4, h5⟩ | ⟨h, _⟩
  · refine .inl ⟨hi, Nat.le_refl _, by simp; omega, ?_, by simp⟩
    have e1 : (s.drop f).take (i - f) = (s.take i).drop f := by rw [List.drop_take]
    have e2 : s.drop f = (s.take i).drop f ++ 44 :: s.drop (i + 1) := by
      have h6 : s.drop f = (s.drop f).take (i - f) ++ (s.drop f).drop (i - f) := (List.take_append_drop _ _).symm
      rw [List.drop_drop, show f + (i - f) = i by omega, List.drop_eq_getElem_cons hi, hc, e1] at h6
      exact h6
    rw [e1] at h5
    rw [← h4, e2, spl_at h5, List.map_append, List.map_cons, List.map_nil, hu]
    simp
  · omega

theorem Cut.end {s : List UInt8} {f : Nat} {done : List ByteArray} (h : Cut s s.length f done) {u : ByteArray} (hu : u.toList = (s.take s.length).drop f) (f' : Nat) : Cut s (s.length + 1) f' (done ++ [u]) := by
  rcases h with ⟨_, h2, h3, h4, h5⟩ | ⟨h, _⟩
  · refine .inr ⟨rfl, ?_⟩
    rw [List.take_of_length_le (by rw [List.length_drop]; omega)] at h5
    rw [← h4, spl_none h5, List.map_append, List.map_cons, List.map_nil, hu, List.take_length]
  · omega

theorem Cut.end' {s : List UInt8} {i f : Nat} {done : List ByteArray} (h : Cut s i f done) (hi : i = s.length) {u : ByteArray} (hu : u.toList = (s.take i).drop f) (f' : Nat) : Cut s (i + 1) f' (done ++ [u]) := by
  subst hi
  exact h.end hu f'

theorem Cut.f_le {s : List UInt8} {i f : Nat} {done : List ByteArray} (h : Cut s i f done) (hi : i ≤ s.length) : f ≤ i ∧ done.length ≤ s.length := by
  rcases h with ⟨_, h2, h3, _⟩ | ⟨h, _⟩
  · omega
  · omega

theorem Cut.all {s : List UInt8} {i f : Nat} {done : List ByteArray} (h : Cut s i f done) (hi : ¬ i ≤ s.length) : done.map ByteArray.toList = spl s := by
  rcases h with ⟨h, _⟩ | ⟨_, h⟩
  · exact absurd h hi
  · exact h

end Go.Proofs.YtiacnmcdfpmcfaaGreatDoor
