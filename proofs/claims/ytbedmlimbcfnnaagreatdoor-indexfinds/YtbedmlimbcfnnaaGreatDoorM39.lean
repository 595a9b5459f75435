/-
  Lists of expressions: what is told of a text.
  The reference's raw, by a contract: num.
-/
import Derived.Test.YtbedmlimbcfnnaaGreatDoorM29
import Derived.Test.YtbedmlimbcfnnaaGreatDoorM37
import Derived.Test.YtbedmlimbcfnnaaGreatDoorM38
import Derived.Test.YtbedmlimbcfnnaaGreatDoorM26
import Derived.Test.YtbedmlimbcfnnaaGreatDoorM25
import Derived.BigQuiet
namespace Go.Proofs.YtbedmlimbcfnnaaGreatDoor
open Go.RowKit


/-- Which expression a text is, or the number of the error. -/
def parseL (l : List UInt8) : Except Int E :=
  if 256 < l.length then .error 3 else
    match M l [] Fr.none none with
    | none => .error 5
    | some x => if x.depth ≤ 8 then .ok x else .error 13

theorem parseL_err {l : List UInt8} {c : Int} (h : parseL l = .error c) : c ≠ 0 := by
  unfold parseL at h
  split at h
  · cases h; decide
  · split at h
    · cases h; decide
    · split at h
      · cases h
      · cases h; decide

theorem parseL_ok {l : List UInt8} {x : E} (h : parseL l = .ok x) : l.length ≤ 256 ∧ G .sum l x ∧ x.depth ≤ 8 := by
  unfold parseL at h
  split at h
  · cases h
  · rename_i h1
    split at h
    · cases h
    · rename_i y hy
      split at h
      · rename_i h2
        cases h
        exact ⟨by omega, (M_is _ _).1 hy, h2⟩
      · cases h

theorem cnt_ok {l : List UInt8} {x : E} (h : parseL l = .ok x) : ∀ d, cntN d [x.toN] ≤ 256 := fun d => by
  obtain ⟨h1, h2, _⟩ := parseL_ok h
  have h3 := cnt_E x d
  have h4 := h2.nodes
  omega

/-- Parse where it refuses, on both sides. -/
theorem parse_E {l : List UInt8} {c : Int} (h : parseL l = .error c) (w : World) :
    Calls Tryz.prog 41 #[.string (toB l)] w (fun e w' => e = .returned (.tuple #[.agg #[.int .i64 0, .string ⟨#[]⟩, .int .i64 0, .slice none 0 0], .int .i64 c]) ∧ Adds w w') ∧ Calls Tryz.prog 48 #[.string (toB l)] w (fun e w' => e = .returned (.tuple #[.agg #[.int .i64 0, .string ⟨#[]⟩, .int .i64 0, .slice none 0 0], .int .i64 c]) ∧ Adds w w') := by
  have hs : (toB l).size = l.length := toB_size l
  have hl : (toB l).toList = l := toB_toList l
  unfold parseL at h
  split at h
  · cases h
    exact ⟨parse_long _ (by omega) w, rparse_long _ (by omega) w⟩
  · rename_i h1
    split at h
    · rename_i hM
      cases h
      have hG : ∀ x, ¬ G .sum (toB l).toList x := fun x hx => by
        rw [hl] at hx
        rw [M_whole hx] at hM
        cases hM
      exact ⟨parse_bad _ (by omega) hG w, rparse_bad _ (by omega) hG w⟩
    · rename_i y hy
      split at h
      · cases h
      · rename_i h2
        cases h
        have hG : G .sum (toB l).toList y := by rw [hl]; exact (M_is _ _).1 hy
        refine ⟨parse_deep _ (by omega) y hG h2 w, (rparse_some _ (by omega) y hG w).mono ?_⟩
        rintro e w' ⟨h3, hA⟩
        rw [if_neg h2] at h3
        exact ⟨h3, hA⟩

/-- What Parse tells of a text that is an expression. -/
def Gave (x : E) (w : World) (e : Ending) (w' : World) : Prop :=
  ∃ ao cap D, e = .returned (.tuple #[nodeV x.toN (.slice ao x.toN.args.length cap), .int .i64 0]) ∧ Hid (Tn (fun b => w.heap.size + 1 ≤ b) D w' (.slice ao x.toN.args.length cap) x.toN.args)

theorem parse_O {l : List UInt8} {x : E} (h : parseL l = .ok x) (w : World) :
    Calls Tryz.prog 41 #[.string (toB l)] w (fun e w' => Gave x w e w' ∧ Adds w w') ∧ Calls Tryz.prog 48 #[.string (toB l)] w (fun e w' => Gave x w e w' ∧ Adds w w') := by
  have hs : (toB l).size = l.length := toB_size l
  have hl : (toB l).toList = l := toB_toList l
  obtain ⟨h1, hG, hd⟩ := parseL_ok h
  have hc : ∀ d, cntN d [x.toN] ≤ 10000 := fun d => Nat.le_trans (cnt_ok h d) (by decide)
  constructor
  · refine (parse_ok (toB l) (by omega) x (by rw [hl]; exact M_whole hG) ((fits_deep 8 x hG.ok).2 hd) hG.ok hc w).mono ?_
    rintro e w' ⟨⟨sr, D, rfl, hT⟩, hA⟩
    obtain ⟨ao, cap, rfl⟩ := hT.shape
    exact ⟨⟨ao, cap, D, rfl, hT⟩, hA⟩
  · refine (rparse_some (toB l) (by omega) x (by rw [hl]; exact hG) w).mono ?_
    rintro e w' ⟨h3, hA⟩
    rw [if_pos hd] at h3
    obtain ⟨sr, D, rfl, hT⟩ := h3
    obtain ⟨ao, cap, rfl⟩ := hT.shape
    exact ⟨⟨ao, cap, D, rfl, hT⟩, hA⟩

/-- All of a list, or the first error. -/
def parseLs : List (List UInt8) → Except Int (List E)
  | [] => .ok []
  | l :: r => match parseL l with
    | .error c => .error c
    | .ok x => match parseLs r with
      | .error c => .error c
      | .ok xs => .ok (x :: xs)

/-- What has been read of a list so far. -/
def Sofar (ls : List (List UInt8)) (j : Nat) (xs : List E) : Prop :=
  xs.length = j ∧ (∀ x ∈ xs, x.ok ∧ ∀ d, cntN d [x.toN] ≤ 256) ∧ parseLs ls = match parseLs (ls.drop j) with
    | .error c => .error c
    | .ok ys => .ok (xs ++ ys)

theorem sofar_nil (ls : List (List UInt8)) : Sofar ls 0 [] := ⟨rfl, (fun x h => by cases h), (by simp only [List.drop_zero, List.nil_append]; cases parseLs ls <;> rfl)⟩

theorem Sofar.err {ls : List (List UInt8)} {j : Nat} {xs : List E} (h : Sofar ls j xs) (hj : j < ls.length) {c : Int} (hc : parseL ls[j] = .error c) : parseLs ls = .error c := by
  rw [h.2.2, List.drop_eq_getElem_cons hj, parseLs, hc]

theorem Sofar.next {ls : List (List UInt8)} {j : Nat} {xs : List E} (h : Sofar ls j xs) (hj : j < ls.length) {x : E} (hx : parseL ls[j] = .ok x) : Sofar ls (j + 1) (xs ++ [x]) := by
  refine ⟨by simp [h.1], fun y hy => ?_, ?_⟩
  · rcases List.mem_append.1 hy with hy | hy
    · exact h.2.1 y hy
    · rw [List.mem_singleton.1 hy]
      exact ⟨(parseL_ok hx).2.1.ok, cnt_ok hx⟩
  · rw [h.2.2, List.drop_eq_getElem_cons hj, parseLs, hx]
    cases parseLs (ls.drop (j + 1)) <;> simp

theorem Sofar.all {ls : List (List UInt8)} {xs : List E} (h : Sofar ls ls.length xs) : parseLs ls = .ok xs := by
  rw [h.2.2, List.drop_length]
  simp [parseLs]

theorem parseLs_err : ∀ {ls : List (List UInt8)} {c : Int}, parseLs ls = .error c → c ≠ 0 := by
  intro ls
  induction ls with
  | nil => intro c h; cases h
  | cons l r ih =>
    intro c h
    simp only [parseLs] at h
    split at h
    · rename_i c' hc
      cases h
      exact parseL_err hc
    · split at h
      · rename_i hr
        cases h
        exact ih hr
      · cases h

/-- The list of expressions that a text is. -/
def parseA (s : List UInt8) : Except Int (List E) := if 4 < (spl s).length then .error 5 else parseLs (spl s)

/-- What both sides' ParseAll tell. -/
def GaveR (R : Except Int (List E)) (e : Ending) (w' : World) : Prop :=
  match R with
  | .error c => e = .returned (.tuple #[.slice none 0 0, .int .i64 c])
  | .ok xs => ∃ ao cap D, e = .returned (.tuple #[.slice ao xs.length cap, .int .i64 0]) ∧ Tn (fun _ => True) D w' (.slice ao xs.length cap) (xs.map E.toN) ∧ ∀ x ∈ xs, x.ok ∧ ∀ d, cntN d [x.toN] ≤ 256

theorem Nr.shape {w1 wr : World} {v : Value} {xs : List E} {ns : List NV} {D : Nat} (h : Nr w1 wr v xs ns D) : ∃ ao cap, v = .slice ao xs.length cap := by
  have hl := h.rx.1
  rcases h.own.2 with ⟨rfl, h0⟩ | ⟨g, cap, cur, rfl, _⟩
  · exact ⟨none, 0, by rw [← hl, h0]⟩
  · exact ⟨_, cap, by rw [hl]⟩

theorem Nr.gave {w1 wr : World} {ao : Option Addr} {n cap : Nat} {xs : List E} {ns : List NV} {D : Nat} {ls : List (List UInt8)} (h : Nr w1 wr (.slice ao n cap) xs ns D) (hs : Sofar ls ls.length xs) : GaveR (parseLs ls) (.returned (.tuple #[.slice ao n cap, .int .i64 0])) wr := by
  rw [hs.all]
  obtain ⟨ao', cap', e⟩ := h.shape
  simp only [Value.slice.injEq] at e
  obtain ⟨rfl, rfl, rfl⟩ := e
  exact ⟨ao, cap, D + 1, rfl, h.tn (fun x hx => (hs.2.1 x hx).1), hs.2.1⟩

end Go.Proofs.YtbedmlimbcfnnaaGreatDoor

namespace Go.Proofs.YtbedmlimbcfnnaaGreatDoor
open Go.RowKit
attribute [local go_sem] cell?_more frozen?_more setCell_more size_more tape_more drew_more drewN_more more_drew more_drewN one_out plus_out plus_end lt_one le_p2 le_p3 le_p4 le_p5 le_p6 le_p7 le_p8 le_p9 le_p10 le_p11 le_p12 le_p13 le_p14 le_p15 le_p16 le_p17 le_p18 le_p19 le_p20 le_p21 le_p22 le_p23 le_p24 le_q0 le_q1 lt_q1 le_q2 lt_q2 le_q3 lt_q3 le_q4 lt_q4 le_q5 lt_q5 le_q6 lt_q6 le_q7 lt_q7 le_q8 lt_q8 le_q9 lt_q9 le_q10 lt_q10 le_q11 lt_q11 le_q12 lt_q12 le_q13 lt_q13 le_q14 lt_q14 le_q15 lt_q15 le_q16 lt_q16 le_q17 lt_q17 le_q18 lt_q18 le_q19 lt_q19 le_q20 lt_q20 le_q21 lt_q21 le_q22 lt_q22 le_q23 lt_q23 le_q24 lt_q24


set_option maxHeartbeats 4000000 in
theorem raw_num {ok : Nat → Prop} {d : Nat} (cs : List E) (hcs : cs.length = 0) (t : ByteArray) (n : Int) (fs : List F) (hm : May fs) (dv : Value) (sn : Value) (w : World) (hT : Tn ok d w sn (cs.map E.toN)) (_hL : Lst w dv fs) (hok : ∀ c ∈ cs, c.ok)
    (HV : ∀ (j : Nat) (h : j < cs.length) (e : Nat) (x : Value) (W : World), Adds w W → Tn ok e W x cs[j].toN.args → Calls Tryz.prog 114 #[nodeV cs[j].toN x, dv] W fun z w' => z = .returned (optV (valE fs cs[j])) ∧ Adds W w') :
    Calls Tryz.prog 137 #[.agg #[.int .i64 2, .string t, .int .i64 n, sn], dv] w fun x w' => x = .returned (optV ((kidsV fs cs).bind (fun _ => some (V.mkNum n)))) ∧ Adds w w' := by
  obtain ⟨ao, cap, rfl⟩ := hT.shape
  have HCS : Hid (cs.length = 0) := hcs
  rw [List.length_map, hcs] at hT ⊢
  have HT : Hid (Tn ok d w (.slice ao 0 cap) (cs.map E.toN)) := hT
  have HC : Hid (∀ (j : Nat) (h : j < cs.length) v, valE fs cs[j] = some v → v.check = 0) := fun j h v hv => valE_ok hm (hok _ (List.getElem_mem h)) hv
  have kN := rNum_any n
  clear hT hok hm _hL
  clear hcs
  have HX : Hid _ := HV
  clear HV
  go_enter Tryz.func137, Tryz.ntmps137
  go_wp2
  go_loopw [6, 7] (fun lv iv wr => ∃ (j : Nat) (vs : List V), j ≤ 0 ∧ iv = .int .i64 j ∧ Hid (Kn fs cs ((w.alloc (.cells #[.int .i64 2, .string t, .int .i64 n, .slice ao 0 cap] 82)).alloc (.cells #[.int .i64 0, .int .i64 0, .string ⟨#[]⟩, .int .i64 0, .int .i64 0] 75)) wr lv j vs)) (fun _ iv _ => 0 - (intOf iv).toNat)
  case atStart =>
    refine ⟨0, [], Nat.zero_le _, rfl, ⟨rfl, ?_, by simp, own_empty (by simp) (Nat.le_refl _), by repeat (first | with_reducible exact Adds.refl _ | with_reducible refine Adds.alloc ?_ _ | with_reducible refine Adds.more ?_ _ _ | with_reducible refine Adds.drew ?_ | with_reducible refine Adds.drewN ?_ _)⟩⟩
    rw [List.drop_zero]
    cases kidsV fs cs <;> rfl
  case round =>
    obtain ⟨j, vs, hj, rfl, hK⟩ := hrel
    by_cases hltM : j < 0
    · exact absurd hltM (by omega)
    · have hj' : j = cs.length := by rw [HCS.out]; omega
      subst hj'
      rw [HCS.out] at hj hltM
      have HLa : Hid (kidsV fs cs = some vs) := hK.out.last
      have hvl := hK.out.len
      have hgood := hK.out.good
      have hown := hK.out.own
      have HA1 : Hid (Adds w wr) := Adds.trans (by repeat (first | with_reducible exact Adds.refl _ | with_reducible refine Adds.alloc ?_ _ | with_reducible refine Adds.more ?_ _ _ | with_reducible refine Adds.drew ?_ | with_reducible refine Adds.drewN ?_ _)) hK.out.adds
      have hA1 := hK.out.adds
      have hbel := hA1.below
      have hsz := hbel.size
      simp only [World.size_alloc] at hsz
      have fB : ∀ i, wr.cell? ⟨w.heap.size, i, none⟩ = (((w.alloc (.cells #[.int .i64 2, .string t, .int .i64 n, .slice ao 0 cap] 82)).alloc (.cells #[.int .i64 0, .int .i64 0, .string ⟨#[]⟩, .int .i64 0, .int .i64 0] 75))).cell? ⟨w.heap.size, i, none⟩ := fun i => World.cell?_of_block (hbel.block _ (by rw [World.size_alloc, World.size_alloc]; show _ < w.heap.size + 1 + 1; simp only; omega))
      have gB : ∀ i, wr.cell? ⟨w.heap.size + 1, i, none⟩ = (((w.alloc (.cells #[.int .i64 2, .string t, .int .i64 n, .slice ao 0 cap] 82)).alloc (.cells #[.int .i64 0, .int .i64 0, .string ⟨#[]⟩, .int .i64 0, .int .i64 0] 75))).cell? ⟨w.heap.size + 1, i, none⟩ := fun i => World.cell?_of_block (hbel.block _ (by rw [World.size_alloc, World.size_alloc]; show _ < w.heap.size + 1 + 1; simp only; omega))
      have zB : ∀ i, wr.frozen? ⟨w.heap.size + 1, i, none⟩ = (((w.alloc (.cells #[.int .i64 2, .string t, .int .i64 n, .slice ao 0 cap] 82)).alloc (.cells #[.int .i64 0, .int .i64 0, .string ⟨#[]⟩, .int .i64 0, .int .i64 0] 75))).frozen? ⟨w.heap.size + 1, i, none⟩ := fun i => World.frozen?_of_block (hbel.block _ (by rw [World.size_alloc, World.size_alloc]; show _ < w.heap.size + 1 + 1; simp only; omega))
      have f0 := (fB 0).trans (show _ = some (.int .i64 2) by simp)
      have f1 := (fB 1).trans (show _ = some (.string t) by simp)
      have f2 := (fB 2).trans (show _ = some (.int .i64 n) by simp)
      have f3 := (fB 3).trans (show _ = some (.slice ao 0 cap) by simp)
      have g0 := (gB 0).trans (show _ = some (.int .i64 0) by simp)
      have g1 := (gB 1).trans (show _ = some (.int .i64 0) by simp)
      have g2 := (gB 2).trans (show _ = some (.string ⟨#[]⟩) by simp)
      have g3 := (gB 3).trans (show _ = some (.int .i64 0) by simp)
      have g4 := (gB 4).trans (show _ = some (.int .i64 0) by simp)
      have z0 := (zB 0).trans (show _ = false by simp)
      have z1 := (zB 1).trans (show _ = false by simp)
      have z2 := (zB 2).trans (show _ = false by simp)
      have z3 := (zB 3).trans (show _ = false by simp)
      have z4 := (zB 4).trans (show _ = false by simp)
      have s0 : w.heap.size < wr.heap.size := by omega
      have s1 : w.heap.size + 1 < wr.heap.size := by omega
      rw [HCS.out] at hvl ⊢
      clear hK HT HX HC hA1 hbel fB gB zB
      clear hgood hown
      go_wp2_with (first
        | (go_at_call 151; refine (kN _).mono ?_; rintro e w2 ⟨rfl, os2, n2, rfl⟩))
      exact bodyPost_ret (v := .tuple #[.agg #[.int .i64 1, .int .i64 n, .string ⟨#[]⟩, .int .i64 0, .int .i64 0], .bool true]) (by simp [results, Tryz.results137, go_sem, s1, g0, g1, g2, g3, g4]) rfl ⟨by rw [HLa.out]; rfl, by repeat (first | with_reducible exact HA1.out | with_reducible refine Adds.put ?_ (by omega) _ _ | with_reducible refine Adds.alloc ?_ _ | with_reducible refine Adds.more ?_ _ _ | with_reducible refine Adds.drew ?_ | with_reducible refine Adds.drewN ?_ _)⟩

end Go.Proofs.YtbedmlimbcfnnaaGreatDoor
