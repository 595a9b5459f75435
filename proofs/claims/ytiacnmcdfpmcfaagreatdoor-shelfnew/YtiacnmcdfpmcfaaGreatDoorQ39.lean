/-
  A text cut at its commas; Count and Index of package strings at a comma, by contracts.
  Split of package strings at a comma, by a contract.
  Lists of expressions: what is told of a text.
-/
import Derived.Test.YtiacnmcdfpmcfaaGreatDoorNode
import Derived.Lib.Bytealg
import Derived.Test.YtiacnmcdfpmcfaaGreatDoorRdr
import Derived.Lib.Split
import Derived.Deep.OwnRows
import Derived.Deep.LoopGhost
import Derived.Test.YtiacnmcdfpmcfaaGreatDoorQ29
import Derived.Test.YtiacnmcdfpmcfaaGreatDoorQ38
namespace Go.Proofs.YtiacnmcdfpmcfaaGreatDoor
open Go.RowKit


/-- A text cut at its commas. -/
def spl : List UInt8 → List (List UInt8)
  | [] => [[]]
  | c :: r => if c = 44 then [] :: spl r else match spl r with
    | [] => [[c]]
    | h :: t => (c :: h) :: t

theorem spl_ne (s : List UInt8) : spl s ≠ [] := by
  cases s with
  | nil => simp [spl]
  | cons c r =>
    simp only [spl]
    split
    · simp
    · split <;> simp

theorem spl_none {s : List UInt8} (h : (44 : UInt8) ∉ s) : spl s = [s] := by
  induction s with
  | nil => rfl
  | cons c r ih =>
    have hc : c ≠ 44 := fun e => h (by simp [e])
    simp only [spl]
    rw [if_neg hc, ih (fun hm => h (by simp [hm]))]

theorem spl_at {p q : List UInt8} (h : (44 : UInt8) ∉ p) : spl (p ++ 44 :: q) = p :: spl q := by
  induction p with
  | nil => simp [spl]
  | cons c r ih =>
    have hc : c ≠ 44 := fun e => h (by simp [e])
    simp only [List.cons_append, spl]
    rw [if_neg hc, ih (fun hm => h (by simp [hm]))]

theorem spl_len (s : List UInt8) : (spl s).length = s.count 44 + 1 := by
  induction s with
  | nil => simp [spl]
  | cons c r ih =>
    simp only [spl]
    by_cases hc : c = 44
    · rw [if_pos hc, hc]
      simp [ih]
    · rw [if_neg hc]
      have : (c :: r).count 44 = r.count 44 := by rw [List.count_cons]; simp [hc]
      rw [this]
      split
      · rename_i e
        exact absurd e (spl_ne r)
      · rename_i h t e
        rw [e] at ih
        simpa using ih

theorem first_comma {l : List UInt8} (h : (44 : UInt8) ∈ l) : ∃ f t, l = f ++ 44 :: t ∧ (44 : UInt8) ∉ f := by
  induction l with
  | nil => cases h
  | cons x r ih =>
    by_cases hx : x = 44
    · subst hx
      exact ⟨[], r, rfl, by simp⟩
    · obtain ⟨f, t, rfl, hf⟩ := ih (by simpa [Ne.symm hx] using h)
      exact ⟨x :: f, t, rfl, by simp [Ne.symm hx, hf]⟩

theorem idx_none {s : List UInt8} (h : (44 : UInt8) ∉ s) : Lib.indexByte s 44 = -1 := by
  induction s with
  | nil => rfl
  | cons c r ih =>
    have hc : c ≠ 44 := fun e => h (by simp [e])
    unfold Lib.indexByte
    rw [if_neg (by simpa using hc), ih (fun hm => h (by simp [hm]))]
    rfl
theorem idx_at {p q : List UInt8} (h : (44 : UInt8) ∉ p) : Lib.indexByte (p ++ 44 :: q) 44 = (p.length : Int) := by
  induction p with
  | nil => simp [Lib.indexByte]
  | cons c r ih =>
    have hc : c ≠ 44 := fun e => h (by simp [e])
    have hi := ih (fun hm => h (by simp [hm]))
    simp only [List.cons_append]
    unfold Lib.indexByte
    rw [if_neg (by simpa using hc), hi, if_neg (by simp)]
    simp

set_option maxHeartbeats 1000000 in
set_option maxRecDepth 100000 in
theorem count_any (s : ByteArray) (w : World) : Calls Tryz.prog 46 #[.string s, .string ⟨#[44]⟩] w fun e w' => e = .returned (.int .i64 ((s.toList.count 44 : Nat) : Int)) ∧ w' = w := by
  have e0 : s.data.toList = s.toList := (ByteArray.toList_eq s).symm
  go_enter Tryz.func46, Tryz.ntmps46
  go_wp2
  rw [run_callFunc_extern Tryz.func62 (by kernel_rfl) (by kernel_rfl) (by kernel_rfl) (e := Extern.BytealgCount.count) (by kernel_rfl), Lib.run_countString]
  simp only [Result.andThen]
  rw [Oper.upon_value]
  go_wp2
  go_ret
  exact ⟨by rw [← e0]; rfl, rfl⟩

set_option maxHeartbeats 1000000 in
set_option maxRecDepth 100000 in
theorem idxByte_any (s : ByteArray) (w : World) : Calls Tryz.prog 114 #[.string s, .int .u8 44] w fun e w' => e = .returned (.int .i64 (Lib.indexByte s.toList 44)) ∧ w' = w := by
  have e0 : s.data.toList = s.toList := (ByteArray.toList_eq s).symm
  go_enter Tryz.func114, Tryz.ntmps114
  go_wp2
  rw [run_callFunc_extern Tryz.func141 (by kernel_rfl) (by kernel_rfl) (by kernel_rfl) (e := Extern.BytealgIndexByte.indexByte) (by kernel_rfl), Lib.run_indexByteString]
  simp only [Result.andThen]
  rw [Oper.upon_value]
  go_wp2
  go_ret
  exact ⟨by rw [← e0]; rfl, rfl⟩

set_option maxHeartbeats 1000000 in
set_option maxRecDepth 100000 in
theorem slIndex_any (s : ByteArray) (w : World) : Calls Tryz.prog 86 #[.string s, .string ⟨#[44]⟩] w fun e w' => e = .returned (.int .i64 (Lib.indexByte s.toList 44)) ∧ w' = w := by
  have kI := idxByte_any s
  have q : (⟨#[44]⟩ : ByteArray).toList = [44] := by rw [ByteArray.toList_eq]
  by_cases he : s.toList = [44]
  · have he' : ([44] == s.toList) = true := by rw [he]; rfl
    have hx : Lib.indexByte s.toList 44 = 0 := by rw [he]; rfl
    rw [hx]
    clear hx he kI
    go_enter Tryz.func86, Tryz.ntmps86
    go_wp2
    go_ret
    exact ⟨rfl, rfl⟩
  · have he' : ([44] == s.toList) = false := by
      cases h : ([44] == s.toList) with
      | false => rfl
      | true => exact absurd (beq_iff_eq.1 h).symm he
    clear he
    go_enter Tryz.func86, Tryz.ntmps86
    go_wp2_with (go_at_call 114; refine (kI _).mono ?_; rintro e w1 ⟨rfl, hw⟩; subst w1)
    go_ret
    exact ⟨rfl, rfl⟩

theorem index_any (s : ByteArray) (w : World) : Calls Tryz.prog 63 #[.string s, .string ⟨#[44]⟩] w fun e w' => e = .returned (.int .i64 (Lib.indexByte s.toList 44)) ∧ w' = w := by
  have kI := slIndex_any s
  go_enter Tryz.func63, Tryz.ntmps63
  go_wp2_with (go_at_call 86; refine (kI _).mono ?_; rintro e w1 ⟨rfl, hw⟩; subst w1)
  go_ret
  exact ⟨rfl, rfl⟩

end Go.Proofs.YtiacnmcdfpmcfaaGreatDoor

namespace Go.Proofs.YtiacnmcdfpmcfaaGreatDoor
open Go.RowKit


theorem spl_last {s : List UInt8} (h : (spl s).length = 1) : spl s = [s] := by
  rw [spl_len] at h
  exact spl_none (List.count_eq_zero.1 (by omega))
theorem spl_more {s : List UInt8} (h : 1 < (spl s).length) : ∃ p q, s = p ++ 44 :: q ∧ (44 : UInt8) ∉ p := by
  rw [spl_len] at h
  exact first_comma (List.count_pos_iff.1 (by omega))

theorem pieces_cells {l : List ByteArray} {n : Nat} (h : n = l.length) : Lib.cellsOf l n = (l.map Value.string).toArray := by
  subst h
  simp [Lib.cellsOf]

set_option maxHeartbeats 4000000 in
set_option maxRecDepth 1000000 in
theorem genSplit_any (s : ByteArray) (hs : s.size ≤ 2000) (w : World) : Calls Tryz.prog 64 #[.string s, .string ⟨#[44]⟩, .int .i64 0, .int .i64 (-1)] w fun e w' =>
    e = .returned (.slice (some ⟨w.heap.size, 0, none⟩) (spl s.toList).length (spl s.toList).length) ∧ w' = w.alloc (.cells ((spl s.toList).map (fun l => Value.string (toB l))).toArray 9) := by
  obtain ⟨cn, hcn⟩ : ∃ cn : Nat, s.toList.count 44 = cn := ⟨_, rfl⟩
  have kC := count_any s
  rw [hcn] at kC
  have kI := fun x w => index_any x w
  have hle : cn ≤ s.size := by rw [← hcn, ← toList_length]; exact List.count_le_length
  have hN : (spl s.toList).length = cn + 1 := by rw [spl_len, hcn]
  have hmin : min ((cn : Int) + 1) ((s.size : Int) + 1) = (cn : Int) + 1 := by omega
  have q : (⟨#[44]⟩ : ByteArray).toList = [44] := by rw [ByteArray.toList_eq]
  have hmk := run_make_row' (P := Tryz.prog) 79 9 (.string ByteArray.empty) 16 Tryz.underlying79 (by kernel_rfl) rfl .i64 .i64 (cn + 1) (by omega) (by omega)
  rw [hN]
  have hc1 : ((cn + 1 : Nat) : Int) = (cn : Int) + 1 := by omega
  rw [hc1] at hmk
  clear hcn
  go_enter Tryz.func64, Tryz.ntmps64
  go_wp2_with (go_at_call 46; refine (kC _).mono ?_; rintro e w1 ⟨rfl, hw⟩; subst w1)
  clear hmk kC hmin hc1
  have HN : Hid ((spl s.toList).length = cn + 1) := hN
  clear hN
  go_loopw [0, 10] (fun sv iv wr => ∃ (done : List ByteArray) (rest : ByteArray), sv = .string rest ∧ iv = .int .i64 (done.length : Int) ∧ done.length ≤ cn ∧ rest.size ≤ 2000 ∧ wr = w.alloc (.cells (Lib.cellsOf done (cn + 1)) 9) ∧ Hid (done.map ByteArray.toList ++ spl rest.toList = spl s.toList)) (fun _ iv _ => cn - (intOf iv).toNat)
  case atStart => exact ⟨[], s, rfl, rfl, Nat.zero_le _, hs, by rw [Lib.cellsOf_nil], rfl⟩
  case round =>
    obtain ⟨done, rest, rfl, rfl, hd, hrs, rfl, HS⟩ := hrel
    have hnext : (Lib.cellsOf done (cn + 1))[done.length]? = some (.string ByteArray.empty) := Lib.cellsOf_next (by omega)
    have hlen : done.length + (spl rest.toList).length = cn + 1 := by
      have h1 := congrArg List.length HS.out
      rw [List.length_append, List.length_map, HN.out] at h1
      exact h1
    by_cases hlt : done.length < cn
    · have hltz : ((done.length : Nat) : Int) < (cn : Int) := by omega
      obtain ⟨p, r, hp, hno⟩ := spl_more (s := rest.toList) (by omega)
      have hix : Lib.indexByte rest.toList 44 = (p.length : Int) := by rw [hp]; exact idx_at hno
      have kJ := fun w => kI rest w
      rw [hix] at kJ
      have hpl : p.length + 1 ≤ rest.size := by
        rw [← toList_length, hp]
        simp
      have c0 : ¬ ((p.length : Int) < 0) := by omega
      have HP : Hid ((rest.extract 0 p.length).toList = p ∧ (rest.extract (p.length + 1) rest.size).toList = r) := by
        constructor
        · rw [extract_L, hp]; simp
        · rw [extract_L, ← toList_length, List.take_length, hp, show p ++ 44 :: r = (p ++ [44]) ++ r by simp, show p.length + 1 = (p ++ [44]).length by simp, List.drop_left]
      have HQ : Hid (spl rest.toList = p :: spl r) := by
        show _ = _
        rw [hp]
        exact spl_at hno
      have HX : Hid (done.length + (spl rest.toList).length = cn + 1) := hlen
      clear hlen hp hno kI hix
      generalize p.length = P at *
      go_wp2_with (go_at_call 63; refine (kJ _).mono ?_; rintro e w1 ⟨rfl, hw⟩; subst w1)
      go_roundw
      case rel =>
        refine ⟨done ++ [rest.extract 0 P], rest.extract (P + 1) rest.size, rfl, by simp, by simp; omega, by rw [ByteArray.size_extract]; omega, by rw [← Lib.cellsOf_set (by omega)], ?_⟩
        show _ = _
        rw [← HS.out, HQ.out, List.map_append, List.map_cons, List.map_nil, HP.out.1, HP.out.2]
        simp
      case measure => simp [intOf]; omega
    · have hltz : ¬ (((done.length : Nat) : Int) < (cn : Int)) := by omega
      have hfin : Hid ((w.alloc (.cells ((Lib.cellsOf done (cn + 1)).setIfInBounds done.length (.string rest)) 9)) = w.alloc (.cells ((spl s.toList).map (fun l => Value.string (toB l))).toArray 9)) := by
        show _ = _
        have h1 := spl_last (s := rest.toList) (by omega)
        rw [Lib.cellsOf_set (by omega), ← HS.out, h1, pieces_cells (by simp; omega)]
        simp [Function.comp_def, toB_of]
      have hdc : Hid (done.length = cn) := by
        show _ = _
        omega
      clear hlen HS HN kI
      go_wp2
      go_ret
      refine ⟨?_, hfin.out⟩
      rw [← hdc.out]
      first | rfl | (congr 2 <;> omega)

set_option maxHeartbeats 1000000 in
theorem split_any (s : ByteArray) (hs : s.size ≤ 2000) (w : World) : Calls Tryz.prog 47 #[.string s, .string ⟨#[44]⟩] w fun e w' =>
    e = .returned (.slice (some ⟨w.heap.size, 0, none⟩) (spl s.toList).length (spl s.toList).length) ∧ w' = w.alloc (.cells ((spl s.toList).map (fun l => Value.string (toB l))).toArray 9) := by
  have kG := genSplit_any s hs
  go_enter Tryz.func47, Tryz.ntmps47
  go_wp2_with (go_at_call 64; refine (kG _).mono ?_; rintro e w1 ⟨rfl, hw⟩; subst w1)
  go_ret
  exact ⟨rfl, rfl⟩

end Go.Proofs.YtiacnmcdfpmcfaaGreatDoor

namespace Go.Proofs.YtiacnmcdfpmcfaaGreatDoor
open Go.RowKit


/-- Which expression a text is, or the number of the error. -/
def parseL (l : List UInt8) : Except Int E :=
  if 256 < l.length then .error 3 else
    match M l [] Fr.none none with
    | none => .error 5
    | some x => if x.depth ≤ 8 then .ok x else .error 13

theorem parseL_err {l : List UInt8} {c : Int} (h : parseL l = .error c) : c ≠ 0 := by
  unfold parseL at h
  split at h
  · cases h; decide
  · split at h
    · cases h; decide
    · split at h
      · cases h
      · cases h; decide

theorem parseL_ok {l : List UInt8} {x : E} (h : parseL l = .ok x) : l.length ≤ 256 ∧ G .sum l x ∧ x.depth ≤ 8 := by
  unfold parseL at h
  split at h
  · cases h
  · rename_i h1
    split at h
    · cases h
    · rename_i y hy
      split at h
      · rename_i h2
        cases h
        exact ⟨by omega, (M_is _ _).1 hy, h2⟩
      · cases h

theorem cnt_ok {l : List UInt8} {x : E} (h : parseL l = .ok x) : ∀ d, cntN d [x.toN] ≤ 256 := fun d => by
  obtain ⟨h1, h2, _⟩ := parseL_ok h
  have h3 := cnt_E x d
  have h4 := h2.nodes
  omega

/-- Parse where it refuses, on both sides. -/
theorem parse_E {l : List UInt8} {c : Int} (h : parseL l = .error c) (w : World) :
    Calls Tryz.prog 48 #[.string (toB l)] w (fun e w' => e = .returned (.tuple #[.agg #[.int .i64 0, .string ⟨#[]⟩, .int .i64 0, .slice none 0 0], .int .i64 c]) ∧ Adds w w') ∧ Calls Tryz.prog 38 #[.string (toB l)] w (fun e w' => e = .returned (.tuple #[.agg #[.int .i64 0, .string ⟨#[]⟩, .int .i64 0, .slice none 0 0], .int .i64 c]) ∧ Adds w w') := by
  have hs : (toB l).size = l.length := toB_size l
  have hl : (toB l).toList = l := toB_toList l
  unfold parseL at h
  split at h
  · cases h
    exact ⟨parse_long _ (by omega) w, rparse_long _ (by omega) w⟩
  · rename_i h1
    split at h
    · rename_i hM
      cases h
      have hG : ∀ x, ¬ G .sum (toB l).toList x := fun x hx => by
        rw [hl] at hx
        rw [M_whole hx] at hM
        cases hM
      exact ⟨parse_bad _ (by omega) hG w, rparse_bad _ (by omega) hG w⟩
    · rename_i y hy
      split at h
      · cases h
      · rename_i h2
        cases h
        have hG : G .sum (toB l).toList y := by rw [hl]; exact (M_is _ _).1 hy
        refine ⟨parse_deep _ (by omega) y hG h2 w, (rparse_some _ (by omega) y hG w).mono ?_⟩
        rintro e w' ⟨h3, hA⟩
        rw [if_neg h2] at h3
        exact ⟨h3, hA⟩

/-- What Parse tells of a text that is an expression. -/
def Gave (x : E) (w : World) (e : Ending) (w' : World) : Prop :=
  ∃ ao cap D, e = .returned (.tuple #[nodeV x.toN (.slice ao x.toN.args.length cap), .int .i64 0]) ∧ Hid (Tn (fun b => w.heap.size + 1 ≤ b) D w' (.slice ao x.toN.args.length cap) x.toN.args)

theorem parse_O {l : List UInt8} {x : E} (h : parseL l = .ok x) (w : World) :
    Calls Tryz.prog 48 #[.string (toB l)] w (fun e w' => Gave x w e w' ∧ Adds w w') ∧ Calls Tryz.prog 38 #[.string (toB l)] w (fun e w' => Gave x w e w' ∧ Adds w w') := by
  have hs : (toB l).size = l.length := toB_size l
  have hl : (toB l).toList = l := toB_toList l
  obtain ⟨h1, hG, hd⟩ := parseL_ok h
  have hc : ∀ d, cntN d [x.toN] ≤ 10000 := fun d => Nat.le_trans (cnt_ok h d) (by decide)
  constructor
  · refine (parse_ok (toB l) (by omega) x (by rw [hl]; exact M_whole hG) ((fits_deep 8 x hG.ok).2 hd) hG.ok hc w).mono ?_
    rintro e w' ⟨⟨sr, D, rfl, hT⟩, hA⟩
    obtain ⟨ao, cap, rfl⟩ := hT.shape
    exact ⟨⟨ao, cap, D, rfl, hT⟩, hA⟩
  · refine (rparse_some (toB l) (by omega) x (by rw [hl]; exact hG) w).mono ?_
    rintro e w' ⟨h3, hA⟩
    rw [if_pos hd] at h3
    obtain ⟨sr, D, rfl, hT⟩ := h3
    obtain ⟨ao, cap, rfl⟩ := hT.shape
    exact ⟨⟨ao, cap, D, rfl, hT⟩, hA⟩

/-- All of a list, or the first error. -/
def parseLs : List (List UInt8) → Except Int (List E)
  | [] => .ok []
  | l :: r => match parseL l with
    | .error c => .error c
    | .ok x => match parseLs r with
      | .error c => .error c
      | .ok xs => .ok (x :: xs)

/-- What has been read of a list so far. -/
def Sofar (ls : List (List UInt8)) (j : Nat) (xs : List E) : Prop :=
  xs.length = j ∧ (∀ x ∈ xs, x.ok ∧ ∀ d, cntN d [x.toN] ≤ 256) ∧ parseLs ls = match parseLs (ls.drop j) with
    | .error c => .error c
    | .ok ys => .ok (xs ++ ys)

theorem sofar_nil (ls : List (List UInt8)) : Sofar ls 0 [] := ⟨rfl, (fun x h => by cases h), (by simp only [List.drop_zero, List.nil_append]; cases parseLs ls <;> rfl)⟩

theorem Sofar.err {ls : List (List UInt8)} {j : Nat} {xs : List E} (h : Sofar ls j xs) (hj : j < ls.length) {c : Int} (hc : parseL ls[j] = .error c) : parseLs ls = .error c := by
  rw [h.2.2, List.drop_eq_getElem_cons hj, parseLs, hc]

theorem Sofar.next {ls : List (List UInt8)} {j : Nat} {xs : List E} (h : Sofar ls j xs) (hj : j < ls.length) {x : E} (hx : parseL ls[j] = .ok x) : Sofar ls (j + 1) (xs ++ [x]) := by
  refine ⟨by simp [h.1], fun y hy => ?_, ?_⟩
  · rcases List.mem_append.1 hy with hy | hy
    · exact h.2.1 y hy
    · rw [List.mem_singleton.1 hy]
      exact ⟨(parseL_ok hx).2.1.ok, cnt_ok hx⟩
  · rw [h.2.2, List.drop_eq_getElem_cons hj, parseLs, hx]
    cases parseLs (ls.drop (j + 1)) <;> simp

theorem Sofar.all {ls : List (List UInt8)} {xs : List E} (h : Sofar ls ls.length xs) : parseLs ls = .ok xs := by
  rw [h.2.2, List.drop_length]
  simp [parseLs]

theorem parseLs_err : ∀ {ls : List (List UInt8)} {c : Int}, parseLs ls = .error c → c ≠ 0 := by
  intro ls
  induction ls with
  | nil => intro c h; cases h
  | cons l r ih =>
    intro c h
    simp only [parseLs] at h
    split at h
    · rename_i c' hc
      cases h
      exact parseL_err hc
    · split at h
      · rename_i hr
        cases h
        exact ih hr
      · cases h

/-- The list of expressions that a text is. -/
def parseA (s : List UInt8) : Except Int (List E) := if 4 < (spl s).length then .error 5 else parseLs (spl s)

/-- What both sides' ParseAll tell. -/
def GaveR (R : Except Int (List E)) (e : Ending) (w' : World) : Prop :=
  match R with
  | .error c => e = .returned (.tuple #[.slice none 0 0, .int .i64 c])
  | .ok xs => ∃ ao cap D, e = .returned (.tuple #[.slice ao xs.length cap, .int .i64 0]) ∧ Tn (fun _ => True) D w' (.slice ao xs.length cap) (xs.map E.toN) ∧ ∀ x ∈ xs, x.ok ∧ ∀ d, cntN d [x.toN] ≤ 256

theorem Nr.shape {w1 wr : World} {v : Value} {xs : List E} {ns : List NV} {D : Nat} (h : Nr w1 wr v xs ns D) : ∃ ao cap, v = .slice ao xs.length cap := by
  have hl := h.rx.1
  rcases h.own.2 with ⟨rfl, h0⟩ | ⟨g, cap, cur, rfl, _⟩
  · exact ⟨none, 0, by rw [← hl, h0]⟩
  · exact ⟨_, cap, by rw [hl]⟩

theorem Nr.gave {w1 wr : World} {ao : Option Addr} {n cap : Nat} {xs : List E} {ns : List NV} {D : Nat} {ls : List (List UInt8)} (h : Nr w1 wr (.slice ao n cap) xs ns D) (hs : Sofar ls ls.length xs) : GaveR (parseLs ls) (.returned (.tuple #[.slice ao n cap, .int .i64 0])) wr := by
  rw [hs.all]
  obtain ⟨ao', cap', e⟩ := h.shape
  simp only [Value.slice.injEq] at e
  obtain ⟨rfl, rfl, rfl⟩ := e
  exact ⟨ao, cap, D + 1, rfl, h.tn (fun x hx => (hs.2.1 x hx).1), hs.2.1⟩

end Go.Proofs.YtiacnmcdfpmcfaaGreatDoor
