/-
  The reference's name, plain and depth, by contracts.
-/
import Derived.Test.YtiacnmcdfpmcfaaGreatDoorAlone
import Derived.Test.YtiacnmcdfpmcfaaGreatDoorDeep
import Derived.Test.YtiacnmcdfpmcfaaGreatDoorQ01
namespace Go.Proofs.YtiacnmcdfpmcfaaGreatDoor
open Go.RowKit
attribute [local go_sem] cell?_more frozen?_more setCell_more size_more tape_more drew_more drewN_more more_drew more_drewN one_out plus_out plus_end lt_one le_p2 le_p3 le_p4 le_p5 le_p6 le_p7 le_p8 le_p9 le_p10 le_p11 le_p12 le_p13 le_p14 le_p15 le_p16 le_p17 le_p18 le_p19 le_p20 le_p21 le_p22 le_p23 le_p24 le_q0 le_q1 lt_q1 le_q2 lt_q2 le_q3 lt_q3 le_q4 lt_q4 le_q5 lt_q5 le_q6 lt_q6 le_q7 lt_q7 le_q8 lt_q8 le_q9 lt_q9 le_q10 lt_q10 le_q11 lt_q11 le_q12 lt_q12 le_q13 lt_q13 le_q14 lt_q14 le_q15 lt_q15 le_q16 lt_q16 le_q17 lt_q17 le_q18 lt_q18 le_q19 lt_q19 le_q20 lt_q20 le_q21 lt_q21 le_q22 lt_q22 le_q23 lt_q23 le_q24 lt_q24


/-- Of the reference's form: may a node be, but for what its Args are? -/
def rA1 (t : List UInt8) (n : Int) (a : Nat) : Bool := ((a : Int) == 0) && (n == 0) && pathL t && !allDig t
def rA2 (t : List UInt8) (n : Int) (a : Nat) : Bool := ((a : Int) == 0) && (t == []) && decide (0 ≤ n) && decide (n < 1000000000000000)
def rA3 (t : List UInt8) (n : Int) (a : Nat) : Bool := ((a : Int) == 2) && (t == []) && (n == 0)
def rA5 (t : List UInt8) (n : Int) (a : Nat) : Bool := ((a : Int) == 1) && (n == 0) && isName t
def rAlone (k : Int) (t : List UInt8) (n : Int) (a : Nat) : Bool :=
  if k = 1 then rA1 t n a else if k = 2 then rA2 t n a else if k = 3 ∨ k = 4 then rA3 t n a else if k = 5 then rA5 t n a else false

theorem rAlone_is (k : Int) (t : List UInt8) (n : Int) (a : Nat) : rAlone k t n a = aloneN k t n a := by
  unfold rAlone aloneN
  split
  · unfold rA1 digs
    cases t with
    | nil =>
      have : pathL [] = false := by simp [pathL, stp]
      rw [this]
      simp
    | cons c r =>
      simp only [List.isEmpty_cons, Bool.not_false, Bool.and_true]
      cases pathL (c :: r) <;> cases allDig (c :: r) <;> cases (n == 0) <;> cases ((a : Int) == 0) <;> rfl
  split
  · unfold rA2
    have : decide (n < 1000000000000000) = decide (n ≤ 999999999999999) := by
      apply Bool.eq_iff_iff.2
      simp only [decide_eq_true_eq]
      omega
    rw [this]
    cases decide (0 ≤ n) <;> cases decide (n ≤ 999999999999999) <;> cases (t == []) <;> cases ((a : Int) == 0) <;> rfl
  split
  · unfold rA3
    cases (t == []) <;> cases (n == 0) <;> cases ((a : Int) == 2) <;> rfl
  split
  · unfold rA5
    cases isName t <;> cases (n == 0) <;> cases ((a : Int) == 1) <;> rfl
  · rfl

theorem rName_any (s : ByteArray) (w : World) :
    Calls Tryz.prog 71 #[.string s] w fun e w' => e = .returned (.bool (isName s.toList)) ∧ w' = w := by
  go_enter Tryz.func71, Tryz.ntmps71
  have k1 : (⟨#[110, 111, 114, 109]⟩ : ByteArray).toList = nNorm := by rw [ByteArray.toList_eq]; rfl
  have k2 : (⟨#[99, 111, 110, 106]⟩ : ByteArray).toList = nConj := by rw [ByteArray.toList_eq]; rfl
  have k3 : (⟨#[116, 117, 114, 110]⟩ : ByteArray).toList = nTurn := by rw [ByteArray.toList_eq]; rfl
  have k4 : (⟨#[108, 111, 119]⟩ : ByteArray).toList = nLow := by rw [ByteArray.toList_eq]; rfl
  have k5 : (⟨#[104, 101, 97, 100]⟩ : ByteArray).toList = nHead := by rw [ByteArray.toList_eq]; rfl
  by_cases h1 : s.toList = nNorm
  · have h1' : (s.toList == nNorm) = true := by simpa using h1
    go_wp2
    go_ret
    exact ⟨by simp [isName, h1], rfl⟩
  have h1' : (s.toList == nNorm) = false := by simpa using h1
  by_cases h2 : s.toList = nConj
  · have h2' : (s.toList == nConj) = true := by simpa using h2
    go_wp2
    go_ret
    exact ⟨by simp [isName, h2], rfl⟩
  have h2' : (s.toList == nConj) = false := by simpa using h2
  by_cases h3 : s.toList = nTurn
  · have h3' : (s.toList == nTurn) = true := by simpa using h3
    go_wp2
    go_ret
    exact ⟨by simp [isName, h3], rfl⟩
  have h3' : (s.toList == nTurn) = false := by simpa using h3
  by_cases h4 : s.toList = nLow
  · have h4' : (s.toList == nLow) = true := by simpa using h4
    go_wp2
    go_ret
    exact ⟨by simp [isName, h4], rfl⟩
  have h4' : (s.toList == nLow) = false := by simpa using h4
  by_cases h5 : s.toList = nHead
  · have h5' : (s.toList == nHead) = true := by simpa using h5
    go_wp2
    go_ret
    exact ⟨by simp [isName, h5], rfl⟩
  have h5' : (s.toList == nHead) = false := by simpa using h5
  go_wp2
  go_ret
  exact ⟨by simp [isName, h1, h2, h3, h4, h5], rfl⟩

theorem rPlain_any (s : ByteArray) (hs : s.size ≤ 9223372036854775807) (w : World) :
    Calls Tryz.prog 72 #[.string s] w fun e w' => e = .returned (.bool (allDig s.toList)) ∧ w' = w := by
  go_enter Tryz.func72, Tryz.ntmps72
  go_wp2
  go_loopw [3] (fun i wr => ∃ k : Nat, k ≤ s.size ∧ i = .int .i64 k ∧ allDig (s.toList.drop k) = allDig s.toList ∧ wr = w) (fun i _ => s.size - (intOf i).toNat)
  case atStart => exact ⟨0, Nat.zero_le _, rfl, by simp, rfl⟩
  case round =>
    obtain ⟨k, hk, rfl, hst, rfl⟩ := hrel
    by_cases hlt : k < s.size
    · have hn : allDig (s.toList.drop k) = (isDig s[k] && allDig (s.toList.drop (k + 1))) := by
        have hk' : k < s.toList.length := by rw [toList_length]; exact hlt
        rw [List.drop_eq_getElem_cons hk', toList_get]
        rfl
      rw [hst] at hn
      have HN : Hid _ := hn
      clear hn hst
      by_cases h1 : (s[k].toNat : Int) < 48
      · go_wp2
        go_ret
        have hq : isDig s[k] = false := by simp [isDig]; omega
        exact ⟨by simp [HN.out, hq], rfl⟩
      · by_cases h2 : 57 < (s[k].toNat : Int)
        · go_wp2
          go_ret
          have hq : isDig s[k] = false := by simp [isDig]; omega
          exact ⟨by simp [HN.out, hq], rfl⟩
        · go_wp2
          go_roundw
          case rel =>
            have hq : isDig s[k] = true := by simp [isDig]; omega
            exact ⟨k + 1, by omega, by go_num, by rw [HN.out, hq]; simp, trivial⟩
          case measure => simp [intOf]; omega
    · have hk' : k = s.size := by omega
      subst hk'
      have hall : allDig s.toList = true := by
        rw [← hst, ← toList_length, List.drop_length]
        rfl
      have HA : Hid _ := hall
      clear hall hst
      go_wp2
      go_ret
      exact ⟨by rw [HA.out]; rfl, rfl⟩

/-- How deep, as far as it matters. -/
def mx : List Nat → Nat
  | [] => 0
  | a :: r => max a (mx r)
def depthN : Nat → N → Nat
  | 0, _ => 1
  | m + 1, n => mx (n.args.map (depthN m)) + 1

theorem mx_le {l : List Nat} {k : Nat} : mx l ≤ k ↔ ∀ x ∈ l, x ≤ k := by
  induction l with
  | nil => simp [mx]
  | cons a r ih => simp [mx, ← ih]; omega
theorem depthN_le (m : Nat) : ∀ n, depthN m n ≤ m + 1 := by
  induction m with
  | zero => intro n; simp [depthN]
  | succ m ih =>
    intro n
    have : mx (n.args.map (depthN m)) ≤ m + 1 := mx_le.2 (by simp only [List.mem_map]; rintro x ⟨y, _, rfl⟩; exact ih y)
    simp only [depthN]
    omega

theorem cnt_mem {t : N} {ts : List N} (h : t ∈ ts) (d : Nat) : cntN d [t] ≤ cntN d ts := by
  induction ts with
  | nil => cases h
  | cons a r ih =>
    have hc : ∀ (x : N) (l : List N), cntN d (x :: l) = cntN d [x] + cntN d l := by
      intro x l
      cases d <;> simp [cntN] <;> omega
    rw [hc a r]
    cases h with
    | head => omega
    | tail _ h => have := ih h; omega
theorem cnt_args {n : N} {M : Nat} (h : ∀ d, cntN d [n] ≤ M) (d : Nat) : cntN d n.args ≤ M := by
  have := h (d + 1)
  simp [cntN] at this
  omega
theorem cnt_kid {n t : N} {M : Nat} (h : ∀ d, cntN d [n] ≤ M) (ht : t ∈ n.args) (d : Nat) : cntN d [t] ≤ M :=
  Nat.le_trans (cnt_mem ht d) (cnt_args h d)
theorem cnt_long {n : N} {M : Nat} (h : ∀ d, cntN d [n] ≤ M) : n.args.length ≤ M := by
  have := cnt_args h 0
  simpa [cntN] using this

set_option maxHeartbeats 1000000 in
theorem rDepth_any {ok : Nat → Prop} (m : Nat) : ∀ (d : Nat) (n : N) (s : Value) (w : World), m ≤ 9 → Tn ok d w s n.args → (∀ d, cntN d [n] ≤ 10000) →
    Calls Tryz.prog 53 #[nodeV n s, .int .i64 m] w fun e w' => e = .returned (.int .i64 (depthN m n)) ∧ Adds w w' := by
  induction m with
  | zero =>
    intro d n s w _ hT hc
    obtain ⟨ao, cap, rfl⟩ := hT.shape
    obtain ⟨nk, nt, nm, na⟩ := n
    simp only [nodeV, N.kind, N.text, N.num, N.args] at *
    clear hT hc
    go_enter Tryz.func53, Tryz.ntmps53
    go_wp2
    go_ret
    exact ⟨rfl, by repeat (first | with_reducible exact Adds.refl _ | with_reducible refine Adds.alloc ?_ _ | with_reducible refine Adds.more ?_ _ _ | with_reducible refine Adds.drew ?_ | with_reducible refine Adds.drewN ?_ _)⟩
  | succ m ih =>
    intro d n s w hm hT hc
    obtain ⟨ao, cap, rfl⟩ := hT.shape
    have hlen := cnt_long hc
    have hkid : ∀ t ∈ n.args, ∀ d, cntN d [t] ≤ 10000 := fun t ht => cnt_kid hc ht
    have hD : depthN (m + 1) n = mx (n.args.map (depthN m)) + 1 := rfl
    have hDl := depthN_le (m + 1) n
    rw [hD] at hDl ⊢
    clear hD hc
    obtain ⟨nk, nt, nm, ts⟩ := n
    simp only [nodeV, N.kind, N.text, N.num, N.args] at *
    have hm1 : ((m + 1 : Nat) : Int) = (m : Int) + 1 := by omega
    rw [hm1]
    have hmz : ((m : Int) + 1 == 0) = false := by simp; omega
    have HK : Hid (∀ t ∈ ts, ∀ d, cntN d [t] ≤ 10000) := hkid
    clear hkid
    have HT : Hid (Tn ok d w (.slice ao ts.length cap) ts) := hT
    clear hT
    generalize hM : mx (ts.map (depthN m)) = M at *
    go_enter Tryz.func53, Tryz.ntmps53
    go_wp2
    go_loopw [5, 6] (fun dv iv wr => ∃ (j x : Nat), j ≤ ts.length ∧ iv = .int .i64 j ∧ dv = .int .i64 x ∧ max x (mx ((ts.drop j).map (depthN m))) = M ∧ Adds (w.alloc (.cells #[.int .i64 nk, .string nt, .int .i64 nm, .slice ao ts.length cap] 81)) wr) (fun _ iv _ => ts.length - (intOf iv).toNat)
    case atStart => exact ⟨0, 0, Nat.zero_le _, rfl, rfl, by simp [hM], by repeat (first | with_reducible exact Adds.refl _ | with_reducible refine Adds.alloc ?_ _ | with_reducible refine Adds.more ?_ _ _ | with_reducible refine Adds.drew ?_ | with_reducible refine Adds.drewN ?_ _)⟩
    case round =>
      obtain ⟨j, x0, hj, rfl, rfl, hmx, os, n0, rfl⟩ := hrel
      by_cases hlt : j < ts.length
      · obtain ⟨e, b1, o1, x, he, rfl, hb1, ⟨c0, c1, c2, c3⟩, hsz, htx⟩ := HT.out.elem hlt
        have kR := fun W (hA : Adds w W) => ih e ts[j] x W (by omega) (htx.adds hA) (HK.out _ (List.getElem_mem hlt))
        rw [List.drop_eq_getElem_cons hlt] at hmx
        simp only [List.map_cons, mx] at hmx
        have HM : Hid (max x0 (max (depthN m ts[j]) (mx ((ts.drop (j + 1)).map (depthN m)))) = M) := hmx
        have hy : depthN m ts[j] ≤ 10 := Nat.le_trans (depthN_le m _) (by omega)
        have hx0 : x0 ≤ 11 := by omega
        obtain ⟨xo, xc, rfl⟩ := htx.shape
        (try simp only [nodeV] at kR)
        clear htx he HT ih hsz HK hmx hM
        generalize depthN m ts[j] = y at *
        generalize ts[j] = p at *
        by_cases hg : (x0 : Int) < (y : Int)
        · go_wp2_with (go_at_call 53; refine (kR _ (by repeat (first | with_reducible exact Adds.refl _ | with_reducible refine Adds.alloc ?_ _ | with_reducible refine Adds.more ?_ _ _ | with_reducible refine Adds.drew ?_ | with_reducible refine Adds.drewN ?_ _))).mono ?_; rintro e w2 ⟨rfl, os2, n2, rfl⟩)
          go_roundw
          case rel =>
            have := HM.out
            exact ⟨j + 1, y, by omega, by go_num, rfl, by omega, by repeat (first | with_reducible exact Adds.refl _ | with_reducible refine Adds.alloc ?_ _ | with_reducible refine Adds.more ?_ _ _ | with_reducible refine Adds.drew ?_ | with_reducible refine Adds.drewN ?_ _)⟩
          case measure => simp [intOf]; omega
        · go_wp2_with (go_at_call 53; refine (kR _ (by repeat (first | with_reducible exact Adds.refl _ | with_reducible refine Adds.alloc ?_ _ | with_reducible refine Adds.more ?_ _ _ | with_reducible refine Adds.drew ?_ | with_reducible refine Adds.drewN ?_ _))).mono ?_; rintro e w2 ⟨rfl, os2, n2, rfl⟩)
          go_roundw
          case rel =>
            have := HM.out
            exact ⟨j + 1, x0, by omega, by go_num, rfl, by omega, by repeat (first | with_reducible exact Adds.refl _ | with_reducible refine Adds.alloc ?_ _ | with_reducible refine Adds.more ?_ _ _ | with_reducible refine Adds.drew ?_ | with_reducible refine Adds.drewN ?_ _)⟩
          case measure => simp [intOf]; omega
      · have hj' : j = ts.length := by omega
        subst hj'
        have hx : x0 = M := by simpa [mx] using hmx
        subst hx
        clear hmx HT HK ih hM
        go_wp2
        go_ret
        exact ⟨by go_num, by repeat (first | with_reducible exact Adds.refl _ | with_reducible refine Adds.alloc ?_ _ | with_reducible refine Adds.more ?_ _ _ | with_reducible refine Adds.drew ?_ | with_reducible refine Adds.drewN ?_ _)⟩

end Go.Proofs.YtiacnmcdfpmcfaaGreatDoor
