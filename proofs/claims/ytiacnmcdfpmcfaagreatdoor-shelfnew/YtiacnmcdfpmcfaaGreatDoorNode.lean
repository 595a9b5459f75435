/-
  Expressions as they lie in memory; the small functions on words, by contracts.
-/
import Derived.Test.YtiacnmcdfpmcfaaGreatDoorGram
import Derived.Test.YtiacnmcdfpmcfaaGreatDoorSums
import Derived.Test.YtiacnmcdfpmcfaaGreatDoorDocs
namespace Go.Proofs.YtiacnmcdfpmcfaaGreatDoor
open Go.RowKit
attribute [local go_sem] cell?_more frozen?_more setCell_more size_more tape_more drew_more drewN_more more_drew more_drewN one_out plus_out plus_end lt_one le_p2 le_p3 le_p4 le_p5 le_p6 le_p7 le_p8 le_p9 le_p10 le_p11 le_p12 le_p13 le_p14 le_p15 le_p16 le_p17 le_p18 le_p19 le_p20 le_p21 le_p22 le_p23 le_p24 le_q0 le_q1 lt_q1 le_q2 lt_q2 le_q3 lt_q3 le_q4 lt_q4 le_q5 lt_q5 le_q6 lt_q6 le_q7 lt_q7 le_q8 lt_q8 le_q9 lt_q9 le_q10 lt_q10 le_q11 lt_q11 le_q12 lt_q12 le_q13 lt_q13 le_q14 lt_q14 le_q15 lt_q15 le_q16 lt_q16 le_q17 lt_q17 le_q18 lt_q18 le_q19 lt_q19 le_q20 lt_q20 le_q21 lt_q21 le_q22 lt_q22 le_q23 lt_q23 le_q24 lt_q24


/-- A node, as it may be or not. -/
inductive N where
  | mk (kind : Int) (text : ByteArray) (num : Int) (args : List N)

def N.kind : N → Int | .mk k _ _ _ => k
def N.text : N → ByteArray | .mk _ s _ _ => s
def N.num : N → Int | .mk _ _ n _ => n
def N.args : N → List N | .mk _ _ _ l => l

def N.zero : N := .mk 0 ⟨#[]⟩ 0 []

/-- A node's value, its list beside. -/
abbrev nodeV (t : N) (s : Value) : Value := .agg #[.int .i64 t.kind, .string t.text, .int .i64 t.num, s]

/-- No mark of a string's bytes at a list's first cell; nowhere in its block, where ok bars block 0 (so of trees that are new). -/
def Unm (ok : Nat → Prop) (w : World) (b off : Nat) : Prop := w.frozen? ⟨b, off, none⟩ = false ∧ (¬ ok 0 → ∀ o, w.frozen? ⟨b, o, none⟩ = false)

/-- The slice value s reads as the nodes ts, which are no deeper than that; all its blocks are such as ok says. -/
def Tn (ok : Nat → Prop) : Nat → World → Value → List N → Prop
  | 0, _, s, ts => ts = [] ∧ ∃ ao cap, s = .slice ao 0 cap
  | d + 1, w, s, ts => ∃ ao cap, s = .slice ao ts.length cap ∧ ts.length ≤ cap ∧ (ts = [] ∨ ∃ b off, ao = some ⟨b, off, none⟩ ∧ b < w.heap.size ∧ ok b ∧ Unm ok w b off ∧ ∀ j (h : j < ts.length), ∃ x,
      (w.cell? ⟨b, off + j * 4, none⟩ = some (.int .i64 ts[j].kind) ∧ w.cell? ⟨b, off + j * 4 + 1, none⟩ = some (.string ts[j].text) ∧ w.cell? ⟨b, off + j * 4 + 2, none⟩ = some (.int .i64 ts[j].num) ∧ w.cell? ⟨b, off + j * 4 + 3, none⟩ = some x) ∧
      ts[j].text.size ≤ 9223372036854775807 ∧ Tn ok d w x ts[j].args)

theorem Tn.frame {ok ok' : Nat → Prop} {d : Nat} {w w' : World} {s : Value} {ts : List N} (h : Tn ok d w s ts) (hs : w.heap.size ≤ w'.heap.size) (hw : ∀ b, ok b → b < w.heap.size → w'.heap[b]? = w.heap[b]? ∧ ok' b) : Tn ok' d w' s ts := by
  induction d generalizing s ts with
  | zero => exact h
  | succ d ih =>
    obtain ⟨ao, cap, rfl, hc, h | ⟨b, off, rfl, hlt, hb, hz, hx⟩⟩ := h
    · exact ⟨ao, cap, rfl, hc, .inl h⟩
    · refine ⟨_, cap, rfl, hc, .inr ⟨b, off, rfl, Nat.lt_of_lt_of_le hlt hs, (hw b hb hlt).2, ⟨(World.frozen?_of_block (w := w) (a := ⟨b, off, none⟩) (hw b hb hlt).1).trans hz.1, fun h0 o => (World.frozen?_of_block (w := w) (a := ⟨b, o, none⟩) (hw b hb hlt).1).trans (hz.2 (fun h => h0 (hw 0 h (by omega)).2) o)⟩, fun j hj => ?_⟩⟩
      obtain ⟨x, ⟨h0, h1, h2, h3⟩, h4, h5⟩ := hx j hj
      have hk : ∀ i, w'.cell? ⟨b, i, none⟩ = w.cell? ⟨b, i, none⟩ := fun i => World.cell?_of_block (w := w) (a := ⟨b, i, none⟩) (hw b hb hlt).1
      exact ⟨x, ⟨by rw [hk]; exact h0, by rw [hk]; exact h1, by rw [hk]; exact h2, by rw [hk]; exact h3⟩, h4, ih h5⟩

theorem Tn.adds {ok : Nat → Prop} {d : Nat} {w w' : World} {s : Value} {ts : List N} (h : Tn ok d w s ts) (hA : Adds w w') : Tn ok d w' s ts :=
  h.frame hA.below.size (fun b hb hlt => ⟨hA.below.block b hlt, hb⟩)

theorem Tn.weak {ok ok' : Nat → Prop} {d : Nat} {w : World} {s : Value} {ts : List N} (h : Tn ok d w s ts) (hw : ∀ b, ok b → b < w.heap.size → ok' b) : Tn ok' d w s ts :=
  h.frame (Nat.le_refl _) (fun b hb hlt => ⟨rfl, hw b hb hlt⟩)

theorem Tn.deeper {ok : Nat → Prop} {d : Nat} {w : World} {s : Value} {ts : List N} (h : Tn ok d w s ts) : Tn ok (d + 1) w s ts := by
  induction d generalizing s ts with
  | zero =>
    obtain ⟨rfl, ao, cap, rfl⟩ := h
    exact ⟨ao, cap, rfl, Nat.zero_le _, .inl rfl⟩
  | succ d ih =>
    obtain ⟨ao, cap, rfl, hc, h | ⟨b, off, rfl, hlt, hb, hz, hx⟩⟩ := h
    · exact ⟨ao, cap, rfl, hc, .inl h⟩
    · refine ⟨_, cap, rfl, hc, .inr ⟨b, off, rfl, hlt, hb, hz, fun j hj => ?_⟩⟩
      obtain ⟨x, h0, h4, h5⟩ := hx j hj
      exact ⟨x, h0, h4, ih h5⟩

theorem Tn.up {ok : Nat → Prop} {d d' : Nat} {w : World} {s : Value} {ts : List N} (h : Tn ok d w s ts) (hd : d ≤ d') : Tn ok d' w s ts := by
  obtain ⟨k, rfl⟩ := Nat.le.dest hd
  induction k with
  | zero => exact h
  | succ k ih => exact (ih (by omega)).deeper

theorem Tn.shape {ok : Nat → Prop} {d : Nat} {w : World} {s : Value} {ts : List N} (h : Tn ok d w s ts) : ∃ ao cap, s = .slice ao ts.length cap := by
  cases d with
  | zero =>
    obtain ⟨rfl, ao, cap, rfl⟩ := h
    exact ⟨ao, cap, rfl⟩
  | succ d =>
    obtain ⟨ao, cap, rfl, _⟩ := h
    exact ⟨ao, cap, rfl⟩

theorem Tn.nil (ok : Nat → Prop) (d : Nat) (w : World) : Tn ok d w (.slice none 0 0) [] := by
  cases d with
  | zero => exact ⟨rfl, none, 0, rfl⟩
  | succ d => exact ⟨none, 0, rfl, Nat.le_refl _, .inl rfl⟩

theorem Tn.elem {ok : Nat → Prop} {d : Nat} {w : World} {ao : Option Addr} {n cap : Nat} {ts : List N} (h : Tn ok d w (.slice ao n cap) ts) {k : Nat} (hk : k < ts.length) :
    ∃ d' b off x, d = d' + 1 ∧ ao = some ⟨b, off, none⟩ ∧ b < w.heap.size ∧ (w.cell? ⟨b, off + k * 4, none⟩ = some (.int .i64 ts[k].kind) ∧ w.cell? ⟨b, off + k * 4 + 1, none⟩ = some (.string ts[k].text) ∧ w.cell? ⟨b, off + k * 4 + 2, none⟩ = some (.int .i64 ts[k].num) ∧ w.cell? ⟨b, off + k * 4 + 3, none⟩ = some x) ∧ ts[k].text.size ≤ 9223372036854775807 ∧ Tn ok d' w x ts[k].args := by
  cases d with
  | zero =>
    obtain ⟨rfl, _⟩ := h
    simp at hk
  | succ d =>
    obtain ⟨ao', cap', he, _, rfl | ⟨b, off, rfl, hlt, _, _, hx⟩⟩ := h
    · simp at hk
    · simp only [Value.slice.injEq] at he
      obtain ⟨x, hc, hs, ht⟩ := hx k hk
      exact ⟨d, b, off, x, rfl, he.1, hlt, hc, hs, ht⟩

/-- A list of two, in a block of its own. -/
theorem tn_two {ok : Nat → Prop} {d : Nat} {w' : World} {a b : N} {sa sb : Value} {k : Nat} (hk : k < w'.heap.size) (hok : ok k) (hz : ∀ o, w'.frozen? ⟨k, o, none⟩ = false) (ha : Tn ok d w' sa a.args) (hb : Tn ok d w' sb b.args) (h1 : a.text.size ≤ 9223372036854775807) (h2 : b.text.size ≤ 9223372036854775807)
    (ca : w'.cell? ⟨k, 0, none⟩ = some (.int .i64 a.kind) ∧ w'.cell? ⟨k, 1, none⟩ = some (.string a.text) ∧ w'.cell? ⟨k, 2, none⟩ = some (.int .i64 a.num) ∧ w'.cell? ⟨k, 3, none⟩ = some sa)
    (cb : w'.cell? ⟨k, 4, none⟩ = some (.int .i64 b.kind) ∧ w'.cell? ⟨k, 5, none⟩ = some (.string b.text) ∧ w'.cell? ⟨k, 6, none⟩ = some (.int .i64 b.num) ∧ w'.cell? ⟨k, 7, none⟩ = some sb) :
    Tn ok (d + 1) w' (.slice (some ⟨k, 0, none⟩) 2 2) [a, b] := by
  refine ⟨_, 2, rfl, Nat.le_refl _, .inr ⟨k, 0, rfl, hk, hok, ⟨hz 0, fun _ => hz⟩, fun j hj => ?_⟩⟩
  match j, hj with
  | 0, _ => exact ⟨sa, by simpa using ca, h1, ha⟩
  | 1, _ => exact ⟨sb, by simpa using cb, h2, hb⟩
  | (j + 2), hj => simp at hj; omega

theorem tn_one {ok : Nat → Prop} {d : Nat} {w' : World} {a : N} {sa : Value} {k : Nat} (hk : k < w'.heap.size) (hok : ok k) (hz : ∀ o, w'.frozen? ⟨k, o, none⟩ = false) (ha : Tn ok d w' sa a.args) (h1 : a.text.size ≤ 9223372036854775807)
    (ca : w'.cell? ⟨k, 0, none⟩ = some (.int .i64 a.kind) ∧ w'.cell? ⟨k, 1, none⟩ = some (.string a.text) ∧ w'.cell? ⟨k, 2, none⟩ = some (.int .i64 a.num) ∧ w'.cell? ⟨k, 3, none⟩ = some sa) :
    Tn ok (d + 1) w' (.slice (some ⟨k, 0, none⟩) 1 1) [a] := by
  refine ⟨_, 1, rfl, Nat.le_refl _, .inr ⟨k, 0, rfl, hk, hok, ⟨hz 0, fun _ => hz⟩, fun j hj => ?_⟩⟩
  have : j = 0 := by simpa using hj
  subst this
  exact ⟨sa, by simpa using ca, h1, ha⟩

/-- Bytes as a string. -/
def toB (l : List UInt8) : ByteArray := ⟨l.toArray⟩

theorem toB_toList (l : List UInt8) : (toB l).toList = l := by rw [ByteArray.toList_eq]; simp [toB]
theorem toB_of (s : ByteArray) : toB s.toList = s := toList_inj (toB_toList _)
theorem toB_size (l : List UInt8) : (toB l).size = l.length := by rw [← toList_length, toB_toList]
theorem toB_eq {s : ByteArray} {l : List UInt8} (h : s.toList = l) : s = toB l := by rw [← h, toB_of]

/-- An expression as a node. -/
def E.toN : E → N
  | .path t => .mk 1 (toB t) 0 []
  | .num n => .mk 2 ⟨#[]⟩ n []
  | .sum a b => .mk 3 ⟨#[]⟩ 0 [a.toN, b.toN]
  | .mul a b => .mk 4 ⟨#[]⟩ 0 [a.toN, b.toN]
  | .call f a => .mk 5 (toB f) 0 [a.toN]

theorem E.kind_ne (e : E) : e.toN.kind ≠ 0 := by cases e <;> simp [E.toN, N.kind]

theorem isPath_L (s : ByteArray) : isPath s = pathL s.toList := by
  simp only [isPath, pathL, toList_length]

theorem isName_any (s : ByteArray) (w : World) :
    Calls Tryz.prog 89 #[.string s] w fun e w' => e = .returned (.bool (isName s.toList)) ∧ w' = w := by
  go_enter Tryz.func89, Tryz.ntmps89
  have k1 : (⟨#[110, 111, 114, 109]⟩ : ByteArray).toList = nNorm := by rw [ByteArray.toList_eq]; rfl
  have k2 : (⟨#[99, 111, 110, 106]⟩ : ByteArray).toList = nConj := by rw [ByteArray.toList_eq]; rfl
  have k3 : (⟨#[116, 117, 114, 110]⟩ : ByteArray).toList = nTurn := by rw [ByteArray.toList_eq]; rfl
  have k4 : (⟨#[108, 111, 119]⟩ : ByteArray).toList = nLow := by rw [ByteArray.toList_eq]; rfl
  have k5 : (⟨#[104, 101, 97, 100]⟩ : ByteArray).toList = nHead := by rw [ByteArray.toList_eq]; rfl
  by_cases h1 : s.toList = nNorm
  · have h1' : (s.toList == nNorm) = true := by simpa using h1
    go_wp2
    go_ret
    exact ⟨by simp [isName, h1], rfl⟩
  have h1' : (s.toList == nNorm) = false := by simpa using h1
  by_cases h2 : s.toList = nConj
  · have h2' : (s.toList == nConj) = true := by simpa using h2
    go_wp2
    go_ret
    exact ⟨by simp [isName, h2], rfl⟩
  have h2' : (s.toList == nConj) = false := by simpa using h2
  by_cases h3 : s.toList = nTurn
  · have h3' : (s.toList == nTurn) = true := by simpa using h3
    go_wp2
    go_ret
    exact ⟨by simp [isName, h3], rfl⟩
  have h3' : (s.toList == nTurn) = false := by simpa using h3
  by_cases h4 : s.toList = nLow
  · have h4' : (s.toList == nLow) = true := by simpa using h4
    go_wp2
    go_ret
    exact ⟨by simp [isName, h4], rfl⟩
  have h4' : (s.toList == nLow) = false := by simpa using h4
  by_cases h5 : s.toList = nHead
  · have h5' : (s.toList == nHead) = true := by simpa using h5
    go_wp2
    go_ret
    exact ⟨by simp [isName, h5], rfl⟩
  have h5' : (s.toList == nHead) = false := by simpa using h5
  go_wp2
  go_ret
  exact ⟨by simp [isName, h1, h2, h3, h4, h5], rfl⟩

theorem wc_iff (c : UInt8) : wc c = true ↔ ((97 ≤ (c.toNat : Int) ∧ (c.toNat : Int) ≤ 122) ∨ (48 ≤ (c.toNat : Int) ∧ (c.toNat : Int) ≤ 57)) ∨ (c.toNat : Int) = 46 := by
  simp only [wc, inW, Bool.or_eq_true, decide_eq_true_eq]
  omega

theorem inWordE_any (c : UInt8) (w : World) :
    Calls Tryz.prog 119 #[.int .u8 (c.toNat : Int)] w fun e w' => e = .returned (.bool (wc c)) ∧ w' = w := by
  by_cases h5 : (c.toNat : Int) = 46
  · have hw : wc c = true := (wc_iff c).2 (.inr h5)
    rw [hw]
    clear hw
    go_enter Tryz.func119, Tryz.ntmps119
    go_wp2
    go_ret
    exact ⟨rfl, rfl⟩
  · have h6 : ((c.toNat : Int) == 46) = false := by simpa using h5
    by_cases h1 : 97 ≤ (c.toNat : Int) <;> by_cases h2 : (c.toNat : Int) ≤ 122 <;> by_cases h3 : 48 ≤ (c.toNat : Int) <;> by_cases h4 : (c.toNat : Int) ≤ 57
    all_goals
      first
        | (exfalso; omega)
        | (have hw : wc c = true := (wc_iff c).2 (by omega)
           rw [hw]
           clear hw
           go_enter Tryz.func119, Tryz.ntmps119
           go_wp2
           go_ret
           exact ⟨rfl, rfl⟩)
        | (have hw : wc c = false := by
             cases hq : wc c with
             | false => rfl
             | true => have := (wc_iff c).1 hq; omega
           rw [hw]
           clear hw
           go_enter Tryz.func119, Tryz.ntmps119
           go_wp2
           go_ret
           exact ⟨rfl, rfl⟩)

theorem allDig_any (s : ByteArray) (hs : s.size ≤ 9223372036854775807) (w : World) :
    Calls Tryz.prog 120 #[.string s] w fun e w' => e = .returned (.bool (digs s.toList)) ∧ w' = w := by
  go_enter Tryz.func120, Tryz.ntmps120
  go_wp2
  go_loopw [3] (fun i wr => ∃ k : Nat, k ≤ s.size ∧ i = .int .i64 k ∧ allDig (s.toList.drop k) = allDig s.toList ∧ wr = w) (fun i _ => s.size - (intOf i).toNat)
  case atStart => exact ⟨0, Nat.zero_le _, rfl, by simp, rfl⟩
  case round =>
    obtain ⟨k, hk, rfl, hst, rfl⟩ := hrel
    by_cases hlt : k < s.size
    · have hn : allDig (s.toList.drop k) = (isDig s[k] && allDig (s.toList.drop (k + 1))) := by
        have hk' : k < s.toList.length := by rw [toList_length]; exact hlt
        rw [List.drop_eq_getElem_cons hk', toList_get]
        rfl
      rw [hst] at hn
      have HN : Hid _ := hn
      clear hn hst
      by_cases h1 : (s[k].toNat : Int) < 48
      · go_wp2
        go_ret
        have hq : isDig s[k] = false := by simp [isDig]; omega
        exact ⟨by simp [digs, HN.out, hq], rfl⟩
      · by_cases h2 : 57 < (s[k].toNat : Int)
        · go_wp2
          go_ret
          have hq : isDig s[k] = false := by simp [isDig]; omega
          exact ⟨by simp [digs, HN.out, hq], rfl⟩
        · go_wp2
          go_roundw
          case rel =>
            have hq : isDig s[k] = true := by simp [isDig]; omega
            exact ⟨k + 1, by omega, by go_num, by rw [HN.out, hq]; simp, trivial⟩
          case measure => simp [intOf]; omega
    · have hk' : k = s.size := by omega
      subst hk'
      have hall : allDig s.toList = true := by
        rw [← hst, ← toList_length, List.drop_length]
        rfl
      have HA : Hid _ := hall
      clear hall hst
      by_cases he : s.toList = []
      · have he' : (s.toList != []) = false := by simp [he]
        go_wp2
        go_ret
        exact ⟨by simp [digs, he], rfl⟩
      · have he' : (s.toList != []) = true := by simp [he]
        go_wp2
        go_ret
        exact ⟨by simp [digs, HA.out], rfl⟩

end Go.Proofs.YtiacnmcdfpmcfaaGreatDoor
