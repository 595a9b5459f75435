/-
  The document's Parse, by a contract.
-/
import Derived.Test.YtgjcienechfapaaDoorEight
import Derived.Test.YtgjcienechfapaaDoorKeys
namespace Go.Proofs.YtgjcienechfapaaDoor
open Go.RowKit

def strSz : Value → Nat
  | .string s => s.size
  | _ => 0

theorem Hid.of {p : Prop} (h : p) : Hid p := h

structure PL (w : World) (key : ByteArray) (wr : World) (v : Value) (acc : List V) (s' : ByteArray) : Prop where
  own : wr.ownsRow w.heap.size 31 5 v acc.length (rowOf acc)
  bel : Below w.heap.size w wr
  siz : s'.size + 9 * acc.length ≤ key.size
  dec : looseAll acc s'.toList = looseAll [] key.toList

theorem owns_later {w w' : World} {B : Nat} {v : Value} {n : Nat} {xs : List Value} (h : w.ownsRow B 31 5 v n xs) (hb : Below w.heap.size w w') : w'.ownsRow B 31 5 v n xs := by
  refine h.kept (mv_below hb none) ?_
  cases v.ownBlock with
  | none => exact .inl rfl
  | some k => exact .inr (by simp)

theorem news_one (W : World) (v : V) : ∀ j u, v.cellList[j]? = some u → (W.alloc (.cells #[.int .i64 v.kind, .int .i64 v.num, .string v.text, .int .i64 v.re, .int .i64 v.im] 31)).cell? ((⟨W.heap.size, 0, none⟩ : Addr).add j) = some u := by
  intro j u hj
  match j, hj with
  | 0, hj => simp [V.cellList] at hj; subst hj; simp [Addr.add]
  | 1, hj => simp [V.cellList] at hj; subst hj; simp [Addr.add]
  | 2, hj => simp [V.cellList] at hj; subst hj; simp [Addr.add]
  | 3, hj => simp [V.cellList] at hj; subst hj; simp [Addr.add]
  | 4, hj => simp [V.cellList] at hj; subst hj; simp [Addr.add]
  | (j + 5), hj => simp [V.cellList] at hj

theorem PL.next {w : World} {key : ByteArray} {wr W w3 : World} {v v3 : Value} {acc : List V} {s' q : ByteArray} {x : V} {o : Obj} (T : PL w key wr v acc s') (hb : Below wr.heap.size wr W)
    (hown3 : w3.ownsRow w.heap.size 31 5 v3 (acc.length + 1) (rowOf acc ++ x.cellList)) (hgrow3 : (W.alloc o).grownBy w3 v.ownBlock) (hne : s'.toList ≠ []) (hV : looseV s'.toList = some (x, q.toList)) : PL w key w3 v3 (acc ++ [x]) q := by
  refine ⟨?_, ?_, ?_, ?_⟩
  · rw [rowOf_snoc]
    simpa using hown3
  · have h1 := since_on (since_on T.bel hb) (since_new W o)
    refine Below.grown h1 hgrow3 h1.size ?_
    intro k hk
    exact (T.own.lt k hk).1
  · have := looseV_nine hV
    rw [toList_length, toList_length] at this
    have := T.siz
    simp
    omega
  · rw [← looseAll_some hne hV]
    exact T.dec

/-- What the document's Parse tells of a key. -/
def RefSays (key : ByteArray) (B : Nat) (e : Ending) (w' : World) : Prop :=
  match looseAll [] key.toList with
  | some l => ∃ v, e = .returned (.tuple #[v, .bool (decide (l.length ≤ 16 ∧ firstBad l = 0 ∧ keyBytes l = key.toList))]) ∧ w'.ownsRow B 31 5 v l.length (rowOf l)
  | none => e = .returned (.tuple #[.slice none 0 0, .bool false])

theorem refsays_none {key : ByteArray} {B : Nat} {w' : World} (h : looseAll [] key.toList = none) : RefSays key B (.returned (.tuple #[.slice none 0 0, .bool false])) w' := by
  unfold RefSays
  rw [h]

theorem loose_num {s E : ByteArray} {n : Nat} (hl : s.toList = 1 :: E.toList) (h8 : 8 ≤ E.size) (hn : E.size = n) :
    looseV s.toList = some (⟨1, eightOf (beNat (E.toList.take 8)), ⟨#[]⟩, 0, 0⟩, (E.extract 8 n).toList) := by
  subst hn
  rw [hl, extract_back]
  simp only [looseV]
  rw [if_pos ⟨trivial, by rw [toList_length]; exact h8⟩]
  rfl

theorem loose_point {s E : ByteArray} {n : Nat} (hl : s.toList = 3 :: E.toList) (h16 : 16 ≤ E.size) (hn : E.size = n) :
    looseV s.toList = some (⟨3, 0, ⟨#[]⟩, eightOf (beNat (E.toList.take 8)), eightOf (beNat ((E.extract 8 n).toList.take 8))⟩, (E.extract 16 n).toList) := by
  subst hn
  rw [hl, extract_back, extract_back]
  simp only [looseV]
  rw [if_neg (fun h => by cases h.1), if_pos ⟨trivial, by rw [toList_length]; exact h16⟩]
  rfl

theorem loose_text {s E t q : ByteArray} (hl : s.toList = 2 :: E.toList) (h : looseT [] E.toList = some (t.toList, q.toList)) : looseV s.toList = some (⟨2, 0, t, 0, 0⟩, q.toList) := by
  rw [hl]
  simp only [looseV]
  rw [if_neg (fun h => by cases h.1), if_neg (fun h => by cases h.1), if_pos trivial, h]
  have : (⟨t.toList.toArray⟩ : ByteArray) = t := toList_inj (by rw [ByteArray.toList_eq])
  simp only [this]
  rfl

theorem loose_text_none {s E : ByteArray} (hl : s.toList = 2 :: E.toList) (h : looseT [] E.toList = none) : looseV s.toList = none := by
  rw [hl]
  simp only [looseV]
  rw [if_neg (fun h => by cases h.1), if_neg (fun h => by cases h.1), if_pos trivial, h]

/-- The state in the loop over a text's groups. -/
structure IL (wr : World) (E : ByteArray) (W : World) (t s2 : ByteArray) (last : Bool) : Prop where
  box : W.heap[wr.heap.size]? = some (Obj.cells #[.int .i64 2, .int .i64 0, .string t, .int .i64 0, .int .i64 0] 31 (0, 0))
  bel : Below wr.heap.size wr W
  siz : t.size + s2.size ≤ E.size
  dec : if last then looseT [] E.toList = some (t.toList, s2.toList) else looseT t.toList s2.toList = looseT [] E.toList

theorem news_drew (w1 : World) (o : Obj) (v : V) : ∀ j u, v.cellList[j]? = some u → (((w1.alloc o).drew).alloc (.cells #[.int .i64 v.kind, .int .i64 v.num, .string v.text, .int .i64 v.re, .int .i64 v.im] 31)).cell? ((⟨w1.heap.size + 1, 0, none⟩ : Addr).add j) = some u := by
  intro j u hj
  have := news_one ((w1.alloc o).drew) v j u hj
  rwa [show ((w1.alloc o).drew).heap.size = w1.heap.size + 1 from by show (w1.alloc o).heap.size = _; simp] at this

theorem refsays_some {key : ByteArray} {B : Nat} {v : Value} {w' : World} {l : List V} {q : Bool} (h : looseAll [] key.toList = some l) (hown : w'.ownsRow B 31 5 v l.length (rowOf l)) (hq : q = decide (l.length ≤ 16 ∧ firstBad l = 0 ∧ keyBytes l = key.toList)) : RefSays key B (.returned (.tuple #[v, .bool q])) w' := by
  unfold RefSays
  rw [h]
  exact ⟨v, by rw [hq], hown⟩

theorem toList_join (a b : ByteArray) : (a ++ b).toList = a.toList ++ b.toList := by
  rw [ByteArray.toList_eq, ByteArray.toList_eq, ByteArray.toList_eq, ByteArray.data_append, Array.toList_append]

theorem IL.next {wr W : World} {E t s2 : ByteArray} {n : Nat} {l : Bool} (I : IL wr E W t s2 false) (h8 : 8 ≤ s2.size) (hn : n ≤ 7)
    (hdec : if l then looseT [] E.toList = some (t.toList ++ s2.toList.take n, s2.toList.drop 8) else looseT (t.toList ++ s2.toList.take n) (s2.toList.drop 8) = looseT [] E.toList) :
    IL wr E (W.setCell ⟨wr.heap.size, 2, none⟩ (.string (t ++ s2.extract 0 n))).drew (t ++ s2.extract 0 n) (s2.extract 8 s2.size) l := by
  have hq : (s2.extract 0 n).toList = s2.toList.take n := extract_front _ _
  have hb : (s2.extract 8 s2.size).toList = s2.toList.drop 8 := extract_back _ _
  refine ⟨?_, ?_, ?_, ?_⟩
  · show (W.setCell ⟨wr.heap.size, 2, none⟩ (.string (t ++ s2.extract 0 n))).heap[wr.heap.size]? = _
    simp [World.setCell, Array.getElem?_modify, I.box]
  · have := mv_set (mv_below I.bel none) (p := ⟨wr.heap.size, 2, none⟩) (.inl (Nat.le_refl _)) (.string (t ++ s2.extract 0 n))
    exact since_on ⟨this.os, this.tape, this.output, this.size, fun k hk => this.block k hk (by simp)⟩ (since_drew _)
  · have := I.siz
    rw [← toList_length, ← toList_length, toList_join, hq, hb, List.length_append, List.length_take, List.length_drop, toList_length, toList_length]
    omega
  · rw [toList_join, hq, hb]
    exact hdec

theorem since_alloc_drew (w : World) (o : Obj) : Below w.heap.size w (w.alloc o).drew := since_on (since_new w o) (since_drew _)

set_option maxRecDepth 20000 in
set_option maxHeartbeats 4000000 in
theorem refparse_any (key : ByteArray) (hkey : key.size ≤ 3000) (w : World) :
    Calls Tryd.prog 12 #[.string key] w fun e w' => RefSays key w.heap.size e w' ∧ Below w.heap.size w w' := by
  obtain ⟨i0, hi, hz0, hz1, hz2⟩ := info_parts Tryd.info31
  obtain ⟨D, hD⟩ : ∃ D, looseAll [] key.toList = D := ⟨_, rfl⟩
  go_enter Tryd.func12, Tryd.ntmps12
  go_wp2
  go_loopw [4, 5] (fun v s wr => ∃ (acc : List V) (s' : ByteArray), s = .string s' ∧ PL w key wr v acc s') (fun _ s _ => strSz s)
  case atStart =>
    refine ⟨[], key, rfl, ⟨by simp [rowOf], .inr ⟨w.heap.size, 0, #[], rfl, Nat.le_refl _, block_at w _, by simp, by simp, by simp, by simp [rowOf]⟩⟩, since_new _ _, by simp, rfl⟩
  case round =>
    obtain ⟨acc, s', rfl, T⟩ := hrel
    have hdec := T.dec
    rw [hD] at hdec
    have HD : Hid (looseAll acc s'.toList = D) := hdec
    clear hdec
    have hsize := T.bel.size
    have hsiz := T.siz
    have hlst := lst_of_row T.own
    obtain ⟨ao, cap, hu4⟩ := owns_len T.own
    have hown := T.own
    rw [hu4] at hown hlst
    subst hu4
    by_cases hs0 : s'.size = 0
    · have hnil : s'.toList = [] := List.eq_nil_of_length_eq_zero (by rw [toList_length]; exact hs0)
      have HA : Hid (D = some acc) := by show D = some acc; rw [← HD.out, hnil, looseAll_nil]
      clear hnil
      by_cases h16 : acc.length ≤ 16
      · have c7 := fun W h => refkey_any (.slice ao acc.length cap) acc W h h16
        by_cases hbad : firstBad acc = 0
        · rw [hbad] at c7
          have HK := Hid.of (keyStr_ok hbad)
          have HB := Hid.of hbad
          clear hbad
          generalize keyStr acc = X at *
          go_wp2_with (go_at_call 7; refine (c7 _ hlst).mono ?_; rintro e w1 ⟨rfl, hb1⟩)
          go_ret2
          exact ⟨refsays_some (hD.trans HA.out) (owns_later hown hb1) (by rw [HK.out]; simp only [h16, HB.out, true_and]; by_cases hkk : keyBytes acc = key.toList <;> simp [hkk]), since_on T.bel hb1⟩
        · have HB := Hid.of hbad
          generalize hq : firstBad acc = q at c7 hbad
          clear hq
          go_wp2_with (go_at_call 7; refine (c7 _ hlst).mono ?_; rintro e w1 ⟨rfl, hb1⟩)
          go_ret2
          exact ⟨refsays_some (hD.trans HA.out) (owns_later hown hb1) (by simp [HB.out]), since_on T.bel hb1⟩
      · have c7 := fun W h => refkey_long (.slice ao acc.length cap) acc W h (by omega) (by omega)
        go_wp2_with (go_at_call 7; refine (c7 _ hlst).mono ?_; rintro e w1 ⟨rfl, rfl⟩)
        go_ret2
        exact ⟨refsays_some (hD.trans HA.out) hown (by simp [h16]), T.bel⟩
    · have hs0i : (0 : Int) < (s'.size : Int) := by omega
      have hpos : 0 < s'.size := by omega
      obtain ⟨c, hcs⟩ : ∃ c, s'[0]'hpos = c := ⟨_, rfl⟩
      have hcb : c.toNat < 256 := c.toNat_lt
      have hi1 : Hid (c ≠ 1 → (c.toNat : Int) ≠ 1) := fun h e => h (UInt8.toNat_inj.1 (by simpa using (by omega : c.toNat = 1)))
      have hi2 : Hid (c ≠ 2 → (c.toNat : Int) ≠ 2) := fun h e => h (UInt8.toNat_inj.1 (by simpa using (by omega : c.toNat = 2)))
      have hi3 : Hid (c ≠ 3 → (c.toNat : Int) ≠ 3) := fun h e => h (UInt8.toNat_inj.1 (by simpa using (by omega : c.toNat = 3)))
      have HL : Hid (s'.toList = c :: (s'.extract 1 s'.size).toList) := by
        show s'.toList = _
        rw [extract_back, ← hcs, ← toList_get s' 0 (by rw [toList_length]; exact hpos)]
        have := List.drop_eq_getElem_cons (l := s'.toList) (i := 0) (by rw [toList_length]; exact hpos)
        rwa [List.drop_zero] at this
      have hrs : (s'.extract 1 s'.size).size = s'.size - 1 := by rw [← toList_length, extract_back, List.length_drop, toList_length]
      have hne : Hid (s'.toList ≠ []) := by show s'.toList ≠ []; rw [HL.out]; simp
      have HN : Hid (looseV s'.toList = none → D = none) := fun h => by rw [← HD.out]; exact looseAll_none hne.out h
      by_cases hc1 : c = 1
      · subst hc1
        by_cases h8 : 8 ≤ (s'.extract 1 s'.size).size
        · have h9 : 9 ≤ s'.size := by omega
          have c20 := fun W => eight_any _ W h8
          have hV := loose_num HL.out h8 hrs
          generalize eightOf (beNat ((s'.extract 1 s'.size).toList.take 8)) = m at c20 hV
          have HV := Hid.of hV
          clear hV
          go_wp2_with (first
            | (go_at_call 20; refine (c20 _).mono ?_; rintro e w1 ⟨rfl, rfl⟩)
            | (at_builtin; refine wpList_append_own _ rfl (.tmp 88) (.tmp 90) 22 rfl w.heap.size 31 i0 _ 5 48 Tryd.underlying22 hi hz0 hz1 hz2 rfl (by decide) _ _ _ rfl ((owns_later hown (since_new _ _)).alloc _) ⟨wr.heap.size + 1, 0, none⟩ 1 1 (V.cellList ⟨1, m, ⟨#[]⟩, 0, 0⟩) rfl rfl (news_at wr _ ⟨1, m, ⟨#[]⟩, 0, 0⟩) (cellList_one _) (by unfold maxLen; omega) (by omega) (Nat.le_trans hsize (Nat.le_trans (since_new _ _).size (since_new _ _).size)) ?_; intro v3 w3 hown3 hgrow3 hlast; clear hlast))
          have hnext := T.next (since_new _ _) hown3 hgrow3 hne.out HV.out
          have hnine := looseV_nine HV.out
          rw [toList_length, toList_length] at hnine
          go_roundw
          case rel => exact ⟨_, _, rfl, hnext⟩
          case measure =>
            simp only [strSz]
            omega
        · have h9 : s'.size < 9 := by omega
          go_wp2
          go_ret2
          exact ⟨refsays_none (hD.trans (HN.out (by rw [HL.out]; simp [looseV, toList_length]; omega))), since_on T.bel (since_new _ _)⟩
      · have hn1 := hi1.out hc1
        by_cases hc3 : c = 3
        · subst hc3
          by_cases h16 : 16 ≤ (s'.extract 1 s'.size).size
          · have h17 : 17 ≤ s'.size := by omega
            have h8 : 8 ≤ (s'.extract 1 s'.size).size := by omega
            have h8' : 8 ≤ ((s'.extract 1 s'.size).extract 8 (s'.size - 1)).size := by
              rw [← hrs, ← toList_length, extract_back, List.length_drop, toList_length]; omega
            have c20 := fun W => eight_any _ W h8
            have d20 := fun W => eight_any _ W h8'
            have hV := loose_point HL.out h16 hrs
            generalize eightOf (beNat ((s'.extract 1 s'.size).toList.take 8)) = m at c20 hV
            generalize eightOf (beNat (((s'.extract 1 s'.size).extract 8 (s'.size - 1)).toList.take 8)) = n at d20 hV
            have HV := Hid.of hV
            clear hV
            go_wp2
            go_region_with (first | (go_at_call 20; with_reducible refine (c20 _).mono ?_; rintro e w1 ⟨rfl, rfl⟩) | (go_at_call 20; with_reducible refine (d20 _).mono ?_; rintro e w1 ⟨rfl, rfl⟩))
            all_goals
              go_wp2_with (at_builtin; refine wpList_append_own _ rfl (.tmp 88) (.tmp 90) 22 rfl w.heap.size 31 i0 _ 5 48 Tryd.underlying22 hi hz0 hz1 hz2 rfl (by decide) _ _ _ rfl ((owns_later hown (since_alloc_drew _ _)).alloc _) ⟨wr.heap.size + 1, 0, none⟩ 1 1 (V.cellList ⟨3, 0, ⟨#[]⟩, m, n⟩) rfl rfl (news_drew wr _ ⟨3, 0, ⟨#[]⟩, m, n⟩) (cellList_one _) (by unfold maxLen; omega) (by omega) (Nat.le_trans hsize (Nat.le_trans (since_alloc_drew _ _).size (since_new _ _).size)) ?_; intro v3 w3 hown3 hgrow3 hlast; clear hlast)
              have hnext := T.next (since_alloc_drew _ _) hown3 hgrow3 hne.out HV.out
              have hnine := looseV_nine HV.out
              rw [toList_length, toList_length] at hnine
              go_roundw
              case rel => exact ⟨_, _, rfl, hnext⟩
              case measure =>
                simp only [strSz]
                omega
          · have h17 : s'.size < 17 := by omega
            go_wp2
            go_ret2
            exact ⟨refsays_none (hD.trans (HN.out (by rw [HL.out]; simp [looseV, toList_length]; omega))), since_on T.bel (since_new _ _)⟩
        · have hn3 := hi3.out hc3
          by_cases hc2 : c = 2
          · subst hc2
            go_wp2
            generalize s'.extract 1 s'.size = E at *
            clear hcs hi1 hi2 hi3
            rename World => W0
            go_loopw [5, 7] (fun s l W => ∃ (t s2 : ByteArray) (last : Bool), s = .string s2 ∧ l = .bool last ∧ IL W0 E W t s2 last) (fun s _ _ => strSz s)
            case atStart => exact ⟨⟨#[]⟩, E, false, rfl, rfl, block_at _ _, since_new _ _, Nat.le_of_eq (Nat.zero_add _), by simp [ByteArray.toList_eq]⟩
            case round =>
              obtain ⟨t, s2, last, rfl, rfl, I⟩ := hrel
              have hisz := I.siz
              have hib := I.bel.size
              obtain ⟨⟨x0, x1, x2, x3, x4⟩, ⟨z0, z1, z2, z3, z4⟩⟩ := cells_frozen5 I.box
              cases last with
              | true =>
                have HV := Hid.of (loose_text HL.out (by simpa using I.dec))
                have hnine := looseV_nine HV.out
                rw [toList_length, toList_length] at hnine
                by_cases h8 : (8 : Int) ≤ (s2.size : Int)
                all_goals
                  go_wp2_with (at_builtin; refine wpList_append_own _ rfl (.tmp 88) (.tmp 90) 22 rfl w.heap.size 31 i0 _ 5 48 Tryd.underlying22 hi hz0 hz1 hz2 rfl (by decide) _ _ _ rfl ((owns_later hown I.bel).alloc _) ⟨wr.heap.size, 0, none⟩ 1 1 (V.cellList ⟨2, 0, t, 0, 0⟩) rfl rfl (news_one wr ⟨2, 0, t, 0, 0⟩) (cellList_one _) (by unfold maxLen; omega) (by omega) (Nat.le_trans hsize (Nat.le_trans hib (since_new _ _).size)) ?_; intro v3 w3 hown3 hgrow3 hlast; clear hlast)
                  have hnext := T.next I.bel hown3 hgrow3 hne.out HV.out
                  go_roundw
                  case rel => exact ⟨_, _, rfl, hnext⟩
                  case measure =>
                    simp only [strSz]
                    omega
              | false =>
                by_cases h8 : 8 ≤ s2.size
                · obtain ⟨m, hm⟩ : ∃ m, s2[7]'(by omega) = m := ⟨_, rfl⟩
                  have hmb : m.toNat < 256 := m.toNat_lt
                  have h8i : (8 : Int) ≤ (s2.size : Int) := by omega
                  have h8l : 8 ≤ s2.toList.length := by rw [toList_length]; exact h8
                  have Hm : Hid (s2.toList[7] = m) := by show s2.toList[7] = m; rw [toList_get]; exact hm
                  have hx8 : (s2.extract 8 s2.size).size < s2.size := by
                    rw [← toList_length, extract_back, List.length_drop, toList_length]; omega
                  have HX := Hid.of hx8
                  clear hx8
                  by_cases hm8 : m = 8
                  · subst hm8
                    have hnext := I.next (n := 7) (l := false) h8 (by omega) (by
                      simp only [Bool.false_eq_true, if_false]
                      rw [← looseT_on h8l Hm.out]
                      simpa using I.dec)
                    go_wp2
                    go_region
                    go_wp2
                    go_roundw
                    case rel => exact ⟨_, _, _, rfl, rfl, hnext⟩
                    case measure => simp only [strSz]; exact HX.out
                  · have hm8i : (m.toNat : Int) ≠ 8 := fun e => hm8 (UInt8.toNat_inj.1 (by simpa using (by omega : m.toNat = 8)))
                    have hbne : ((m.toNat : Int) != 8) = true := by simpa using hm8i
                    by_cases hm7 : m.toNat < 7
                    · have hm7i : (m.toNat : Int) < 7 := by omega
                      have hnext := I.next (n := m.toNat) (l := true) h8 (by omega) (by
                        simp only [if_true]
                        have := I.dec
                        simp only [Bool.false_eq_true, if_false] at this
                        rw [← this, looseT_end h8l (by rw [Hm.out]; exact hm8), Hm.out, if_pos hm7])
                      go_wp2
                      go_region
                      go_wp2
                      go_roundw
                      case rel => exact ⟨_, _, _, rfl, rfl, hnext⟩
                      case measure => simp only [strSz]; exact HX.out
                    · have hm7i : (7 : Int) ≤ (m.toNat : Int) := by omega
                      have hnext := I.next (n := 7) (l := true) h8 (by omega) (by
                        simp only [if_true]
                        have := I.dec
                        simp only [Bool.false_eq_true, if_false] at this
                        rw [← this, looseT_end h8l (by rw [Hm.out]; exact hm8), Hm.out, if_neg hm7])
                      go_wp2
                      go_region
                      go_wp2
                      go_roundw
                      case rel => exact ⟨_, _, _, rfl, rfl, hnext⟩
                      case measure => simp only [strSz]; exact HX.out
                · have h8i : (s2.size : Int) < 8 := by omega
                  go_wp2
                  go_ret2
                  refine ⟨refsays_none (hD.trans (HN.out (loose_text_none HL.out ?_))), since_on T.bel I.bel⟩
                  rw [← I.dec]
                  exact looseT_short (by rw [toList_length]; omega)
          · have hn2 := hi2.out hc2
            go_wp2
            go_ret2
            exact ⟨refsays_none (hD.trans (HN.out (by rw [HL.out]; simp [looseV, hc1, hc2, hc3]))), since_on T.bel (since_new _ _)⟩

end Go.Proofs.YtgjcienechfapaaDoor
