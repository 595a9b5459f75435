/-
  The reference's rows of records, their memory told apart by its types; the reference's function Segment by a contract.
-/
import Derived.Test.YtelkkpomehgcjaaGreatTape
namespace Go.Proofs.YtelkkpomehgcjaaGreat
open Go.RowKit Go.Maps
attribute [local go_sem] cell?_more frozen?_more setCell_more size_more tape_more drew_more drewN_more more_drew more_drewN more_more one_out plus_out plus_end lt_one le_p2 le_p3 le_p4 le_p5 le_p6 le_p7 le_p8 le_p9 le_p10 le_p11 le_p12 le_p13 le_p14 le_p15 le_p16 le_p17 le_p18 le_p19 le_p20 le_p21 le_p22 le_p23 le_p24 le_q0 le_q1 lt_q1 le_q2 lt_q2 le_q3 lt_q3 le_q4 lt_q4 le_q5 lt_q5 le_q6 lt_q6 le_q7 lt_q7 le_q8 lt_q8 le_q9 lt_q9 le_q10 lt_q10 le_q11 lt_q11 le_q12 lt_q12 le_q13 lt_q13 le_q14 lt_q14 le_q15 lt_q15 le_q16 lt_q16 le_q17 lt_q17 le_q18 lt_q18 le_q19 lt_q19 le_q20 lt_q20 le_q21 lt_q21 le_q22 lt_q22 le_q23 lt_q23 le_q24 lt_q24

/-- The slice v reads as the rows of bytes ls; all of it lies below B, or in blocks of its own types. -/
def RwsO (B : Nat) (w : World) (v : Value) (ls : List (List UInt8)) : Prop :=
  ∃ xs ao cap, v = .slice ao xs.length cap ∧ xs.length ≤ cap ∧ (xs = [] ∨ ∃ b off, ao = some ⟨b, off, none⟩ ∧ b < w.heap.size ∧ (b < B ∨ ∃ C, w.heap[b]? = some (.cells C 40 (0, 0))) ∧ LiesV w b off xs) ∧ Each B w xs ls

theorem rwsO_nil (B : Nat) (w : World) : RwsO B w (.slice none 0 0) [] := ⟨[], none, 0, rfl, Nat.le_refl _, .inl rfl, trivial⟩

theorem RwsO.adds {B : Nat} {w w' : World} {v : Value} {ls : List (List UInt8)} (h : RwsO B w v ls) (ha : Adds w w') : RwsO B w' v ls := by
  obtain ⟨xs, ao, cap, rfl, hc, h, he⟩ := h
  refine ⟨xs, ao, cap, rfl, hc, h.imp id ?_, he.imp fun x l hx => hx.adds ha⟩
  rintro ⟨b, off, rfl, hb, ho, hl⟩
  have e := ha.below.block b hb
  exact ⟨b, off, rfl, Nat.lt_of_lt_of_le hb ha.below.size, ho.imp id (fun ⟨C, hC⟩ => ⟨C, by rw [e]; exact hC⟩), fun j hj => by rw [World.cell?_of_block e]; exact hl j hj⟩

theorem RwsO.rws {B : Nat} {w : World} {v : Value} {ls : List (List UInt8)} (h : RwsO B w v ls) (hB : B ≤ w.heap.size) : Rws w v ls := by
  obtain ⟨xs, ao, cap, rfl, hc, h, he⟩ := h
  exact ⟨xs, ⟨ao, cap, rfl, hc, h.imp id fun ⟨b, off, e, hb, _, hl⟩ => ⟨b, off, e, hb, hl⟩⟩, he.imp fun x l hx => hx.mono hB⟩

theorem RwsO.slice {B : Nat} {w : World} {v : Value} {ls : List (List UInt8)} (h : RwsO B w v ls) : ∃ ao cap, v = .slice ao ls.length cap ∧ ls.length ≤ cap := by
  obtain ⟨xs, ao, cap, rfl, hc, _, he⟩ := h
  rw [he.length] at hc ⊢
  exact ⟨ao, cap, rfl, hc⟩

/-- Blocks of other types may turn. -/
theorem RwsO.keep {B : Nat} {w w' : World} {v : Value} {ls : List (List UInt8)} (h : RwsO B w v ls) (hs : w.heap.size ≤ w'.heap.size) (hk : ∀ b, b < w.heap.size → (b < B ∨ (∃ C, w.heap[b]? = some (.cells C 40 (0, 0))) ∨ ∃ C fr, w.heap[b]? = some (.cells C 5 fr)) → w'.heap[b]? = w.heap[b]?) : RwsO B w' v ls := by
  obtain ⟨xs, ao, cap, rfl, hc, h, he⟩ := h
  refine ⟨xs, ao, cap, rfl, hc, h.imp id ?_, he.imp ?_⟩
  · rintro ⟨b, off, rfl, hb, ho, hl⟩
    have e := hk b hb (ho.imp id .inl)
    exact ⟨b, off, rfl, Nat.lt_of_lt_of_le hb hs, ho.imp id (fun ⟨C, hC⟩ => ⟨C, by rw [e]; exact hC⟩), fun j hj => by rw [World.cell?_of_block e]; exact hl j hj⟩
  · rintro x l ⟨ao, cap, rfl, hc, h⟩
    refine ⟨ao, cap, rfl, hc, h.imp id ?_⟩
    rintro ⟨b, off, rfl, hb, ho, hl⟩
    have e := hk b hb (ho.imp id .inr)
    exact ⟨b, off, rfl, Nat.lt_of_lt_of_le hb hs, ho.imp id (fun ⟨C, fr, hC⟩ => ⟨C, fr, by rw [e]; exact hC⟩), fun j hj => by rw [World.cell?_of_block e]; exact hl j hj⟩

theorem refRowO (B : Nat) (v : Value) (l : List UInt8) (w : World) (h0 : BytO B w v l) (hB : B ≤ w.heap.size) (hlen : l.length ≤ 1000000) :
    Calls Tryz.prog 71 #[v] w fun e w' => ∃ r xs, e = .returned (.tuple #[r, .int .i64 ((rows l).2 : Nat)]) ∧ OwnV w.heap.size 40 r xs w w' ∧ Each B w' xs (rows l).1 := by
  have h' := h0.byt
  obtain ⟨ao, cap, rfl, hcap, ho⟩ := h'.open
  go_enter Tryz.func71, Tryz.ntmps71
  go_wp2
  go_loopw [4, 5, 6] (fun v t i W => ∃ (k : Nat) (xs : List Value) (acc : List (List UInt8)), k ≤ l.length ∧ t = .int .i64 k ∧ i = .int .i64 (acc.length : Nat) ∧ acc.length ≤ k ∧ OwnV w.heap.size 40 v xs w W ∧ Each B W xs acc ∧ rows l = (acc ++ (rows (l.drop k)).1, k + (rows (l.drop k)).2)) (fun _ t _ _ => (l.length - intOf t).toNat)
  case atStart => exact ⟨0, [], [], by omega, rfl, rfl, by simp, ownV_empty _ _, trivial, by simp⟩
  case round =>
    obtain ⟨k, xs, acc, hk, rfl, rfl, hak, hown, heach, hrows⟩ := hrel
    have hb := (h'.adds hown.added).rest hk
    have hO : BytO B wr (.slice (if cap = k then ao else ao.map (·.add k)) (l.length - k) (cap - k)) (l.drop k) := by
      have := (h0.adds hown.added).cut (lo := k) (hi := l.length) hk (Nat.le_refl _)
      rw [List.take_length] at this
      exact this
    have k1 := refFirst_any _ _ _ _ hO (by simp; omega)
    have HR : Hid _ := hrows
    clear hrows hO
    by_cases he : (first (l.drop k)).2.2 = 0
    · have hn := first_ok he
      have hrs := rows_some he
      rw [he] at k1
      have hkl : (l.drop k).length = l.length - k := by simp
      have HN : Hid (rows l = ((acc ++ [(first (l.drop k)).1]) ++ (rows (l.drop (k + (first (l.drop k)).2.1))).1, (k + (first (l.drop k)).2.1) + (rows (l.drop (k + (first (l.drop k)).2.1))).2)) := by
        show rows l = _
        rw [HR.out, hrs, List.drop_drop]
        simp [Nat.add_assoc]
      clear he hrs HR
      generalize (first (l.drop k)).2.1 = n at *
      generalize (first (l.drop k)).1 = m at *
      have hxs := heach.length
      rw [hkl] at hn
      rw [if_neg (show ¬ cap = k by omega)] at k1
      go_wp2_with (first
        | (go_at_call 91; (with_reducible refine k1.mono ?_); rintro e w1 ⟨r, rfl, hr, a1⟩; obtain ⟨ro, rc, hrv, _⟩ := id hr; subst hrv)
        | (at_builtin; refine row_app rfl (.tmp 29) (.tmp 31) rfl ((hown.adds a1).alloc _) rfl (lst_new rfl) rfl (by intro u hu; simp at hu; subst hu; rfl) (by simp; omega) ?_; intro v2 w2 h2 g2))
      go_roundw
      case rel =>
        refine ⟨k + n, xs ++ [.slice ro m.length rc], acc ++ [m], by omega, by go_num, by rw [List.length_append]; go_num, by simp; omega, h2, Each.append ?_ ⟨?_, trivial⟩, HN.out⟩
        · exact heach.imp fun x l hx => ((hx.adds a1).adds ((Adds.refl _).alloc _)).keep ((hown.adds a1).alloc _) hB g2
        · exact (hr.adds ((Adds.refl _).alloc _)).keep ((hown.adds a1).alloc _) hB g2
      case measure => simp [intOf]; omega
    · have hrn := rows_stop he
      have HN : Hid (rows l = (acc, k)) := by
        show rows l = _
        rw [HR.out, hrn]
        simp
      have he0 : ((first (l.drop k)).2.2 != 0) = true := by simpa using he
      clear he hrn HR
      generalize (first (l.drop k)).2.2 = x at *
      generalize (first (l.drop k)).2.1 = n at *
      generalize (first (l.drop k)).1 = m at *
      go_wp2_with (go_at_call 91; (with_reducible refine k1.mono ?_); rintro e w1 ⟨r, rfl, hr, a1⟩)
      all_goals
        go_ret2
        refine ⟨u4, ?_, xs, hown.adds a1, ?_⟩
        · rw [HN.out]
          rfl
        · rw [HN.out]
          exact heach.imp fun x l hx => hx.adds a1

theorem each_rest {B : Nat} {w : World} {xs : List Value} {ls : List (List UInt8)} (h : Each B w xs ls) : Each B w (xs.drop 1) (ls.drop 1) := by
  match xs, ls, h with
  | [], [], _ => trivial
  | _ :: _, _ :: _, h => exact h.2

/-- A row that was made, from its second element on. -/
theorem own_rest {B : Nat} {w w0 : World} {g n cap : Nat} {xs : List Value} {ls : List (List UInt8)} {B0 : Nat} (h : OwnV B0 40 (.slice (some ⟨g, 0, none⟩) n cap) xs w0 w) (he : Each B w xs ls) (hn : 1 ≤ n) :
    RwsO B w (.slice (if cap = 1 then some ⟨g, 0, none⟩ else some ⟨g, 1, none⟩) (n - 1) (cap - 1)) (ls.drop 1) := by
  have hlt := h.1.lt g rfl
  obtain ⟨hl, h2⟩ := h.1
  rcases h2 with ⟨e, _⟩ | ⟨g', cap', cur, e, hB, hg, hnc, hcm, hcs, htk⟩
  · cases e
  · simp only [Value.slice.injEq, Option.some.injEq, Addr.mk.injEq, and_true] at e
    obtain ⟨rfl, rfl, rfl⟩ := e
    refine ⟨xs.drop 1, (if cap = 1 then some ⟨g, 0, none⟩ else some ⟨g, 1, none⟩), cap - 1, by simp, by simp; omega, ?_, each_rest he⟩
    by_cases hc1 : cap = 1
    · left
      apply List.length_eq_zero_iff.1
      simp
      omega
    · right
      refine ⟨g, 1, if_neg hc1, hlt.2, .inr ⟨cur, hg⟩, fun j hj => ?_⟩
      have hj' : j + 1 < xs.length := by simp at hj; omega
      have hc := h.1.cells (g := g) rfl (1 + j) (xs[1 + j]'(by omega)) (by simp)
      rw [add_at] at hc
      rw [Nat.zero_add] at hc
      rw [hc]
      simp [Nat.add_comm]

/-- The number of the first bytes. -/
def numF (l : List UInt8) : Nat := l.foldl (fun a c => a * 256 + c.toNat) 0

theorem numF_next (l : List UInt8) (i : Nat) (hi : i < l.length) : numF (l.take (i + 1)) = numF (l.take i) * 256 + l[i].toNat := by
  unfold numF
  rw [List.take_succ_eq_append_getElem hi, List.foldl_append]
  rfl

theorem numF_four (l : List UInt8) (h : l.length = 4) : numF l = num4 l := by
  match l, h with
  | [a, b, c, d], _ =>
    simp [numF, num4]
    omega

theorem numF_bound (l : List UInt8) (i : Nat) (hi : i ≤ l.length) (h4 : l.length = 4) : numF (l.take i) ≤ 4294967295 := by
  match l, h4 with
  | [a, b, c, d], _ =>
    have ha := a.toNat_lt
    have hb := b.toNat_lt
    have hc := c.toNat_lt
    have hd := d.toNat_lt
    have hi' : i = 0 ∨ i = 1 ∨ i = 2 ∨ i = 3 ∨ i = 4 := by simp at hi; omega
    rcases hi' with rfl | rfl | rfl | rfl | rfl <;> simp [numF] <;> omega

/-- What Segment tells. -/
def SegTold (B : Nat) (l : List UInt8) (e : Ending) (w' : World) : Prop :=
  ∃ ao n cap base wh cl, e = .returned (.tuple #[.slice ao n cap, .int .i64 base, .bool wh, .bool cl]) ∧ wh = (segOf l).isSome ∧ (∀ s, segOf l = some s → base = (s.1 : Int) ∧ RwsO B w' (.slice ao n cap) s.2.1 ∧ cl = s.2.2)

set_option maxHeartbeats 1000000 in
theorem refSegment_any (B : Nat) (v : Value) (l : List UInt8) (w : World) (h : BytO B w v l) (hB : B ≤ w.heap.size) (hlen : l.length ≤ 1000000) :
    Calls Tryz.prog 47 #[v] w fun e w' => SegTold B l e w' ∧ Adds w w' := by
  have k1 := refRowO B v l w h hB hlen
  obtain ⟨vo, vc, rfl, _, _⟩ := h
  have hfew := rows_few l
  have HS : Hid (segOf l = if wholeB (rows l).1 then some (num4 ((rows l).1.headD []), (rows l).1.drop 1, decide ((rows l).2 = l.length)) else none) := rfl
  generalize hR : (rows l).1 = R at *
  generalize hN : (rows l).2 = N at *
  clear hR hN
  cases R with
  | nil =>
    have HN : Hid (segOf l = none) := by show segOf l = none; rw [HS.out]; rfl
    go_enter Tryz.func47, Tryz.ntmps47
    go_wp2_with (go_at_call 71; refine k1.mono ?_; rintro e w1 ⟨r, xs, rfl, o1, ea⟩; have hxl := ea.length; obtain ⟨ao, c, hr⟩ := row_len o1.1; rw [hxl] at hr; subst hr; have HA : Hid (Adds w w1) := o1.added; clear o1 ea hxl)
    refine bodyPost_ret (v := .tuple #[.slice none 0 0, .int .i64 0, .bool false, .bool false]) (by simp [results, Tryz.results47, go_sem]) rfl ⟨⟨_, _, _, _, _, _, rfl, by rw [HN.out]; rfl, fun s hs => (by rw [HN.out] at hs; cases hs)⟩, HA.out⟩
  | cons hd tl =>
    by_cases h4 : hd.length = 4
    · have HB4 : Hid (wholeB (hd :: tl) = decide (num4 hd < tl.length + 1)) := by show _ = _; rw [wholeB_cons]; simp [h4]
      have htl : tl.length + 1 ≤ 1000000 := by have := hfew.1; simp at this; omega
      go_enter Tryz.func47, Tryz.ntmps47
      go_wp2_with (go_at_call 71; refine k1.mono ?_; rintro e w1 ⟨r, xs, rfl, o1, ea⟩; have hxl := ea.length; obtain ⟨g, cap, hr, hcap, hgB, hgl, hx0, _⟩ := row_at (j := 0) o1.1 (by rw [hxl]; simp); subst hr; rw [hxl] at o1 hcap ⊢; have hb0 := ea.get 0 (by rw [hxl]; simp) (by simp); obtain ⟨xo, xc, hxv, _, hxb⟩ := id hb0; rw [hxv] at hx0; have HE : Hid (Each B w1 xs (hd :: tl)) := ea; have HO : Hid (OwnV w.heap.size 40 (.slice (some ⟨g, 0, none⟩) (hd :: tl).length cap) xs w w1) := o1; clear ea o1 hb0 hxv hxl)
      obtain ⟨bb, boff, rfl, hbb, _, hlies⟩ : ∃ bb boff, xo = some ⟨bb, boff, none⟩ ∧ bb < w1.heap.size ∧ True ∧ LiesB w1 bb boff hd := by
        rcases hxb with hx | ⟨bb, boff, e, hbb, _, hl⟩
        · exact absurd (congrArg List.length hx) (by show ¬ hd.length = 0; omega)
        · exact ⟨bb, boff, e, hbb, trivial, hl⟩
      have hx0' : w1.cell? ⟨g, 0, none⟩ = some (.slice (some ⟨bb, boff, none⟩) 4 xc) := by rw [hx0]; congr 2
      clear hx0
      go_loopw [8, 9] (fun bv i W => ∃ j : Nat, j ≤ 4 ∧ i = .int .i64 (j : Int) ∧ bv = .int .i64 (numF (hd.take j) : Int) ∧ W = w1) (fun _ i _ => (4 - intOf i).toNat)
      case atStart => exact ⟨0, by omega, rfl, rfl, rfl⟩
      case round =>
        obtain ⟨j, hj, rfl, rfl, rfl⟩ := hrel
        by_cases hlt : j < 4
        · have hjh : j < hd.length := by omega
          have e0 := hlies j hjh
          have HNx : Hid _ := numF_next hd j hjh
          have hbd := numF_bound hd j (by omega) h4
          have hcb := hd[j].toNat_lt
          generalize hd[j].toNat = c at *
          generalize numF (hd.take j) = S at *
          have i1 : (j : Int) < 4 := by omega
          go_wp2
          go_roundw
          case rel => exact ⟨j + 1, by omega, by go_num, by rw [HNx.out]; go_num, trivial⟩
          case measure => simp [intOf]; omega
        · obtain rfl : j = 4 := by omega
          rw [List.take_of_length_le (by omega), numF_four hd h4]
          have hnl := num4_lt hd
          have HSg : Hid (segOf l = if num4 hd < tl.length + 1 then some (num4 hd, tl, decide (N = l.length)) else none) := by
            show segOf l = _
            rw [HS.out, HB4.out]
            simp
          have HA : Hid (Adds wr wr) := Adds.refl _
          have HAw : Hid (Adds w wr) := HO.out.added
          generalize num4 hd = nb at *
          have hq : ((N : Int) == (l.length : Int)) = decide (N = l.length) := by
            by_cases e : N = l.length
            · simp [e]
            · have : ¬ (N : Int) = (l.length : Int) := by omega
              simp [e, this]
          have hq2 : decide ((nb : Int) ≤ (tl.length : Int)) = decide (nb < tl.length + 1) := decide_eq_decide.2 (by omega)
          have hrest := own_rest HO.out HE.out (by simp)
          have HRs : Hid _ := hrest
          clear hrest
          by_cases hc1 : cap = 1
          · subst hc1
            have htz : tl = [] := List.eq_nil_of_length_eq_zero (by have := hcap; simp only [List.length_cons] at this; omega)
            subst htz
            go_wp2
            refine bodyPost_ret (v := .tuple #[.slice (some ⟨g, 0, none⟩) 0 0, .int .i64 (nb : Int), .bool (decide (nb < 0 + 1)), .bool (decide (N = l.length))]) (by simp [results, Tryz.results47, go_sem]) rfl ⟨⟨_, _, _, _, _, _, rfl, ?_, fun s hs => ?_⟩, HAw.out⟩
            · rw [HSg.out]
              by_cases hz : nb < 0 + 1 <;> simp [hz]
            · rw [HSg.out] at hs
              split at hs
              · simp only [Option.some.injEq] at hs
                subst hs
                exact ⟨rfl, HRs.out, rfl⟩
              · cases hs
          · rw [if_neg hc1] at HRs
            go_wp2
            refine bodyPost_ret (v := .tuple #[.slice (some ⟨g, 1, none⟩) tl.length (cap - 1), .int .i64 (nb : Int), .bool (decide (nb < tl.length + 1)), .bool (decide (N = l.length))]) (by simp [results, Tryz.results47, go_sem]) rfl ⟨⟨_, _, _, _, _, _, rfl, ?_, fun s hs => ?_⟩, HAw.out⟩
            · rw [HSg.out]
              by_cases hz : nb < tl.length + 1 <;> simp [hz]
            · rw [HSg.out] at hs
              split at hs
              · simp only [Option.some.injEq] at hs
                subst hs
                exact ⟨rfl, HRs.out, rfl⟩
              · cases hs
    · have HN : Hid (segOf l = none) := by show segOf l = none; rw [HS.out, wholeB_cons]; simp [h4]
      have h4' : ((hd.length : Int) != 4) = true := by simp; omega
      go_enter Tryz.func47, Tryz.ntmps47
      go_wp2_with (go_at_call 71; refine k1.mono ?_; rintro e w1 ⟨r, xs, rfl, o1, ea⟩; have hxl := ea.length; obtain ⟨g, cap, hr, hcap, hgB, hgl, hx0, _⟩ := row_at (j := 0) o1.1 (by rw [hxl]; simp); subst hr; have hb0 := ea.get 0 (by rw [hxl]; simp) (by simp); obtain ⟨xo, xc, hxv, _, hxb⟩ := id hb0; rw [hxv] at hx0; have HA : Hid (Adds w w1) := o1.added; clear ea o1 hb0 hxv)
      refine bodyPost_ret (v := .tuple #[.slice none 0 0, .int .i64 0, .bool false, .bool false]) (by simp [results, Tryz.results47, go_sem]) rfl ⟨⟨_, _, _, _, _, _, rfl, by rw [HN.out]; rfl, fun s hs => (by rw [HN.out] at hs; cases hs)⟩, HA.out⟩

end Go.Proofs.YtelkkpomehgcjaaGreat
