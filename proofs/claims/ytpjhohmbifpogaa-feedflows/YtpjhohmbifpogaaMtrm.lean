/-
  Trim of package feed, by contract. The reference's Trim, by contract.
-/
import Derived.Test.YtpjhohmbifpogaaMadg
namespace Go.Proofs.Ytpjhohmbifpogaa
open Go.RowKit
attribute [local go_sem] cell?_more frozen?_more setCell_more size_more tape_more drew_more drewN_more more_drew more_drewN one_out plus_out plus_end lt_one le_p2 le_p3 le_p4 le_p5 le_p6 le_p7 le_p8 le_p9 le_p10 le_p11 le_p12 le_p13 le_p14 le_p15 le_p16 le_p17 le_p18 le_p19 le_p20 le_p21 le_p22 le_p23 le_p24 le_q0 le_q1 lt_q1 le_q2 lt_q2 le_q3 lt_q3 le_q4 lt_q4 le_q5 lt_q5 le_q6 lt_q6 le_q7 lt_q7 le_q8 lt_q8 le_q9 lt_q9 le_q10 lt_q10 le_q11 lt_q11 le_q12 lt_q12 le_q13 lt_q13 le_q14 lt_q14 le_q15 lt_q15 le_q16 lt_q16 le_q17 lt_q17 le_q18 lt_q18 le_q19 lt_q19 le_q20 lt_q20 le_q21 lt_q21 le_q22 lt_q22 le_q23 lt_q23 le_q24 lt_q24

/-- The least of a number and all places. -/
def leastS (b : Int) : List Sb → Int
  | [] => b
  | s :: r => leastS (if s.pos < b then s.pos else b) r

def trimB (f : Fd) (pos : Int) : Int := leastS (if f.total < pos then f.total else pos) f.sb

def trimF (f : Fd) (pos : Int) : Fd := if f.base < trimB f pos then ⟨trimB f pos, f.total, f.ch.drop (trimB f pos - f.base).toNat, f.sb⟩ else f

theorem leastS_take (b : Int) (sb : List Sb) (k : Nat) (hk : k < sb.length) : leastS b (sb.take (k + 1)) = if sb[k].pos < leastS b (sb.take k) then sb[k].pos else leastS b (sb.take k) := by
  induction sb generalizing b k with
  | nil => simp at hk
  | cons s r ih =>
    cases k with
    | zero => simp [leastS]
    | succ k => simpa [leastS] using ih _ k (by simpa using hk)

theorem leastS_le (b : Int) (sb : List Sb) : leastS b sb ≤ b := by
  induction sb generalizing b with
  | nil => exact Int.le_refl _
  | cons s r ih =>
    have := ih (if s.pos < b then s.pos else b)
    simp only [leastS]
    split at this <;> rename_i h
    · rw [if_pos h]; omega
    · rw [if_neg h]; exact this

theorem leastS_mem (b : Int) (sb : List Sb) : ∀ s ∈ sb, leastS b sb ≤ s.pos := by
  induction sb generalizing b with
  | nil => intro s h; cases h
  | cons x r ih =>
    intro s hs
    simp only [leastS]
    rcases List.mem_cons.1 hs with rfl | hs
    · have := leastS_le (if s.pos < b then s.pos else b) r
      split at this <;> rename_i h
      · rw [if_pos h]; exact this
      · rw [if_neg h]; omega
    · exact ih _ s hs

theorem trimB_le (f : Fd) (pos : Int) : trimB f pos ≤ f.total := by
  have := leastS_le (if f.total < pos then f.total else pos) f.sb
  unfold trimB
  split at this <;> rename_i h
  · rw [if_pos h]; exact this
  · rw [if_neg h]; omega

theorem trim_bad (v : Value) (f : Fd) (pos : Int) (w : World) (h : LstF w v f) (hc : f.ch.length ≤ 1000) (hM : ¬ MayF f) :
    Calls Try.prog 21 #[v, .int .i64 pos] w fun e w' => e = .returned (.tuple #[.agg #[.int .i64 0, .int .i64 0, .slice none 0 0, .slice none 0 0], .int .i64 1]) ∧ Adds w w' := by
  have kC := fun w' (hA : Adds w w') => checkF_any v f w' (h.adds hA) hc
  rw [err_bad hM] at kC
  obtain ⟨s, t, rfl, hs, ht⟩ := h
  obtain ⟨so, sc, rfl, _, _⟩ := hs
  obtain ⟨uo, uc, rfl, _, _⟩ := ht
  clear hM
  go_enter Try.func21, Try.ntmps21
  go_wp2_with (first
    | (go_at_call 13; refine (kC _ (by repeat (first | with_reducible exact Adds.refl _ | with_reducible refine Adds.alloc ?_ _ | with_reducible refine Adds.more ?_ _ _ | with_reducible refine Adds.drew ?_ | with_reducible refine Adds.drewN ?_ _))).mono ?_; rintro e w1 ⟨rfl, os1, n1, rfl⟩))
  exact bodyPost_ret (v := .tuple #[.agg #[.int .i64 0, .int .i64 0, .slice none 0 0, .slice none 0 0], .int .i64 1]) (by simp [results, Try.results21, go_sem]) rfl ⟨rfl, (by repeat (first | with_reducible exact Adds.refl _ | with_reducible refine Adds.alloc ?_ _ | with_reducible refine Adds.more ?_ _ _ | with_reducible refine Adds.drew ?_ | with_reducible refine Adds.drewN ?_ _))⟩

/-- A slice of changes from k on, as the program cuts it. -/
theorem lstH_from {w : World} {ao : Option Addr} {cap : Nat} {ch : List Ch} (h : LstH w (.slice ao ch.length cap) ch) (k : Nat) (hk : k ≤ ch.length) (a' : Option Addr) (ha : k < ch.length → ∀ b off, ao = some ⟨b, off, none⟩ → a' = some ⟨b, off + k * 4, none⟩) : LstH w (.slice a' (ch.length - k) (cap - k)) (ch.drop k) := by
  obtain ⟨ao', cap', e, hc, hx⟩ := h
  simp only [Value.slice.injEq] at e
  obtain ⟨rfl, _, rfl⟩ := e
  refine ⟨a', cap - k, by rw [List.length_drop], by rw [List.length_drop]; omega, ?_⟩
  by_cases hlt : k < ch.length
  · rcases hx with rfl | ⟨b, off, rfl, hb, hl⟩
    · simp at hlt
    · exact .inr ⟨b, off + k * 4, ha hlt b off rfl, hb, hl.drop k⟩
  · exact .inl (List.drop_of_length_le (by omega))

set_option maxHeartbeats 4000000 in
set_option maxRecDepth 20000 in
theorem trim_far (base total pos : Int) (s t : Value) (ch : List Ch) (sb : List Sb) (w : World) (hs : LstH w s ch) (ht : LstS w t sb) (hM : MayF ⟨base, total, ch, sb⟩) (hc : ch.length ≤ 1000) (hd : ∀ d ∈ ch, d.doc.length ≤ 1000) (hp : total < pos) :
    Calls Try.prog 21 #[.agg #[.int .i64 base, .int .i64 total, s, t], .int .i64 pos] w fun e w' => (∃ vo vc uo uc, e = .returned (.tuple #[.agg #[.int .i64 (trimF ⟨base, total, ch, sb⟩ pos).base, .int .i64 total, .slice vo (trimF ⟨base, total, ch, sb⟩ pos).ch.length vc, .slice uo sb.length uc], .int .i64 0]) ∧ Hid (LstH w' (.slice vo (trimF ⟨base, total, ch, sb⟩ pos).ch.length vc) (trimF ⟨base, total, ch, sb⟩ pos).ch ∧ LstS w' (.slice uo sb.length uc) sb)) ∧ Adds w w' := by
  have kC := fun w' (hA : Adds w w') => checkF_any (.agg #[.int .i64 base, .int .i64 total, s, t]) ⟨base, total, ch, sb⟩ w' (LstF.adds ⟨s, t, rfl, hs, ht⟩ hA) hc
  rw [err_ok hM] at kC
  have hs6 : sb.length ≤ 1000 := Nat.le_trans hM.2.2.2.2.2.1 (by omega)
  have kO := fun lb s' ds w' (hA : Adds w w') (hL : LstH w' s' ds) (hl : ds.length ≤ 1000) (hd : ∀ d ∈ ds, d.doc.length ≤ 1000) => copyOf_row lb total s' t ds sb w' hL (ht.adds hA) hl hd hs6
  have hB : trimB ⟨base, total, ch, sb⟩ pos = leastS total sb := by
    unfold trimB
    simp only
    rw [if_pos hp]
  have hBle : leastS total sb ≤ total := by rw [← hB]; exact trimB_le _ _
  have HF : Hid (trimF ⟨base, total, ch, sb⟩ pos = if base < leastS total sb then ⟨leastS total sb, total, ch.drop (leastS total sb - base).toNat, sb⟩ else ⟨base, total, ch, sb⟩) := by
    show _ = _
    unfold trimF
    rw [hB]
  obtain ⟨m1, m2, m3, m4, m5, m6⟩ := hM
  simp only at m1 m2 m3 m4
  have hs0 := hs
  obtain ⟨so, sc, rfl, hsc, hsl⟩ := hs
  obtain ⟨uo, uc, rfl, huc, hul⟩ := ht
  have HD : Hid (∀ d ∈ ch, d.doc.length ≤ 1000) := hd
  have HS0 : Hid (LstH w (.slice so ch.length sc) ch) := hs0
  clear hd hB m5 m6 hs0
  go_enter Try.func21, Try.ntmps21
  go_wp2_with (first
    | (go_at_call 13; refine (kC _ (by repeat (first | with_reducible exact Adds.refl _ | with_reducible refine Adds.alloc ?_ _ | with_reducible refine Adds.more ?_ _ _ | with_reducible refine Adds.drew ?_ | with_reducible refine Adds.drewN ?_ _))).mono ?_; rintro e w1 ⟨rfl, os1, n1, rfl⟩))
  go_loopw [6, 20] (fun b i wr => ∃ k : Nat, k ≤ sb.length ∧ i = .int .i64 k ∧ b = .int .i64 (leastS total (sb.take k)) ∧ Adds ((w.alloc (Obj.cells #[.int .i64 base, .int .i64 total, .slice so ch.length sc, .slice uo sb.length uc] 25)).alloc (Obj.cells #[.int .i64 0, .int .i64 0, .slice none 0 0, .slice none 0 0] 25)) wr) (fun _ i _ => sb.length - (intOf i).toNat)
  case atStart => exact ⟨0, Nat.zero_le _, rfl, rfl, (by repeat (first | with_reducible exact Adds.refl _ | with_reducible refine Adds.alloc ?_ _ | with_reducible refine Adds.more ?_ _ _ | with_reducible refine Adds.drew ?_ | with_reducible refine Adds.drewN ?_ _))⟩
  case round =>
    obtain ⟨k, hk, rfl, rfl, os, n, rfl⟩ := hrel
    by_cases hlt : k < sb.length
    · rcases hul with rfl | ⟨b, off, rfl, hb, hl⟩
      · simp at hlt
      obtain ⟨c0, c1⟩ := hl k hlt
      have hlt' : (k : Int) < (sb.length : Int) := by omega
      have HN : Hid (leastS total (sb.take (k + 1)) = if sb[k].pos < leastS total (sb.take k) then sb[k].pos else leastS total (sb.take k)) := leastS_take _ sb k hlt
      clear hl hBle
      generalize sb[k].name = nm at *
      generalize sb[k].pos = ps at *
      generalize leastS total (sb.take k) = cb at *
      by_cases hq : ps < cb
      · go_wp2
        go_roundw
        case rel => exact ⟨k + 1, by omega, by go_num, by rw [HN.out, if_pos hq], (by repeat (first | with_reducible exact Adds.refl _ | with_reducible refine Adds.alloc ?_ _ | with_reducible refine Adds.more ?_ _ _ | with_reducible refine Adds.drew ?_ | with_reducible refine Adds.drewN ?_ _))⟩
        case measure => simp [intOf]; omega
      · go_wp2
        go_roundw
        case rel => exact ⟨k + 1, by omega, by go_num, by rw [HN.out, if_neg hq], (by repeat (first | with_reducible exact Adds.refl _ | with_reducible refine Adds.alloc ?_ _ | with_reducible refine Adds.more ?_ _ _ | with_reducible refine Adds.drew ?_ | with_reducible refine Adds.drewN ?_ _))⟩
        case measure => simp [intOf]; omega
    · obtain rfl : k = sb.length := by omega
      rw [List.take_length]
      clear hul
      generalize leastS total sb = lb at *
      by_cases hlb : base < lb
      · obtain ⟨q, hq⟩ : ∃ q : Nat, lb - base = (q : Int) := ⟨(lb - base).toNat, by omega⟩
        have hw : IntKind.i64.wrap (lb - base) = q := by rw [IntKind.wrap_i64]; omega
        have hql : q ≤ ch.length := by omega
        have HF2 : Hid (trimF ⟨base, total, ch, sb⟩ pos = ⟨lb, total, ch.drop q, sb⟩) := by show _ = _; rw [HF.out, if_pos hlb, show (lb - base).toNat = q by omega]
        have hqc : q ≤ sc := by omega
        have HL : Hid ((ch.drop q).length ≤ 1000 ∧ ∀ d ∈ ch.drop q, d.doc.length ≤ 1000) := ⟨by rw [List.length_drop]; omega, fun d hd => HD.out d (List.mem_of_mem_drop hd)⟩
        have HX : Hid (∀ a', (q < ch.length → ∀ b off, so = some ⟨b, off, none⟩ → a' = some ⟨b, off + q * 4, none⟩) → LstH w (.slice a' (ch.length - q) (sc - q)) (ch.drop q)) := fun a' ha => lstH_from HS0.out q hql a' ha
        clear HF hq
        by_cases hlt : q < ch.length
        · generalize ch.drop q = ds at *
          rcases hsl with rfl | ⟨b, off, rfl, hb, hl⟩
          · simp at hlt
          have hlt' : (q : Int) < (ch.length : Int) := by omega
          have hqc' : q < sc := by omega
          have hne : ¬ sc = q := by omega
          clear hl
          go_wp2_with (go_at_call 31; refine (kO _ _ ds _ (by repeat (first | with_reducible exact Adds.refl _ | with_reducible refine Adds.alloc ?_ _ | with_reducible refine Adds.more ?_ _ _ | with_reducible refine Adds.drew ?_ | with_reducible refine Adds.drewN ?_ _)) (LstH.adds (HX.out _ (fun _ b off e => by cases e; rfl)) (by repeat (first | with_reducible exact Adds.refl _ | with_reducible refine Adds.alloc ?_ _ | with_reducible refine Adds.more ?_ _ _ | with_reducible refine Adds.drew ?_ | with_reducible refine Adds.drewN ?_ _))) HL.out.1 HL.out.2).mono ?_; rintro e w2 ⟨⟨v2, c2, u2, d2, rs, rfl, H2⟩, os2, n2, rfl⟩)
          refine bodyPost_ret (v := .tuple #[.agg #[.int .i64 lb, .int .i64 total, .slice v2 ds.length c2, .slice u2 sb.length d2], .int .i64 0]) (by simp [results, Try.results21, go_sem]) rfl ⟨⟨v2, c2, u2, d2, by rw [HF2.out] <;> rfl, ?_⟩, (by repeat (first | with_reducible exact Adds.refl _ | with_reducible refine Adds.alloc ?_ _ | with_reducible refine Adds.more ?_ _ _ | with_reducible refine Adds.drew ?_ | with_reducible refine Adds.drewN ?_ _))⟩
          rw [HF2.out]
          exact lstG_far H2.out.1 H2.out.2.1 H2.out.2.2 (by repeat (first | with_reducible exact Far.refl _ _ | with_reducible refine Far.mores ?_ (by simp [go_sem]) _ _ _ | with_reducible refine Far.allocs ?_ (by simp [go_sem]) _ | with_reducible refine Far.low ?_ (by simp [go_sem]) (by simp [go_sem] <;> omega) _ _ | with_reducible refine Far.more ?_ _ _ | with_reducible refine Far.alloc ?_ _))
        · obtain rfl : q = ch.length := by omega
          rw [List.drop_length] at HF2
          clear hsl HL HX
          by_cases hcap : sc = ch.length
          all_goals
            cases so with
            | none =>
              go_wp2_with (go_at_call 31; refine (kO _ _ [] _ (by repeat (first | with_reducible exact Adds.refl _ | with_reducible refine Adds.alloc ?_ _ | with_reducible refine Adds.more ?_ _ _ | with_reducible refine Adds.drew ?_ | with_reducible refine Adds.drewN ?_ _)) ⟨_, _, rfl, Nat.zero_le _, .inl rfl⟩ (by simp) (by simp)).mono ?_; rintro e w2 ⟨⟨v2, c2, u2, d2, rs, rfl, H2⟩, os2, n2, rfl⟩)
              refine bodyPost_ret (v := .tuple #[.agg #[.int .i64 lb, .int .i64 total, .slice v2 0 c2, .slice u2 sb.length d2], .int .i64 0]) (by simp [results, Try.results21, go_sem]) rfl ⟨⟨v2, c2, u2, d2, by rw [HF2.out] <;> rfl, ?_⟩, (by repeat (first | with_reducible exact Adds.refl _ | with_reducible refine Adds.alloc ?_ _ | with_reducible refine Adds.more ?_ _ _ | with_reducible refine Adds.drew ?_ | with_reducible refine Adds.drewN ?_ _))⟩
              rw [HF2.out]
              exact lstG_far H2.out.1 H2.out.2.1 H2.out.2.2 (by repeat (first | with_reducible exact Far.refl _ _ | with_reducible refine Far.mores ?_ (by simp [go_sem]) _ _ _ | with_reducible refine Far.allocs ?_ (by simp [go_sem]) _ | with_reducible refine Far.low ?_ (by simp [go_sem]) (by simp [go_sem] <;> omega) _ _ | with_reducible refine Far.more ?_ _ _ | with_reducible refine Far.alloc ?_ _))
            | some a =>
              obtain ⟨b, off, sp⟩ := a
              go_wp2_with (go_at_call 31; refine (kO _ _ [] _ (by repeat (first | with_reducible exact Adds.refl _ | with_reducible refine Adds.alloc ?_ _ | with_reducible refine Adds.more ?_ _ _ | with_reducible refine Adds.drew ?_ | with_reducible refine Adds.drewN ?_ _)) ⟨_, _, rfl, Nat.zero_le _, .inl rfl⟩ (by simp) (by simp)).mono ?_; rintro e w2 ⟨⟨v2, c2, u2, d2, rs, rfl, H2⟩, os2, n2, rfl⟩)
              refine bodyPost_ret (v := .tuple #[.agg #[.int .i64 lb, .int .i64 total, .slice v2 0 c2, .slice u2 sb.length d2], .int .i64 0]) (by simp [results, Try.results21, go_sem]) rfl ⟨⟨v2, c2, u2, d2, by rw [HF2.out] <;> rfl, ?_⟩, (by repeat (first | with_reducible exact Adds.refl _ | with_reducible refine Adds.alloc ?_ _ | with_reducible refine Adds.more ?_ _ _ | with_reducible refine Adds.drew ?_ | with_reducible refine Adds.drewN ?_ _))⟩
              rw [HF2.out]
              exact lstG_far H2.out.1 H2.out.2.1 H2.out.2.2 (by repeat (first | with_reducible exact Far.refl _ _ | with_reducible refine Far.mores ?_ (by simp [go_sem]) _ _ _ | with_reducible refine Far.allocs ?_ (by simp [go_sem]) _ | with_reducible refine Far.low ?_ (by simp [go_sem]) (by simp [go_sem] <;> omega) _ _ | with_reducible refine Far.more ?_ _ _ | with_reducible refine Far.alloc ?_ _))
      · have HF2 : Hid (trimF ⟨base, total, ch, sb⟩ pos = ⟨base, total, ch, sb⟩) := by show _ = _; rw [HF.out, if_neg hlb]
        clear HF hsl
        go_wp2_with (go_at_call 31; refine (kO _ _ ch _ (by repeat (first | with_reducible exact Adds.refl _ | with_reducible refine Adds.alloc ?_ _ | with_reducible refine Adds.more ?_ _ _ | with_reducible refine Adds.drew ?_ | with_reducible refine Adds.drewN ?_ _)) (LstH.adds HS0.out (by repeat (first | with_reducible exact Adds.refl _ | with_reducible refine Adds.alloc ?_ _ | with_reducible refine Adds.more ?_ _ _ | with_reducible refine Adds.drew ?_ | with_reducible refine Adds.drewN ?_ _))) hc HD.out).mono ?_; rintro e w2 ⟨⟨v2, c2, u2, d2, rs, rfl, H2⟩, os2, n2, rfl⟩)
        refine bodyPost_ret (v := .tuple #[.agg #[.int .i64 base, .int .i64 total, .slice v2 ch.length c2, .slice u2 sb.length d2], .int .i64 0]) (by simp [results, Try.results21, go_sem]) rfl ⟨⟨v2, c2, u2, d2, by rw [HF2.out] <;> rfl, ?_⟩, (by repeat (first | with_reducible exact Adds.refl _ | with_reducible refine Adds.alloc ?_ _ | with_reducible refine Adds.more ?_ _ _ | with_reducible refine Adds.drew ?_ | with_reducible refine Adds.drewN ?_ _))⟩
        rw [HF2.out]
        exact lstG_far H2.out.1 H2.out.2.1 H2.out.2.2 (by repeat (first | with_reducible exact Far.refl _ _ | with_reducible refine Far.mores ?_ (by simp [go_sem]) _ _ _ | with_reducible refine Far.allocs ?_ (by simp [go_sem]) _ | with_reducible refine Far.low ?_ (by simp [go_sem]) (by simp [go_sem] <;> omega) _ _ | with_reducible refine Far.more ?_ _ _ | with_reducible refine Far.alloc ?_ _))

set_option maxHeartbeats 4000000 in
set_option maxRecDepth 20000 in
theorem trim_near (base total pos : Int) (s t : Value) (ch : List Ch) (sb : List Sb) (w : World) (hs : LstH w s ch) (ht : LstS w t sb) (hM : MayF ⟨base, total, ch, sb⟩) (hc : ch.length ≤ 1000) (hd : ∀ d ∈ ch, d.doc.length ≤ 1000) (hp : ¬ total < pos) :
    Calls Try.prog 21 #[.agg #[.int .i64 base, .int .i64 total, s, t], .int .i64 pos] w fun e w' => (∃ vo vc uo uc, e = .returned (.tuple #[.agg #[.int .i64 (trimF ⟨base, total, ch, sb⟩ pos).base, .int .i64 total, .slice vo (trimF ⟨base, total, ch, sb⟩ pos).ch.length vc, .slice uo sb.length uc], .int .i64 0]) ∧ Hid (LstH w' (.slice vo (trimF ⟨base, total, ch, sb⟩ pos).ch.length vc) (trimF ⟨base, total, ch, sb⟩ pos).ch ∧ LstS w' (.slice uo sb.length uc) sb)) ∧ Adds w w' := by
  have kC := fun w' (hA : Adds w w') => checkF_any (.agg #[.int .i64 base, .int .i64 total, s, t]) ⟨base, total, ch, sb⟩ w' (LstF.adds ⟨s, t, rfl, hs, ht⟩ hA) hc
  rw [err_ok hM] at kC
  have hs6 : sb.length ≤ 1000 := Nat.le_trans hM.2.2.2.2.2.1 (by omega)
  have kO := fun lb s' ds w' (hA : Adds w w') (hL : LstH w' s' ds) (hl : ds.length ≤ 1000) (hd : ∀ d ∈ ds, d.doc.length ≤ 1000) => copyOf_row lb total s' t ds sb w' hL (ht.adds hA) hl hd hs6
  have hB : trimB ⟨base, total, ch, sb⟩ pos = leastS pos sb := by
    unfold trimB
    simp only
    rw [if_neg hp]
  have hBle : leastS pos sb ≤ total := by rw [← hB]; exact trimB_le _ _
  have HF : Hid (trimF ⟨base, total, ch, sb⟩ pos = if base < leastS pos sb then ⟨leastS pos sb, total, ch.drop (leastS pos sb - base).toNat, sb⟩ else ⟨base, total, ch, sb⟩) := by
    show _ = _
    unfold trimF
    rw [hB]
  obtain ⟨m1, m2, m3, m4, m5, m6⟩ := hM
  simp only at m1 m2 m3 m4
  have hs0 := hs
  obtain ⟨so, sc, rfl, hsc, hsl⟩ := hs
  obtain ⟨uo, uc, rfl, huc, hul⟩ := ht
  have HD : Hid (∀ d ∈ ch, d.doc.length ≤ 1000) := hd
  have HS0 : Hid (LstH w (.slice so ch.length sc) ch) := hs0
  clear hd hB m5 m6 hs0
  go_enter Try.func21, Try.ntmps21
  go_wp2_with (first
    | (go_at_call 13; refine (kC _ (by repeat (first | with_reducible exact Adds.refl _ | with_reducible refine Adds.alloc ?_ _ | with_reducible refine Adds.more ?_ _ _ | with_reducible refine Adds.drew ?_ | with_reducible refine Adds.drewN ?_ _))).mono ?_; rintro e w1 ⟨rfl, os1, n1, rfl⟩))
  go_loopw [6, 20] (fun b i wr => ∃ k : Nat, k ≤ sb.length ∧ i = .int .i64 k ∧ b = .int .i64 (leastS pos (sb.take k)) ∧ Adds ((w.alloc (Obj.cells #[.int .i64 base, .int .i64 total, .slice so ch.length sc, .slice uo sb.length uc] 25)).alloc (Obj.cells #[.int .i64 0, .int .i64 0, .slice none 0 0, .slice none 0 0] 25)) wr) (fun _ i _ => sb.length - (intOf i).toNat)
  case atStart => exact ⟨0, Nat.zero_le _, rfl, rfl, (by repeat (first | with_reducible exact Adds.refl _ | with_reducible refine Adds.alloc ?_ _ | with_reducible refine Adds.more ?_ _ _ | with_reducible refine Adds.drew ?_ | with_reducible refine Adds.drewN ?_ _))⟩
  case round =>
    obtain ⟨k, hk, rfl, rfl, os, n, rfl⟩ := hrel
    by_cases hlt : k < sb.length
    · rcases hul with rfl | ⟨b, off, rfl, hb, hl⟩
      · simp at hlt
      obtain ⟨c0, c1⟩ := hl k hlt
      have hlt' : (k : Int) < (sb.length : Int) := by omega
      have HN : Hid (leastS pos (sb.take (k + 1)) = if sb[k].pos < leastS pos (sb.take k) then sb[k].pos else leastS pos (sb.take k)) := leastS_take _ sb k hlt
      clear hl hBle
      generalize sb[k].name = nm at *
      generalize sb[k].pos = ps at *
      generalize leastS pos (sb.take k) = cb at *
      by_cases hq : ps < cb
      · go_wp2
        go_roundw
        case rel => exact ⟨k + 1, by omega, by go_num, by rw [HN.out, if_pos hq], (by repeat (first | with_reducible exact Adds.refl _ | with_reducible refine Adds.alloc ?_ _ | with_reducible refine Adds.more ?_ _ _ | with_reducible refine Adds.drew ?_ | with_reducible refine Adds.drewN ?_ _))⟩
        case measure => simp [intOf]; omega
      · go_wp2
        go_roundw
        case rel => exact ⟨k + 1, by omega, by go_num, by rw [HN.out, if_neg hq], (by repeat (first | with_reducible exact Adds.refl _ | with_reducible refine Adds.alloc ?_ _ | with_reducible refine Adds.more ?_ _ _ | with_reducible refine Adds.drew ?_ | with_reducible refine Adds.drewN ?_ _))⟩
        case measure => simp [intOf]; omega
    · obtain rfl : k = sb.length := by omega
      rw [List.take_length]
      clear hul
      generalize leastS pos sb = lb at *
      by_cases hlb : base < lb
      · obtain ⟨q, hq⟩ : ∃ q : Nat, lb - base = (q : Int) := ⟨(lb - base).toNat, by omega⟩
        have hw : IntKind.i64.wrap (lb - base) = q := by rw [IntKind.wrap_i64]; omega
        have hql : q ≤ ch.length := by omega
        have HF2 : Hid (trimF ⟨base, total, ch, sb⟩ pos = ⟨lb, total, ch.drop q, sb⟩) := by show _ = _; rw [HF.out, if_pos hlb, show (lb - base).toNat = q by omega]
        have hqc : q ≤ sc := by omega
        have HL : Hid ((ch.drop q).length ≤ 1000 ∧ ∀ d ∈ ch.drop q, d.doc.length ≤ 1000) := ⟨by rw [List.length_drop]; omega, fun d hd => HD.out d (List.mem_of_mem_drop hd)⟩
        have HX : Hid (∀ a', (q < ch.length → ∀ b off, so = some ⟨b, off, none⟩ → a' = some ⟨b, off + q * 4, none⟩) → LstH w (.slice a' (ch.length - q) (sc - q)) (ch.drop q)) := fun a' ha => lstH_from HS0.out q hql a' ha
        clear HF hq
        by_cases hlt : q < ch.length
        · generalize ch.drop q = ds at *
          rcases hsl with rfl | ⟨b, off, rfl, hb, hl⟩
          · simp at hlt
          have hlt' : (q : Int) < (ch.length : Int) := by omega
          have hqc' : q < sc := by omega
          have hne : ¬ sc = q := by omega
          clear hl
          go_wp2_with (go_at_call 31; refine (kO _ _ ds _ (by repeat (first | with_reducible exact Adds.refl _ | with_reducible refine Adds.alloc ?_ _ | with_reducible refine Adds.more ?_ _ _ | with_reducible refine Adds.drew ?_ | with_reducible refine Adds.drewN ?_ _)) (LstH.adds (HX.out _ (fun _ b off e => by cases e; rfl)) (by repeat (first | with_reducible exact Adds.refl _ | with_reducible refine Adds.alloc ?_ _ | with_reducible refine Adds.more ?_ _ _ | with_reducible refine Adds.drew ?_ | with_reducible refine Adds.drewN ?_ _))) HL.out.1 HL.out.2).mono ?_; rintro e w2 ⟨⟨v2, c2, u2, d2, rs, rfl, H2⟩, os2, n2, rfl⟩)
          refine bodyPost_ret (v := .tuple #[.agg #[.int .i64 lb, .int .i64 total, .slice v2 ds.length c2, .slice u2 sb.length d2], .int .i64 0]) (by simp [results, Try.results21, go_sem]) rfl ⟨⟨v2, c2, u2, d2, by rw [HF2.out] <;> rfl, ?_⟩, (by repeat (first | with_reducible exact Adds.refl _ | with_reducible refine Adds.alloc ?_ _ | with_reducible refine Adds.more ?_ _ _ | with_reducible refine Adds.drew ?_ | with_reducible refine Adds.drewN ?_ _))⟩
          rw [HF2.out]
          exact lstG_far H2.out.1 H2.out.2.1 H2.out.2.2 (by repeat (first | with_reducible exact Far.refl _ _ | with_reducible refine Far.mores ?_ (by simp [go_sem]) _ _ _ | with_reducible refine Far.allocs ?_ (by simp [go_sem]) _ | with_reducible refine Far.low ?_ (by simp [go_sem]) (by simp [go_sem] <;> omega) _ _ | with_reducible refine Far.more ?_ _ _ | with_reducible refine Far.alloc ?_ _))
        · obtain rfl : q = ch.length := by omega
          rw [List.drop_length] at HF2
          clear hsl HL HX
          by_cases hcap : sc = ch.length
          all_goals
            cases so with
            | none =>
              go_wp2_with (go_at_call 31; refine (kO _ _ [] _ (by repeat (first | with_reducible exact Adds.refl _ | with_reducible refine Adds.alloc ?_ _ | with_reducible refine Adds.more ?_ _ _ | with_reducible refine Adds.drew ?_ | with_reducible refine Adds.drewN ?_ _)) ⟨_, _, rfl, Nat.zero_le _, .inl rfl⟩ (by simp) (by simp)).mono ?_; rintro e w2 ⟨⟨v2, c2, u2, d2, rs, rfl, H2⟩, os2, n2, rfl⟩)
              refine bodyPost_ret (v := .tuple #[.agg #[.int .i64 lb, .int .i64 total, .slice v2 0 c2, .slice u2 sb.length d2], .int .i64 0]) (by simp [results, Try.results21, go_sem]) rfl ⟨⟨v2, c2, u2, d2, by rw [HF2.out] <;> rfl, ?_⟩, (by repeat (first | with_reducible exact Adds.refl _ | with_reducible refine Adds.alloc ?_ _ | with_reducible refine Adds.more ?_ _ _ | with_reducible refine Adds.drew ?_ | with_reducible refine Adds.drewN ?_ _))⟩
              rw [HF2.out]
              exact lstG_far H2.out.1 H2.out.2.1 H2.out.2.2 (by repeat (first | with_reducible exact Far.refl _ _ | with_reducible refine Far.mores ?_ (by simp [go_sem]) _ _ _ | with_reducible refine Far.allocs ?_ (by simp [go_sem]) _ | with_reducible refine Far.low ?_ (by simp [go_sem]) (by simp [go_sem] <;> omega) _ _ | with_reducible refine Far.more ?_ _ _ | with_reducible refine Far.alloc ?_ _))
            | some a =>
              obtain ⟨b, off, sp⟩ := a
              go_wp2_with (go_at_call 31; refine (kO _ _ [] _ (by repeat (first | with_reducible exact Adds.refl _ | with_reducible refine Adds.alloc ?_ _ | with_reducible refine Adds.more ?_ _ _ | with_reducible refine Adds.drew ?_ | with_reducible refine Adds.drewN ?_ _)) ⟨_, _, rfl, Nat.zero_le _, .inl rfl⟩ (by simp) (by simp)).mono ?_; rintro e w2 ⟨⟨v2, c2, u2, d2, rs, rfl, H2⟩, os2, n2, rfl⟩)
              refine bodyPost_ret (v := .tuple #[.agg #[.int .i64 lb, .int .i64 total, .slice v2 0 c2, .slice u2 sb.length d2], .int .i64 0]) (by simp [results, Try.results21, go_sem]) rfl ⟨⟨v2, c2, u2, d2, by rw [HF2.out] <;> rfl, ?_⟩, (by repeat (first | with_reducible exact Adds.refl _ | with_reducible refine Adds.alloc ?_ _ | with_reducible refine Adds.more ?_ _ _ | with_reducible refine Adds.drew ?_ | with_reducible refine Adds.drewN ?_ _))⟩
              rw [HF2.out]
              exact lstG_far H2.out.1 H2.out.2.1 H2.out.2.2 (by repeat (first | with_reducible exact Far.refl _ _ | with_reducible refine Far.mores ?_ (by simp [go_sem]) _ _ _ | with_reducible refine Far.allocs ?_ (by simp [go_sem]) _ | with_reducible refine Far.low ?_ (by simp [go_sem]) (by simp [go_sem] <;> omega) _ _ | with_reducible refine Far.more ?_ _ _ | with_reducible refine Far.alloc ?_ _))
      · have HF2 : Hid (trimF ⟨base, total, ch, sb⟩ pos = ⟨base, total, ch, sb⟩) := by show _ = _; rw [HF.out, if_neg hlb]
        clear HF hsl
        go_wp2_with (go_at_call 31; refine (kO _ _ ch _ (by repeat (first | with_reducible exact Adds.refl _ | with_reducible refine Adds.alloc ?_ _ | with_reducible refine Adds.more ?_ _ _ | with_reducible refine Adds.drew ?_ | with_reducible refine Adds.drewN ?_ _)) (LstH.adds HS0.out (by repeat (first | with_reducible exact Adds.refl _ | with_reducible refine Adds.alloc ?_ _ | with_reducible refine Adds.more ?_ _ _ | with_reducible refine Adds.drew ?_ | with_reducible refine Adds.drewN ?_ _))) hc HD.out).mono ?_; rintro e w2 ⟨⟨v2, c2, u2, d2, rs, rfl, H2⟩, os2, n2, rfl⟩)
        refine bodyPost_ret (v := .tuple #[.agg #[.int .i64 base, .int .i64 total, .slice v2 ch.length c2, .slice u2 sb.length d2], .int .i64 0]) (by simp [results, Try.results21, go_sem]) rfl ⟨⟨v2, c2, u2, d2, by rw [HF2.out] <;> rfl, ?_⟩, (by repeat (first | with_reducible exact Adds.refl _ | with_reducible refine Adds.alloc ?_ _ | with_reducible refine Adds.more ?_ _ _ | with_reducible refine Adds.drew ?_ | with_reducible refine Adds.drewN ?_ _))⟩
        rw [HF2.out]
        exact lstG_far H2.out.1 H2.out.2.1 H2.out.2.2 (by repeat (first | with_reducible exact Far.refl _ _ | with_reducible refine Far.mores ?_ (by simp [go_sem]) _ _ _ | with_reducible refine Far.allocs ?_ (by simp [go_sem]) _ | with_reducible refine Far.low ?_ (by simp [go_sem]) (by simp [go_sem] <;> omega) _ _ | with_reducible refine Far.more ?_ _ _ | with_reducible refine Far.alloc ?_ _))

end Go.Proofs.Ytpjhohmbifpogaa

namespace Go.Proofs.Ytpjhohmbifpogaa
open Go.RowKit
attribute [local go_sem] cell?_more frozen?_more setCell_more size_more tape_more drew_more drewN_more more_drew more_drewN one_out plus_out plus_end lt_one le_p2 le_p3 le_p4 le_p5 le_p6 le_p7 le_p8 le_p9 le_p10 le_p11 le_p12 le_p13 le_p14 le_p15 le_p16 le_p17 le_p18 le_p19 le_p20 le_p21 le_p22 le_p23 le_p24 le_q0 le_q1 lt_q1 le_q2 lt_q2 le_q3 lt_q3 le_q4 lt_q4 le_q5 lt_q5 le_q6 lt_q6 le_q7 lt_q7 le_q8 lt_q8 le_q9 lt_q9 le_q10 lt_q10 le_q11 lt_q11 le_q12 lt_q12 le_q13 lt_q13 le_q14 lt_q14 le_q15 lt_q15 le_q16 lt_q16 le_q17 lt_q17 le_q18 lt_q18 le_q19 lt_q19 le_q20 lt_q20 le_q21 lt_q21 le_q22 lt_q22 le_q23 lt_q23 le_q24 lt_q24

set_option maxHeartbeats 4000000 in
set_option maxRecDepth 20000 in
theorem refTrim_near (base total pos : Int) (s t : Value) (ch : List Ch) (sb : List Sb) (w : World) (hs : LstH w s ch) (ht : LstS w t sb) (hM : MayF ⟨base, total, ch, sb⟩) (hc : ch.length ≤ 1000) (hp : ¬ total < pos) :
    Calls Try.prog 25 #[.agg #[.int .i64 base, .int .i64 total, s, t], .int .i64 pos] w fun e w' => (∃ vo vc, e = .returned (.agg #[.int .i64 (trimF ⟨base, total, ch, sb⟩ pos).base, .int .i64 total, .slice vo (trimF ⟨base, total, ch, sb⟩ pos).ch.length vc, t]) ∧ Hid (LstH w' (.slice vo (trimF ⟨base, total, ch, sb⟩ pos).ch.length vc) (trimF ⟨base, total, ch, sb⟩ pos).ch)) ∧ Adds w w' := by
  have hs6 : sb.length ≤ 1000 := Nat.le_trans hM.2.2.2.2.2.1 (by omega)
  have hB : trimB ⟨base, total, ch, sb⟩ pos = leastS pos sb := by
    unfold trimB
    simp only
    rw [if_neg hp]
  have hBle : leastS pos sb ≤ total := by rw [← hB]; exact trimB_le _ _
  have HF : Hid (trimF ⟨base, total, ch, sb⟩ pos = if base < leastS pos sb then ⟨leastS pos sb, total, ch.drop (leastS pos sb - base).toNat, sb⟩ else ⟨base, total, ch, sb⟩) := by
    show _ = _
    unfold trimF
    rw [hB]
  obtain ⟨m1, m2, m3, m4, m5, m6⟩ := hM
  simp only at m1 m2 m3 m4
  have hs0 := hs
  obtain ⟨so, sc, rfl, hsc, hsl⟩ := hs
  obtain ⟨uo, uc, rfl, huc, hul⟩ := ht
  have HS0 : Hid (LstH w (.slice so ch.length sc) ch) := hs0
  clear m5 m6 hs0 hB
  go_enter Try.func25, Try.ntmps25
  go_wp2
  go_loopw [1, 5] (fun b i wr => ∃ k : Nat, k ≤ sb.length ∧ i = .int .i64 k ∧ b = .int .i64 (leastS pos (sb.take k)) ∧ wr = (w.alloc (Obj.cells #[.int .i64 base, .int .i64 total, .slice so ch.length sc, .slice uo sb.length uc] 25)).alloc (Obj.cells #[.int .i64 0, .int .i64 0, .slice none 0 0, .slice none 0 0] 25)) (fun _ i _ => sb.length - (intOf i).toNat)
  case atStart => exact ⟨0, Nat.zero_le _, rfl, rfl, rfl⟩
  case round =>
    obtain ⟨k, hk, rfl, rfl, rfl⟩ := hrel
    by_cases hlt : k < sb.length
    · rcases hul with rfl | ⟨b, off, rfl, hb, hl⟩
      · simp at hlt
      obtain ⟨c0, c1⟩ := hl k hlt
      have hlt' : (k : Int) < (sb.length : Int) := by omega
      have HN : Hid (leastS pos (sb.take (k + 1)) = if sb[k].pos < leastS pos (sb.take k) then sb[k].pos else leastS pos (sb.take k)) := leastS_take _ sb k hlt
      clear hl hBle
      generalize sb[k].name = nm at *
      generalize sb[k].pos = ps at *
      generalize leastS pos (sb.take k) = cb at *
      by_cases hq : ps < cb
      · go_wp2
        go_roundw
        case rel => exact ⟨k + 1, by omega, by go_num, by rw [HN.out, if_pos hq], by first | trivial | rfl⟩
        case measure => simp [intOf]; omega
      · go_wp2
        go_roundw
        case rel => exact ⟨k + 1, by omega, by go_num, by rw [HN.out, if_neg hq], by first | trivial | rfl⟩
        case measure => simp [intOf]; omega
    · obtain rfl : k = sb.length := by omega
      rw [List.take_length]
      clear hul
      generalize leastS pos sb = lb at *
      go_wp2
      go_loopw [] (fun wr => ∃ (j : Nat) (A : Option Addr), j ≤ ch.length ∧ (j = 0 ∨ base + (j : Int) ≤ lb) ∧ Hid (j < ch.length → ∀ b off, so = some ⟨b, off, none⟩ → A = some ⟨b, off + j * 4, none⟩) ∧ wr = (w.alloc (Obj.cells #[.int .i64 (base + (j : Int)), .int .i64 total, .slice A (ch.length - j) (sc - j), .slice uo sb.length uc] 25)).alloc (Obj.cells #[.int .i64 0, .int .i64 0, .slice none 0 0, .slice none 0 0] 25)) (fun wr => (lb - intOf ((wr.cell? ⟨w.heap.size, 0, none⟩).getD (.int .i64 0))).toNat)
      case atStart => exact ⟨0, so, Nat.zero_le _, .inl rfl, fun _ b off e => by rw [e]; simp, by simp⟩
      case round =>
        obtain ⟨j, A, hj, hjb, HA, rfl⟩ := hrel
        by_cases hlb : base + (j : Int) < lb
        · have hjl : j < ch.length := by omega
          rcases hsl with rfl | ⟨b, off, rfl, hb, hl⟩
          · simp at hjl
          have hA := HA.out hjl b off rfl
          subst hA
          obtain ⟨N, hN⟩ : ∃ N, ch.length - j = N + 1 := ⟨ch.length - j - 1, by omega⟩
          obtain ⟨C, hC⟩ : ∃ C, sc - j = C + 1 := ⟨sc - j - 1, by omega⟩
          have HNC : Hid (N = ch.length - (j + 1) ∧ C = sc - (j + 1) ∧ N ≤ C) := ⟨by omega, by omega, by omega⟩
          rw [hN, hC]
          have hw : IntKind.i64.wrap (base + (j : Int) + 1) = base + (j : Int) + 1 := by rw [IntKind.wrap_i64]; omega
          clear hl hN hC HF
          by_cases hC0 : C = 0
          · subst hC0
            have hN0 : N = 0 := by have := HNC.out.2.2; omega
            subst hN0
            go_wp2
            go_roundw
            case rel =>
              have h1 := HNC.out.1
              have h2 := HNC.out.2.1
              refine ⟨j + 1, some ⟨b, off + j * 4, none⟩, by omega, .inr (by omega), fun h => absurd h (by omega), ?_⟩
              rw [← h1, ← h2, show base + ((j + 1 : Nat) : Int) = base + (j : Int) + 1 by omega]
            case measure => simp [intOf]; omega
          · go_wp2
            go_roundw
            case rel =>
              have h1 := HNC.out.1
              have h2 := HNC.out.2.1
              refine ⟨j + 1, some ⟨b, off + j * 4 + 4, none⟩, by omega, .inr (by omega), fun _ b' off' e => by cases e; congr 2; omega, ?_⟩
              rw [← h1, ← h2, show base + ((j + 1 : Nat) : Int) = base + (j : Int) + 1 by omega]
            case measure => simp [intOf]; omega
        · have HF2 : Hid (trimF ⟨base, total, ch, sb⟩ pos = ⟨base + (j : Int), total, ch.drop j, sb⟩) := by
            show _ = _
            rw [HF.out]
            by_cases h : base < lb
            · have hj2 : base + (j : Int) = lb := by omega
              rw [if_pos h, show (lb - base).toNat = j by omega, hj2]
            · have hj0 : j = 0 := by omega
              subst hj0
              rw [if_neg h]
              simp
          have HL : Hid ((ch.drop j).length = ch.length - j) := by show _ = _; rw [List.length_drop]
          have HX : Hid (LstH w (.slice A (ch.length - j) (sc - j)) (ch.drop j)) := lstH_from HS0.out j hj A HA.out
          clear HF hsl
          generalize ch.drop j = ds at *
          generalize ch.length - j = N at *
          generalize sc - j = C at *
          go_wp2
          refine bodyPost_ret (v := .agg #[.int .i64 (base + (j : Int)), .int .i64 total, .slice A N C, .slice uo sb.length uc]) (by simp [results, Try.results25, go_sem]) rfl ⟨⟨A, C, by rw [HF2.out, HL.out], ?_⟩, (by repeat (first | with_reducible exact Adds.refl _ | with_reducible refine Adds.alloc ?_ _ | with_reducible refine Adds.more ?_ _ _ | with_reducible refine Adds.drew ?_ | with_reducible refine Adds.drewN ?_ _))⟩
          rw [HF2.out]
          show LstH _ (.slice A ds.length C) ds
          rw [HL.out]
          exact LstH.adds HX.out (by repeat (first | with_reducible exact Adds.refl _ | with_reducible refine Adds.alloc ?_ _ | with_reducible refine Adds.more ?_ _ _ | with_reducible refine Adds.drew ?_ | with_reducible refine Adds.drewN ?_ _))

set_option maxHeartbeats 4000000 in
set_option maxRecDepth 20000 in
theorem refTrim_far (base total pos : Int) (s t : Value) (ch : List Ch) (sb : List Sb) (w : World) (hs : LstH w s ch) (ht : LstS w t sb) (hM : MayF ⟨base, total, ch, sb⟩) (hc : ch.length ≤ 1000) (hp : total < pos) :
    Calls Try.prog 25 #[.agg #[.int .i64 base, .int .i64 total, s, t], .int .i64 pos] w fun e w' => (∃ vo vc, e = .returned (.agg #[.int .i64 (trimF ⟨base, total, ch, sb⟩ pos).base, .int .i64 total, .slice vo (trimF ⟨base, total, ch, sb⟩ pos).ch.length vc, t]) ∧ Hid (LstH w' (.slice vo (trimF ⟨base, total, ch, sb⟩ pos).ch.length vc) (trimF ⟨base, total, ch, sb⟩ pos).ch)) ∧ Adds w w' := by
  have hs6 : sb.length ≤ 1000 := Nat.le_trans hM.2.2.2.2.2.1 (by omega)
  have hB : trimB ⟨base, total, ch, sb⟩ pos = leastS total sb := by
    unfold trimB
    simp only
    rw [if_pos hp]
  have hBle : leastS total sb ≤ total := by rw [← hB]; exact trimB_le _ _
  have HF : Hid (trimF ⟨base, total, ch, sb⟩ pos = if base < leastS total sb then ⟨leastS total sb, total, ch.drop (leastS total sb - base).toNat, sb⟩ else ⟨base, total, ch, sb⟩) := by
    show _ = _
    unfold trimF
    rw [hB]
  obtain ⟨m1, m2, m3, m4, m5, m6⟩ := hM
  simp only at m1 m2 m3 m4
  have hs0 := hs
  obtain ⟨so, sc, rfl, hsc, hsl⟩ := hs
  obtain ⟨uo, uc, rfl, huc, hul⟩ := ht
  have HS0 : Hid (LstH w (.slice so ch.length sc) ch) := hs0
  clear m5 m6 hs0 hB
  go_enter Try.func25, Try.ntmps25
  go_wp2
  go_loopw [1, 5] (fun b i wr => ∃ k : Nat, k ≤ sb.length ∧ i = .int .i64 k ∧ b = .int .i64 (leastS total (sb.take k)) ∧ wr = (w.alloc (Obj.cells #[.int .i64 base, .int .i64 total, .slice so ch.length sc, .slice uo sb.length uc] 25)).alloc (Obj.cells #[.int .i64 0, .int .i64 0, .slice none 0 0, .slice none 0 0] 25)) (fun _ i _ => sb.length - (intOf i).toNat)
  case atStart => exact ⟨0, Nat.zero_le _, rfl, rfl, rfl⟩
  case round =>
    obtain ⟨k, hk, rfl, rfl, rfl⟩ := hrel
    by_cases hlt : k < sb.length
    · rcases hul with rfl | ⟨b, off, rfl, hb, hl⟩
      · simp at hlt
      obtain ⟨c0, c1⟩ := hl k hlt
      have hlt' : (k : Int) < (sb.length : Int) := by omega
      have HN : Hid (leastS total (sb.take (k + 1)) = if sb[k].pos < leastS total (sb.take k) then sb[k].pos else leastS total (sb.take k)) := leastS_take _ sb k hlt
      clear hl hBle
      generalize sb[k].name = nm at *
      generalize sb[k].pos = ps at *
      generalize leastS total (sb.take k) = cb at *
      by_cases hq : ps < cb
      · go_wp2
        go_roundw
        case rel => exact ⟨k + 1, by omega, by go_num, by rw [HN.out, if_pos hq], by first | trivial | rfl⟩
        case measure => simp [intOf]; omega
      · go_wp2
        go_roundw
        case rel => exact ⟨k + 1, by omega, by go_num, by rw [HN.out, if_neg hq], by first | trivial | rfl⟩
        case measure => simp [intOf]; omega
    · obtain rfl : k = sb.length := by omega
      rw [List.take_length]
      clear hul
      generalize leastS total sb = lb at *
      go_wp2
      go_loopw [] (fun wr => ∃ (j : Nat) (A : Option Addr), j ≤ ch.length ∧ (j = 0 ∨ base + (j : Int) ≤ lb) ∧ Hid (j < ch.length → ∀ b off, so = some ⟨b, off, none⟩ → A = some ⟨b, off + j * 4, none⟩) ∧ wr = (w.alloc (Obj.cells #[.int .i64 (base + (j : Int)), .int .i64 total, .slice A (ch.length - j) (sc - j), .slice uo sb.length uc] 25)).alloc (Obj.cells #[.int .i64 0, .int .i64 0, .slice none 0 0, .slice none 0 0] 25)) (fun wr => (lb - intOf ((wr.cell? ⟨w.heap.size, 0, none⟩).getD (.int .i64 0))).toNat)
      case atStart => exact ⟨0, so, Nat.zero_le _, .inl rfl, fun _ b off e => by rw [e]; simp, by simp⟩
      case round =>
        obtain ⟨j, A, hj, hjb, HA, rfl⟩ := hrel
        by_cases hlb : base + (j : Int) < lb
        · have hjl : j < ch.length := by omega
          rcases hsl with rfl | ⟨b, off, rfl, hb, hl⟩
          · simp at hjl
          have hA := HA.out hjl b off rfl
          subst hA
          obtain ⟨N, hN⟩ : ∃ N, ch.length - j = N + 1 := ⟨ch.length - j - 1, by omega⟩
          obtain ⟨C, hC⟩ : ∃ C, sc - j = C + 1 := ⟨sc - j - 1, by omega⟩
          have HNC : Hid (N = ch.length - (j + 1) ∧ C = sc - (j + 1) ∧ N ≤ C) := ⟨by omega, by omega, by omega⟩
          rw [hN, hC]
          have hw : IntKind.i64.wrap (base + (j : Int) + 1) = base + (j : Int) + 1 := by rw [IntKind.wrap_i64]; omega
          clear hl hN hC HF
          by_cases hC0 : C = 0
          · subst hC0
            have hN0 : N = 0 := by have := HNC.out.2.2; omega
            subst hN0
            go_wp2
            go_roundw
            case rel =>
              have h1 := HNC.out.1
              have h2 := HNC.out.2.1
              refine ⟨j + 1, some ⟨b, off + j * 4, none⟩, by omega, .inr (by omega), fun h => absurd h (by omega), ?_⟩
              rw [← h1, ← h2, show base + ((j + 1 : Nat) : Int) = base + (j : Int) + 1 by omega]
            case measure => simp [intOf]; omega
          · go_wp2
            go_roundw
            case rel =>
              have h1 := HNC.out.1
              have h2 := HNC.out.2.1
              refine ⟨j + 1, some ⟨b, off + j * 4 + 4, none⟩, by omega, .inr (by omega), fun _ b' off' e => by cases e; congr 2; omega, ?_⟩
              rw [← h1, ← h2, show base + ((j + 1 : Nat) : Int) = base + (j : Int) + 1 by omega]
            case measure => simp [intOf]; omega
        · have HF2 : Hid (trimF ⟨base, total, ch, sb⟩ pos = ⟨base + (j : Int), total, ch.drop j, sb⟩) := by
            show _ = _
            rw [HF.out]
            by_cases h : base < lb
            · have hj2 : base + (j : Int) = lb := by omega
              rw [if_pos h, show (lb - base).toNat = j by omega, hj2]
            · have hj0 : j = 0 := by omega
              subst hj0
              rw [if_neg h]
              simp
          have HL : Hid ((ch.drop j).length = ch.length - j) := by show _ = _; rw [List.length_drop]
          have HX : Hid (LstH w (.slice A (ch.length - j) (sc - j)) (ch.drop j)) := lstH_from HS0.out j hj A HA.out
          clear HF hsl
          generalize ch.drop j = ds at *
          generalize ch.length - j = N at *
          generalize sc - j = C at *
          go_wp2
          refine bodyPost_ret (v := .agg #[.int .i64 (base + (j : Int)), .int .i64 total, .slice A N C, .slice uo sb.length uc]) (by simp [results, Try.results25, go_sem]) rfl ⟨⟨A, C, by rw [HF2.out, HL.out], ?_⟩, (by repeat (first | with_reducible exact Adds.refl _ | with_reducible refine Adds.alloc ?_ _ | with_reducible refine Adds.more ?_ _ _ | with_reducible refine Adds.drew ?_ | with_reducible refine Adds.drewN ?_ _))⟩
          rw [HF2.out]
          show LstH _ (.slice A ds.length C) ds
          rw [HL.out]
          exact LstH.adds HX.out (by repeat (first | with_reducible exact Adds.refl _ | with_reducible refine Adds.alloc ?_ _ | with_reducible refine Adds.more ?_ _ _ | with_reducible refine Adds.drew ?_ | with_reducible refine Adds.drewN ?_ _))

end Go.Proofs.Ytpjhohmbifpogaa
