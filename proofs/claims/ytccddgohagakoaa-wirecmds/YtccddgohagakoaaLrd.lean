/-
  Cells and their bytes: the strict reader, which reads what is written of a cell that may be, and nothing else.
-/
import Derived.Test.YtccddgohagakoaaLby
namespace Go.Proofs.Ytccddgohagakoaa
open Go.RowKit
attribute [local go_sem] cell?_more frozen?_more setCell_more size_more tape_more drew_more drewN_more more_drew more_drewN one_out plus_out plus_end lt_one le_p2 le_p3 le_p4 le_p5 le_p6 le_p7 le_p8 le_p9 le_p10 le_p11 le_p12 le_p13 le_p14 le_p15 le_p16 le_p17 le_p18 le_p19 le_p20 le_p21 le_p22 le_p23 le_p24 le_q0 le_q1 lt_q1 le_q2 lt_q2 le_q3 lt_q3 le_q4 lt_q4 le_q5 lt_q5 le_q6 lt_q6 le_q7 lt_q7 le_q8 lt_q8 le_q9 lt_q9 le_q10 lt_q10 le_q11 lt_q11 le_q12 lt_q12 le_q13 lt_q13 le_q14 lt_q14 le_q15 lt_q15 le_q16 lt_q16 le_q17 lt_q17 le_q18 lt_q18 le_q19 lt_q19 le_q20 lt_q20 le_q21 lt_q21 le_q22 lt_q22 le_q23 lt_q23 le_q24 lt_q24

def cntR : Nat → Bool → List UInt8 → Option (Nat × List UInt8)
  | 0, _, _ => none
  | _ + 1, _, [] => none
  | f + 1, first, x :: r =>
    if first = false ∧ x.toNat = 0 then none
    else if x.toNat < 128 then some (x.toNat, r)
    else match cntR f false r with
      | none => none
      | some (n, r') => some (x.toNat - 128 + 128 * n, r')

theorem cntR_sound : ∀ (f : Nat) (first : Bool) (l : List UInt8) (n : Nat) (r : List UInt8), cntR f first l = some (n, r) → l = number n ++ r ∧ (first = false → n ≠ 0) ∧ n < 128 ^ f
  | 0, _, _, _, _, h => by simp [cntR] at h
  | f + 1, _, [], _, _, h => by simp [cntR] at h
  | f + 1, first, x :: l, n, r, h => by
    unfold cntR at h
    have hx := x.toNat_lt
    by_cases h1 : first = false ∧ x.toNat = 0
    · rw [if_pos h1] at h
      cases h
    · rw [if_neg h1] at h
      by_cases h2 : x.toNat < 128
      · rw [if_pos h2] at h
        simp only [Option.some.injEq, Prod.mk.injEq] at h
        obtain ⟨rfl, rfl⟩ := h
        refine ⟨?_, fun hf he => h1 ⟨hf, he⟩, ?_⟩
        · rw [number_small h2]
          simp
        · have : 128 ^ 1 ≤ 128 ^ (f + 1) := Nat.pow_le_pow_right (by decide) (by omega)
          omega
      · rw [if_neg h2] at h
        cases hc : cntR f false l with
        | none =>
          rw [hc] at h
          cases h
        | some q =>
          obtain ⟨n', r'⟩ := q
          rw [hc] at h
          simp only [Option.some.injEq, Prod.mk.injEq] at h
          obtain ⟨rfl, rfl⟩ := h
          obtain ⟨e, hz, hb⟩ := cntR_sound f false l n' r' hc
          have hz' := hz rfl
          have hbig : ¬ x.toNat - 128 + 128 * n' < 128 := by omega
          refine ⟨?_, fun _ => by omega, ?_⟩
          · rw [number_big hbig, e]
            have e1 : (x.toNat - 128 + 128 * n') % 128 + 128 = x.toNat := by omega
            have e2 : (x.toNat - 128 + 128 * n') / 128 = n' := by omega
            rw [e1, e2]
            simp
          · rw [Nat.pow_succ]
            omega

theorem cntR_whole : ∀ (f : Nat) (first : Bool) (n : Nat) (r : List UInt8), n < 128 ^ f → (first = false → n ≠ 0) → (first = true → 0 < f) → cntR f first (number n ++ r) = some (n, r)
  | 0, first, n, _, h, hf, hp => by
    have hn : n = 0 := by simpa using h
    cases first
    · exact absurd hn (hf rfl)
    · exact absurd (hp rfl) (by omega)
  | f + 1, first, n, r, h, hf, _ => by
    by_cases hn : n < 128
    · rw [number_small hn]
      have e : (UInt8.ofNat n).toNat = n := by simp; omega
      have h1 : ¬ (first = false ∧ (UInt8.ofNat n).toNat = 0) := by
        rintro ⟨a, b⟩
        rw [e] at b
        exact hf a b
      simp only [List.cons_append, List.nil_append]
      unfold cntR
      rw [if_neg h1, if_pos (by rw [e]; exact hn), e]
    · rw [number_big hn]
      have e : (UInt8.ofNat (n % 128 + 128)).toNat = n % 128 + 128 := by simp; omega
      have h1 : ¬ (first = false ∧ (UInt8.ofNat (n % 128 + 128)).toNat = 0) := by
        rintro ⟨_, b⟩
        omega
      have hdiv : n / 128 < 128 ^ f := by
        rw [Nat.pow_succ] at h
        omega
      simp only [List.cons_append]
      unfold cntR
      rw [if_neg h1, if_neg (by omega), cntR_whole f false (n / 128) r hdiv (fun _ => by omega) (fun h => by cases h), e]
      simp only [Option.some.injEq, Prod.mk.injEq, and_true]
      omega

def unzig (c : Nat) : Int := if c % 2 = 1 then -((c / 2 : Nat) : Int) - 1 else ((c / 2 : Nat) : Int)

theorem unzig_zig (n : Int) : unzig (zig n) = n := by
  unfold zig unzig
  by_cases h : n < 0
  · rw [if_pos h]
    have : (-2 * n - 1).toNat % 2 = 1 := by omega
    rw [if_pos this]
    omega
  · rw [if_neg h]
    have : ¬ (2 * n).toNat % 2 = 1 := by omega
    rw [if_neg this]
    omega

theorem zig_unzig (c : Nat) : zig (unzig c) = c := by
  unfold zig unzig
  by_cases h : c % 2 = 1
  · rw [if_pos h, if_pos (by omega)]
    omega
  · rw [if_neg h, if_neg (by omega)]
    omega

/-- So many cells, one behind the other. -/
def rdN (f : Nat → List UInt8 → Option (T × Nat × List UInt8)) : Nat → Nat → List UInt8 → Option (List T × Nat × List UInt8)
  | 0, c, l => some ([], c, l)
  | n + 1, c, l => match f c l with
    | none => none
    | some (t, c', l') => match rdN f n c' l' with
      | none => none
      | some (ts, c2, l2) => some (t :: ts, c2, l2)

/-- The strict reader: so many levels more, so many cells read already. -/
def rdC : Nat → Nat → List UInt8 → Option (T × Nat × List UInt8)
  | 0, _, _ => none
  | lv + 1, c, l =>
    if c = 4096 then none else match l with
    | [] => none
    | k :: r => match cntR 8 true r with
      | none => none
      | some (n, r1) =>
        if k.toNat = 1 then (if n ≤ 18014398509481984 then some (.mk 1 (unzig n) ⟨#[]⟩ [], c + 1, r1) else none)
        else if k.toNat = 2 then (if n ≤ r1.length then some (.mk 2 0 ⟨(r1.take n).toArray⟩ [], c + 1, r1.drop n) else none)
        else if k.toNat = 3 then (if n ≤ 4096 - (c + 1) then (match rdN (rdC lv) n (c + 1) r1 with
          | none => none
          | some (ts, c2, l2) => some (.mk 3 0 ⟨#[]⟩ ts, c2, l2)) else none)
        else none

/-- What is read is what is written. -/
def Sound (lv : Nat) : Prop := ∀ c l t c' r, l.length ≤ 65536 → c ≤ 4096 → rdC lv c l = some (t, c', r) → l = bytesT lv t ++ r ∧ c' = c + sizeT lv t ∧ c' ≤ 4096 ∧ okT lv t

theorem rdN_sound {lv : Nat} (hs : Sound lv) : ∀ (n c : Nat) (l : List UInt8) (ts : List T) (c' : Nat) (r : List UInt8), l.length ≤ 65536 → c ≤ 4096 → rdN (rdC lv) n c l = some (ts, c', r) →
    l = ts.flatMap (bytesT lv) ++ r ∧ c' = c + (ts.map (sizeT lv)).sum ∧ c' ≤ 4096 ∧ ts.length = n ∧ ∀ x ∈ ts, okT lv x
  | 0, c, l, ts, c', r, hL, hc, h => by
    simp only [rdN, Option.some.injEq, Prod.mk.injEq] at h
    obtain ⟨rfl, rfl, rfl⟩ := h
    simp [hc]
  | n + 1, c, l, ts, c', r, hL, hc, h => by
    unfold rdN at h
    cases h1 : rdC lv c l with
    | none =>
      rw [h1] at h
      cases h
    | some q =>
      obtain ⟨t, c1, l1⟩ := q
      rw [h1] at h
      simp only at h
      cases h2 : rdN (rdC lv) n c1 l1 with
      | none =>
        rw [h2] at h
        cases h
      | some q2 =>
        obtain ⟨ts2, c2, l2⟩ := q2
        rw [h2] at h
        simp only [Option.some.injEq, Prod.mk.injEq] at h
        obtain ⟨rfl, rfl, rfl⟩ := h
        obtain ⟨e1, e2, e3, e4⟩ := hs c l t c1 l1 hL hc h1
        obtain ⟨f1, f2, f3, f4, f5⟩ := rdN_sound hs n c1 l1 ts2 c2 l2 (by rw [e1] at hL; simp at hL; omega) e3 h2
        refine ⟨?_, ?_, f3, by simp [f4], ?_⟩
        · rw [e1, f1]
          simp
        · rw [f2, e2]
          simp
          omega
        · intro x hx
          rcases List.mem_cons.1 hx with rfl | hx
          · exact e4
          · exact f5 x hx

theorem byte_eq {k : UInt8} {n : Nat} (h : k.toNat = n) (hn : n < 256) : k = UInt8.ofNat n := by
  apply UInt8.toNat_inj.1
  simp
  omega

theorem rdC_sound : ∀ lv, Sound lv
  | 0 => fun c l t c' r _ _ h => by simp [rdC] at h
  | lv + 1 => fun c l t c' r hL hc h => by
    have ih := rdC_sound lv
    unfold rdC at h
    by_cases h0 : c = 4096
    · rw [if_pos h0] at h
      cases h
    rw [if_neg h0] at h
    match l, h with
    | [], h => cases h
    | k :: l, h =>
      simp only at h
      cases hc1 : cntR 8 true l with
      | none =>
        rw [hc1] at h
        cases h
      | some q =>
        obtain ⟨n, r1⟩ := q
        obtain ⟨e1, _, hn⟩ := cntR_sound 8 true l n r1 hc1
        have hL1 : r1.length ≤ 65536 := by
          rw [e1] at hL
          simp at hL
          omega
        rw [hc1] at h
        simp only at h
        by_cases k1 : k.toNat = 1
        · rw [if_pos k1] at h
          by_cases hm : n ≤ 18014398509481984
          · rw [if_pos hm] at h
            simp only [Option.some.injEq, Prod.mk.injEq] at h
            obtain ⟨rfl, rfl, rfl⟩ := h
            refine ⟨?_, ?_, by omega, .inl ⟨rfl, ?_, ?_, rfl, rfl⟩⟩
            · simp only [bytesT, T.kind, T.num, if_true, zig_unzig]
              rw [e1, byte_eq k1 (by decide)]
              rfl
            · simp [sizeT, T.list]
            · simp only [T.num, unzig]
              split <;> omega
            · simp only [T.num, unzig]
              split <;> omega
          · rw [if_neg hm] at h
            cases h
        · rw [if_neg k1] at h
          by_cases k2 : k.toNat = 2
          · rw [if_pos k2] at h
            by_cases hm : n ≤ r1.length
            · rw [if_pos hm] at h
              simp only [Option.some.injEq, Prod.mk.injEq] at h
              obtain ⟨rfl, rfl, rfl⟩ := h
              have hlen : (ByteArray.mk (r1.take n).toArray).size = n := by
                show (r1.take n).toArray.size = n
                simp
                omega
              refine ⟨?_, ?_, by omega, .inr (.inl ⟨rfl, rfl, by simp only [T.text, hlen]; omega, rfl⟩)⟩
              · simp only [bytesT, T.kind, T.text, hlen]
                rw [e1, byte_eq k2 (by decide)]
                simp
              · simp [sizeT, T.list]
            · rw [if_neg hm] at h
              cases h
          · rw [if_neg k2] at h
            by_cases k3 : k.toNat = 3
            · rw [if_pos k3] at h
              by_cases hm : n ≤ 4096 - (c + 1)
              · rw [if_pos hm] at h
                cases h2 : rdN (rdC lv) n (c + 1) r1 with
                | none =>
                  rw [h2] at h
                  cases h
                | some q2 =>
                  obtain ⟨ts, c2, l2⟩ := q2
                  rw [h2] at h
                  simp only [Option.some.injEq, Prod.mk.injEq] at h
                  obtain ⟨rfl, rfl, rfl⟩ := h
                  obtain ⟨f1, f2, f3, f4, f5⟩ := rdN_sound ih n (c + 1) r1 ts c2 l2 hL1 (by omega) h2
                  refine ⟨?_, ?_, f3, .inr (.inr ⟨rfl, rfl, rfl, f5⟩)⟩
                  · simp only [bytesT, T.kind, T.list, f4]
                    rw [e1, f1, byte_eq k3 (by decide)]
                    simp
                  · rw [f2]
                    simp [sizeT, T.list]
                    omega
              · rw [if_neg hm] at h
                cases h
            · rw [if_neg k3] at h
              cases h

theorem number_pos (n : Nat) : 0 < (number n).length := by
  by_cases h : n < 128
  · rw [number_small h]; simp
  · rw [number_big h]; simp

theorem sizeT_pos (lv : Nat) (t : T) : 0 < sizeT lv t := by
  cases lv <;> simp [sizeT]
  omega

theorem sum_ge (lv : Nat) (l : List T) : l.length ≤ (l.map (sizeT lv)).sum := by
  induction l with
  | nil => simp
  | cons x l ih =>
    have := sizeT_pos lv x
    simp
    omega

theorem flat_mem (lv : Nat) (l : List T) (x : T) (hx : x ∈ l) : (bytesT lv x).length ≤ (l.flatMap (bytesT lv)).length := by
  induction l with
  | nil => simp at hx
  | cons y l ih =>
    rcases List.mem_cons.1 hx with rfl | hx
    · simp
    · have := ih hx
      simp at this ⊢
      omega

def WholeC (lv : Nat) : Prop := ∀ c t r, okT lv t → c + sizeT lv t ≤ 4096 → (bytesT lv t).length ≤ 65536 → rdC lv c (bytesT lv t ++ r) = some (t, c + sizeT lv t, r)

theorem rdN_whole {lv : Nat} (hw : WholeC lv) : ∀ (ts : List T) (c : Nat) (r : List UInt8), (∀ x ∈ ts, okT lv x) → c + (ts.map (sizeT lv)).sum ≤ 4096 → (ts.flatMap (bytesT lv)).length ≤ 65536 →
    rdN (rdC lv) ts.length c (ts.flatMap (bytesT lv) ++ r) = some (ts, c + (ts.map (sizeT lv)).sum, r)
  | [], c, r, _, _, _ => by simp [rdN]
  | t :: ts, c, r, ho, hc, hl => by
    simp only [List.map_cons, List.sum_cons, List.flatMap_cons, List.length_append] at hc hl
    have h1 := hw c t (ts.flatMap (bytesT lv) ++ r) (ho t (by simp)) (by omega) (by omega)
    have h2 := rdN_whole hw ts (c + sizeT lv t) r (fun x hx => ho x (by simp [hx])) (by omega) (by omega)
    simp only [List.length_cons, List.flatMap_cons, List.append_assoc]
    unfold rdN
    rw [h1]
    simp only
    rw [h2]
    simp only [List.map_cons, List.sum_cons, Option.some.injEq, Prod.mk.injEq, true_and, and_true]
    omega

theorem rdC_whole : ∀ lv, WholeC lv
  | 0 => fun c t r ho _ _ => ho.elim
  | lv + 1 => fun c t r ho hc hl => by
    have ih := rdC_whole lv
    have hp := sizeT_pos (lv + 1) t
    obtain ⟨k, n, s, l⟩ := t
    have h0 : ¬ c = 4096 := by omega
    rcases ho with ⟨hk, hn1, hn2, hs, hlst⟩ | ⟨hk, hn, hs64, hlst⟩ | ⟨hk, hn, hs, hall⟩
    · simp only [T.kind, T.num, T.text, T.list] at hk hn1 hn2 hs hlst
      subst hk hs hlst
      have hz : zig n ≤ 18014398509481984 := by
        unfold zig
        split <;> omega
      have hcn := cntR_whole 8 true (zig n) r (by omega) (fun h => by cases h) (fun _ => by omega)
      simp only [bytesT, T.kind, T.num, if_true, List.cons_append]
      unfold rdC
      rw [if_neg h0]
      simp only [hcn]
      rw [if_pos (by decide), if_pos hz, unzig_zig]
      simp [sizeT, T.list]
    · simp only [T.kind, T.num, T.list, T.text] at hk hn hlst hs64
      subst hk hn hlst
      have hcn := cntR_whole 8 true s.size (s.data.toList ++ r) (by omega) (fun h => by cases h) (fun _ => by omega)
      have e : bytesT (lv + 1) (.mk 2 0 s []) ++ r = 2 :: (number s.size ++ (s.data.toList ++ r)) := by simp [bytesT, T.kind, T.text]
      rw [e]
      unfold rdC
      rw [if_neg h0]
      simp only [hcn]
      have hsl : s.size = s.data.toList.length := by rw [Array.length_toList]; rfl
      have hst : (⟨((s.data.toList ++ r).take s.size).toArray⟩ : ByteArray) = s := by
        rw [hsl, List.take_left]
      have hsd : (s.data.toList ++ r).drop s.size = r := by rw [hsl, List.drop_left]
      rw [if_neg (by decide), if_pos (by decide), if_pos (by rw [hsl, List.length_append]; omega), hst, hsd]
      simp [sizeT, T.list]
    · simp only [T.kind, T.num, T.text, T.list] at hk hn hs hall
      subst hk hn hs
      have hsz : sizeT (lv + 1) (.mk 3 0 ⟨#[]⟩ l) = 1 + (l.map (sizeT lv)).sum := rfl
      have hge := sum_ge lv l
      rw [hsz] at hc ⊢
      have e : bytesT (lv + 1) (.mk 3 0 ⟨#[]⟩ l) ++ r = 3 :: (number l.length ++ (l.flatMap (bytesT lv) ++ r)) := by simp [bytesT, T.kind, T.list]
      have hfl : (l.flatMap (bytesT lv)).length ≤ 65536 := by
        have e2 : bytesT (lv + 1) (.mk 3 0 ⟨#[]⟩ l) = 3 :: (number l.length ++ l.flatMap (bytesT lv)) := by simp [bytesT, T.kind, T.list]
        rw [e2, List.length_cons, List.length_append] at hl
        omega
      have hcn := cntR_whole 8 true l.length (l.flatMap (bytesT lv) ++ r) (by omega) (fun h => by cases h) (fun _ => by omega)
      have hrd := rdN_whole ih l (c + 1) r hall (by omega) hfl
      rw [e]
      unfold rdC
      rw [if_neg h0]
      simp only [hcn]
      rw [if_neg (by decide), if_neg (by decide), if_pos (by decide), if_pos (by omega), hrd]
      simp only [Option.some.injEq, Prod.mk.injEq, true_and, and_true]
      omega

/-- Which bytes are a cell's. -/
def Is (l : List UInt8) (t : T) : Prop := okT 12 t ∧ sizeT 12 t ≤ 4096 ∧ bytesT 12 t = l

theorem decode_iff (l : List UInt8) (hl : l.length ≤ 65536) (t : T) : (∃ c, rdC 12 0 l = some (t, c, [])) ↔ Is l t := by
  constructor
  · rintro ⟨c, h⟩
    obtain ⟨h1, h2, h3, h4⟩ := rdC_sound 12 0 l t c [] hl (by omega) h
    exact ⟨h4, by omega, by rw [h1]; simp⟩
  · rintro ⟨h1, h2, h3⟩
    have := rdC_whole 12 0 t [] h1 (by omega) (by rw [h3]; exact hl)
    rw [h3, List.append_nil] at this
    exact ⟨_, this⟩

theorem is_one {l : List UInt8} {t t' : T} (hl : l.length ≤ 65536) (h : Is l t) (h' : Is l t') : t = t' := by
  obtain ⟨c, hc⟩ := (decode_iff l hl t).2 h
  obtain ⟨c', hc'⟩ := (decode_iff l hl t').2 h'
  rw [hc] at hc'
  simp only [Option.some.injEq, Prod.mk.injEq] at hc'
  exact hc'.1

end Go.Proofs.Ytccddgohagakoaa
