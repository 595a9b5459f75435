/-
  The walk of the statement RankKeys: it returns true, whatever list is handed in, and leaves all that was there as it was.
-/
import Derived.Test.YtgjcienechfapaaDoorBack
namespace Go.Proofs.YtgjcienechfapaaDoor
open Go.RowKit

theorem rowOf_get (l : List V) : ∀ j i (hj : j < l.length), i < 5 → (rowOf l)[j * 5 + i]? = (l[j].cellList)[i]? := by
  induction l with
  | nil => intro j i hj _; simp at hj
  | cons v l ih =>
    intro j i hj hi
    have e : rowOf (v :: l) = v.cellList ++ rowOf l := by simp [rowOf]
    have hl : v.cellList.length = 5 := rfl
    rw [e]
    cases j with
    | zero => rw [List.getElem?_append_left (by omega)]; simp
    | succ j =>
      rw [List.getElem?_append_right (by omega), show (j + 1) * 5 + i - v.cellList.length = j * 5 + i from by omega]
      exact ih j i (by simpa using hj) hi

theorem lst_of_row {w : World} {B : Nat} {v : Value} {l : List V} (h : w.ownsRow B 31 5 v l.length (rowOf l)) : Lst w v l := by
  obtain ⟨ao, cap, rfl⟩ := owns_len h
  refine ⟨ao, cap, rfl, ?_⟩
  by_cases hl : l = []
  · exact .inl hl
  · right
    rcases h.2 with ⟨hv, hn⟩ | ⟨g, cap', cur, hv, hb, hg, _⟩
    · exact absurd (List.eq_nil_of_length_eq_zero hn) hl
    · simp only [Value.slice.injEq] at hv
      obtain ⟨rfl, _, rfl⟩ := hv
      have hglt : g < w.heap.size := by
        by_cases hlt : g < w.heap.size
        · exact hlt
        · rw [Array.getElem?_eq_none (by omega)] at hg
          cases hg
      refine ⟨g, 0, rfl, hglt, fun j hj => ?_⟩
      have key : ∀ i, i < 5 → w.cell? ⟨g, 0 + j * 5 + i, none⟩ = (l[j].cellList)[i]? := by
        intro i hi
        rw [Nat.zero_add, h.cellAt (j * 5 + i) (by omega)]
        exact rowOf_get l j i hj hi
      have k0 := key 0 (by omega)
      exact ⟨k0, key 1 (by omega), key 2 (by omega), key 3 (by omega), key 4 (by omega)⟩

theorem news_of_lies {w : World} {b off : Nat} {l : List V} (h : Lies w b off l) : ∀ j u, (rowOf l)[j]? = some u → w.cell? ((⟨b, off, none⟩ : Addr).add j) = some u := by
  intro j u hu
  rw [Addr.add_lit]
  have hj : j < l.length * 5 := by
    by_cases h' : j < l.length * 5
    · exact h'
    · rw [List.getElem?_eq_none (by rw [rowOf_length]; omega)] at hu; cases hu
  have hq : j / 5 < l.length := by omega
  have hr : j % 5 < 5 := by omega
  have hjj : j / 5 * 5 + j % 5 = j := by omega
  have := rowOf_get l (j / 5) (j % 5) hq hr
  rw [hjj, hu] at this
  obtain ⟨c0, c1, c2, c3, c4⟩ := h (j / 5) hq
  generalize hm : j % 5 = r at *
  have hoff : off + j = off + j / 5 * 5 + r := by omega
  rw [hoff]
  match r, hr with
  | 0, _ => simp [V.cellList] at this; rw [this]; simpa using c0
  | 1, _ => simp [V.cellList] at this; rw [this]; exact c1
  | 2, _ => simp [V.cellList] at this; rw [this]; exact c2
  | 3, _ => simp [V.cellList] at this; rw [this]; exact c3
  | 4, _ => simp [V.cellList] at this; rw [this]; exact c4

theorem rowOf_one (l : List V) : ∀ u ∈ rowOf l, u.oneCell' = true := by
  intro u hu
  simp only [rowOf, List.mem_flatMap] at hu
  obtain ⟨v, _, hv⟩ := hu
  exact cellList_one v u hv

theorem cells_later {w W : World} {b off : Nat} {l : List V} (h : Lies w b off l) (hb : b < w.heap.size) (hbl : Below w.heap.size w W) {k : Nat} (hk : k < l.length) (p : Later W) :
    p.world.cell? ⟨b, off + k * 5, none⟩ = some (.int .i64 l[k].kind) ∧ p.world.cell? ⟨b, off + k * 5 + 1, none⟩ = some (.int .i64 l[k].num) ∧ p.world.cell? ⟨b, off + k * 5 + 2, none⟩ = some (.string l[k].text) ∧
    p.world.cell? ⟨b, off + k * 5 + 3, none⟩ = some (.int .i64 l[k].re) ∧ p.world.cell? ⟨b, off + k * 5 + 4, none⟩ = some (.int .i64 l[k].im) :=
  h.below (since_on hbl p.below) hb k hk

set_option maxHeartbeats 2000000 in
theorem keys_main (ao : Option Addr) (cap : Nat) (l : List V) (w : World) (hlo : l = [] ∨ ∃ b off, ao = some ⟨b, off, none⟩ ∧ b < w.heap.size ∧ Lies w b off l) (h100 : l.length ≤ 100) (X : ByteArray) (ea : Int)
    (hka : ∀ W s', Lst W s' l → Calls Tryd.prog 6 #[s'] W fun e w' => e = .returned (.tuple #[.string X, .int .i64 ea]) ∧ Below W.heap.size W w')
    (hkb : ∀ W s', Lst W s' l → Calls Tryd.prog 7 #[s'] W fun e w' => e = .returned (.tuple #[.string X, .int .i64 ea]) ∧ Below W.heap.size W w')
    (hpar : ea = 0 → decAll [] X.toList = some l) :
    Calls Tryd.prog 3 #[.slice ao l.length cap] w fun e w' => e = .returned (.bool true) ∧ Below w.heap.size w w' := by
  obtain ⟨i0, hi, hz0, hz1, hz2⟩ := info_parts Tryd.info31
  have hL : Lst w (.slice ao l.length cap) l := ⟨ao, cap, rfl, hlo⟩
  have hi100 : (l.length : Int) ≤ 100 := by omega
  by_cases hnil : l = []
  · subst hnil
    have hkA := fun W ao' cap' => hka W (.slice ao' 0 cap') ⟨ao', cap', rfl, .inl rfl⟩
    have hkB := fun W ao' cap' => hkb W (.slice ao' 0 cap') ⟨ao', cap', rfl, .inl rfl⟩
    clear hka hkb hi100 h100 hlo
    simp only [List.length_nil] at *
    cases ao
    all_goals
      go_enter Tryd.func3, Tryd.ntmps3
      go_wp2_with (first
        | (go_at_call 6; refine (hkA _ _ _).mono ?_; rintro e w2 ⟨rfl, hb2⟩; replace hb2 := since_on (since_new w _) hb2)
        | (go_at_call 7; refine (hkB _ _ _).mono ?_; rintro e w3 ⟨rfl, hb3⟩; replace hb3 := since_on hb2 hb3))
      go_loopw [7] (fun i wr => i = .int .i64 0 ∧ Below w.heap.size w wr) (fun _ _ => 0)
      case atStart => exact ⟨rfl, hb3⟩
      case round =>
        obtain ⟨rfl, hbl⟩ := hrel
        by_cases he : ea = 0
        · subst he
          have hpr := parse_any X
          rw [hpar rfl] at hpr
          simp only [ParseSays] at hpr
          go_wp2_with (first
            | (go_at_call 10; refine (hpr _).mono ?_; rintro e w5 ⟨⟨v5, rfl, hown5⟩, hb5⟩; replace hb5 := since_on hbl hb5; have hl5 := lst_of_row hown5)
            | (go_at_call 11; refine (same_any _ _ _ _ _ hl5 (hL.below hb5) (by simp) (by simp)).mono ?_; rintro e w6 ⟨rfl, hb6⟩; replace hb6 := since_on hb5 hb6; simp only [sameAll_eq, decide_true])
            | (go_at_call 5; refine (awake_any _).mono ?_; rintro e w7 ⟨rfl, hb7⟩; replace hb7 := since_on hb6 hb7))
          go_ret
          exact ⟨rfl, hb7⟩
        · go_wp2_with (go_at_call 5; refine (awake_any _).mono ?_; rintro e w7 ⟨rfl, hb7⟩; replace hb7 := since_on hbl hb7)
          go_ret
          exact ⟨rfl, hb7⟩
  · rcases hlo with h0 | ⟨b, off, rfl, hb, hl⟩
    · exact absurd h0 hnil
    have hpos : 0 < l.length := by
      cases l with
      | nil => exact absurd rfl hnil
      | cons x r => simp
    have hnews := fun o => news_of_lies (hl.below (since_new w o) hb)
    go_enter Tryd.func3, Tryd.ntmps3
    go_wp2_with (first
      | (at_builtin; refine wpList_append_grows _ rfl (.tmp 15) (.tmp 16) 22 rfl 31 i0 _ 5 48 Tryd.underlying22 hi hz0 hz1 hz2 rfl (by decide) (some ⟨w.heap.size, 0, none⟩) 0 0 [] rfl (fun h => by cases h) rfl (fun _ _ j u hj => by cases hj) ⟨b, off, none⟩ l.length cap (rowOf l) rfl (rowOf_length l) (hnews _) (rowOf_one l) (by omega) (by unfold maxLen; omega) (by omega) ?_; intro v1 w1 hown1 hgrow1; simp only [Nat.zero_add, List.nil_append] at hown1; have hb1 : Below w.heap.size w w1 := since_on (since_new _ _) ⟨hgrow1.os, hgrow1.tape, hgrow1.output, hgrow1.size, fun k hk => hgrow1.block k hk (by simp)⟩)
      | (go_at_call 6; refine (hka _ _ (lst_of_row hown1)).mono ?_; rintro e w2 ⟨rfl, hb2⟩; replace hb2 := since_on hb1 hb2)
      | (go_at_call 7; refine (hkb _ _ (hL.below hb2)).mono ?_; rintro e w3 ⟨rfl, hb3⟩; replace hb3 := since_on hb2 hb3))
    go_loopw [7] (fun i wr => ∃ k : Nat, k ≤ l.length ∧ i = .int .i64 k ∧ Below w.heap.size w wr) (fun i _ => l.length - (intOf i).toNat)
    case atStart => exact ⟨0, Nat.zero_le _, rfl, hb3⟩
    case round =>
      obtain ⟨k, hk, rfl, hbl⟩ := hrel
      by_cases hlt : k < l.length
      · have hcl := cells_later hl hb hbl hlt
        have c8 := check_any l[k]
        have c9 := refCheck_any l[k]
        generalize l[k] = x at *
        generalize x.check = q at *
        simp only [V.val] at c8 c9
        have hi1 : (k : Int) < (l.length : Int) := by omega
        go_wp2
        have q0 := fun p => (hcl p).1
        have q1 := fun p => (hcl p).2.1
        have q2 := fun p => (hcl p).2.2.1
        have q3 := fun p => (hcl p).2.2.2.1
        have q4 := fun p => (hcl p).2.2.2.2
        refine wp_region_quiet_later (by kernel_rfl) (by kernel_rfl) ?_
        repeat (go_big_quiet_step ((first | (go_at_call 8; exact Calls.later_of (c8 _)) | (go_at_call 9; exact Calls.later_of (c9 _)))))
        refine wpQuiet_nil ?_
        rintro _ ⟨p, rfl⟩
        clear q0 q1 q2 q3 q4
        replace hbl := since_on hbl p.below
        go_wp2
        go_roundw
        case rel => exact ⟨k + 1, by omega, by go_num, hbl⟩
        case measure => simp [intOf]; omega
      · have hke : k = l.length := by omega
        subst hke
        by_cases he : ea = 0
        · subst he
          have hpr := parse_any X
          rw [hpar rfl] at hpr
          simp only [ParseSays] at hpr
          go_wp2_with (first
            | (go_at_call 10; refine (hpr _).mono ?_; rintro e w5 ⟨⟨v5, rfl, hown5⟩, hb5⟩; replace hb5 := since_on hbl hb5; have hl5 := lst_of_row hown5)
            | (go_at_call 11; refine (same_any _ _ _ _ _ hl5 (hL.below hb5) (by omega) (by omega)).mono ?_; rintro e w6 ⟨rfl, hb6⟩; replace hb6 := since_on hb5 hb6; simp only [sameAll_eq, decide_true])
            | (go_at_call 5; refine (awake_any _).mono ?_; rintro e w7 ⟨rfl, hb7⟩; replace hb7 := since_on hb6 hb7))
          go_ret
          exact ⟨rfl, hb7⟩
        · go_wp2_with (go_at_call 5; refine (awake_any _).mono ?_; rintro e w7 ⟨rfl, hb7⟩; replace hb7 := since_on hbl hb7)
          go_ret
          exact ⟨rfl, hb7⟩

theorem rankKeys_any (s : Value) (l : List V) (w : World) (h : Lst w s l) (hmax : l.length ≤ 9223372036854775807) :
    Calls Tryd.prog 3 #[s] w fun e w' => e = .returned (.bool true) ∧ Below w.heap.size w w' := by
  obtain ⟨ao, cap, rfl, hlo⟩ := h
  by_cases h100 : l.length ≤ 100
  · by_cases h16 : l.length ≤ 16
    · refine keys_main ao cap l w hlo h100 (keyStr l) (firstBad l) (fun W s' hs => key_any s' l W hs h16) (fun W s' hs => refkey_any s' l W hs h16) ?_
      intro he
      rw [keyStr_ok he, decAll_back l [] (firstBad_ok he) (by simpa using h16)]
      rfl
    · refine keys_main ao cap l w hlo h100 ⟨#[]⟩ 3 (fun W s' hs => (key_long s' l W hs (by omega) (by omega)).mono fun _ _ ⟨h1, h2⟩ => ⟨h1, h2 ▸ Below.refl _ _⟩) (fun W s' hs => (refkey_long s' l W hs (by omega) (by omega)).mono fun _ _ ⟨h1, h2⟩ => ⟨h1, h2 ▸ Below.refl _ _⟩) ?_
      intro he
      cases he
  · have hi : (100 : Int) < (l.length : Int) := by omega
    go_enter Tryd.func3, Tryd.ntmps3
    go_wp2_with (go_at_call 5; refine (awake_any _).mono ?_; rintro e w7 ⟨rfl, hb7⟩)
    go_ret
    exact ⟨rfl, hb7⟩

end Go.Proofs.YtgjcienechfapaaDoor
