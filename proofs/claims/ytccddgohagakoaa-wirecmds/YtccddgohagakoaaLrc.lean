/-
  The reference's Check of a cell: Depth, kind, many, by contracts, of any tree whose numbers may be too great.
-/
import Derived.Test.YtccddgohagakoaaLck
namespace Go.Proofs.Ytccddgohagakoaa
open Go.RowKit
attribute [local go_sem] cell?_more frozen?_more setCell_more size_more tape_more drew_more drewN_more more_drew more_drewN one_out plus_out plus_end lt_one le_p2 le_p3 le_p4 le_p5 le_p6 le_p7 le_p8 le_p9 le_p10 le_p11 le_p12 le_p13 le_p14 le_p15 le_p16 le_p17 le_p18 le_p19 le_p20 le_p21 le_p22 le_p23 le_p24 le_q0 le_q1 lt_q1 le_q2 lt_q2 le_q3 lt_q3 le_q4 lt_q4 le_q5 lt_q5 le_q6 lt_q6 le_q7 lt_q7 le_q8 lt_q8 le_q9 lt_q9 le_q10 lt_q10 le_q11 lt_q11 le_q12 lt_q12 le_q13 lt_q13 le_q14 lt_q14 le_q15 lt_q15 le_q16 lt_q16 le_q17 lt_q17 le_q18 lt_q18 le_q19 lt_q19 le_q20 lt_q20 le_q21 lt_q21 le_q22 lt_q22 le_q23 lt_q23 le_q24 lt_q24

def DepOk (d : Nat) : Prop := ∀ (t : T) (s : Value) (most : Int) (ok : Nat → Prop) (w : World), Tr ok d w s t.list → sizeT (d + 1) t ≤ 4096 → d ≤ 12 → 0 ≤ most → most ≤ 100 →
  Calls Try.prog 41 #[.agg #[.int .i64 t.kind, .int .i64 t.num, .string t.text, s], .int .i64 most] w fun e w' => (∃ n : Nat, e = .returned (.int .i64 n) ∧ n ≤ d + 1) ∧ Adds w w'

set_option maxRecDepth 20000 in
set_option maxHeartbeats 2000000 in
theorem dep_step (d : Nat) (ih : ∀ d', d = d' + 1 → DepOk d') : DepOk d := by
  intro t s most ok w ht hz hd h0 h1
  have HT : Hid _ := ht
  obtain ⟨ao, cap, rfl⟩ := ht.shape
  have HI : Hid _ := ih
  clear ht ih
  obtain ⟨k, n, x, ts⟩ := t
  simp only [T.kind, T.num, T.text, T.list] at *
  have hz' : 1 + (ts.map (sizeT d)).sum ≤ 4096 := hz
  have hlen : ts.length ≤ 4096 := by have := len_le_sum d ts; omega
  by_cases hm : most = 0
  · subst hm
    go_enter Try.func41, Try.ntmps41
    go_wp2
    go_ret
    exact ⟨⟨1, rfl, by omega⟩, (by repeat (first | with_reducible exact Adds.refl _ | with_reducible refine Adds.alloc ?_ _ | with_reducible refine Adds.more ?_ _ _ | with_reducible refine Adds.drew ?_ | with_reducible refine Adds.drewN ?_ _))⟩
  · have hm' : (most == 0) = false := by simpa using hm
    go_enter Try.func41, Try.ntmps41
    go_wp2
    go_loopw [5, 6] (fun nv iv wr => ∃ (i m : Nat), i ≤ ts.length ∧ iv = .int .i64 i ∧ nv = .int .i64 m ∧ m ≤ d ∧ Adds (w.alloc (.cells #[.int .i64 k, .int .i64 n, .string x, .slice ao ts.length cap] 43)) wr) (fun _ iv _ => ts.length - (intOf iv).toNat)
    case atStart => exact ⟨0, 0, by omega, rfl, rfl, by omega, Adds.refl _⟩
    case round =>
      obtain ⟨i, m, hi, rfl, rfl, hmd, os1, n1, rfl⟩ := hrel
      by_cases hlt : i < ts.length
      · have hltI : (i : Int) < (ts.length : Int) := by omega
        cases d with
        | zero =>
          obtain ⟨hnil, _⟩ := HT.out
          have hnil : ts = [] := hnil
          rw [hnil] at hlt
          simp at hlt
        | succ d =>
          obtain ⟨ao', cap', he, _, hx⟩ := HT.out
          simp only [Value.slice.injEq] at he
          obtain ⟨rfl, _, rfl⟩ := he
          rcases hx with hx | ⟨b, off, rfl, hb, _, hx⟩
          · have hx : ts = [] := hx
            rw [hx] at hlt
            simp at hlt
          obtain ⟨y, ⟨c0, c1, c2, c3⟩, _, hTy⟩ := hx i hlt
          have HX : Hid (∀ W, Adds w W → Calls Try.prog 41 #[.agg #[.int .i64 ts[i].kind, .int .i64 ts[i].num, .string ts[i].text, y], .int .i64 (most - 1)] W fun e w' => (∃ n : Nat, e = .returned (.int .i64 n) ∧ n ≤ d + 1) ∧ Adds W w') :=
            fun W hA => HI.out d rfl ts[i] y (most - 1) _ W (hTy.adds hA) (by have := sumT_next (d := d + 1) hlt; have := sumT_le (d + 1) ts (i + 1); omega) (by omega) (by omega) (by omega)
          obtain ⟨yo, yc, rfl⟩ := hTy.shape
          clear hx hTy
          generalize ts[i] = t at *
          go_wp2_with (go_at_call 41; refine (HX.out _ (by repeat (first | with_reducible exact Adds.refl _ | with_reducible refine Adds.alloc ?_ _ | with_reducible refine Adds.more ?_ _ _ | with_reducible refine Adds.drew ?_ | with_reducible refine Adds.drewN ?_ _))).mono ?_; rintro e w3 ⟨⟨q, rfl, hq⟩, os3, n3, rfl⟩)
          all_goals
            go_roundw
            case rel =>
              first
                | exact ⟨i + 1, q, by omega, by go_num, rfl, hq, (by repeat (first | with_reducible exact Adds.refl _ | with_reducible refine Adds.alloc ?_ _ | with_reducible refine Adds.more ?_ _ _ | with_reducible refine Adds.drew ?_ | with_reducible refine Adds.drewN ?_ _))⟩
                | exact ⟨i + 1, m, by omega, by go_num, rfl, hmd, (by repeat (first | with_reducible exact Adds.refl _ | with_reducible refine Adds.alloc ?_ _ | with_reducible refine Adds.more ?_ _ _ | with_reducible refine Adds.drew ?_ | with_reducible refine Adds.drewN ?_ _))⟩
            case measure => simp [intOf]; omega
      · have hltI : ¬ (i : Int) < (ts.length : Int) := by omega
        go_wp2
        go_ret
        exact ⟨⟨m + 1, by go_num, Nat.succ_le_succ hmd⟩, (by repeat (first | with_reducible exact Adds.refl _ | with_reducible refine Adds.alloc ?_ _ | with_reducible refine Adds.more ?_ _ _ | with_reducible refine Adds.drew ?_ | with_reducible refine Adds.drewN ?_ _))⟩

theorem depth_ok : ∀ d, DepOk d := by
  intro d
  induction d with
  | zero => exact dep_step 0 (fun d' e => by omega)
  | succ d ih =>
    exact dep_step (d + 1) (fun d' e => by
      have e' : d = d' := by omega
      subst e'
      exact ih)

def KindOk (d : Nat) : Prop := ∀ (t : T) (s : Value) (ok : Nat → Prop) (w : World), Tr ok d w s t.list → plT (d + 1) t → sizeT (d + 1) t ≤ 4096 →
  Calls Try.prog 42 #[.agg #[.int .i64 t.kind, .int .i64 t.num, .string t.text, s]] w fun e w' => e = .returned (.bool (!oddT (d + 1) t)) ∧ Adds w w'

set_option maxRecDepth 20000 in
set_option maxHeartbeats 2000000 in
theorem kind_num (n : Int) (ao : Option Addr) (cap : Nat) (w : World) :
    Calls Try.prog 42 #[.agg #[.int .i64 1, .int .i64 n, .string ⟨#[]⟩, .slice ao 0 cap]] w fun e w' => e = .returned (.bool (!bigN n)) ∧ Adds w w' := by
  have e : (!bigN n) = (decide (n ≤ 9007199254740992) && decide (-9007199254740992 ≤ n)) := by
    simp only [bigN, Bool.not_not, Bool.and_comm]
  rw [e]
  go_enter Try.func42, Try.ntmps42
  go_wp2
  go_loopw [3] (fun iv wr => iv = .int .i64 0 ∧ Adds (w.alloc (.cells #[.int .i64 1, .int .i64 n, .string ⟨#[]⟩, .slice ao 0 cap] 43)) wr) (fun _ _ => 0)
  case atStart => exact ⟨rfl, Adds.refl _⟩
  case round =>
    obtain ⟨rfl, os1, n1, rfl⟩ := hrel
    by_cases h1 : n ≤ 9007199254740992
    · by_cases h2 : -9007199254740992 ≤ n
      · go_wp2
        go_ret
        exact ⟨by simp [h1, h2], (by repeat (first | with_reducible exact Adds.refl _ | with_reducible refine Adds.alloc ?_ _ | with_reducible refine Adds.more ?_ _ _ | with_reducible refine Adds.drew ?_ | with_reducible refine Adds.drewN ?_ _))⟩
      · go_wp2
        go_ret
        exact ⟨by simp [h2], (by repeat (first | with_reducible exact Adds.refl _ | with_reducible refine Adds.alloc ?_ _ | with_reducible refine Adds.more ?_ _ _ | with_reducible refine Adds.drew ?_ | with_reducible refine Adds.drewN ?_ _))⟩
    · go_wp2
      go_ret
      exact ⟨by simp; intro h; omega, (by repeat (first | with_reducible exact Adds.refl _ | with_reducible refine Adds.alloc ?_ _ | with_reducible refine Adds.more ?_ _ _ | with_reducible refine Adds.drew ?_ | with_reducible refine Adds.drewN ?_ _))⟩

set_option maxRecDepth 20000 in
set_option maxHeartbeats 2000000 in
theorem kind_text (x : ByteArray) (ao : Option Addr) (cap : Nat) (w : World) :
    Calls Try.prog 42 #[.agg #[.int .i64 2, .int .i64 0, .string x, .slice ao 0 cap]] w fun e w' => e = .returned (.bool true) ∧ Adds w w' := by
  go_enter Try.func42, Try.ntmps42
  go_wp2
  go_loopw [3] (fun iv wr => iv = .int .i64 0 ∧ Adds (w.alloc (.cells #[.int .i64 2, .int .i64 0, .string x, .slice ao 0 cap] 43)) wr) (fun _ _ => 0)
  case atStart => exact ⟨rfl, Adds.refl _⟩
  case round =>
    obtain ⟨rfl, os1, n1, rfl⟩ := hrel
    go_wp2
    go_ret
    exact ⟨rfl, (by repeat (first | with_reducible exact Adds.refl _ | with_reducible refine Adds.alloc ?_ _ | with_reducible refine Adds.more ?_ _ _ | with_reducible refine Adds.drew ?_ | with_reducible refine Adds.drewN ?_ _))⟩

set_option maxRecDepth 20000 in
set_option maxHeartbeats 2000000 in
theorem kind_list (d : Nat) (ts : List T) (s : Value) (ok : Nat → Prop) (w : World) (ht : Tr ok d w s ts) (hok : ∀ x ∈ ts, plT d x) (hz : 1 + (ts.map (sizeT d)).sum ≤ 4096) (ih : ∀ d', d = d' + 1 → KindOk d') :
    Calls Try.prog 42 #[.agg #[.int .i64 3, .int .i64 0, .string ⟨#[]⟩, s]] w fun e w' => e = .returned (.bool (!(ts.any (oddT d)))) ∧ Adds w w' := by
  have HT : Hid _ := ht
  obtain ⟨ao, cap, rfl⟩ := ht.shape
  have HI : Hid _ := ih
  have HOK : Hid (∀ x ∈ ts, plT d x) := hok
  have hlen : ts.length ≤ 4096 := by have := len_le_sum d ts; omega
  have HB : Hid (∀ i (h : i < ts.length), oddT d ts[i] = true → ts.any (oddT d) = true) := fun i h ho => List.any_eq_true.2 ⟨_, List.getElem_mem h, ho⟩
  clear ht ih hok
  go_enter Try.func42, Try.ntmps42
  go_wp2
  go_loopw [3] (fun iv wr => ∃ i : Nat, i ≤ ts.length ∧ iv = .int .i64 i ∧ Hid (oddL d ts i = false) ∧ Adds (w.alloc (.cells #[.int .i64 3, .int .i64 0, .string ⟨#[]⟩, .slice ao ts.length cap] 43)) wr) (fun iv _ => ts.length - (intOf iv).toNat)
  case atStart => exact ⟨0, by omega, rfl, rfl, Adds.refl _⟩
  case round =>
    obtain ⟨i, hi, rfl, hO, os1, n1, rfl⟩ := hrel
    by_cases hlt : i < ts.length
    · have hltI : (i : Int) < (ts.length : Int) := by omega
      cases d with
      | zero =>
        obtain ⟨hnil, _⟩ := HT.out
        rw [hnil] at hlt
        simp at hlt
      | succ d =>
        obtain ⟨ao', cap', he, _, hx⟩ := HT.out
        simp only [Value.slice.injEq] at he
        obtain ⟨rfl, _, rfl⟩ := he
        rcases hx with hx | ⟨b, off, rfl, hb, _, hx⟩
        · rw [hx] at hlt
          simp at hlt
        obtain ⟨y, ⟨c0, c1, c2, c3⟩, _, hTy⟩ := hx i hlt
        have HX : Hid (∀ W, Adds w W → Calls Try.prog 42 #[.agg #[.int .i64 ts[i].kind, .int .i64 ts[i].num, .string ts[i].text, y]] W fun e w' => e = .returned (.bool (!oddT (d + 1) ts[i])) ∧ Adds W w') :=
          fun W hA => HI.out d rfl ts[i] y _ W (hTy.adds hA) (HOK.out _ (List.getElem_mem hlt)) (by have := sumT_next (d := d + 1) hlt; have := sumT_le (d + 1) ts (i + 1); omega)
        have HN : Hid (oddL (d + 1) ts (i + 1) = (oddL (d + 1) ts i || oddT (d + 1) ts[i])) := oddL_next hlt
        have HBI : Hid (oddT (d + 1) ts[i] = true → ts.any (oddT (d + 1)) = true) := HB.out i hlt
        obtain ⟨yo, yc, rfl⟩ := hTy.shape
        clear hx hTy
        generalize ts[i] = t at *
        cases ho : oddT (d + 1) t
        · rw [ho] at HX HN
          clear HBI ho
          go_wp2_with (go_at_call 42; refine (HX.out _ (by repeat (first | with_reducible exact Adds.refl _ | with_reducible refine Adds.alloc ?_ _ | with_reducible refine Adds.more ?_ _ _ | with_reducible refine Adds.drew ?_ | with_reducible refine Adds.drewN ?_ _))).mono ?_; rintro e w3 ⟨rfl, os3, n3, rfl⟩)
          go_roundw
          case rel => exact ⟨i + 1, by omega, by go_num, by show _ = _; rw [HN.out, hO.out]; rfl, (by repeat (first | with_reducible exact Adds.refl _ | with_reducible refine Adds.alloc ?_ _ | with_reducible refine Adds.more ?_ _ _ | with_reducible refine Adds.drew ?_ | with_reducible refine Adds.drewN ?_ _))⟩
          case measure => simp [intOf]; omega
        · rw [ho] at HX
          have HR : Hid (ts.any (oddT (d + 1)) = true) := HBI.out ho
          clear HBI ho HN
          go_wp2_with (go_at_call 42; refine (HX.out _ (by repeat (first | with_reducible exact Adds.refl _ | with_reducible refine Adds.alloc ?_ _ | with_reducible refine Adds.more ?_ _ _ | with_reducible refine Adds.drew ?_ | with_reducible refine Adds.drewN ?_ _))).mono ?_; rintro e w3 ⟨rfl, os3, n3, rfl⟩)
          go_ret
          exact ⟨by rw [HR.out]; rfl, (by repeat (first | with_reducible exact Adds.refl _ | with_reducible refine Adds.alloc ?_ _ | with_reducible refine Adds.more ?_ _ _ | with_reducible refine Adds.drew ?_ | with_reducible refine Adds.drewN ?_ _))⟩
    · have hltI : ¬ (i : Int) < (ts.length : Int) := by omega
      have HE : Hid (ts.any (oddT d) = false) := by
        show _ = _
        rw [← oddL_all]
        have : i = ts.length := by omega
        subst this
        exact hO.out
      go_wp2
      go_ret
      exact ⟨by rw [HE.out]; rfl, (by repeat (first | with_reducible exact Adds.refl _ | with_reducible refine Adds.alloc ?_ _ | with_reducible refine Adds.more ?_ _ _ | with_reducible refine Adds.drew ?_ | with_reducible refine Adds.drewN ?_ _))⟩

theorem kind_ok : ∀ d, KindOk d := by
  intro d
  induction d with
  | zero =>
    intro t s ok w ht hok hz
    obtain ⟨k, n, x, l⟩ := t
    simp only [T.kind, T.num, T.text, T.list] at *
    obtain ⟨rfl, ao, cap, rfl⟩ := ht
    rcases hok with ⟨rfl, rfl, _⟩ | ⟨rfl, rfl, h1, _⟩ | ⟨rfl, rfl, rfl, h1⟩
    · simpa [oddT, T.kind, T.num] using kind_num n ao cap w
    · simpa [oddT, T.kind, T.list] using kind_text x ao cap w
    · simpa [oddT, T.kind, T.list] using kind_list 0 [] (.slice ao 0 cap) ok w ⟨rfl, ao, cap, rfl⟩ (by simp) (by simp) (fun d' e => by omega)
  | succ d ih =>
    intro t s ok w ht hok hz
    obtain ⟨k, n, x, l⟩ := t
    simp only [T.kind, T.num, T.text, T.list] at *
    rcases hok with ⟨rfl, rfl, hls⟩ | ⟨rfl, rfl, h1, hls⟩ | ⟨rfl, rfl, rfl, h1⟩
    · simp only [T.list] at hls
      subst hls
      obtain ⟨ao, cap, rfl⟩ := ht.shape
      simpa [oddT, T.kind, T.num] using kind_num n ao cap w
    · simp only [T.list] at hls
      subst hls
      obtain ⟨ao, cap, rfl⟩ := ht.shape
      simpa [oddT, T.kind, T.list] using kind_text x ao cap w
    · simpa [oddT, T.kind, T.list] using kind_list (d + 1) l s ok w ht h1 hz (fun d' e => by
        have e' : d = d' := by omega
        subst e'
        exact ih)

end Go.Proofs.Ytccddgohagakoaa
