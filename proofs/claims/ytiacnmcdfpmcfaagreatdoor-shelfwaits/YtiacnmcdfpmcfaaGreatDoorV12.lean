/-
  Get of package paper, and the document's own, by contracts.
  The document's own word on which documents may be: the function May, by a contract.
  From a walk to a row: a call that returns true and leaves all old memory alone keeps every argument's reading.
  Arguments opened: a value of package api, and a document, as they lie in memory.
-/
import Derived.Test.YtiacnmcdfpmcfaaGreatDoorQ01
import Derived.Test.YtiacnmcdfpmcfaaGreatDoorRows
import Derived.ProofKit
import Derived.Lib.SmallJoins
namespace Go.Proofs.YtiacnmcdfpmcfaaGreatDoor
open Go.RowKit
attribute [local go_sem] cell?_more frozen?_more setCell_more size_more tape_more drew_more drewN_more more_drew more_drewN more_more one_out plus_out plus_end lt_one le_p2 le_p3 le_p4 le_p5 le_p6 le_p7 le_p8 le_p9 le_p10 le_p11 le_p12 le_p13 le_p14 le_p15 le_p16 le_p17 le_p18 le_p19 le_p20 le_p21 le_p22 le_p23 le_p24 le_q0 le_q1 lt_q1 le_q2 lt_q2 le_q3 lt_q3 le_q4 lt_q4 le_q5 lt_q5 le_q6 lt_q6 le_q7 lt_q7 le_q8 lt_q8 le_q9 lt_q9 le_q10 lt_q10 le_q11 lt_q11 le_q12 lt_q12 le_q13 lt_q13 le_q14 lt_q14 le_q15 lt_q15 le_q16 lt_q16 le_q17 lt_q17 le_q18 lt_q18 le_q19 lt_q19 le_q20 lt_q20 le_q21 lt_q21 le_q22 lt_q22 le_q23 lt_q23 le_q24 lt_q24

/-- Where a path is first: its place, or the length. -/
def firstAt (p : ByteArray) : List F → Nat
  | [] => 0
  | f :: r => if f.path.toList = p.toList then 0 else firstAt p r + 1

theorem firstAt_le (p : ByteArray) (l : List F) : firstAt p l ≤ l.length := by
  induction l with
  | nil => simp [firstAt]
  | cons f r ih => simp only [firstAt]; split <;> simp <;> omega

theorem firstAt_eq {p : ByteArray} {l : List F} {k : Nat} (hk : k < l.length) (hb : ∀ j (hj : j < l.length), j < k → ¬ l[j].path.toList = p.toList) (he : l[k].path.toList = p.toList) : firstAt p l = k := by
  induction l generalizing k with
  | nil => simp at hk
  | cons f r ih =>
    cases k with
    | zero => simp [firstAt]; simpa using he
    | succ k =>
      have h0 := hb 0 (by simp) (by omega)
      simp at h0
      simp only [firstAt, h0, if_false]
      rw [ih (k := k) (by simpa using hk) (fun j hj hjk => by have := hb (j + 1) (by simpa using hj) (by omega); simpa using this) (by simpa using he)]

theorem firstAt_none {p : ByteArray} {l : List F} (hb : ∀ j (hj : j < l.length), ¬ l[j].path.toList = p.toList) : firstAt p l = l.length := by
  induction l with
  | nil => rfl
  | cons f r ih =>
    have h0 := hb 0 (by simp)
    simp at h0
    simp only [firstAt, h0, if_false, List.length_cons]
    rw [ih (fun j hj => by have := hb (j + 1) (by simpa using hj); simpa using this)]

theorem firstAt_at {p : ByteArray} {l : List F} (h : firstAt p l < l.length) : l[firstAt p l].path.toList = p.toList := by
  induction l with
  | nil => simp at h
  | cons f r ih =>
    by_cases h0 : f.path.toList = p.toList
    · simp [firstAt, h0]
    · simp only [firstAt, h0, if_false, List.length_cons] at h
      have := ih (by omega)
      simpa [firstAt, h0] using this

/-- The place that the document's own Get tells. -/
def placeOf (p : ByteArray) (l : List F) : Int := if firstAt p l < l.length then firstAt p l else -1

theorem refGet_any (s : Value) (l : List F) (p : ByteArray) (w : World) (hl : Lst w s l) (hl6 : l.length ≤ 1000) :
    Calls Tryz.prog 146 #[s, .string p] w fun e w' => e = .returned (.int .i64 (placeOf p l)) ∧ w' = w := by
  obtain ⟨ao, cap, rfl, hcap, hlo⟩ := hl
  go_enter Tryz.func146, Tryz.ntmps146
  go_wp2
  go_loopw [5] (fun i wr => ∃ k : Nat, k ≤ l.length ∧ i = .int .i64 k ∧ (∀ j (hj : j < l.length), j < k → ¬ l[j].path.toList = p.toList) ∧ wr = w) (fun i _ => l.length - (intOf i).toNat)
  case atStart => exact ⟨0, Nat.zero_le _, rfl, fun j _ hj => absurd hj (by omega), rfl⟩
  case round =>
    obtain ⟨k, hk, rfl, hb, rfl⟩ := hrel
    by_cases hlt : k < l.length
    · rcases hlo with rfl | ⟨b, off, rfl, hbb, hll⟩
      · simp at hlt
      have c0 := (hll k hlt).1
      have hf := firstAt_eq (p := p) hlt hb
      have hn : ¬ l[k].path.toList = p.toList → (∀ j (hj : j < l.length), j < k + 1 → ¬ l[j].path.toList = p.toList) := by
        intro h j hj hjk
        by_cases e : j = k
        · subst e; exact h
        · exact hb j hj (by omega)
      generalize l[k].path = x at *
      by_cases hE : x.toList = p.toList
      · have HP : Hid (placeOf p l = (k : Int)) := by
          show placeOf p l = (k : Int)
          rw [placeOf, hf hE, if_pos hlt]
        clear hf hn hb
        go_wp2
        go_ret
        exact ⟨by rw [HP.out]; rfl, rfl⟩
      · have HN : Hid _ := hn hE
        have hE' : (x.toList == p.toList) = false := by simpa using hE
        clear hf hn hb
        go_wp2
        go_roundw
        case rel => exact ⟨k + 1, by omega, by go_num, HN.out, trivial⟩
        case measure => simp [intOf]; omega
    · have hk' : k = l.length := by omega
      subst hk'
      have HP : Hid (placeOf p l = -1) := by
        show placeOf p l = -1
        rw [placeOf, firstAt_none (fun j hj => hb j hj hj), if_neg (by omega)]
      clear hb
      go_wp2
      go_ret
      exact ⟨by rw [HP.out]; rfl, rfl⟩

/-- What Get tells: the first value of a path, or the empty value. -/
def got (p : ByteArray) (l : List F) : V := if h : firstAt p l < l.length then l[firstAt p l].val else ⟨0, 0, ⟨#[]⟩, 0, 0⟩

set_option maxHeartbeats 1000000 in
theorem get_any (s : Value) (l : List F) (p : ByteArray) (w : World) (hl : Lst w s l) (hl6 : l.length ≤ 1000) :
    Calls Tryz.prog 170 #[s, .string p] w fun e w' => e = .returned (.tuple #[(got p l).val, .bool (decide (firstAt p l < l.length))]) ∧ Adds w w' := by
  obtain ⟨ao, cap, rfl, hcap, hlo⟩ := hl
  go_enter Tryz.func170, Tryz.ntmps170
  go_wp2
  go_loopw [10] (fun i wr => ∃ k : Nat, k ≤ l.length ∧ i = .int .i64 k ∧ (∀ j (hj : j < l.length), j < k → ¬ l[j].path.toList = p.toList) ∧ Adds (w.alloc (.cells #[.int .i64 0, .int .i64 0, .string ⟨#[]⟩, .int .i64 0, .int .i64 0] 87)) wr) (fun i _ => l.length - (intOf i).toNat)
  case atStart => exact ⟨0, Nat.zero_le _, rfl, fun j _ hj => absurd hj (by omega), Adds.refl _⟩
  case round =>
    obtain ⟨k, hk, rfl, hb, os, n, rfl⟩ := hrel
    by_cases hlt : k < l.length
    · rcases hlo with rfl | ⟨b, off, rfl, hbb, hll⟩
      · simp at hlt
      obtain ⟨c0, c1, c2, c3, c4, c5⟩ := hll k hlt
      have hf := firstAt_eq (p := p) hlt hb
      have hn : ¬ l[k].path.toList = p.toList → (∀ j (hj : j < l.length), j < k + 1 → ¬ l[j].path.toList = p.toList) := by
        intro h j hj hjk
        by_cases e : j = k
        · subst e; exact h
        · exact hb j hj (by omega)
      have hg : l[k].path.toList = p.toList → got p l = l[k].val := by
        intro h
        have := hf h
        simp only [got, this, hlt, dif_pos]
      have hdl : decide (firstAt p l < l.length) = decide (firstAt p l < l.length) := rfl
      generalize l[k] = x at *
      by_cases hE : x.path.toList = p.toList
      · have HP : Hid (got p l = x.val) := hg hE
        have HD : Hid (decide (firstAt p l < l.length) = true) := by
          show decide (firstAt p l < l.length) = true
          rw [hf hE]; simp [hlt]
        clear hf hn hb hg hdl
        go_wp2
        refine bodyPost_ret (v := .tuple #[x.val.val, .bool true]) (by simp [results, Tryz.results170, go_sem, V.val]) rfl ⟨by rw [HP.out, HD.out], ?_⟩
        repeat (first | with_reducible exact Adds.refl _ | with_reducible refine Adds.alloc ?_ _ | with_reducible refine Adds.more ?_ _ _ | with_reducible refine Adds.drew ?_ | with_reducible refine Adds.drewN ?_ _)
      · have HN : Hid _ := hn hE
        have hE' : (x.path.toList == p.toList) = false := by simpa using hE
        clear hf hn hb hg hdl
        go_wp2
        go_roundw
        case rel =>
          refine ⟨k + 1, by omega, by go_num, HN.out, ?_⟩
          repeat (first | with_reducible exact Adds.refl _ | with_reducible refine Adds.alloc ?_ _ | with_reducible refine Adds.more ?_ _ _ | with_reducible refine Adds.drew ?_ | with_reducible refine Adds.drewN ?_ _)
        case measure => simp [intOf]; omega
    · have hk' : k = l.length := by omega
      subst hk'
      have hn := firstAt_none (fun j hj => hb j hj hj)
      have HD : Hid (decide (firstAt p l < l.length) = false) := by
        show decide (firstAt p l < l.length) = false
        rw [hn]; simp
      have HP : Hid (got p l = ⟨0, 0, ⟨#[]⟩, 0, 0⟩) := by
        show got p l = _
        rw [got, dif_neg (by omega)]
      clear hb hn
      go_wp2
      refine bodyPost_ret (v := .tuple #[V.val ⟨0, 0, ⟨#[]⟩, 0, 0⟩, .bool false]) (by simp [results, Tryz.results170, go_sem, V.val]) rfl ⟨by rw [HP.out, HD.out], ?_⟩
      repeat (first | with_reducible exact Adds.refl _ | with_reducible refine Adds.alloc ?_ _ | with_reducible refine Adds.more ?_ _ _ | with_reducible refine Adds.drew ?_ | with_reducible refine Adds.drewN ?_ _)

end Go.Proofs.YtiacnmcdfpmcfaaGreatDoor

namespace Go.Proofs.YtiacnmcdfpmcfaaGreatDoor
open Go.RowKit
attribute [local go_sem] cell?_more frozen?_more setCell_more size_more tape_more drew_more drewN_more more_drew more_drewN more_more one_out plus_out plus_end lt_one le_p2 le_p3 le_p4 le_p5 le_p6 le_p7 le_p8 le_p9 le_p10 le_p11 le_p12 le_p13 le_p14 le_p15 le_p16 le_p17 le_p18 le_p19 le_p20 le_p21 le_p22 le_p23 le_p24 le_q0 le_q1 lt_q1 le_q2 lt_q2 le_q3 lt_q3 le_q4 lt_q4 le_q5 lt_q5 le_q6 lt_q6 le_q7 lt_q7 le_q8 lt_q8 le_q9 lt_q9 le_q10 lt_q10 le_q11 lt_q11 le_q12 lt_q12 le_q13 lt_q13 le_q14 lt_q14 le_q15 lt_q15 le_q16 lt_q16 le_q17 lt_q17 le_q18 lt_q18 le_q19 lt_q19 le_q20 lt_q20 le_q21 lt_q21 le_q22 lt_q22 le_q23 lt_q23 le_q24 lt_q24
attribute [local go_sem] cell?_addTo

set_option maxHeartbeats 4000000 in
theorem refMay_any (s : Value) (fs : List F) (w : World) (h : Lst w s fs) (h40 : fs.length ≤ 1000) :
    Calls Tryz.prog 20 #[s] w fun e w' => e = .returned (.bool (decide (May fs))) ∧ Adds w w' := by
  obtain ⟨ao, cap, rfl, hcap, hlo⟩ := h
  go_enter Tryz.func20, Tryz.ntmps20
  go_wp2
  go_loopw [3] (fun i wr => ∃ k : Nat, k ≤ fs.length ∧ i = .int .i64 k ∧ (∀ j (hj : j < fs.length), j < k → Good fs j hj) ∧ Adds w wr) (fun i _ => fs.length - (intOf i).toNat)
  case atStart => exact ⟨0, Nat.zero_le _, rfl, fun j _ hj => absurd hj (by omega), Adds.refl _⟩
  case round =>
    obtain ⟨k, hk, rfl, hgood, os, n, rfl⟩ := hrel
    by_cases hlt : k < fs.length
    · rcases hlo with rfl | ⟨b, off, rfl, hb, hl⟩
      · simp at hlt
      obtain ⟨c0, c1, c2, c3, c4, c5⟩ := hl k hlt
      have hG : Good fs k hlt = (isPath fs[k].path = true ∧ fs[k].val.check = 0 ∧ (0 < k → lessP fs[k - 1].path fs[k].path = true)) := rfl
      obtain ⟨x, hx⟩ : ∃ x, x = fs[k] := ⟨_, rfl⟩
      rw [← hx] at hG c0 c1 c2 c3 c4 c5
      clear hx
      have hp := refPath_any x.path x.fits
      have hp : ∀ w, Calls Tryz.prog 39 #[.string x.path] w fun e w' => e = .returned (.bool (isPath x.path)) ∧ Adds w w' := fun w => (hp w).mono fun _ _ h => ⟨h.1, h.2 ▸ Adds.refl _⟩
      have hv := refCheck_any x.val
      obtain ⟨p, ⟨kind, num, text, re, im⟩, hpf⟩ := x
      simp only [V.val] at hp hv c0 c1 c2 c3 c4 c5 hG
      generalize isPath p = q1 at *
      generalize V.check ⟨kind, num, text, re, im⟩ = q2 at *
      have HG : Hid _ := hG
      clear hG
      cases q1
      · go_wp2
        refine wp_region_adds (by kernel_rfl) (by kernel_rfl) ?_
        repeat (go_big_quiet_step ((first | (go_at_call 39; exact Calls.adds_of (hp _)) | (go_at_call 40; exact Calls.adds_of (hv _)))))
        refine wpQuiet_nil ?_
        rintro _ ⟨pl, rfl⟩
        unfold addTo
        go_wp2
        go_ret
        refine ⟨by rw [decide_eq_false (may_bad (h := hlt) (by rw [HG.out]; simp))]; rfl, ?_⟩
        repeat (first | with_reducible exact Adds.refl _ | with_reducible refine Adds.alloc ?_ _ | with_reducible refine Adds.more ?_ _ _ | with_reducible refine Adds.drew ?_ | with_reducible refine Adds.drewN ?_ _)
      by_cases hq2 : q2 = 0
      · subst hq2
        by_cases hk0 : k = 0
        · subst hk0
          simp only [Nat.zero_mul, Nat.add_zero] at c0 c1 c2 c3 c4 c5
          go_wp2
          refine wp_region_adds (by kernel_rfl) (by kernel_rfl) ?_
          repeat (go_big_quiet_step ((first | (go_at_call 39; exact Calls.adds_of (hp _)) | (go_at_call 40; exact Calls.adds_of (hv _)))))
          refine wpQuiet_nil ?_
          rintro _ ⟨pl, rfl⟩
          unfold addTo
          go_wp2
          go_roundw
          case rel =>
            refine ⟨1, by omega, by go_num, ?_, ?_⟩
            · intro j hj hj1
              have : j = 0 := by omega
              subst this
              rw [HG.out]
              simp
            · repeat (first | with_reducible exact Adds.refl _ | with_reducible refine Adds.alloc ?_ _ | with_reducible refine Adds.more ?_ _ _ | with_reducible refine Adds.drew ?_ | with_reducible refine Adds.drewN ?_ _)
          case measure => simp [intOf]; omega
        · obtain ⟨m, rfl⟩ : ∃ m, k = m + 1 := ⟨k - 1, by omega⟩
          have hd := (hl m (by omega)).1
          have hG' : Good fs (m + 1) hlt = (lessP fs[m].path p = true) := by simpa using HG.out
          have HG' : Hid _ := hG'
          clear hG'
          clear HG
          generalize hP : fs[m].path = pm at *
          clear hP
          have hL : lessP pm p = Op.bytesLess pm.toList p.toList := rfl
          obtain ⟨q, hq⟩ : ∃ q, lessP pm p = q := ⟨_, rfl⟩
          rw [hq] at hL
          have hm1 : ((m + 1 : Nat) : Int) = (m : Int) + 1 := by omega
          have hw1 : IntKind.i64.wrap (m : Int) = m := by rw [IntKind.wrap_i64]; omega
          have hml : m < fs.length := by omega
          have hq' : Op.bytesLess pm.toList p.toList = q := hL.symm
          clear hL
          go_wp2
          refine wp_region_adds (by kernel_rfl) (by kernel_rfl) ?_
          repeat (go_big_quiet_step ((first | (go_at_call 39; exact Calls.adds_of (hp _)) | (go_at_call 40; exact Calls.adds_of (hv _)))))
          refine wpQuiet_nil ?_
          rintro _ ⟨pl, rfl⟩
          unfold addTo
          cases q
          · go_wp2
            go_ret
            refine ⟨by rw [decide_eq_false (may_bad (h := hlt) (by rw [HG'.out, hq]; simp))]; rfl, ?_⟩
            repeat (first | with_reducible exact Adds.refl _ | with_reducible refine Adds.alloc ?_ _ | with_reducible refine Adds.more ?_ _ _ | with_reducible refine Adds.drew ?_ | with_reducible refine Adds.drewN ?_ _)
          · go_wp2
            go_roundw
            case rel =>
              refine ⟨m + 2, by omega, by go_num, ?_, ?_⟩
              · intro j hj hj2
                by_cases e : j = m + 1
                · subst e
                  rw [HG'.out, hq]
                · exact hgood j hj (by omega)
              · repeat (first | with_reducible exact Adds.refl _ | with_reducible refine Adds.alloc ?_ _ | with_reducible refine Adds.more ?_ _ _ | with_reducible refine Adds.drew ?_ | with_reducible refine Adds.drewN ?_ _)
            case measure => simp [intOf]; omega
      · have hq2' : (q2 != 0) = true := by simp [hq2]
        go_wp2
        refine wp_region_adds (by kernel_rfl) (by kernel_rfl) ?_
        repeat (go_big_quiet_step ((first | (go_at_call 39; exact Calls.adds_of (hp _)) | (go_at_call 40; exact Calls.adds_of (hv _)))))
        refine wpQuiet_nil ?_
        rintro _ ⟨pl, rfl⟩
        unfold addTo
        go_wp2
        go_ret
        refine ⟨by rw [decide_eq_false (may_bad (h := hlt) (by rw [HG.out]; simp [hq2]))]; rfl, ?_⟩
        repeat (first | with_reducible exact Adds.refl _ | with_reducible refine Adds.alloc ?_ _ | with_reducible refine Adds.more ?_ _ _ | with_reducible refine Adds.drew ?_ | with_reducible refine Adds.drewN ?_ _)
    · have hk' : k = fs.length := by omega
      subst hk'
      have hM : decide (May fs) = decide ((fs.length : Int) ≤ 16) := by
        by_cases h16 : fs.length ≤ 16
        · have hm : May fs := ⟨h16, fun j hj => hgood j hj hj⟩
          rw [decide_eq_true hm]
          have : (fs.length : Int) ≤ 16 := by omega
          simp [this]
        · have hm : ¬ May fs := fun hm => h16 hm.1
          rw [decide_eq_false hm]
          have : ¬ (fs.length : Int) ≤ 16 := by omega
          simp [this]
      have HM : Hid _ := hM
      clear hM
      go_wp2
      go_ret
      refine ⟨by rw [HM.out]; simp, ?_⟩
      repeat (first | with_reducible exact Adds.refl _ | with_reducible refine Adds.alloc ?_ _ | with_reducible refine Adds.more ?_ _ _ | with_reducible refine Adds.drew ?_ | with_reducible refine Adds.drewN ?_ _)

end Go.Proofs.YtiacnmcdfpmcfaaGreatDoor

namespace Go.Proofs.YtiacnmcdfpmcfaaGreatDoor
open Go.ChangeShapes Go.WideShapes Go.ChangeAt Go.RowKit

theorem Tryz.own : ownKnob Tryz.prog.godebug = none := by kernel_rfl
theorem Tryz.laidOut : laidOutB Tryz.prog = true := by kernel_rfl

theorem trodAll_below {H : Type} {enc : TypeId × Value → H} {P : Program} (hl : laidOutB P = true) {W W' : World} (hb : Below W.heap.size W W') :
    ∀ (ts : List TypeId) (vs : List Value) (ds : List (DataW H)) (ps : List MemPlace), (∀ t ∈ ts, P.readableRec t = true ∧ t < P.types.size) → (∀ x ∈ ps, x.block < W.heap.size) →
      DataW.TrodAll enc P W 0 (fun _ => true) true ts vs ds ps → DataW.TrodAll enc P W' 0 (fun b => decide (b < W.heap.size)) true ts vs ds ps
  | [], [], [], ps, _, _, h => h
  | t :: ts, v :: vs, d :: ds, ps, hr, hlt, h => by
    obtain ⟨p, q, h1, h2, rfl⟩ := h
    have ht := hr t (by simp)
    exact ⟨p, q, Below.trod hl ht.1 ht.2 h1 hb (fun x hx => hlt x (by simp [hx])), trodAll_below hl hb ts vs ds q (fun t ht => hr t (by simp [ht])) (fun x hx => hlt x (by simp [hx])) h2, rfl⟩
  | [], [], _ :: _, _, _, _, h => h.elim
  | [], _ :: _, _, _, _, _, h => h.elim
  | _ :: _, [], _, _, _, _, h => h.elim
  | _ :: _, _ :: _, [], _, _, _, h => h.elim

theorem law_post {H : Type} {enc : TypeId × Value → H} {P : Program} {fn : Func} {s : ChangeSpec} {W W' : World} {args : Array Value} {ds : List (DataW H)} {before : List MemPlace} {tb : TypeId}
    (hl : laidOutB P = true) (hvars : s.vars = []) (hW : DataW.Whole enc P fn.params.toList s.vars false W args.toList ds [] before) (hres : fn.resultTypes = #[tb]) (htb : P.underlying tb = some .bool)
    (hr : ∀ t ∈ fn.params.toList, P.readableRec t = true ∧ t < P.types.size) (hfn : s.fn H (ds ++ []) = { results := [.lit (.bool true)], args := ds }) (hb : Below W.heap.size W W') :
    s.post enc P fn false true false false W args (.bool true) W' := by
  have hW' := hW
  obtain ⟨p, q, hA, hV, rfl, _, _⟩ := hW
  refine ⟨ds, [], _, [], p, [], hW', ?_, ?_, ?_, hb.frame _, fun h => by cases h⟩
  · rw [hfn, hres]
    exact trodAll_mk1 (shut_bool htb true)
  · rw [hfn]
    exact trodAll_below hl hb _ _ _ _ hr (fun x hx => by simpa using hW'.lt x (by simp [hx])) hA
  · rw [hfn, hvars]
    rfl

end Go.Proofs.YtiacnmcdfpmcfaaGreatDoor

namespace Go.Proofs.YtiacnmcdfpmcfaaGreatDoor
open Go.ChangeShapes Go.WideShapes Go.ChangeAt Go.RowKit Go.Joins Go.ChangeMaps

theorem Tryz.cells89 : Tryz.prog.cellsOf 89 = 6 := by kernel_rfl
theorem Tryz.cells87 : Tryz.prog.cellsOf 87 = 5 := by kernel_rfl
theorem Tryz.cells85 : Tryz.prog.cellsOf 85 = 2 := by kernel_rfl
theorem Tryz.cells3 : Tryz.prog.cellsOf 3 = 1 := by kernel_rfl
theorem Tryz.cells9 : Tryz.prog.cellsOf 9 = 1 := by kernel_rfl

def V.cellList (v : V) : List Value := [.int .i64 v.kind, .int .i64 v.num, .string v.text, .int .i64 v.re, .int .i64 v.im]
def F.cellList (f : F) : List Value := [.string f.path, .int .i64 f.val.kind, .int .i64 f.val.num, .string f.val.text, .int .i64 f.val.re, .int .i64 f.val.im]

set_option maxRecDepth 20000 in
theorem trod_V {H : Type} {enc : TypeId × Value → H} {w : World} {base : Nat} {sp : Nat → Bool} {held : Bool} {fuel : Nat} {cs : List Value} {x : DataW H × List MemPlace}
    (h : DataW.trod enc Tryz.prog w base sp held fuel 87 cs = some x) : ∃ v : V, cs = v.cellList := by
  obtain ⟨y0, y1, y2, y3, n, _, hl, h0, h1, h2, h3⟩ := trod_struct4 Tryz.underlying87 h
  rw [Tryz.cells87] at hl
  match cs, hl with
  | [c0, c1, c2, c3, c4], _ =>
    simp only [Tryz.cells3, Tryz.cells9, Tryz.cells85, List.drop_zero, List.take_succ_cons, List.take_zero, List.drop_succ_cons] at h0 h1 h2 h3
    obtain ⟨k, e0, _, _⟩ := DataW.trod_int Tryz.underlying3 h0
    obtain ⟨m, e1, _, _⟩ := DataW.trod_int Tryz.underlying3 h1
    obtain ⟨s, e2, _⟩ := DataW.trod_string Tryz.underlying9 h2
    obtain ⟨z0, z1, n', _, _, g0, g1⟩ := trod_struct2 Tryz.underlying85 h3
    simp only [Tryz.cells3, List.drop_zero, List.take_succ_cons, List.take_zero, List.drop_succ_cons] at g0 g1
    obtain ⟨re, e3, _, _⟩ := DataW.trod_int Tryz.underlying3 g0
    obtain ⟨im, e4, _, _⟩ := DataW.trod_int Tryz.underlying3 g1
    simp at e0 e1 e2 e3 e4
    subst e0 e1 e2 e3 e4
    exact ⟨⟨k, m, s, re, im⟩, rfl⟩

set_option maxRecDepth 20000 in
theorem open_V {H : Type} {enc : TypeId × Value → H} {w : World} {base b0 : Nat} {r : Reach} {sp : Nat → Bool} {held : Bool} {v : Value} {d : DataW H} {ps : List MemPlace}
    (hv : Value.okWide Tryz.prog w r b0 87 v) (h : DataW.Trod enc Tryz.prog w base sp held 87 v d ps) : ∃ x : V, v = x.val := by
  obtain ⟨cs, rfl, hsz⟩ := okWide_struct Tryz.underlying87 hv
  obtain ⟨fuel, hf⟩ := h
  obtain ⟨x, hx⟩ := trod_V hf
  refine ⟨x, ?_⟩
  simp only [Value.cells] at hx
  unfold V.val
  congr 1
  apply Array.toList_inj.1
  exact hx

set_option maxRecDepth 20000 in
theorem trod_F {H : Type} {enc : TypeId × Value → H} {w : World} {base : Nat} {sp : Nat → Bool} {held : Bool} {fuel : Nat} {cs : List Value} {x : DataW H × List MemPlace}
    (h : DataW.trod enc Tryz.prog w base sp held fuel 89 cs = some x) : ∃ f : F, cs = f.cellList := by
  obtain ⟨y0, y1, n, _, hl, h0, h1⟩ := trod_struct2 Tryz.underlying89 h
  rw [Tryz.cells89] at hl
  match cs, hl with
  | [c0, c1, c2, c3, c4, c5], _ =>
    simp only [Tryz.cells9, Tryz.cells87, List.drop_zero, List.take_succ_cons, List.take_zero, List.drop_succ_cons] at h0 h1
    obtain ⟨p, e0, _, hp⟩ := DataW.trod_string Tryz.underlying9 h0
    obtain ⟨v, hv⟩ := trod_V h1
    simp [V.cellList] at e0 hv
    obtain ⟨rfl, rfl, rfl, rfl, rfl⟩ := hv
    subst e0
    exact ⟨⟨p, v, hp⟩, rfl⟩

set_option maxRecDepth 20000 in
theorem open_Lst {H : Type} {enc : TypeId × Value → H} {w : World} {b0 : Nat} {r : Reach} {v : Value} {d : DataW H} {ps : List MemPlace}
    (hv : Value.okWide Tryz.prog w r b0 26 v) (h : DataW.Trod enc Tryz.prog w 0 (fun _ => true) true 26 v d ps) (hlt : ∀ x ∈ ps, x.block < w.heap.size) :
    ∃ fs, Lst w v fs := by
  obtain ⟨a0, len, cap, rfl⟩ := okWide_slice Tryz.underlying26 hv
  obtain ⟨fuel, hf⟩ := h
  rcases Deep.open_slice Tryz.underlying26 hf with ⟨hcs, hx⟩ | ⟨a, len', cap', m, n, D, Pl, hcs, _, hl, hm, hmm, hx, hcell⟩
  · simp [Value.cells] at hcs
    obtain ⟨rfl, rfl, rfl⟩ := hcs
    exact ⟨[], none, 0, rfl, Nat.le_refl _, .inl rfl⟩
  · simp [Value.cells] at hcs
    obtain ⟨rfl, rfl, rfl⟩ := hcs
    simp only [if_true] at hmm
    subst hmm
    have each : ∀ i, i < len → ∃ x : F, ∀ j (hj : j < 6), w.cell? (a.add (i * 6 + j)) = some (x.cellList[j]'(by simpa [F.cellList] using hj)) := by
      intro i hi
      obtain ⟨cs', h1, h2⟩ := hcell i (by omega)
      rw [Tryz.cells89] at h1
      obtain ⟨_, hlen, hc⟩ := World.cells?_some h1
      obtain ⟨x, rfl⟩ := trod_F h2
      refine ⟨x, fun j hj => ?_⟩
      have := hc j (by omega)
      rw [Deep.add_add] at this
      rw [this]
      simp [F.cellList, hj]
    by_cases hl0 : len = 0
    · subst hl0
      exact ⟨[], some a, _, rfl, Nat.zero_le _, .inl rfl⟩
    obtain ⟨b, off, spot⟩ := a
    have hspot : spot = none := by
      obtain ⟨x, hx⟩ := each 0 (by omega)
      simpa [Addr.add] using World.cell?_spot (hx 0 (by omega))
    subst hspot
    have hbW : b < w.heap.size := by
      simp only [Prod.mk.injEq] at hx
      refine hlt (.cell b off) ?_
      rw [hx.2]
      refine List.mem_append.2 (.inl (MemPlace.mem_row.2 ⟨0, ?_, by simp⟩))
      rw [Tryz.cells89]
      omega
    have : Nonempty F := ⟨⟨⟨#[]⟩, ⟨0, 0, ⟨#[]⟩, 0, 0⟩, by decide⟩⟩
    obtain ⟨X, hX⟩ : ∃ X : Nat → F, ∀ i, i < len → ∀ j (hj : j < 6), w.cell? ((⟨b, off, none⟩ : Addr).add (i * 6 + j)) = some ((X i).cellList[j]'(by simpa [F.cellList] using hj)) :=
      ⟨fun i => if h : i < len then (each i h).choose else Classical.choice this, fun i hi => by simp only [hi, dif_pos]; exact (each i hi).choose_spec⟩
    refine ⟨(List.range len).map X, some ⟨b, off, none⟩, m, by simp, by simp; omega, .inr ⟨b, off, rfl, hbW, ?_⟩⟩
    intro i hi
    have hi' : i < len := by simpa using hi
    have hq := hX i hi'
    have c0 := hq 0 (by omega)
    have c1 := hq 1 (by omega)
    have c2 := hq 2 (by omega)
    have c3 := hq 3 (by omega)
    have c4 := hq 4 (by omega)
    have c5 := hq 5 (by omega)
    simp only [Addr.add_lit] at c0 c1 c2 c3 c4 c5
    simp only [List.getElem_map, List.getElem_range]
    refine ⟨?_, ?_, ?_, ?_, ?_, ?_⟩
    · simpa [F.cellList] using c0
    · simpa [F.cellList, Nat.add_assoc] using c1
    · simpa [F.cellList, Nat.add_assoc] using c2
    · simpa [F.cellList, Nat.add_assoc] using c3
    · simpa [F.cellList, Nat.add_assoc] using c4
    · simpa [F.cellList, Nat.add_assoc] using c5

end Go.Proofs.YtiacnmcdfpmcfaaGreatDoor
