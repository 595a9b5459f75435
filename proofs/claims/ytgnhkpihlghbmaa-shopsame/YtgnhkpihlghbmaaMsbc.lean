/-
  What is asked, as it lies; the function get of package shop, and whether one may not be of a batch. slices.IndexFunc and slices.ContainsFunc of those that may not be of a batch. The function batch of package shop, by contract.
-/
import Derived.Test.YtgnhkpihlghbmaaMstw
import Derived.Test.YtgnhkpihlghbmaaFdn
import Derived.Test.YtgnhkpihlghbmaaMshm
namespace Go.Proofs.Ytgnhkpihlghbmaa
open Go.RowKit
attribute [local go_sem] cell?_more frozen?_more setCell_more size_more tape_more drew_more drewN_more more_drew more_drewN one_out plus_out plus_end lt_one le_p2 le_p3 le_p4 le_p5 le_p6 le_p7 le_p8 le_p9 le_p10 le_p11 le_p12 le_p13 le_p14 le_p15 le_p16 le_p17 le_p18 le_p19 le_p20 le_p21 le_p22 le_p23 le_p24 le_q0 le_q1 lt_q1 le_q2 lt_q2 le_q3 lt_q3 le_q4 lt_q4 le_q5 lt_q5 le_q6 lt_q6 le_q7 lt_q7 le_q8 lt_q8 le_q9 lt_q9 le_q10 lt_q10 le_q11 lt_q11 le_q12 lt_q12 le_q13 lt_q13 le_q14 lt_q14 le_q15 lt_q15 le_q16 lt_q16 le_q17 lt_q17 le_q18 lt_q18 le_q19 lt_q19 le_q20 lt_q20 le_q21 lt_q21 le_q22 lt_q22 le_q23 lt_q23 le_q24 lt_q24

/-- One that is asked, its slices beside. -/
structure Qv where
  q : Qs
  dv : Value
  wv : Value
  lv : Value
  sv : Value
  nv : Value

def Qv.val (v : Qv) : Value := opV v.q v.dv v.wv v.lv v.sv v.nv

/-- What it lies upon. -/
def QvOk (w : World) (v : Qv) : Prop := Lst w v.dv v.q.doc ∧ v.q.doc.length ≤ 1000 ∧ Lst w v.wv v.q.want ∧ v.q.want.length ≤ 1000 ∧ (∃ a n c, v.lv = .slice a n c) ∧ (∃ a n c, v.sv = .slice a n c) ∧ (∃ a n c, v.nv = .slice a n c)

theorem QvOk.adds {w w' : World} {v : Qv} (h : QvOk w v) (hA : Adds w w') : QvOk w' v := ⟨h.1.adds hA, h.2.1, h.2.2.1.adds hA, h.2.2.2.1, h.2.2.2.2⟩

def LiesO (w : World) (b off : Nat) (os : List Qv) : Prop := ∀ j (h : j < os.length),
  (w.cell? ⟨b, off + j * 11, none⟩ = some (.int .i64 os[j].q.kind) ∧ w.cell? ⟨b, off + j * 11 + 1, none⟩ = some (.string os[j].q.key) ∧ w.cell? ⟨b, off + j * 11 + 2, none⟩ = some (.string os[j].q.to) ∧
   w.cell? ⟨b, off + j * 11 + 3, none⟩ = some os[j].dv ∧ w.cell? ⟨b, off + j * 11 + 4, none⟩ = some os[j].wv ∧ w.cell? ⟨b, off + j * 11 + 5, none⟩ = some (.bool os[j].q.has) ∧
   w.cell? ⟨b, off + j * 11 + 6, none⟩ = some (.int .i64 os[j].q.n) ∧ w.cell? ⟨b, off + j * 11 + 7, none⟩ = some (.int .i64 os[j].q.most) ∧ w.cell? ⟨b, off + j * 11 + 8, none⟩ = some os[j].lv ∧
   w.cell? ⟨b, off + j * 11 + 9, none⟩ = some os[j].sv ∧ w.cell? ⟨b, off + j * 11 + 10, none⟩ = some os[j].nv) ∧ QvOk w os[j]

theorem LiesO.adds {w w' : World} {b off : Nat} {os : List Qv} (h : LiesO w b off os) (hA : Adds w w') (hb : b < w.heap.size) : LiesO w' b off os := by
  intro j hj
  obtain ⟨⟨h0, h1, h2, h3, h4, h5, h6, h7, h8, h9, h10⟩, hq⟩ := h j hj
  have q := hA.below
  exact ⟨⟨(q.cell (by exact hb)).trans h0, (q.cell (by exact hb)).trans h1, (q.cell (by exact hb)).trans h2, (q.cell (by exact hb)).trans h3, (q.cell (by exact hb)).trans h4, (q.cell (by exact hb)).trans h5, (q.cell (by exact hb)).trans h6, (q.cell (by exact hb)).trans h7, (q.cell (by exact hb)).trans h8, (q.cell (by exact hb)).trans h9, (q.cell (by exact hb)).trans h10⟩, hq.adds hA⟩

/-- The slice s has those that are asked. -/
def LstO (w : World) (s : Value) (os : List Qv) : Prop :=
  ∃ ao cap, s = .slice ao os.length cap ∧ os.length ≤ cap ∧ (os = [] ∨ ∃ b off, ao = some ⟨b, off, none⟩ ∧ b < w.heap.size ∧ LiesO w b off os)

theorem LstO.adds {w w' : World} {s : Value} {os : List Qv} (h : LstO w s os) (hA : Adds w w') : LstO w' s os := by
  obtain ⟨ao, cap, rfl, hc, h⟩ := h
  refine ⟨ao, cap, rfl, hc, ?_⟩
  rcases h with h | ⟨b, off, rfl, hb, hl⟩
  · exact .inl h
  · exact .inr ⟨b, off, rfl, Nat.lt_of_lt_of_le hb hA.below.size, hl.adds hA hb⟩

/-- May one not be of a batch? -/
def aloneQ (q : Qs) : Bool := !decide (q.kind = 1 ∨ q.kind = 2 ∨ q.kind = 3)

set_option maxRecDepth 20000 in
set_option maxHeartbeats 1000000 in
theorem alone_any (v : Qv) (w : World) : Calls Try.prog 63 #[v.val] w fun e w' => e = .returned (.bool (aloneQ v.q)) ∧ Adds w w' := by
  obtain ⟨⟨kind, key, to, doc, want, has, n, most⟩, dv, wv, lv, sv, nv⟩ := v
  simp only [Qv.val, opV, aloneQ]
  by_cases h1 : kind = 1
  · subst h1
    go_enter Try.func63, Try.ntmps63
    go_wp2
    go_ret
    exact ⟨by simp, (by repeat (first | with_reducible exact Adds.refl _ | with_reducible refine Adds.alloc ?_ _ | with_reducible refine Adds.more ?_ _ _ | with_reducible refine Adds.drew ?_ | with_reducible refine Adds.drewN ?_ _))⟩
  by_cases h2 : kind = 2
  · subst h2
    go_enter Try.func63, Try.ntmps63
    go_wp2
    go_ret
    exact ⟨by simp, (by repeat (first | with_reducible exact Adds.refl _ | with_reducible refine Adds.alloc ?_ _ | with_reducible refine Adds.more ?_ _ _ | with_reducible refine Adds.drew ?_ | with_reducible refine Adds.drewN ?_ _))⟩
  by_cases h3 : kind = 3
  · subst h3
    go_enter Try.func63, Try.ntmps63
    go_wp2
    go_ret
    exact ⟨by simp, (by repeat (first | with_reducible exact Adds.refl _ | with_reducible refine Adds.alloc ?_ _ | with_reducible refine Adds.more ?_ _ _ | with_reducible refine Adds.drew ?_ | with_reducible refine Adds.drewN ?_ _))⟩
  · have HE : Hid ((!decide (kind = 1 ∨ kind = 2 ∨ kind = 3)) = true) := by
      show _ = _
      simp [h1, h2, h3]
    have b1 : (kind == 1) = false := by simpa using h1
    have b2 : (kind == 2) = false := by simpa using h2
    have b3 : (kind == 3) = false := by simpa using h3
    have c1 : (kind != 1) = true := by simpa using h1
    have c2 : (kind != 2) = true := by simpa using h2
    have c3 : (kind != 3) = true := by simpa using h3
    go_enter Try.func63, Try.ntmps63
    go_wp2
    go_ret
    exact ⟨by rw [HE.out]; rfl, (by repeat (first | with_reducible exact Adds.refl _ | with_reducible refine Adds.alloc ?_ _ | with_reducible refine Adds.more ?_ _ _ | with_reducible refine Adds.drew ?_ | with_reducible refine Adds.drewN ?_ _))⟩

/-- What is told of one that gets. -/
def GetTold (ds : List Dn) (q : Qs) (w : World) (e : Ending) (w' : World) : Prop :=
  ∃ c ah ao an ac, e = .returned (ansV c ah (.slice ao an ac)) ∧ Adds w w' ∧ Hid (c = (if isKey q.key then 0 else 1) ∧ ah = (isKey q.key && hasAt q.key ds) ∧ RowF w.heap.size w' (.slice ao an ac) (if isKey q.key then docAt q.key ds else []))

theorem getTold_make {ds : List Dn} {q : Qs} {w w' : World} {c : Int} {ah : Bool} {ao : Option Addr} {an ac : Nat} (hA : Adds w w') (h1 : c = (if isKey q.key then 0 else 1)) (h2 : ah = (isKey q.key && hasAt q.key ds)) (h3 : RowF w.heap.size w' (.slice ao an ac) (if isKey q.key then docAt q.key ds else [])) : GetTold ds q w (.returned (ansV c ah (.slice ao an ac))) w' :=
  ⟨c, ah, ao, an, ac, rfl, hA, h1, h2, h3⟩

theorem get_any (s : Value) (ds : List Dn) (q : Qs) (dv wv lv sv nv : Value) (w : World) (hl : LstD w s ds) (hf : Fine ds) :
    Calls Try.prog 40 #[s, opV q dv wv lv sv nv] w fun e w' => GetTold ds q w e w' := by
  have kS := fun W (hA : Adds w W) => standing_any s ds q.key W (hl.adds hA) (by have := hf.2; omega) hf.risen hf.docs
  have kK := fun W => key_any q.key W
  obtain ⟨so, sc, rfl, _, _⟩ := hl
  simp only [opV]
  cases hk : isKey q.key with
  | false =>
    have HM : Hid (∀ w', Adds w w' → GetTold ds q w (.returned (ansV 1 false nilV)) w') := fun w' hA => getTold_make hA (by simp [hk]) (by simp [hk]) (by simp only [hk]; exact World.ownsRow_nil _ _ _ _)
    rw [hk] at kK
    clear kS hf hk
    go_enter Try.func40, Try.ntmps40
    go_wp2_with (first
      | (go_at_call 59; refine (kK _).mono ?_; rintro e w1 ⟨rfl, rfl⟩)
      | (go_at_call 60; refine (refused_ans _ _).mono ?_; rintro e w2 ⟨rfl, os2, n2, rfl⟩))
    refine bodyPost_ret (v := ansV 1 false nilV) (by simp [results, Try.results40, go_sem]) rfl (HM.out _ (by repeat (first | with_reducible exact Adds.refl _ | with_reducible refine Adds.alloc ?_ _ | with_reducible refine Adds.more ?_ _ _ | with_reducible refine Adds.drew ?_ | with_reducible refine Adds.drewN ?_ _)))
  | true =>
    rw [hk] at kK
    have HM : Hid (∀ w' ao ac, Adds w w' → RowF w.heap.size w' (.slice ao (docAt q.key ds).length ac) (docAt q.key ds) → GetTold ds q w (.returned (ansV 0 (hasAt q.key ds) (.slice ao (docAt q.key ds).length ac))) w') := fun w' ao ac hA hR => getTold_make hA (by simp [hk]) (by simp [hk]) (by simp only [hk]; exact hR)
    generalize hda : docAt q.key ds = da at *
    generalize hasAt q.key ds = hh at *
    clear hf hda hk
    go_enter Try.func40, Try.ntmps40
    go_wp2_with (first
      | (go_at_call 59; refine (kK _).mono ?_; rintro e w1 ⟨rfl, rfl⟩)
      | (go_at_call 61; refine (kS _ (by repeat (first | with_reducible exact Adds.refl _ | with_reducible refine Adds.alloc ?_ _ | with_reducible refine Adds.more ?_ _ _ | with_reducible refine Adds.drew ?_ | with_reducible refine Adds.drewN ?_ _))).mono ?_; rintro e w3 ⟨ao, ac, rfl, ⟨os3, n3, rfl⟩, HL⟩))
    refine bodyPost_ret (v := ansV 0 hh (.slice ao da.length ac)) (by simp [results, Try.results40, go_sem]) rfl (HM.out _ _ _ (by repeat (first | with_reducible exact Adds.refl _ | with_reducible refine Adds.alloc ?_ _ | with_reducible refine Adds.more ?_ _ _ | with_reducible refine Adds.drew ?_ | with_reducible refine Adds.drewN ?_ _)) (row_lower (row_far HL.out (by repeat (first | with_reducible exact Far.refl _ _ | with_reducible refine Far.mores ?_ (by simp [go_sem]) _ _ _ | with_reducible refine Far.allocs ?_ (by simp [go_sem]) _ | with_reducible refine Far.low ?_ (by simp [go_sem]) (by first | omega | (simp [go_sem] <;> omega)) _ _ | with_reducible refine Far.more ?_ _ _ | with_reducible refine Far.alloc ?_ _ | with_reducible refine Far.drew ?_ | with_reducible refine Far.drewN ?_ _))) (by simp only [World.size_alloc]; omega)))

end Go.Proofs.Ytgnhkpihlghbmaa

namespace Go.Proofs.Ytgnhkpihlghbmaa
open Go.RowKit
attribute [local go_sem] cell?_more frozen?_more setCell_more size_more tape_more drew_more drewN_more more_drew more_drewN one_out plus_out plus_end lt_one le_p2 le_p3 le_p4 le_p5 le_p6 le_p7 le_p8 le_p9 le_p10 le_p11 le_p12 le_p13 le_p14 le_p15 le_p16 le_p17 le_p18 le_p19 le_p20 le_p21 le_p22 le_p23 le_p24 le_q0 le_q1 lt_q1 le_q2 lt_q2 le_q3 lt_q3 le_q4 lt_q4 le_q5 lt_q5 le_q6 lt_q6 le_q7 lt_q7 le_q8 lt_q8 le_q9 lt_q9 le_q10 lt_q10 le_q11 lt_q11 le_q12 lt_q12 le_q13 lt_q13 le_q14 lt_q14 le_q15 lt_q15 le_q16 lt_q16 le_q17 lt_q17 le_q18 lt_q18 le_q19 lt_q19 le_q20 lt_q20 le_q21 lt_q21 le_q22 lt_q22 le_q23 lt_q23 le_q24 lt_q24

theorem any_none {os : List Qv} (h : ∀ j (hj : j < os.length), aloneQ os[j].q = false) : os.any (fun v => aloneQ v.q) = false := by
  cases h' : os.any (fun v => aloneQ v.q) with
  | false => rfl
  | true =>
    obtain ⟨x, hx, hx2⟩ := List.any_eq_true.1 h'
    obtain ⟨j, hj, rfl⟩ := List.mem_iff_getElem.1 hx
    rw [h j hj] at hx2
    cases hx2

theorem any_some {os : List Qv} {j : Nat} (hj : j < os.length) (h : aloneQ os[j].q = true) : os.any (fun v => aloneQ v.q) = true :=
  List.any_eq_true.2 ⟨os[j], List.getElem_mem hj, h⟩

set_option maxRecDepth 20000 in
set_option maxHeartbeats 2000000 in
theorem index_any (s : Value) (os : List Qv) (w : World) (hl : LstO w s os) (hl6 : os.length ≤ 1000) :
    Calls Try.prog 74 #[s, .func (.func 63) #[] #[]] w fun e w' => ∃ i : Int, e = .returned (.int .i64 i) ∧ Hid (decide (0 ≤ i) = os.any (fun v => aloneQ v.q)) ∧ -1 ≤ i ∧ i ≤ 1000 ∧ Adds w w' := by
  obtain ⟨ao, cap, rfl, hcap, hlo⟩ := hl
  go_enter Try.func74, Try.ntmps74
  go_wp2
  go_loopw [8] (fun i wr => ∃ k : Nat, k ≤ os.length ∧ i = .int .i64 k ∧ Hid (∀ j (hj : j < os.length), j < k → aloneQ os[j].q = false) ∧ Adds w wr) (fun i _ => os.length - (intOf i).toNat)
  case atStart => exact ⟨0, Nat.zero_le _, rfl, fun j _ hj => absurd hj (by omega), Adds.refl _⟩
  case round =>
    obtain ⟨k, hk, rfl, hb, os1, n1, rfl⟩ := hrel
    by_cases hlt : k < os.length
    · rcases hlo with rfl | ⟨b, off, rfl, hbb, hll⟩
      · simp at hlt
      obtain ⟨⟨c0, c1, c2, c3, c4, c5, c6, c7, c8, c9, c10⟩, _⟩ := hll k hlt
      have HS : Hid (aloneQ os[k].q = true → os.any (fun v => aloneQ v.q) = true) := fun h => any_some hlt h
      have HN : Hid (aloneQ os[k].q = false → ∀ j (hj : j < os.length), j < k + 1 → aloneQ os[j].q = false) := by
        intro h j hj hjk
        by_cases e : j = k
        · subst e; exact h
        · exact hb.out j hj (by omega)
      have kA := fun W => alone_any os[k] W
      generalize os[k] = x at *
      obtain ⟨⟨kind, key, to, doc, want, has, n, most⟩, dv, wv, lv, sv, nv⟩ := x
      simp only [Qv.val, opV] at kA
      simp only at c0 c1 c2 c3 c4 c5 c6 c7 c8 c9 c10
      have hk1000 : (k : Int) ≤ 1000 := by omega
      clear hll
      generalize hal : aloneQ ⟨kind, key, to, doc, want, has, n, most⟩ = al at *
      clear hal
      cases al with
      | true =>
        go_wp2_with (go_at_call 63; refine (kA _).mono ?_; rintro e w2 ⟨rfl, os2, n2, rfl⟩)
        go_ret
        exact ⟨k, rfl, by have := HS.out (by simp); show _ = _; rw [this]; simp, by omega, hk1000, (by repeat (first | with_reducible exact Adds.refl _ | with_reducible refine Adds.alloc ?_ _ | with_reducible refine Adds.more ?_ _ _ | with_reducible refine Adds.drew ?_ | with_reducible refine Adds.drewN ?_ _))⟩
      | false =>
        go_wp2_with (go_at_call 63; refine (kA _).mono ?_; rintro e w2 ⟨rfl, os2, n2, rfl⟩)
        go_roundw
        case rel => exact ⟨k + 1, by omega, by go_num, HN.out (by simp), (by repeat (first | with_reducible exact Adds.refl _ | with_reducible refine Adds.alloc ?_ _ | with_reducible refine Adds.more ?_ _ _ | with_reducible refine Adds.drew ?_ | with_reducible refine Adds.drewN ?_ _))⟩
        case measure => simp [intOf]; omega
    · have : k = os.length := by omega
      subst this
      have HE : Hid (os.any (fun v => aloneQ v.q) = false) := any_none (fun j hj => hb.out j hj hj)
      go_wp2
      go_ret
      exact ⟨-1, rfl, by show _ = _; rw [HE.out]; simp, by omega, by omega, (by repeat (first | with_reducible exact Adds.refl _ | with_reducible refine Adds.alloc ?_ _ | with_reducible refine Adds.more ?_ _ _ | with_reducible refine Adds.drew ?_ | with_reducible refine Adds.drewN ?_ _))⟩

theorem contains_any (s : Value) (os : List Qv) (w : World) (hl : LstO w s os) (hl6 : os.length ≤ 1000) :
    Calls Try.prog 62 #[s, .func (.func 63) #[] #[]] w fun e w' => e = .returned (.bool (os.any (fun v => aloneQ v.q))) ∧ Adds w w' := by
  have k := fun W (hA : Adds w W) => index_any s os W (hl.adds hA) hl6
  obtain ⟨ao, cap, rfl, _, _⟩ := hl
  generalize os.any (fun v => aloneQ v.q) = r at *
  go_enter Try.func62, Try.ntmps62
  go_wp2_with (go_at_call 74; refine (k _ (by repeat (first | with_reducible exact Adds.refl _ | with_reducible refine Adds.alloc ?_ _ | with_reducible refine Adds.more ?_ _ _ | with_reducible refine Adds.drew ?_ | with_reducible refine Adds.drewN ?_ _))).mono ?_; rintro e w2 ⟨i, rfl, hi, hi1, hi2, os2, n2, rfl⟩)
  go_ret
  exact ⟨by rw [← hi.out]; rfl, (by repeat (first | with_reducible exact Adds.refl _ | with_reducible refine Adds.alloc ?_ _ | with_reducible refine Adds.more ?_ _ _ | with_reducible refine Adds.drew ?_ | with_reducible refine Adds.drewN ?_ _))⟩

end Go.Proofs.Ytgnhkpihlghbmaa

namespace Go.Proofs.Ytgnhkpihlghbmaa
open Go.RowKit
attribute [local go_sem] cell?_more frozen?_more setCell_more size_more tape_more drew_more drewN_more more_drew more_drewN one_out plus_out plus_end lt_one le_p2 le_p3 le_p4 le_p5 le_p6 le_p7 le_p8 le_p9 le_p10 le_p11 le_p12 le_p13 le_p14 le_p15 le_p16 le_p17 le_p18 le_p19 le_p20 le_p21 le_p22 le_p23 le_p24 le_q0 le_q1 lt_q1 le_q2 lt_q2 le_q3 lt_q3 le_q4 lt_q4 le_q5 lt_q5 le_q6 lt_q6 le_q7 lt_q7 le_q8 lt_q8 le_q9 lt_q9 le_q10 lt_q10 le_q11 lt_q11 le_q12 lt_q12 le_q13 lt_q13 le_q14 lt_q14 le_q15 lt_q15 le_q16 lt_q16 le_q17 lt_q17 le_q18 lt_q18 le_q19 lt_q19 le_q20 lt_q20 le_q21 lt_q21 le_q22 lt_q22 le_q23 lt_q23 le_q24 lt_q24

/-- The change that one leaves. -/
def chgT (q : Qs) : Ch := ⟨0, q.key, hasT q, docOf q⟩

/-- What some leave. -/
def foldT (ds : List Dn) (os : List Qv) : List Dn := os.foldl (fun d v => stepT d v.q) ds

theorem foldT_zero (ds : List Dn) (os : List Qv) : foldT ds (os.take 0) = ds := by simp [foldT]

theorem foldT_next {ds : List Dn} {os : List Qv} {i : Nat} (h : i < os.length) : foldT ds (os.take (i + 1)) = stepT (foldT ds (os.take i)) os[i].q := by
  have e := List.take_succ_eq_append_getElem h
  unfold foldT
  rw [e, List.foldl_append]
  rfl

def qsOf (os : List Qv) : List Qs := os.map (fun v => v.q)

theorem codeB_at {os : List Qv} {i : Nat} (h : i < os.length) (d : List Dn) : codeB d ((qsOf os).drop i) = if codeT d os[i].q = 0 then codeB (stepT d os[i].q) ((qsOf os).drop (i + 1)) else codeT d os[i].q := by
  have h' : i < (qsOf os).length := by simpa [qsOf] using h
  rw [List.drop_eq_getElem_cons h', codeB_cons]
  simp [qsOf]

/-- What is told of a batch. -/
def BatchTold (ds : List Dn) (os : List Qv) (w : World) (e : Ending) (w' : World) : Prop :=
  ∃ c vo vn vc, e = .returned (.tuple #[.slice vo vn vc, ansV c false nilV]) ∧ Adds w w' ∧
    Hid (c = (if os.length < 1 ∨ 4 < os.length ∨ os.any (fun v => aloneQ v.q) = true then 1 else codeB ds (qsOf os)) ∧
      (¬ c = 0 → vo = none ∧ vn = 0 ∧ vc = 0) ∧ (c = 0 → ∃ rs, OwnH w.heap.size (.slice vo vn vc) rs w w' ∧ rs.map (·.1) = os.map (fun v => chgT v.q)))

theorem grown_of_adds {w w1 w' : World} {r : Option Nat} (hA : Adds w w1) (h : w1.grownBy w' r) : w.grownBy w' r := by
  have hb := hA.below
  exact ⟨h.os.trans hb.os, h.tape.trans hb.tape, h.output.trans hb.output, Nat.le_trans hb.size h.size, fun k hk hr => (h.block k (Nat.lt_of_lt_of_le hk hb.size) hr).trans (hb.block k hk)⟩

theorem grown_refl (w : World) (r : Option Nat) : w.grownBy w r := ⟨rfl, rfl, rfl, Nat.le_refl _, fun _ _ _ => rfl⟩

/-- What lies from a block on, the row lying ahead of it, stays where that row alone turns. -/
theorem far_of_grown {B n : Nat} {v : Value} {rs : List Rh} {W0 w w1 w2 : World} (h : OwnH B v rs W0 w) (hg : w1.grownBy w2 v.ownBlock) (hn : w.heap.size ≤ n) : Far n w1 w2 :=
  ⟨hg.size, fun g hg1 hl => hg.block g hl (fun e => by have := h.1.lt g e.symm; omega)⟩

theorem own_final {n : Nat} {v : Value} {rs : List Rh} {W1 wr w w' : World} (h : OwnH (n + 1) v rs W1 wr) (hf : Far (n + 1) wr w') (hb : Below n w w') (hn : n ≤ w'.heap.size) : OwnH n v rs w w' :=
  ⟨row_lower (row_far h.1 hf) (Nat.le_succ n), hb, hn, fun r hr => row_lower (row_far (h.2.2.2 r hr) hf) (Nat.le_succ n)⟩

theorem ownH_app2 {ops : Array Oper} {rest : List Oper} {o : Oper} {a : Act} {w wr : World} {Q : Exit → Act → World → Prop} (hgd : o.guard = none) (s x : Operand) (ho : o.op = .call { callee := .builtin .append, args := #[s, x], argTypes := #[26, 26] })
    {B : Nat} {v : Value} {fs : List Rh} {W0 : World} (h : OwnH B v fs W0 wr) (hA : Adds wr w) (hs : a.eval s = v) {k : Nat} (r : Rh) (hx : a.eval x = .slice (some ⟨k, 0, none⟩) 1 1) (hk : w.heap[k]? = some (.cells #[.int .i64 r.1.pos, .string r.1.key, .bool r.1.has, r.2] 40 (0, 0))) (hr : RowF B w r.2 r.1.doc) (hlen : fs.length ≤ 10000)
    (hQ : ∀ v' w', OwnH B v' (fs ++ [r]) W0 w' → Far wr.heap.size w w' → wr.grownBy w' v.ownBlock → wpList Try.prog ops Q rest (a.put o.dst v') w') : wpList Try.prog ops Q (o :: rest) a w := by
  have hcl : ∀ j u, (cellsH [r])[j]? = some u → w.cell? ((⟨k, 0, none⟩ : Addr).add j) = some u := by
    intro j u hu
    rw [Addr.add_lit, cell_of_row w k _ _ _ _ hk]
    simpa [cellsH, Ch.cells] using hu
  obtain ⟨v', w', hrun, h2, h3⟩ := ownH_append w B o.type v fs W0 (h.adds hA) ⟨k, 0, none⟩ 1 1 [r] rfl hcl (fun x hx => by have := List.mem_singleton.1 hx; subst this; exact hr) (by simp; omega)
  refine Lib.wpList_append_run w hgd s x _ _ ho v _ hs hx v' w' hrun (hQ v' w' h2 ⟨h3.size, fun g hg hlt => h3.block g hlt (fun e => ?_)⟩ (grown_of_adds hA h3))
  have := h.1.lt g e.symm
  omega

theorem OwnH.nilB {B : Nat} {w : World} (hB : B ≤ w.heap.size) : OwnH B (.slice none 0 0) [] w w := ⟨World.ownsRow_nil _ _ _ _, Below.refl _ _, hB, fun r h => by cases h⟩

theorem Far.set {n : Nat} {w w' : World} (h : Far n w w') {k : Nat} (hk : k < n) (i : Nat) (v : Value) : Far n w (w'.setCell ⟨k, i, none⟩ v) :=
  ⟨by rw [World.size_setCell]; exact h.1, fun g hg hl => (heap_setCell_other w' ⟨k, i, none⟩ g v (by show g ≠ k; omega)).trans (h.2 g hg hl)⟩

theorem below_set {n : Nat} {w w' : World} (h : Below n w w') {k : Nat} (hk : n ≤ k) (i : Nat) (v : Value) : Below n w (w'.setCell ⟨k, i, none⟩ v) :=
  ⟨h.os, h.tape, h.output, by rw [World.size_setCell]; exact h.size, fun g hg => (heap_setCell_other w' ⟨k, i, none⟩ g v (by show g ≠ k; omega)).trans (h.block g hg)⟩

theorem far_cell {n : Nat} {w w' : World} (h : Far n w w') {k i : Nat} {v : Value} (hk : n ≤ k) (hc : w.cell? ⟨k, i, none⟩ = some v) : w'.cell? ⟨k, i, none⟩ = some v := by
  have hlt : k < w.heap.size := block_lt_of_cell hc
  rw [World.cell?_of_block (w := w) (w' := w') (a := ⟨k, i, none⟩) (h.2 k hk hlt)]
  exact hc

theorem batch_bad {ds : List Dn} {os : List Qv} {w w' : World} (h : os.length < 1 ∨ 4 < os.length ∨ os.any (fun v => aloneQ v.q) = true) (hA : Adds w w') : BatchTold ds os w (.returned (.tuple #[nilV, ansV 1 false nilV])) w' :=
  ⟨1, none, 0, 0, rfl, hA, (if_pos h).symm, fun _ => ⟨rfl, rfl, rfl⟩, fun h => (by cases h)⟩

theorem batch_no {ds : List Dn} {os : List Qv} {w w' : World} {c : Int} (h : ¬ (os.length < 1 ∨ 4 < os.length ∨ os.any (fun v => aloneQ v.q) = true)) (hc : codeB ds (qsOf os) = c) (h0 : ¬ c = 0) (hA : Adds w w') : BatchTold ds os w (.returned (.tuple #[nilV, ansV c false nilV])) w' :=
  ⟨c, none, 0, 0, rfl, hA, by rw [if_neg h, hc], fun _ => ⟨rfl, rfl, rfl⟩, fun h => absurd h h0⟩

theorem batch_yes {ds : List Dn} {os : List Qv} {w w' : World} {v : Value} {rs : List Rh} (h : ¬ (os.length < 1 ∨ 4 < os.length ∨ os.any (fun v => aloneQ v.q) = true)) (hc : codeB ds (qsOf os) = 0) (hA : Adds w w') (ho : OwnH w.heap.size v rs w w') (hm : rs.map (·.1) = os.map (fun v => chgT v.q)) : BatchTold ds os w (.returned (.tuple #[v, ansV 0 false nilV])) w' := by
  obtain ⟨ao, cap, rfl, _, _⟩ := ho.lstH
  exact ⟨0, _, _, _, rfl, hA, by rw [if_neg h, hc], fun h => absurd rfl h, fun _ => ⟨rs, ho, hm⟩⟩

set_option maxRecDepth 20000 in
set_option maxHeartbeats 4000000 in
theorem batch_any (s : Value) (ds : List Dn) (lv : Value) (os : List Qv) (w : World) (hl : LstD w s ds) (hf : Fine ds) (ho : LstO w lv os) (ho6 : os.length ≤ 1000) :
    Calls Try.prog 42 #[s, lv] w fun e w' => BatchTold ds os w e w' := by
  have kN := fun W (hA : Adds w W) => contains_any lv os W (ho.adds hA) ho6
  have HS : Hid (LstD w s ds) := hl
  have HO : Hid (LstO w lv os) := ho
  obtain ⟨so, sc, rfl, _, _⟩ := hl
  obtain ⟨lo, lc, rfl, hlc, hlo⟩ := ho
  by_cases hbad : os.length < 1 ∨ 4 < os.length ∨ os.any (fun v => aloneQ v.q) = true
  · have HB : Hid (∀ w', Adds w w' → BatchTold ds os w (.returned (.tuple #[nilV, ansV 1 false nilV])) w') := fun w' hA => batch_bad hbad hA
    by_cases h1 : os.length < 1
    · have h1' : (os.length : Int) < 1 := by omega
      clear hbad hlo kN
      generalize os.length = n at *
      go_enter Try.func42, Try.ntmps42
      go_wp2_with (go_at_call 60; refine (refused_ans _ _).mono ?_; rintro e w2 ⟨rfl, os2, n2, rfl⟩)
      refine bodyPost_ret (v := .tuple #[nilV, ansV 1 false nilV]) (by simp [results, Try.results42, go_sem]) rfl (HB.out _ (by repeat (first | with_reducible exact Adds.refl _ | with_reducible refine Adds.alloc ?_ _ | with_reducible refine Adds.more ?_ _ _ | with_reducible refine Adds.drew ?_ | with_reducible refine Adds.drewN ?_ _)))
    by_cases h4 : 4 < os.length
    · have h1' : ¬ (os.length : Int) < 1 := by omega
      have h4' : (4 : Int) < (os.length : Int) := by omega
      clear hbad hlo kN
      generalize os.length = n at *
      go_enter Try.func42, Try.ntmps42
      go_wp2_with (go_at_call 60; refine (refused_ans _ _).mono ?_; rintro e w2 ⟨rfl, os2, n2, rfl⟩)
      refine bodyPost_ret (v := .tuple #[nilV, ansV 1 false nilV]) (by simp [results, Try.results42, go_sem]) rfl (HB.out _ (by repeat (first | with_reducible exact Adds.refl _ | with_reducible refine Adds.alloc ?_ _ | with_reducible refine Adds.more ?_ _ _ | with_reducible refine Adds.drew ?_ | with_reducible refine Adds.drewN ?_ _)))
    · have h3 : os.any (fun v => aloneQ v.q) = true := by
        rcases hbad with h | h | h
        · exact absurd h h1
        · exact absurd h h4
        · exact h
      rw [h3] at kN
      have h1' : ¬ (os.length : Int) < 1 := by omega
      have h4' : ¬ (4 : Int) < (os.length : Int) := by omega
      clear hbad hlo h3
      generalize os.length = n at *
      go_enter Try.func42, Try.ntmps42
      go_wp2_with (first
        | (go_at_call 62; refine (kN _ (by repeat (first | with_reducible exact Adds.refl _ | with_reducible refine Adds.alloc ?_ _ | with_reducible refine Adds.more ?_ _ _ | with_reducible refine Adds.drew ?_ | with_reducible refine Adds.drewN ?_ _))).mono ?_; rintro e w1 ⟨rfl, os1, n1, rfl⟩)
        | (go_at_call 60; refine (refused_ans _ _).mono ?_; rintro e w2 ⟨rfl, os2, n2, rfl⟩))
      refine bodyPost_ret (v := .tuple #[nilV, ansV 1 false nilV]) (by simp [results, Try.results42, go_sem]) rfl (HB.out _ (by repeat (first | with_reducible exact Adds.refl _ | with_reducible refine Adds.alloc ?_ _ | with_reducible refine Adds.more ?_ _ _ | with_reducible refine Adds.drew ?_ | with_reducible refine Adds.drewN ?_ _)))
  · have HG : Hid (¬ (os.length < 1 ∨ 4 < os.length ∨ os.any (fun v => aloneQ v.q) = true)) := hbad
    have h1' : ¬ (os.length : Int) < 1 := by omega
    have h4' : ¬ (4 : Int) < (os.length : Int) := by omega
    have h3 : os.any (fun v => aloneQ v.q) = false := by
      cases h : os.any (fun v => aloneQ v.q) with
      | false => rfl
      | true => exact absurd (.inr (.inr h)) hbad
    rw [h3] at kN
    clear hbad h3
    have hn4 : os.length ≤ 4 := by omega
    have HF : Hid (Fine ds) := hf
    clear hf
    go_enter Try.func42, Try.ntmps42
    go_wp2_with (go_at_call 62; refine (kN _ (by repeat (first | with_reducible exact Adds.refl _ | with_reducible refine Adds.alloc ?_ _ | with_reducible refine Adds.more ?_ _ _ | with_reducible refine Adds.drew ?_ | with_reducible refine Adds.drewN ?_ _))).mono ?_; rintro e w1 ⟨rfl, os1, n1, rfl⟩)
    have hA1 : Adds w (more (w.alloc (.cells #[.int .i64 0, .bool false, .slice none 0 0, .slice none 0 0, .slice none 0 0, .int .i64 0, .int .i64 0, .slice none 0 0] 35)) os1 n1) := (by repeat (first | with_reducible exact Adds.refl _ | with_reducible refine Adds.alloc ?_ _ | with_reducible refine Adds.more ?_ _ _ | with_reducible refine Adds.drew ?_ | with_reducible refine Adds.drewN ?_ _))
    have hz1 : w.heap.size < (more (w.alloc (.cells #[.int .i64 0, .bool false, .slice none 0 0, .slice none 0 0, .slice none 0 0, .int .i64 0, .int .i64 0, .slice none 0 0] 35)) os1 n1).heap.size := by simp only [size_more, World.size_alloc]; omega
    have hbx := fun i => cell?_more (w := w.alloc (.cells #[.int .i64 0, .bool false, .slice none 0 0, .slice none 0 0, .slice none 0 0, .int .i64 0, .int .i64 0, .slice none 0 0] 35)) os1 n1 w.heap.size i (by simp)
    have hbf := fun i => frozen?_more (w := w.alloc (.cells #[.int .i64 0, .bool false, .slice none 0 0, .slice none 0 0, .slice none 0 0, .int .i64 0, .int .i64 0, .slice none 0 0] 35)) os1 n1 w.heap.size i (by simp)
    generalize more (w.alloc (.cells #[.int .i64 0, .bool false, .slice none 0 0, .slice none 0 0, .slice none 0 0, .int .i64 0, .int .i64 0, .slice none 0 0] 35)) os1 n1 = W1 at *
    have b0 := hbx 0
    have b1 := hbx 1
    have b2 := hbx 2
    have b3 := hbx 3
    have b4 := hbx 4
    have b5 := hbx 5
    have b6 := hbx 6
    have b7 := hbx 7
    have f0 := hbf 0
    have f1 := hbf 1
    have f2 := hbf 2
    have f3 := hbf 3
    have f4 := hbf 4
    have f5 := hbf 5
    have f6 := hbf 6
    have f7 := hbf 7
    simp at b0 b1 b2 b3 b4 b5 b6 b7 f0 f1 f2 f3 f4 f5 f6 f7
    clear hbx hbf
    have HA1 : Hid (Adds w W1) := hA1
    go_loopw [0, 6, 26] (fun dv cv iv wr => ∃ (i : Nat) (rs : List Rh), i ≤ os.length ∧ iv = .int .i64 i ∧ (∃ do' dn dc, dv = .slice do' dn dc) ∧ Hid (∀ w2, wr.grownBy w2 cv.ownBlock → LstD w2 dv (foldT ds (os.take i))) ∧ Hid (Fine (foldT ds (os.take i))) ∧ Hid (codeB ds (qsOf os) = codeB (foldT ds (os.take i)) ((qsOf os).drop i)) ∧ Hid (OwnH (w.heap.size + 1) cv rs W1 wr) ∧ Hid (rs.map (·.1) = (os.take i).map (fun v => chgT v.q))) (fun _ _ iv _ => os.length - (intOf iv).toNat)
    case atStart => exact ⟨0, [], by omega, rfl, ⟨_, _, _, rfl⟩, by show ∀ w2, _; rw [foldT_zero]; exact fun w2 hg => HS.out.adds (Adds.trans hA1 (grown_none hg)), by show Fine _; rw [foldT_zero]; exact HF.out, by show _ = _; rw [foldT_zero]; rfl, OwnH.nilB hz1, rfl⟩
    case round =>
      obtain ⟨i, rs, hi, rfl, ⟨do', dn, dc, rfl⟩, HD, HFn, HC, HW, HM⟩ := hrel
      have hbl := HW.out.2.1
      have HA : Hid (Adds w wr) := Adds.of (HA1.out.below.trans (hbl.mono (by omega)))
      have hwr : w.heap.size < wr.heap.size := Nat.lt_of_lt_of_le hz1 hbl.size
      have k0 := fun i => (hbl.cell (p := ⟨w.heap.size, i, none⟩) (by show w.heap.size < w.heap.size + 1; omega))
      have k1 := fun i => World.frozen?_of_block (w := W1) (w' := wr) (a := ⟨w.heap.size, i, none⟩) (hbl.block w.heap.size (by omega))
      have x0 := (k0 0).trans b0
      have x1 := (k0 1).trans b1
      have x2 := (k0 2).trans b2
      have x3 := (k0 3).trans b3
      have x4 := (k0 4).trans b4
      have x5 := (k0 5).trans b5
      have x6 := (k0 6).trans b6
      have x7 := (k0 7).trans b7
      have y0 := (k1 0).trans f0
      have y1 := (k1 1).trans f1
      have y2 := (k1 2).trans f2
      have y3 := (k1 3).trans f3
      have y4 := (k1 4).trans f4
      have y5 := (k1 5).trans f5
      have y6 := (k1 6).trans f6
      have y7 := (k1 7).trans f7
      clear k0 k1 hbl b0 b1 b2 b3 b4 b5 b6 b7 f0 f1 f2 f3 f4 f5 f6 f7
      have hD0 := HD.out wr (grown_refl _ _)
      have hrl : rs.length ≤ 10000 := by
        have := congrArg List.length HM.out
        simp at this
        omega
      by_cases hlt : i < os.length
      · obtain ⟨ao', cap', he, _, hx⟩ := HO.out.adds HA.out
        simp only [Value.slice.injEq] at he
        obtain ⟨rfl, _, rfl⟩ := he
        rcases hx with rfl | ⟨b, off, rfl, hb, hll⟩
        · simp at hlt
        obtain ⟨⟨c0, c1, c2, c3, c4, c5, c6, c7, c8, c9, c10⟩, hq1, hq2, hq3, hq4, hq5, hq6, hq7⟩ := hll i hlt
        have hcb := codeB_at hlt (foldT ds (os.take i))
        have hfn := foldT_next (ds := ds) hlt
        have hst : codeT (foldT ds (os.take i)) os[i].q = 0 → Fine (stepT (foldT ds (os.take i)) os[i].q) := fun h => HFn.out.step h
        have hmn : (os.take (i + 1)).map (fun v => chgT v.q) = (os.take i).map (fun v => chgT v.q) ++ [chgT os[i].q] := by
          rw [List.take_succ_eq_append_getElem hlt, List.map_append]
          rfl
        clear hll
        generalize os[i] = x at *
        obtain ⟨q, xdv, xwv, xlv, xsv, xnv⟩ := x
        simp only at c0 c1 c2 c3 c4 c5 c6 c7 c8 c9 c10 hq1 hq2 hq3 hq4 hcb hfn hst hmn hq5 hq6 hq7
        obtain ⟨la, ln, lc', rfl⟩ := hq5
        obtain ⟨sa, sn, sc', rfl⟩ := hq6
        obtain ⟨na, nn, nc', rfl⟩ := hq7
        have kT := fun W (hA : Adds wr W) => turn_any (.slice do' dn dc) (foldT ds (os.take i)) q xdv xwv (.slice la ln lc') (.slice sa sn sc') (.slice na nn nc') W (hD0.adds hA) ⟨by have := HFn.out.2; omega, HFn.out.risen, HFn.out.docs, hq1.adds hA, hq2, hq3.adds hA, hq4⟩
        obtain ⟨da, dc', rfl, _, _⟩ := id hq1
        obtain ⟨wa, wc', rfl, _, _⟩ := id hq3
        simp only [opV] at kT
        by_cases hz : codeT (foldT ds (os.take i)) q = 0
        · rw [if_pos hz] at hcb
          rw [hz] at kT
          have HK : Hid (codeB ds (qsOf os) = codeB (stepT (foldT ds (os.take i)) q) ((qsOf os).drop (i + 1))) := by
            show _ = _
            rw [HC.out, hcb]
          have HZ : Hid (Fine (stepT (foldT ds (os.take i)) q)) := hst hz
          have HFT : Hid _ := hfn
          have HMN : Hid _ := hmn
          have HQ6 : Hid ((docOf q).length ≤ 1000) := docOf_len hq2
          clear hcb hst hfn hmn hq1 hq2 hq3 hq4 hz hD0
          go_wp2_with (first
            | (go_at_call 43; refine (kT _ (by repeat (first | with_reducible exact Adds.refl _ | with_reducible refine Adds.alloc ?_ _ | with_reducible refine Adds.more ?_ _ _ | with_reducible refine Adds.drew ?_ | with_reducible refine Adds.drewN ?_ _))).mono ?_; rintro e w4 ⟨ck, ch, co, cn, cc, ah, ao, an, ac, rfl, ⟨os4, n4, rfl⟩, HP⟩; clear kT)
            | (at_builtin; refine ownH_app2 rfl (.tmp 42) (.tmp 44) rfl HW.out (by repeat (first | with_reducible exact Adds.refl _ | with_reducible refine Adds.alloc ?_ _ | with_reducible refine Adds.more ?_ _ _ | with_reducible refine Adds.drew ?_ | with_reducible refine Adds.drewN ?_ _)) rfl ((⟨0, ck, ch, docOf q⟩, .slice co cn cc) : Rh) rfl (at_newH _ _ _ (by simp [go_sem])) (row_lower (row_far (HP.out.good rfl).2.2 (by repeat (first | with_reducible exact Far.refl _ _ | with_reducible refine Far.mores ?_ (by simp [go_sem]) _ _ _ | with_reducible refine Far.allocs ?_ (by simp [go_sem]) _ | with_reducible refine Far.low ?_ (by simp [go_sem]) (by first | omega | (simp [go_sem] <;> omega)) _ _ | with_reducible refine Far.more ?_ _ _ | with_reducible refine Far.alloc ?_ _ | with_reducible refine Far.drew ?_ | with_reducible refine Far.drewN ?_ _))) (by simp only [World.size_alloc]; omega)) hrl ?_
               intro v6 w6 h6 hF6 hG6
               have e0 := far_cell hF6 (k := wr.heap.size + os4.size + 1) (i := 0) (v := .int .i64 0) (by omega) (by simp [go_sem])
               have e1 := far_cell hF6 (k := wr.heap.size + os4.size + 1) (i := 1) (v := .string ck) (by omega) (by simp [go_sem])
               have e2 := far_cell hF6 (k := wr.heap.size + os4.size + 1) (i := 2) (v := .bool ch) (by omega) (by simp [go_sem])
               have e3 := far_cell hF6 (k := wr.heap.size + os4.size + 1) (i := 3) (v := .slice co cn cc) (by omega) (by simp [go_sem])
               have hr6 : Lst w6 (.slice co cn cc) (docOf q) := RowF.lst (h6.2.2.2 ((⟨0, ck, ch, docOf q⟩, .slice co cn cc) : Rh) (by simp))
               have hD6 := HD.out w6 hG6
               have KF : Hid (∀ W, Adds w6 W → Calls Try.prog 13 #[.slice do' dn dc, .agg #[.int .i64 0, .string ck, .bool ch, .slice co cn cc]] W fun e w' => (∃ v, e = .returned v ∧ Hid (∀ w4, Far W.heap.size w' w4 → LstD w4 v (foldS (foldT ds (os.take i)) ck ch (docOf q)))) ∧ Adds W w') :=
                 fun W hA => shopFold_any (.slice do' dn dc) (foldT ds (os.take i)) 0 ck ch (.slice co cn cc) (docOf q) W (hD6.adds hA) (hr6.adds hA) (by have := HFn.out.2; omega) HFn.out.risen HFn.out.docs HQ6.out
               have H6 : Hid _ := h6
               clear h6 hF6 hG6 hr6 hD6)
            | (go_at_call 13; refine (KF.out _ (by repeat (first | with_reducible exact Adds.refl _ | with_reducible refine Adds.alloc ?_ _ | with_reducible refine Adds.more ?_ _ _ | with_reducible refine Adds.drew ?_ | with_reducible refine Adds.drewN ?_ _))).mono ?_; rintro e w7 ⟨⟨v7, rfl, hv7⟩, os7, n7, rfl⟩; obtain ⟨o7, c7', rfl, _, _⟩ := hv7.out _ (Far.refl _ _)))
          go_roundw
          case rel =>
            obtain ⟨rfl, rfl, _⟩ := HP.out.good rfl
            refine ⟨i + 1, rs ++ [((⟨0, q.key, hasT q, docOf q⟩, .slice co cn cc) : Rh)], by omega, by go_num, ⟨_, _, _, rfl⟩, ?_, ?_, ?_, OwnH.adds H6.out (by repeat (first | with_reducible exact Adds.refl _ | with_reducible refine Adds.alloc ?_ _ | with_reducible refine Adds.more ?_ _ _ | with_reducible refine Adds.drew ?_ | with_reducible refine Adds.drewN ?_ _)), ?_⟩
            · show ∀ w2, _
              rw [HFT.out]
              exact fun w2 hg => hv7.out w2 (far_of_grown H6.out hg (by first | omega | (simp only [size_more, World.size_alloc]; omega)))
            · show Fine _
              rw [HFT.out]
              exact HZ.out
            · show _ = _
              rw [HFT.out]
              exact HK.out
            · show _ = _
              rw [HMN.out, List.map_append, HM.out]
              rfl
          case measure => simp [intOf]; omega
        · have HB : Hid (codeB ds (qsOf os) = codeT (foldT ds (os.take i)) q) := by
            show _ = _
            rw [HC.out, hcb, if_neg hz]
          have HZ : Hid (¬ codeT (foldT ds (os.take i)) q = 0) := hz
          clear hcb hst hfn hmn hq1 hq2 hq3 hq4 hD0
          generalize codeT (foldT ds (os.take i)) q = cz at *
          have hz1 : (cz == 0) = false := by simpa using hz
          have hz2 : (cz != 0) = true := by simpa using hz
          go_wp2_with (first
            | (go_at_call 43; refine (kT _ (by repeat (first | with_reducible exact Adds.refl _ | with_reducible refine Adds.alloc ?_ _ | with_reducible refine Adds.more ?_ _ _ | with_reducible refine Adds.drew ?_ | with_reducible refine Adds.drewN ?_ _))).mono ?_; rintro e w4 ⟨ck, ch, co, cn, cc, ah, ao, an, ac, rfl, ⟨os4, n4, rfl⟩, HP⟩; clear kT)
            | (go_at_call 60; refine (refused_ans _ _).mono ?_; rintro e w2 ⟨rfl, os2, n2, rfl⟩))
          have s1 : w.heap.size < wr.heap.size + 1 := by omega
          have s2 : w.heap.size < wr.heap.size + os4.size + 1 := by omega
          have s3 : w.heap.size < wr.heap.size + os4.size + 1 + 1 := by omega
          have s4 : w.heap.size < wr.heap.size + os4.size + 1 + 1 + 1 := by omega
          refine bodyPost_ret (v := .tuple #[nilV, ansV cz false nilV]) (by simp [results, Try.results42, go_sem, x0, x1, x2, x3, x4, x5, x6, x7, hwr, s1, s2, s3, s4]) rfl ?_
          refine batch_no HG.out HB.out HZ.out (Adds.trans (Adds.of (below_set (below_set (below_set (below_set (below_set (below_set (below_set (below_set (HA.out.below) (Nat.le_refl _) 0 (.int .i64 cz)) (Nat.le_refl _) 1 (.bool false)) (Nat.le_refl _) 2 (.slice none 0 0)) (Nat.le_refl _) 3 (.slice none 0 0)) (Nat.le_refl _) 4 (.slice none 0 0)) (Nat.le_refl _) 5 (.int .i64 0)) (Nat.le_refl _) 6 (.int .i64 0)) (Nat.le_refl _) 7 (.slice none 0 0))) ?_)
          repeat (first | with_reducible exact Adds.refl _ | with_reducible refine Adds.alloc ?_ _ | with_reducible refine Adds.more ?_ _ _ | with_reducible refine Adds.drew ?_ | with_reducible refine Adds.drewN ?_ _)
      · have : i = os.length := by omega
        subst this
        have HE : Hid (codeB ds (qsOf os) = 0) := by
          show _ = _
          rw [HC.out, List.drop_of_length_le (by simp [qsOf])]
          rfl
        have HY := HW.out
        obtain ⟨co, cc, rfl, _, _⟩ := HY.lstH
        have HWR : Hid (w.heap.size < wr.heap.size) := hwr
        go_wp2
        refine bodyPost_ret (v := .tuple #[.slice co (rs.map (·.1)).length cc, ansV 0 false nilV]) (by simp [results, Try.results42, go_sem, x0, x1, x2, x3, x4, x5, x6, x7]) rfl ?_
        have hbl : Below w.heap.size w ((((((((wr.setCell ⟨w.heap.size, 0, none⟩ (.int .i64 0)).setCell ⟨w.heap.size, 1, none⟩ (.bool false)).setCell ⟨w.heap.size, 2, none⟩ (.slice none 0 0)).setCell ⟨w.heap.size, 3, none⟩ (.slice none 0 0)).setCell ⟨w.heap.size, 4, none⟩ (.slice none 0 0)).setCell ⟨w.heap.size, 5, none⟩ (.int .i64 0)).setCell ⟨w.heap.size, 6, none⟩ (.int .i64 0)).setCell ⟨w.heap.size, 7, none⟩ (.slice none 0 0)) :=
          below_set (below_set (below_set (below_set (below_set (below_set (below_set (below_set (HA.out.below) (Nat.le_refl _) _ _) (Nat.le_refl _) _ _) (Nat.le_refl _) _ _) (Nat.le_refl _) _ _) (Nat.le_refl _) _ _) (Nat.le_refl _) _ _) (Nat.le_refl _) _ _) (Nat.le_refl _) _ _
        refine batch_yes HG.out HE.out (Adds.of hbl) (own_final HW.out ?_ hbl hbl.size) (by rw [HM.out, List.take_length])
        exact ((((((((Far.refl _ _).set (Nat.lt_succ_self _) _ _).set (Nat.lt_succ_self _) _ _).set (Nat.lt_succ_self _) _ _).set (Nat.lt_succ_self _) _ _).set (Nat.lt_succ_self _) _ _).set (Nat.lt_succ_self _) _ _).set (Nat.lt_succ_self _) _ _).set (Nat.lt_succ_self _) _ _

end Go.Proofs.Ytgnhkpihlghbmaa
