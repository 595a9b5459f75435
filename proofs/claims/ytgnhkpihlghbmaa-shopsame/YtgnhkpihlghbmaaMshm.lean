/-
  What is asked of documents, in plain lists: what comes of one that turns, and of some, one behind the other. Documents behind a change, in plain lists: what Fold makes is what the reference makes; documents that may be, and are not too many, stay so.
-/
import Derived.Test.YtgnhkpihlghbmaaMfdl
import Derived.Test.YtgnhkpihlghbmaaLby
namespace Go.Proofs.Ytgnhkpihlghbmaa
open Go.RowKit
attribute [local go_sem] cell?_more frozen?_more setCell_more size_more tape_more drew_more drewN_more more_drew more_drewN one_out plus_out plus_end lt_one le_p2 le_p3 le_p4 le_p5 le_p6 le_p7 le_p8 le_p9 le_p10 le_p11 le_p12 le_p13 le_p14 le_p15 le_p16 le_p17 le_p18 le_p19 le_p20 le_p21 le_p22 le_p23 le_p24 le_q0 le_q1 lt_q1 le_q2 lt_q2 le_q3 lt_q3 le_q4 lt_q4 le_q5 lt_q5 le_q6 lt_q6 le_q7 lt_q7 le_q8 lt_q8 le_q9 lt_q9 le_q10 lt_q10 le_q11 lt_q11 le_q12 lt_q12 le_q13 lt_q13 le_q14 lt_q14 le_q15 lt_q15 le_q16 lt_q16 le_q17 lt_q17 le_q18 lt_q18 le_q19 lt_q19 le_q20 lt_q20 le_q21 lt_q21 le_q22 lt_q22 le_q23 lt_q23 le_q24 lt_q24

/-- One that is asked. -/
structure Qs where
  kind : Int
  key : ByteArray
  to : ByteArray
  doc : List F
  want : List F
  has : Bool
  n : Int
  most : Int

/-- As it lies: its slices beside. -/
def opV (q : Qs) (dv wv lv sv nv : Value) : Value := .agg #[.int .i64 q.kind, .string q.key, .string q.to, dv, wv, .bool q.has, .int .i64 q.n, .int .i64 q.most, lv, sv, nv]

/-- What a setting is refused for; 0: it is not. -/
def codeP (ds : List Dn) (q : Qs) : Int :=
  if isKey q.key = true ∧ May q.doc then (if lightD q.doc then (if hasAt q.key ds = false ∧ ds.length = 24 then 2 else 0) else 3) else 1

/-- What a dropping is refused for. -/
def codeD (ds : List Dn) (q : Qs) : Int := if isKey q.key then (if hasAt q.key ds then 0 else 4) else 1

/-- The document that stands at a key. -/
def docAt (p : ByteArray) (ds : List Dn) : List F := if hasAt p ds = true then (if h : cutAt p ds < ds.length then ds[cutAt p ds].doc else []) else []

/-- What a compared setting is refused for. -/
def codeC (ds : List Dn) (q : Qs) : Int :=
  if isKey q.key = true ∧ May q.doc ∧ (q.has = true → May q.want) then (if hasAt q.key ds = q.has ∧ (q.has = true → docAt q.key ds = q.want) then codeP ds q else 7) else 1

/-- What one that turns a document is refused for. -/
def codeT (ds : List Dn) (q : Qs) : Int := if q.kind = 1 then codeP ds q else if q.kind = 2 then codeD ds q else if q.kind = 3 then codeC ds q else 1

def hasT (q : Qs) : Bool := !decide (q.kind = 2)
def docOf (q : Qs) : List F := if q.kind = 2 then [] else q.doc

/-- The documents behind it. -/
def stepT (ds : List Dn) (q : Qs) : List Dn := foldS ds q.key (hasT q) (docOf q)

/-- What some, one behind the other, are refused for. -/
def codeB : List Dn → List Qs → Int
  | _, [] => 0
  | ds, q :: r => if codeT ds q = 0 then codeB (stepT ds q) r else codeT ds q

theorem codeB_cons (ds : List Dn) (q : Qs) (r : List Qs) : codeB ds (q :: r) = if codeT ds q = 0 then codeB (stepT ds q) r else codeT ds q := rfl

theorem hasAt_lt {p : ByteArray} {ds : List Dn} (h : hasAt p ds = true) : cutAt p ds < ds.length := by
  unfold hasAt at h
  exact (of_decide_eq_true h).1

theorem docAt_some {p : ByteArray} {ds : List Dn} (h : hasAt p ds = true) : docAt p ds = (ds[cutAt p ds]'(hasAt_lt h)).doc := by
  unfold docAt
  rw [if_pos h, dif_pos (hasAt_lt h)]

theorem docAt_none {p : ByteArray} {ds : List Dn} (h : hasAt p ds = false) : docAt p ds = [] := by
  unfold docAt
  rw [if_neg (by simp [h])]

end Go.Proofs.Ytgnhkpihlghbmaa

namespace Go.Proofs.Ytgnhkpihlghbmaa
open Go.RowKit
attribute [local go_sem] cell?_more frozen?_more setCell_more size_more tape_more drew_more drewN_more more_drew more_drewN one_out plus_out plus_end lt_one le_p2 le_p3 le_p4 le_p5 le_p6 le_p7 le_p8 le_p9 le_p10 le_p11 le_p12 le_p13 le_p14 le_p15 le_p16 le_p17 le_p18 le_p19 le_p20 le_p21 le_p22 le_p23 le_p24 le_q0 le_q1 lt_q1 le_q2 lt_q2 le_q3 lt_q3 le_q4 lt_q4 le_q5 lt_q5 le_q6 lt_q6 le_q7 lt_q7 le_q8 lt_q8 le_q9 lt_q9 le_q10 lt_q10 le_q11 lt_q11 le_q12 lt_q12 le_q13 lt_q13 le_q14 lt_q14 le_q15 lt_q15 le_q16 lt_q16 le_q17 lt_q17 le_q18 lt_q18 le_q19 lt_q19 le_q20 lt_q20 le_q21 lt_q21 le_q22 lt_q22 le_q23 lt_q23 le_q24 lt_q24

theorem cutAt_nil (p : ByteArray) : cutAt p [] = 0 := rfl
theorem cutAt_cons (p : ByteArray) (d : Dn) (r : List Dn) : cutAt p (d :: r) = if lessP d.key p then cutAt p r + 1 else 0 := rfl

theorem hasAt_iff {p : ByteArray} {l : List Dn} : hasAt p l = true ↔ ∃ h : cutAt p l < l.length, l[cutAt p l].key.toList = p.toList := by
  unfold hasAt
  simp

theorem hasAt_nil (p : ByteArray) : hasAt p [] = false := by
  cases h : hasAt p [] with
  | false => rfl
  | true => obtain ⟨h, _⟩ := hasAt_iff.1 h; simp at h

theorem hasAt_less {p : ByteArray} {d : Dn} {r : List Dn} (h : lessP d.key p = true) : hasAt p (d :: r) = hasAt p r := by
  have e : cutAt p (d :: r) = cutAt p r + 1 := by rw [cutAt_cons, if_pos h]
  apply Bool.eq_iff_iff.2
  rw [hasAt_iff, hasAt_iff]
  constructor
  · rintro ⟨h1, h2⟩
    simp only [e, List.length_cons, List.getElem_cons_succ] at h1 h2
    exact ⟨by omega, h2⟩
  · rintro ⟨h1, h2⟩
    refine ⟨by rw [e, List.length_cons]; omega, ?_⟩
    simp only [e, List.getElem_cons_succ]
    exact h2

theorem hasAt_here {p : ByteArray} {d : Dn} {r : List Dn} (h : lessP d.key p = false) : hasAt p (d :: r) = decide (d.key.toList = p.toList) := by
  have e : cutAt p (d :: r) = 0 := by rw [cutAt_cons, h]; rfl
  apply Bool.eq_iff_iff.2
  rw [hasAt_iff, decide_eq_true_iff]
  constructor
  · rintro ⟨h1, h2⟩
    simp only [e, List.getElem_cons_zero] at h2
    exact h2
  · intro h2
    refine ⟨by rw [e]; simp, ?_⟩
    simp only [e, List.getElem_cons_zero]
    exact h2

theorem above_not {p : ByteArray} {d : Dn} {r : List Dn} (h : Risen (d :: r)) (hl : lessP d.key p = false) : ∀ x ∈ r, ¬ x.key.toList = p.toList := by
  intro x hx e
  have hdx := (List.pairwise_cons.1 h).1 x hx
  have e' : x.key = p := Sh.toList_inj e
  rw [e', hl] at hdx
  cases hdx

theorem filter_above {p : ByteArray} {r : List Dn} (h : ∀ x ∈ r, ¬ x.key.toList = p.toList) : r.filter (fun d => !decide (d.key.toList = p.toList)) = r := by
  apply List.filter_eq_self.2
  intro x hx
  simp [h x hx]

theorem foldS_cons_less {d : Dn} {r : List Dn} {key : ByteArray} {has : Bool} {doc : List F} (h : lessP d.key key = true) : foldS (d :: r) key has doc = d :: foldS r key has doc := by
  unfold foldS
  rw [hasAt_less h, cutAt_cons, if_pos h, List.take_succ_cons, List.cons_append]
  have e : cutAt key r + 1 + (if hasAt key r = true then 1 else 0) = cutAt key r + (if hasAt key r = true then 1 else 0) + 1 := by omega
  rw [e, List.drop_succ_cons]

theorem foldS_eq {ds : List Dn} (h : Risen ds) (key : ByteArray) (has : Bool) (doc : List F) : foldS ds key has doc = foldD ds key has doc := by
  induction ds with
  | nil =>
    unfold foldS foldD
    rw [hasAt_nil]
    cases has <;> rfl
  | cons d r ih =>
    have hr : Risen r := (List.pairwise_cons.1 h).2
    cases hl : lessP d.key key with
    | true =>
      rw [foldS_cons_less hl, ih hr]
      have hne : ¬ d.key.toList = key.toList := fun e => by rw [lessP_irr e] at hl; cases hl
      unfold foldD
      conv => rhs; unfold foldGo
      rw [hl, if_neg hne]
      simp
    | false =>
      have hab := filter_above (above_not h hl)
      unfold foldS foldD
      rw [hasAt_here hl, cutAt_cons, hl]
      conv => rhs; unfold foldGo
      rw [hl, show (!has || !false) = true by simp, foldGo_true, hab]
      by_cases e : d.key.toList = key.toList <;> cases has <;> simp [e]

/-- Documents that may be, and are not too many. -/
def Fine (ds : List Dn) : Prop := MayD ds ∧ ds.length ≤ 24

theorem Fine.risen {ds : List Dn} (h : Fine ds) : Risen ds := (mayD_iff.1 h.1).2
theorem Fine.docs {ds : List Dn} (h : Fine ds) : ∀ d ∈ ds, d.doc.length ≤ 1000 := fun d hd => by
  have := ((mayD_iff.1 h.1).1 d hd).2.1
  omega

theorem foldS_has {ds : List Dn} {key : ByteArray} {doc : List F} (has : Bool) (h : hasAt key ds = true) : (foldS ds key has doc).length ≤ ds.length := by
  have := hasAt_lt h
  unfold foldS
  rw [h]
  simp only [List.length_append, List.length_take, List.length_drop]
  cases has <;> simp <;> omega

theorem codeP_zero {ds : List Dn} {q : Qs} (h : codeP ds q = 0) : isKey q.key = true ∧ May q.doc ∧ (hasAt q.key ds = false → ¬ ds.length = 24) := by
  unfold codeP at h
  split at h
  · rename_i hk
    refine ⟨hk.1, hk.2, fun hh h24 => ?_⟩
    have h2 : (if hasAt q.key ds = false ∧ ds.length = 24 then (2 : Int) else 0) = 2 := if_pos ⟨hh, h24⟩
    rw [h2] at h
    split at h <;> cases h
  · cases h

theorem codeD_zero {ds : List Dn} {q : Qs} (h : codeD ds q = 0) : isKey q.key = true ∧ hasAt q.key ds = true := by
  unfold codeD at h
  split at h
  · split at h
    · exact ⟨by assumption, by assumption⟩
    · cases h
  · cases h

theorem codeC_zero {ds : List Dn} {q : Qs} (h : codeC ds q = 0) : codeP ds q = 0 ∧ hasAt q.key ds = q.has ∧ (q.has = true → docAt q.key ds = q.want) := by
  unfold codeC at h
  split at h
  · split at h
    · rename_i h1 h2
      exact ⟨h, h2.1, h2.2⟩
    · cases h
  · cases h

theorem codeT_zero {ds : List Dn} {q : Qs} (h : codeT ds q = 0) : isKey q.key = true ∧ (hasT q = true → May (docOf q)) ∧ (hasAt q.key ds = false → ¬ ds.length = 24) := by
  unfold codeT at h
  split at h
  · rename_i hk
    obtain ⟨h1, h2, h3⟩ := codeP_zero h
    exact ⟨h1, fun _ => by unfold docOf; rw [if_neg (by omega)]; exact h2, h3⟩
  · split at h
    · rename_i hk
      obtain ⟨h1, h2⟩ := codeD_zero h
      exact ⟨h1, fun hh => by simp [hasT, hk] at hh, fun hf => by rw [h2] at hf; cases hf⟩
    · split at h
      · rename_i hk
        obtain ⟨h1, h2, h3⟩ := codeP_zero (codeC_zero h).1
        exact ⟨h1, fun _ => by unfold docOf; rw [if_neg (by omega)]; exact h2, h3⟩
      · cases h

theorem Fine.step {ds : List Dn} {q : Qs} (h : Fine ds) (h0 : codeT ds q = 0) : Fine (stepT ds q) := by
  obtain ⟨h1, h2, h3⟩ := codeT_zero h0
  unfold stepT
  refine ⟨by rw [foldS_eq h.risen]; exact foldD_may h.1 ⟨h1, h2⟩, ?_⟩
  cases hh : hasAt q.key ds with
  | true =>
    have := foldS_has (doc := docOf q) (hasT q) hh
    have := h.2
    omega
  | false =>
    have := foldD_length ds q.key (hasT q) (docOf q)
    have h24 := h3 hh
    have := h.2
    rw [foldS_eq h.risen]
    omega

theorem docOf_len {q : Qs} (h : q.doc.length ≤ 1000) : (docOf q).length ≤ 1000 := by
  unfold docOf
  split
  · simp
  · exact h

end Go.Proofs.Ytgnhkpihlghbmaa
