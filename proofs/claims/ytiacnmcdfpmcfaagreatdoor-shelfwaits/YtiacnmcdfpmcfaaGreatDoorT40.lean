/-
  Documents behind a change: what they are, and their order.
  The theorem of indexes, in plain lists: built, and updated by a change, the entries are as built of the documents behind it.
-/
import Derived.Test.YtiacnmcdfpmcfaaGreatDoorT39
import Derived.Test.YtiacnmcdfpmcfaaGreatDoorT36
namespace Go.Proofs.YtiacnmcdfpmcfaaGreatDoor
open Go.RowKit
attribute [local go_sem] cell?_more frozen?_more setCell_more size_more tape_more drew_more drewN_more more_drew more_drewN one_out plus_out plus_end lt_one le_p2 le_p3 le_p4 le_p5 le_p6 le_p7 le_p8 le_p9 le_p10 le_p11 le_p12 le_p13 le_p14 le_p15 le_p16 le_p17 le_p18 le_p19 le_p20 le_p21 le_p22 le_p23 le_p24 le_q0 le_q1 lt_q1 le_q2 lt_q2 le_q3 lt_q3 le_q4 lt_q4 le_q5 lt_q5 le_q6 lt_q6 le_q7 lt_q7 le_q8 lt_q8 le_q9 lt_q9 le_q10 lt_q10 le_q11 lt_q11 le_q12 lt_q12 le_q13 lt_q13 le_q14 lt_q14 le_q15 lt_q15 le_q16 lt_q16 le_q17 lt_q17 le_q18 lt_q18 le_q19 lt_q19 le_q20 lt_q20 le_q21 lt_q21 le_q22 lt_q22 le_q23 lt_q23 le_q24 lt_q24

theorem lessP_irr {x y : ByteArray} (h : x.toList = y.toList) : lessP x y = false := Sh.lessP_irrefl x y h
theorem lessP_tr {x y z : ByteArray} (h : lessP x y = true) (k : lessP y z = true) : lessP x z = true := Sh.lessP_trans h k
theorem lessP_tot {x y : ByteArray} (h : lessP x y = false) (hne : ¬ x.toList = y.toList) : lessP y x = true := Sh.lessP_total h hne

/-- Documents behind a change, from some place on. -/
def foldGo (key : ByteArray) (doc : List F) : Bool → List Dn → List Dn
  | put, [] => if put then [] else [⟨key, doc⟩]
  | put, d :: r => (if !put && !lessP d.key key then [⟨key, doc⟩] else []) ++ (if d.key.toList = key.toList then [] else [d]) ++ foldGo key doc (put || !lessP d.key key) r

def foldD (ds : List Dn) (key : ByteArray) (has : Bool) (doc : List F) : List Dn := foldGo key doc (!has) ds

theorem foldGo_mem {key : ByteArray} {doc : List F} {x : Dn} : ∀ {ds : List Dn} {put : Bool}, x ∈ foldGo key doc put ds ↔ (x ∈ ds ∧ x.key ≠ key) ∨ (put = false ∧ x = ⟨key, doc⟩)
  | [], put => by
    unfold foldGo
    cases put <;> simp
  | d :: r, put => by
    have ih := foldGo_mem (key := key) (doc := doc) (x := x) (ds := r) (put := put || !lessP d.key key)
    have hk : d.key.toList = key.toList ↔ d.key = key := ⟨fun h => Sh.toList_inj h, fun h => by rw [h]⟩
    have hirr : d.key.toList = key.toList → lessP d.key key = false := lessP_irr
    have hx : ∀ y : Dn, x = y → x.key = y.key := fun y h => by rw [h]
    have hxd := hx d
    unfold foldGo
    rw [List.mem_append, List.mem_append, ih, List.mem_cons]
    clear ih hx
    cases put <;> cases hl : lessP d.key key <;> by_cases hd : d.key = key <;> simp only [hk, hd, if_true, if_false, Bool.not_true, Bool.not_false, Bool.and_true, Bool.and_false, Bool.or_true, Bool.or_false, Bool.false_eq_true, List.mem_singleton, List.mem_nil_iff] <;> grind

theorem foldD_mem {ds : List Dn} {key : ByteArray} {has : Bool} {doc : List F} {x : Dn} : x ∈ foldD ds key has doc ↔ (x ∈ ds ∧ x.key ≠ key) ∨ (has = true ∧ x = ⟨key, doc⟩) := by
  unfold foldD
  rw [foldGo_mem]
  cases has <;> simp

theorem foldGo_true {key : ByteArray} {doc : List F} : ∀ {ds : List Dn}, foldGo key doc true ds = ds.filter (fun d => !decide (d.key.toList = key.toList))
  | [] => rfl
  | d :: r => by
    unfold foldGo
    rw [Bool.true_or, foldGo_true (ds := r), List.filter_cons]
    by_cases h : d.key.toList = key.toList
    · simp [h]
    · simp [h]

def Risen (ds : List Dn) : Prop := ds.Pairwise (fun a b => lessP a.key b.key = true)

theorem mayD_iff {ds : List Dn} : MayD ds ↔ (∀ d ∈ ds, isKey d.key = true ∧ May d.doc) ∧ Risen ds := by
  constructor
  · intro h
    refine ⟨fun d hd => ?_, ?_⟩
    · obtain ⟨i, hi, rfl⟩ := List.mem_iff_getElem.1 hd
      exact ⟨(h i hi).1, (h i hi).2.1⟩
    · have key : ∀ k i (hi : i < ds.length) (hj : i + k + 1 < ds.length), lessP ds[i].key ds[i + k + 1].key = true := by
        intro k
        induction k with
        | zero =>
          intro i hi hj
          have := (h (i + 1) hj).2.2 (by omega)
          simpa using this
        | succ k ih =>
          intro i hi hj
          have := (h (i + k + 1 + 1) hj).2.2 (by omega)
          exact lessP_tr (ih i hi (by omega)) (by simpa [Nat.add_assoc] using this)
      refine List.pairwise_iff_getElem.2 (fun i j hi hj hij => ?_)
      obtain ⟨k, rfl⟩ : ∃ k, j = i + k + 1 := ⟨j - i - 1, by omega⟩
      exact key k i hi hj
  · rintro ⟨h1, h2⟩ k hk
    refine ⟨(h1 _ (List.getElem_mem hk)).1, (h1 _ (List.getElem_mem hk)).2, fun h0 => ?_⟩
    exact List.pairwise_iff_getElem.1 h2 (k - 1) k (by omega) hk (by omega)

theorem foldGo_risen {key : ByteArray} {doc : List F} : ∀ {ds : List Dn} {put : Bool}, Risen ds → Risen (foldGo key doc put ds)
  | ds, true, h => by
    rw [foldGo_true]
    exact h.sublist List.filter_sublist
  | [], false, h => by
    unfold foldGo
    exact List.pairwise_singleton _ _
  | d :: r, false, h => by
    have h' := h
    unfold Risen at h
    rw [List.pairwise_cons] at h
    unfold foldGo
    cases hl : lessP d.key key with
    | true =>
      have hne : ¬ d.key.toList = key.toList := fun e => by rw [lessP_irr e] at hl; cases hl
      rw [if_neg hne]
      simp only [Bool.not_true, Bool.and_false, Bool.false_eq_true, if_false, Bool.or_false, List.nil_append, List.singleton_append]
      refine List.pairwise_cons.2 ⟨fun x hx => ?_, foldGo_risen h.2⟩
      rcases foldGo_mem.1 hx with ⟨hx, _⟩ | ⟨_, rfl⟩
      · exact h.1 x hx
      · exact hl
    | false =>
      have e : (if (!false && !false) = true then [(⟨key, doc⟩ : Dn)] else []) ++ (if d.key.toList = key.toList then [] else [d]) ++ foldGo key doc (false || !false) r = ⟨key, doc⟩ :: foldGo key doc true (d :: r) := by
        conv => rhs; unfold foldGo
        simp
      rw [e]
      refine List.pairwise_cons.2 ⟨fun x hx => ?_, by rw [foldGo_true]; exact h'.sublist List.filter_sublist⟩
      rcases foldGo_mem.1 hx with ⟨hx, hxk⟩ | ⟨hx, _⟩
      · have hdx : x = d ∨ lessP d.key x.key = true := by
          rcases List.mem_cons.1 hx with rfl | hx
          · exact .inl rfl
          · exact .inr (h.1 x hx)
        rcases hdx with rfl | hdx
        · exact lessP_tot hl (fun e => hxk (Sh.toList_inj e))
        · by_cases e : d.key.toList = key.toList
          · have := Sh.toList_inj e
            rw [this] at hdx
            exact hdx
          · exact lessP_tr (lessP_tot hl e) hdx
      · cases hx

theorem foldD_may {ds : List Dn} {key : ByteArray} {has : Bool} {doc : List F} (h : MayD ds) (hc : MayC key has doc) : MayD (foldD ds key has doc) := by
  rw [mayD_iff] at *
  refine ⟨fun d hd => ?_, foldGo_risen h.2⟩
  rcases foldD_mem.1 hd with ⟨hd, _⟩ | ⟨hh, rfl⟩
  · exact h.1 d hd
  · exact ⟨hc.1, hc.2 hh⟩

theorem foldGo_length {key : ByteArray} {doc : List F} : ∀ {ds : List Dn} {put : Bool}, (foldGo key doc put ds).length ≤ ds.length + (if put then 0 else 1)
  | [], put => by
    unfold foldGo
    cases put <;> simp
  | d :: r, put => by
    unfold foldGo
    have := foldGo_length (key := key) (doc := doc) (ds := r) (put := put || !lessP d.key key)
    rw [List.length_append, List.length_append, List.length_cons]
    cases put <;> cases hl : lessP d.key key <;> simp only [hl, Bool.not_true, Bool.not_false, Bool.or_true, Bool.or_false, Bool.and_true, Bool.and_false, if_true, if_false, Bool.false_eq_true] at this ⊢ <;> split <;> simp <;> omega

theorem foldD_length (ds : List Dn) (key : ByteArray) (has : Bool) (doc : List F) : (foldD ds key has doc).length ≤ ds.length + 1 := by
  have := foldGo_length (key := key) (doc := doc) (ds := ds) (put := !has)
  unfold foldD
  split at this <;> omega

theorem sortE_mem {l : List Sh.F} {g : Sh.F} : g ∈ Sh.sortE l ↔ g ∈ l := by
  unfold Sh.sortE
  exact List.mem_mergeSort

theorem ents_mem {xs : List E} {ds : List Dn} {g : Sh.F} : g ∈ ents xs ds ↔ ∃ d ∈ ds, entryOf xs d.key d.doc = some g := by
  unfold ents
  exact List.mem_filterMap

theorem ents_apart {xs : List E} {ds : List Dn} (h : Risen ds) : (ents xs ds).Pairwise (fun a b => a ≠ b) := by
  unfold ents
  rw [List.pairwise_filterMap]
  refine h.imp (fun {a b} hab x hx y hy e => ?_)
  have h1 := entryOf_val hx
  have h2 := entryOf_val hy
  rw [e, h2] at h1
  rw [h1, lessP_irr rfl] at hab
  cases hab

theorem sortE_climbs {l : List Sh.F} (h : l.Pairwise (fun a b => a ≠ b)) : (Sh.sortE l).Pairwise (fun a b => Sh.lessE a b = true) := by
  have hs : (Sh.sortE l).Pairwise (fun a b => (!ltOf Sh.cmpE b a) = true) := by
    unfold Sh.sortE
    refine List.pairwise_mergeSort (fun a b c h1 h2 => ?_) (fun a b => ?_) l
    · rw [Bool.not_eq_true'] at *
      exact Sh.ltE_swo.ntrans _ _ _ h2 h1
    · rw [Bool.or_eq_true, Bool.not_eq_true', Bool.not_eq_true']
      cases e : ltOf Sh.cmpE b a with
      | false => exact .inl rfl
      | true =>
        refine .inr ?_
        cases e2 : ltOf Sh.cmpE a b with
        | false => rfl
        | true =>
          have := Sh.ltE_swo.trans _ _ _ e e2
          rw [Sh.ltE_swo.irrefl] at this
          cases this
  have hn : (Sh.sortE l).Pairwise (fun a b => a ≠ b) := by
    have hp : (Sh.sortE l).Perm l := List.mergeSort_perm _ _
    exact hp.symm.pairwise h (fun {a b} hab e => hab e.symm)
  refine (hs.and hn).imp (fun {a b} ⟨h1, h2⟩ => ?_)
  rw [Sh.lessE_cmp]
  rw [Bool.not_eq_true'] at h1
  cases e : ltOf Sh.cmpE a b with
  | true => exact e
  | false => exact absurd (Sh.ltE_total _ _ e h1) h2

theorem build_climbs {xs : List E} {ds : List Dn} (h : MayD ds) : (Sh.sortE (ents xs ds)).Pairwise (fun a b => Sh.lessE a b = true) := sortE_climbs (ents_apart (mayD_iff.1 h).2)

theorem build_may {xs : List E} {ds : List Dn} (h : MayD ds) : Sh.May (Sh.sortE (ents xs ds)) := (Sh.climbsE_iff.2 (build_climbs h)).may

/-- Built, and updated by a change: as built of the documents behind it. -/
theorem follows_one {xs : List E} {ds : List Dn} {key : ByteArray} {has : Bool} {doc : List F} (h : MayD ds) (hc : MayC key has doc) :
    updE xs (Sh.sortE (ents xs ds)) key has doc = Sh.sortE (ents xs (foldD ds key has doc)) := by
  refine climb_ext (updE_climbs (build_climbs h)) (build_climbs (foldD_may h hc)) (fun g => ?_)
  rw [updE_mem, sortE_mem, sortE_mem, ents_mem, ents_mem]
  constructor
  · rintro (⟨⟨d, hd, he⟩, hv⟩ | ⟨hh, he⟩)
    · refine ⟨d, foldD_mem.2 (.inl ⟨hd, fun e => hv ?_⟩), he⟩
      rw [entryOf_val he, e]
    · exact ⟨⟨key, doc⟩, foldD_mem.2 (.inr ⟨hh, rfl⟩), he⟩
  · rintro ⟨d, hd, he⟩
    rcases foldD_mem.1 hd with ⟨hd, hk⟩ | ⟨hh, rfl⟩
    · refine .inl ⟨⟨d, hd, he⟩, ?_⟩
      rw [entryOf_val he]
      exact hk
    · exact .inr ⟨hh, he⟩

end Go.Proofs.YtiacnmcdfpmcfaaGreatDoor
