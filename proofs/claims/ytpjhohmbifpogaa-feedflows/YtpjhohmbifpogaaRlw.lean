/-
  The law of what is read and pulled: FeedReads returns true, whatever the input.
-/
import Derived.Test.YtpjhohmbifpogaaAwk
import Derived.Test.YtpjhohmbifpogaaRmy
import Derived.Test.YtpjhohmbifpogaaNws
import Derived.Test.YtpjhohmbifpogaaRrd
import Derived.Test.YtpjhohmbifpogaaPul
import Derived.Test.YtpjhohmbifpogaaLig
namespace Go.Proofs.Ytpjhohmbifpogaa
open Go.RowKit
attribute [local go_sem] cell?_more frozen?_more setCell_more size_more tape_more drew_more drewN_more more_drew more_drewN one_out plus_out plus_end lt_one le_p2 le_p3 le_p4 le_p5 le_p6 le_p7 le_p8 le_p9 le_p10 le_p11 le_p12 le_p13 le_p14 le_p15 le_p16 le_p17 le_p18 le_p19 le_p20 le_p21 le_p22 le_p23 le_p24 le_q0 le_q1 lt_q1 le_q2 lt_q2 le_q3 lt_q3 le_q4 lt_q4 le_q5 lt_q5 le_q6 lt_q6 le_q7 lt_q7 le_q8 lt_q8 le_q9 lt_q9 le_q10 lt_q10 le_q11 lt_q11 le_q12 lt_q12 le_q13 lt_q13 le_q14 lt_q14 le_q15 lt_q15 le_q16 lt_q16 le_q17 lt_q17 le_q18 lt_q18 le_q19 lt_q19 le_q20 lt_q20 le_q21 lt_q21 le_q22 lt_q22 le_q23 lt_q23 le_q24 lt_q24

theorem lightC_doc {ch : List Ch} (h : LightC ch) : ∀ d ∈ ch, d.doc.length ≤ 1000 := by
  intro d hd
  obtain ⟨k, hk, rfl⟩ := List.getElem_of_mem hd
  exact Nat.le_trans (h.2 k hk) (by omega)

/-- What Read tells, in the feed's own words. -/
inductive ReadT (f : Fd) (name : ByteArray) (most : Int) : List Ch → Int → Int → Prop
  | none : hasAt name f.sb = false → ReadT f name most [] 0 4
  | most : hasAt name f.sb = true → ¬ (1 ≤ most ∧ most ≤ 16) → ReadT f name most [] 0 1
  | ok (k m : Nat) (p : Int) : hasAt name f.sb = true → most = (m : Int) → ReadT f name most (cutC f.ch k m) p 0

/-- What either side tells of Read. -/
def TellsR (fn : FuncId) (v : Value) (name : ByteArray) (most : Int) (l : List Ch) (p c : Int) (w : World) : Prop :=
  ∀ W, Adds w W → Calls Try.prog fn #[v, .string name, .int .i64 most] W fun e w' => (∃ vo vc, e = .returned (.tuple #[.slice vo l.length vc, .int .i64 p, .int .i64 c]) ∧ Hid (LstH w' (.slice vo l.length vc) l)) ∧ Adds W w'

def TellsP (fn : FuncId) (v : Value) (frm most : Int) (l : List Ch) (c : Int) (w : World) : Prop :=
  ∀ W, Adds w W → Calls Try.prog fn #[v, .int .i64 frm, .int .i64 most] W fun e w' => (∃ vo vc, e = .returned (.tuple #[.slice vo l.length vc, .int .i64 c]) ∧ Hid (LstH w' (.slice vo l.length vc) l)) ∧ Adds W w'

theorem lst_none (w : World) : LstH w (.slice none 0 0) [] := ⟨none, 0, rfl, Nat.le_refl _, .inl rfl⟩

theorem hasAt_lt {p : ByteArray} {l : List Sb} (h : hasAt p l = true) : cutAt p l < l.length := by
  unfold hasAt at h
  exact (of_decide_eq_true h).1

theorem reads_both (v : Value) (f : Fd) (name : ByteArray) (most : Int) (w : World) (h : LstF w v f) (hL : LightF f) (hM : MayF f) :
    ∃ l p c, TellsR 26 v name most l p c w ∧ TellsR 28 v name most l p c w ∧ l.length ≤ 1000 ∧ ∀ d ∈ l, d.doc.length ≤ 1000 := by
  have hc : f.ch.length ≤ 1000 := Nat.le_trans hL.1.1 (by omega)
  have hd := lightC_doc hL.1
  have h8 : f.sb.length ≤ 1000 := Nat.le_trans hM.2.2.2.2.2.1 (by omega)
  have hsl := subsc_less hM.2.2.2.2.2
  obtain ⟨s, t, rfl, hs, ht⟩ := id h
  cases hn : hasAt name f.sb
  · refine ⟨[], 0, 4, ?_, ?_, by simp, by simp⟩
    · intro W hA
      exact (read_none _ f name most W (h.adds hA) hc hM hn).mono (by rintro e w' ⟨rfl, hA⟩; exact ⟨⟨none, 0, rfl, lst_none w'⟩, hA⟩)
    · intro W hA
      exact (refRead_none f.base f.total most s t f.sb name W (ht.adds hA) h8 hsl hn).mono (by rintro e w' ⟨rfl, hA⟩; exact ⟨⟨none, 0, rfl, lst_none w'⟩, hA⟩)
  · have hlt := hasAt_lt hn
    by_cases hm : 1 ≤ most ∧ most ≤ 16
    · obtain ⟨m, rfl⟩ : ∃ m : Nat, most = (m : Int) := ⟨most.toNat, by omega⟩
      have hg := hM.2.2.2.2.2.2 _ hlt
      obtain ⟨k, hk⟩ : ∃ k : Nat, f.sb[cutAt name f.sb].pos - f.base = (k : Int) := ⟨(f.sb[cutAt name f.sb].pos - f.base).toNat, by have := hg.2.1; omega⟩
      refine ⟨cutC f.ch k m, f.sb[cutAt name f.sb].pos, 0, ?_, ?_, by simp [cutC]; omega, cutC_doc k m hd⟩
      · intro W hA
        refine (read_ok _ f name m W (h.adds hA) hc hd hM hlt hn (by omega) (by omega) k hk).mono ?_
        rintro e w' ⟨⟨vo, vc, rs, rfl, H⟩, hA⟩
        refine ⟨⟨vo, vc, rfl, ?_⟩, hA⟩
        have h1 := H.out.1.lstH
        rw [H.out.2] at h1
        exact h1
      · intro W hA
        exact refRead_ok f.base f.total s t f.ch f.sb name k m W (hs.adds hA) (ht.adds hA) hc h8 hM.2.2.2.2.1 hsl hlt hn (by omega) (by omega) hM.1 hg.2.2.1 hM.2.2.1 (by omega)
    · refine ⟨[], 0, 1, ?_, ?_, by simp, by simp⟩
      · intro W hA
        exact (read_most _ f name most W (h.adds hA) hc hM hn hm).mono (by rintro e w' ⟨rfl, hA⟩; exact ⟨⟨none, 0, rfl, lst_none w'⟩, hA⟩)
      · intro W hA
        exact (refRead_bad f.base f.total most s t f.sb name W (ht.adds hA) h8 hsl hlt hn hm).mono (by rintro e w' ⟨rfl, hA⟩; exact ⟨⟨none, 0, rfl, lst_none w'⟩, hA⟩)

theorem pulls_both (v : Value) (f : Fd) (frm most : Int) (w : World) (h : LstF w v f) (hL : LightF f) (hM : MayF f) :
    ∃ l c, TellsP 27 v frm most l c w ∧ TellsP 29 v frm most l c w ∧ l.length ≤ 1000 ∧ ∀ d ∈ l, d.doc.length ≤ 1000 := by
  have hc : f.ch.length ≤ 1000 := Nat.le_trans hL.1.1 (by omega)
  have hd := lightC_doc hL.1
  obtain ⟨s, t, rfl, hs, ht⟩ := id h
  by_cases hP : PullOk f frm most
  · by_cases ho : frm < f.base
    · refine ⟨[], 8, ?_, ?_, by simp, by simp⟩
      · intro W hA
        exact (pull_old _ f frm most W (h.adds hA) hc hP ho).mono (by rintro e w' ⟨rfl, hA⟩; exact ⟨⟨none, 0, rfl, lst_none w'⟩, hA⟩)
      · intro W hA
        exact (refPull_old f.base f.total frm most s t W hP.2 ho).mono (by rintro e w' ⟨rfl, hA⟩; exact ⟨⟨none, 0, rfl, lst_none w'⟩, hA⟩)
    · obtain ⟨m, rfl⟩ : ∃ m : Nat, most = (m : Int) := ⟨most.toNat, by have := hP.2.1; omega⟩
      obtain ⟨k, hk⟩ : ∃ k : Nat, frm - f.base = (k : Int) := ⟨(frm - f.base).toNat, by omega⟩
      have hm := hP.2.1
      refine ⟨cutC f.ch k m, 0, ?_, ?_, by simp [cutC]; omega, cutC_doc k m hd⟩
      · intro W hA
        refine (pull_ok _ f frm m W (h.adds hA) hc hd hP k hk).mono ?_
        rintro e w' ⟨⟨vo, vc, rs, rfl, H⟩, hA⟩
        refine ⟨⟨vo, vc, rfl, ?_⟩, hA⟩
        have h1 := H.out.1.lstH
        rw [H.out.2] at h1
        exact h1
      · intro W hA
        exact refPull_ok f.base f.total frm s t f.ch k m W (hs.adds hA) hc hM.2.2.2.2.1 (by omega) (by omega) hM.1 hP.2.2.2 hM.2.2.1 (by omega)
  · refine ⟨[], 1, ?_, ?_, by simp, by simp⟩
    · intro W hA
      exact (pull_bad _ f frm most W (h.adds hA) hc hP).mono (by rintro e w' ⟨rfl, hA⟩; exact ⟨⟨none, 0, rfl, lst_none w'⟩, hA⟩)
    · intro W hA
      exact (refPull_bad f.base f.total frm most s t W (fun h => hP ⟨hM, h⟩)).mono (by rintro e w' ⟨rfl, hA⟩; exact ⟨⟨none, 0, rfl, lst_none w'⟩, hA⟩)

end Go.Proofs.Ytpjhohmbifpogaa
