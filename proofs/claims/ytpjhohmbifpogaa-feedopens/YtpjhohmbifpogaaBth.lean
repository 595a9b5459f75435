/-
  Open, Ack, Close and Trim: what both sides tell.
-/
import Derived.Test.YtpjhohmbifpogaaPur
import Derived.Test.YtpjhohmbifpogaaOpi
import Derived.Test.YtpjhohmbifpogaaAck
import Derived.Test.YtpjhohmbifpogaaClo
import Derived.Test.YtpjhohmbifpogaaTrm
import Derived.Test.YtpjhohmbifpogaaRop
import Derived.Test.YtpjhohmbifpogaaRak
import Derived.Test.YtpjhohmbifpogaaRcm
import Derived.Test.YtpjhohmbifpogaaRtm
import Derived.Test.YtpjhohmbifpogaaAlx
namespace Go.Proofs.Ytpjhohmbifpogaa
open Go.RowKit
attribute [local go_sem] cell?_more frozen?_more setCell_more size_more tape_more drew_more drewN_more more_drew more_drewN one_out plus_out plus_end lt_one le_p2 le_p3 le_p4 le_p5 le_p6 le_p7 le_p8 le_p9 le_p10 le_p11 le_p12 le_p13 le_p14 le_p15 le_p16 le_p17 le_p18 le_p19 le_p20 le_p21 le_p22 le_p23 le_p24 le_q0 le_q1 lt_q1 le_q2 lt_q2 le_q3 lt_q3 le_q4 lt_q4 le_q5 lt_q5 le_q6 lt_q6 le_q7 lt_q7 le_q8 lt_q8 le_q9 lt_q9 le_q10 lt_q10 le_q11 lt_q11 le_q12 lt_q12 le_q13 lt_q13 le_q14 lt_q14 le_q15 lt_q15 le_q16 lt_q16 le_q17 lt_q17 le_q18 lt_q18 le_q19 lt_q19 le_q20 lt_q20 le_q21 lt_q21 le_q22 lt_q22 le_q23 lt_q23 le_q24 lt_q24

/-- What either side tells of a feed, its lists' lengths spelled. -/
def TellsG (fn : FuncId) (args : Array Value) (g : Fd) (n m : Nat) (c : Int) (w : World) : Prop :=
  ∀ W, Adds w W → Calls Try.prog fn args W fun e w' => (∃ vo vc uo uc, e = .returned (.tuple #[.agg #[.int .i64 g.base, .int .i64 g.total, .slice vo n vc, .slice uo m uc], .int .i64 c]) ∧ Hid (LstF w' (.agg #[.int .i64 g.base, .int .i64 g.total, .slice vo n vc, .slice uo m uc]) g)) ∧ Adds W w'

structure BothF (p r : FuncId) (args : Array Value) (w : World) (g : Fd) (n m : Nat) (c : Int) : Prop where
  prog : TellsG p args g n m c w
  ref : TellsG r args g n m c w
  may : MayF g
  len : g.ch.length ≤ 1000
  doc : ∀ d ∈ g.ch, d.doc.length ≤ 1000

theorem tells_of {fn : FuncId} {args : Array Value} {g : Fd} {n m : Nat} {c : Int} {w : World}
    (h : ∀ W, Adds w W → Calls Try.prog fn args W fun e w' => (∃ vo vc uo uc, e = .returned (.tuple #[.agg #[.int .i64 g.base, .int .i64 g.total, .slice vo n vc, .slice uo m uc], .int .i64 c]) ∧ Hid (LstH w' (.slice vo n vc) g.ch ∧ LstS w' (.slice uo m uc) g.sb)) ∧ Adds W w') : TellsG fn args g n m c w := by
  intro W hA
  refine (h W hA).mono ?_
  rintro e w' ⟨⟨vo, vc, uo, uc, rfl, H⟩, hA'⟩
  exact ⟨⟨vo, vc, uo, uc, rfl, ⟨_, _, rfl, H.out.1, H.out.2⟩⟩, hA'⟩

/-- Where the reference hands the feed back as it is. -/
theorem tells_back {fn : FuncId} {args : Array Value} {g : Fd} {c : Int} {v : Value} {w : World} (hv : LstF w v g)
    (h : ∀ W, Adds w W → Calls Try.prog fn args W fun e w' => e = .returned (.tuple #[v, .int .i64 c]) ∧ Adds W w') : TellsG fn args g g.ch.length g.sb.length c w := by
  intro W hA
  refine (h W hA).mono ?_
  rintro e w' ⟨rfl, hA'⟩
  have hv' := (hv.adds hA).adds hA'
  obtain ⟨s, t, rfl, hs, ht⟩ := hv
  obtain ⟨so, sc, rfl, _, _⟩ := hs
  obtain ⟨uo, uc, rfl, _, _⟩ := ht
  exact ⟨⟨so, sc, uo, uc, rfl, hv'⟩, hA'⟩

/-- Where the reference has new subscriptions. -/
theorem tells_subs {fn : FuncId} {args : Array Value} {base total : Int} {ch : List Ch} {ss : List Sb} {m : Nat} {c : Int} {s : Value} {w : World} (hs : LstH w s ch)
    (h : ∀ W, Adds w W → Calls Try.prog fn args W fun e w' => (∃ uo uc, e = .returned (.tuple #[.agg #[.int .i64 base, .int .i64 total, s, .slice uo m uc], .int .i64 c]) ∧ Hid (LstS w' (.slice uo m uc) ss)) ∧ Adds W w') : TellsG fn args ⟨base, total, ch, ss⟩ ch.length m c w := by
  intro W hA
  refine (h W hA).mono ?_
  rintro e w' ⟨⟨uo, uc, rfl, H⟩, hA'⟩
  have hs' := (hs.adds hA).adds hA'
  obtain ⟨so, sc, rfl, _, _⟩ := hs
  exact ⟨⟨so, sc, uo, uc, rfl, ⟨_, _, rfl, hs', H.out⟩⟩, hA'⟩

theorem slice_of {w : World} {s : Value} {ch : List Ch} (h : LstH w s ch) : ∃ so n sc, s = .slice so n sc := by
  obtain ⟨so, sc, rfl, _, _⟩ := h
  exact ⟨_, _, _, rfl⟩

theorem opens_both (v : Value) (f : Fd) (name : ByteArray) (pos : Int) (w : World) (h : LstF w v f) (hM : MayF f) (hc : f.ch.length ≤ 1000) (hd : ∀ d ∈ f.ch, d.doc.length ≤ 1000) :
    ∃ g n m c, BothF 18 22 #[v, .string name, .int .i64 pos] w g n m c ∧ (c = 0 → isKey name = true ∧ f.base ≤ pos ∧ pos ≤ f.total ∧ hasAt name f.sb = false ∧ g = ⟨f.base, f.total, f.ch, insS name pos f.sb⟩) := by
  have hsl := subsc_less hM.2.2.2.2.2
  have h8 : f.sb.length ≤ 8 := hM.2.2.2.2.2.1
  have h8' : f.sb.length ≤ 1000 := by omega
  have hb0 : 0 ≤ f.base := hM.1
  obtain ⟨s, t, rfl, hs, ht⟩ := id h
  have hso := slice_of hs
  have back : ∀ c, c ≠ 0 → (TellsG 18 #[.agg #[.int .i64 f.base, .int .i64 f.total, s, t], .string name, .int .i64 pos] f f.ch.length f.sb.length c w) → (∀ W, Adds w W → Calls Try.prog 22 #[.agg #[.int .i64 f.base, .int .i64 f.total, s, t], .string name, .int .i64 pos] W fun e w' => e = .returned (.tuple #[.agg #[.int .i64 f.base, .int .i64 f.total, s, t], .int .i64 c]) ∧ Adds W w') →
      ∃ g n m c, BothF 18 22 #[.agg #[.int .i64 f.base, .int .i64 f.total, s, t], .string name, .int .i64 pos] w g n m c ∧ (c = 0 → isKey name = true ∧ f.base ≤ pos ∧ pos ≤ f.total ∧ hasAt name f.sb = false ∧ g = ⟨f.base, f.total, f.ch, insS name pos f.sb⟩) :=
    fun c hc0 h1 h2 => ⟨f, _, _, c, ⟨h1, tells_back h h2, hM, hc, hd⟩, fun e => absurd e hc0⟩
  by_cases h1 : isKey name = true
  rotate_left
  · have h1' : isKey name = false := by simpa using h1
    exact back 1 (by decide) (tells_of fun W hA => open_key _ f name pos W (h.adds hA) hM hc hd h1') (fun W hA => refOpen_err f.base f.total pos 1 s t f.sb name W hso (ht.adds hA) h8' hsl (.inl ⟨h1', rfl⟩))
  by_cases h2 : pos < 0
  · exact back 1 (by decide) (tells_of fun W hA => open_neg _ f name pos W (h.adds hA) hM hc hd h1 h2) (fun W hA => refOpen_err f.base f.total pos 1 s t f.sb name W hso (ht.adds hA) h8' hsl (.inr (.inl ⟨h1, h2, rfl⟩)))
  by_cases h3 : f.total < pos
  · exact back 1 (by decide) (tells_of fun W hA => open_far _ f name pos W (h.adds hA) hM hc hd h1 (by omega) h3) (fun W hA => refOpen_err f.base f.total pos 1 s t f.sb name W hso (ht.adds hA) h8' hsl (.inr (.inr (.inl ⟨h1, h2, h3, rfl⟩))))
  by_cases h4 : hasAt name f.sb = true
  · exact back 11 (by decide) (tells_of fun W hA => open_same _ f name pos W (h.adds hA) hM hc hd h1 (by omega) (by omega) h4) (fun W hA => refOpen_err f.base f.total pos 11 s t f.sb name W hso (ht.adds hA) h8' hsl (.inr (.inr (.inr (.inl ⟨h1, h2, h3, h4, rfl⟩)))))
  replace h4 : hasAt name f.sb = false := by simpa using h4
  by_cases h5 : f.sb.length = 8
  · exact back 2 (by decide) (tells_of fun W hA => open_full _ f name pos W (h.adds hA) hM hc hd h1 (by omega) (by omega) h4 h5) (fun W hA => refOpen_err f.base f.total pos 2 s t f.sb name W hso (ht.adds hA) h8' hsl (.inr (.inr (.inr (.inr (.inl ⟨h1, h2, h3, h4, h5, rfl⟩))))))
  by_cases h6 : pos < f.base
  · exact back 8 (by decide) (tells_of fun W hA => open_old _ f name pos W (h.adds hA) hM hc hd h1 (by omega) (by omega) h4 (by omega) h6) (fun W hA => refOpen_err f.base f.total pos 8 s t f.sb name W hso (ht.adds hA) h8' hsl (.inr (.inr (.inr (.inr (.inr ⟨h1, h2, h3, h4, h5, h6, rfl⟩))))))
  refine ⟨⟨f.base, f.total, f.ch, insS name pos f.sb⟩, f.ch.length, f.sb.length + 1, 0, ⟨?_, ?_, ?_, hc, hd⟩, fun _ => ⟨h1, by omega, by omega, h4, rfl⟩⟩
  · exact tells_of fun W hA => open_ok _ f name pos W (h.adds hA) hM hc hd h1 h4 (by omega) (by omega) (by omega)
  · exact tells_subs hs fun W hA => refOpen_ok f.base f.total pos s t f.sb name W hso (ht.adds hA) h8' hsl h1 h2 h3 h4 h5 h6
  · exact ⟨hM.1, hM.2.1, hM.2.2.1, hM.2.2.2.1, hM.2.2.2.2.1, subsc_ins hM.2.2.2.2.2 h1 h4 (by omega) (by show f.base ≤ pos; omega) (by show pos ≤ f.total; omega)⟩

theorem acks_both (v : Value) (f : Fd) (name : ByteArray) (pos : Int) (w : World) (h : LstF w v f) (hM : MayF f) (hc : f.ch.length ≤ 1000) (hd : ∀ d ∈ f.ch, d.doc.length ≤ 1000) :
    ∃ g n m c, BothF 19 23 #[v, .string name, .int .i64 pos] w g n m c := by
  have hsl := subsc_less hM.2.2.2.2.2
  have h8' : f.sb.length ≤ 1000 := Nat.le_trans hM.2.2.2.2.2.1 (by omega)
  obtain ⟨s, t, rfl, hs, ht⟩ := id h
  have hso := slice_of hs
  cases h4 : hasAt name f.sb
  · exact ⟨f, _, _, 4, tells_of fun W hA => ack_none _ f name pos W (h.adds hA) hM hc hd h4, tells_back h fun W hA => refAck_none f.base f.total pos s t f.sb name W hso (ht.adds hA) h8' hsl h4, hM, hc, hd⟩
  have hlt := hasAt_lt h4
  by_cases h1 : f.total < pos
  · exact ⟨f, _, _, 1, tells_of fun W hA => ack_far _ f name pos W (h.adds hA) hM hc hd h4 h1, tells_back h fun W hA => refAck_err f.base f.total pos 1 s t f.sb name W hso (ht.adds hA) h8' hsl _ rfl hlt h4 (.inl ⟨h1, rfl⟩), hM, hc, hd⟩
  by_cases h2 : pos < f.sb[cutAt name f.sb].pos
  · exact ⟨f, _, _, 8, tells_of fun W hA => ack_old _ f name pos W (h.adds hA) hM hc hd h4 _ rfl hlt (by omega) h2, tells_back h fun W hA => refAck_err f.base f.total pos 8 s t f.sb name W hso (ht.adds hA) h8' hsl _ rfl hlt h4 (.inr ⟨h1, h2, rfl⟩), hM, hc, hd⟩
  have hg := hM.2.2.2.2.2.2 _ hlt
  refine ⟨⟨f.base, f.total, f.ch, f.sb.set (cutAt name f.sb) ⟨f.sb[cutAt name f.sb].name, pos⟩⟩, f.ch.length, f.sb.length, 0, ?_, ?_, ?_, hc, hd⟩
  · exact tells_of fun W hA => ack_ok _ f name pos W (h.adds hA) hM hc hd h4 _ rfl hlt (by omega) (by omega)
  · exact tells_subs hs fun W hA => refAck_ok f.base f.total pos s t f.sb name W hso (ht.adds hA) h8' hsl _ rfl hlt h4 h1 h2
  · exact ⟨hM.1, hM.2.1, hM.2.2.1, hM.2.2.2.1, hM.2.2.2.2.1, subsc_set hM.2.2.2.2.2 _ hlt (by have := hg.2.1; show f.base ≤ pos; omega) (by show pos ≤ f.total; omega)⟩

theorem closes_both (v : Value) (f : Fd) (name : ByteArray) (w : World) (h : LstF w v f) (hM : MayF f) (hc : f.ch.length ≤ 1000) (hd : ∀ d ∈ f.ch, d.doc.length ≤ 1000) :
    ∃ g n m c, BothF 20 24 #[v, .string name] w g n m c := by
  have hsl := subsc_less hM.2.2.2.2.2
  have h8' : f.sb.length ≤ 1000 := Nat.le_trans hM.2.2.2.2.2.1 (by omega)
  obtain ⟨s, t, rfl, hs, ht⟩ := id h
  have hso := slice_of hs
  cases h4 : hasAt name f.sb
  · exact ⟨f, _, _, 4, tells_of fun W hA => close_none _ f name W (h.adds hA) hM hc hd h4, tells_back h fun W hA => refClose_none f.base f.total s t f.sb name W hso (ht.adds hA) h8' hsl h4, hM, hc, hd⟩
  have hlt := hasAt_lt h4
  refine ⟨⟨f.base, f.total, f.ch, f.sb.take (cutAt name f.sb) ++ f.sb.drop (cutAt name f.sb + 1)⟩, f.ch.length, f.sb.length - 1, 0, ?_, ?_, ?_, hc, hd⟩
  · exact tells_of fun W hA => close_ok _ f name W (h.adds hA) hM hc hd h4 _ rfl hlt
  · refine tells_subs hs fun W hA => ?_
    by_cases hl : cutAt name f.sb + 1 < f.sb.length
    · exact refClose_mid f.base f.total s t f.sb name W hso (ht.adds hA) h8' hsl _ rfl hl h4
    · exact refClose_last f.base f.total s t f.sb name W hso (ht.adds hA) h8' hsl _ rfl (by omega) h4
  · exact ⟨hM.1, hM.2.1, hM.2.2.1, hM.2.2.2.1, hM.2.2.2.2.1, subsc_del hM.2.2.2.2.2 _⟩

theorem trims_both (v : Value) (f : Fd) (pos : Int) (w : World) (h : LstF w v f) (hM : MayF f) (hc : f.ch.length ≤ 1000) (hd : ∀ d ∈ f.ch, d.doc.length ≤ 1000) :
    ∃ g n, TellsG 21 #[v, .int .i64 pos] g n f.sb.length 0 w ∧ (∀ W, Adds w W → Calls Try.prog 25 #[v, .int .i64 pos] W fun e w' => (∃ vo vc uo uc, e = .returned (.agg #[.int .i64 g.base, .int .i64 g.total, .slice vo n vc, .slice uo f.sb.length uc]) ∧ Hid (LstF w' (.agg #[.int .i64 g.base, .int .i64 g.total, .slice vo n vc, .slice uo f.sb.length uc]) g)) ∧ Adds W w') ∧ MayF g ∧ g.ch.length ≤ 1000 ∧ (∀ d ∈ g.ch, d.doc.length ≤ 1000) ∧ g.sb = f.sb ∧ g.total = f.total ∧ g = trimF f pos := by
  have hT := trimF_sb f pos
  have hC := trimF_ch f pos
  refine ⟨trimF f pos, (trimF f pos).ch.length, ?_, ?_, mayF_trim hM pos, Nat.le_trans hC.2 hc, fun d hm => hd d (hC.1 d hm), hT.1, hT.2, rfl⟩
  · refine tells_of fun W hA => ?_
    rw [hT.1, hT.2]
    obtain ⟨s, t, rfl, hs, ht⟩ := h
    obtain ⟨base, total, ch, sb⟩ := f
    by_cases hp : total < pos
    · exact trim_far base total pos s t ch sb W (hs.adds hA) (ht.adds hA) hM hc hd hp
    · exact trim_near base total pos s t ch sb W (hs.adds hA) (ht.adds hA) hM hc hd hp
  · intro W hA
    rw [hT.2]
    obtain ⟨s, t, rfl, hs, ht⟩ := h
    have ht' := ht
    obtain ⟨base, total, ch, sb⟩ := f
    obtain ⟨uo, uc, rfl, _, _⟩ := ht
    have key : Calls Try.prog 25 #[.agg #[.int .i64 base, .int .i64 total, s, .slice uo sb.length uc], .int .i64 pos] W fun e w' => (∃ vo vc, e = .returned (.agg #[.int .i64 (trimF ⟨base, total, ch, sb⟩ pos).base, .int .i64 total, .slice vo (trimF ⟨base, total, ch, sb⟩ pos).ch.length vc, .slice uo sb.length uc]) ∧ Hid (LstH w' (.slice vo (trimF ⟨base, total, ch, sb⟩ pos).ch.length vc) (trimF ⟨base, total, ch, sb⟩ pos).ch)) ∧ Adds W w' := by
      by_cases hp : total < pos
      · exact refTrim_far base total pos s _ ch sb W (hs.adds hA) (ht'.adds hA) hM hc hp
      · exact refTrim_near base total pos s _ ch sb W (hs.adds hA) (ht'.adds hA) hM hc hp
    refine key.mono ?_
    rintro e w' ⟨⟨vo, vc, rfl, H⟩, hA'⟩
    refine ⟨⟨vo, vc, uo, uc, rfl, ?_⟩, hA'⟩
    have hL : LstF w' (.agg #[.int .i64 (trimF ⟨base, total, ch, sb⟩ pos).base, .int .i64 (trimF ⟨base, total, ch, sb⟩ pos).total, .slice vo (trimF ⟨base, total, ch, sb⟩ pos).ch.length vc, .slice uo sb.length uc]) (trimF ⟨base, total, ch, sb⟩ pos) :=
      ⟨_, _, rfl, H.out, by rw [hT.1]; exact (ht'.adds hA).adds hA'⟩
    rw [hT.2] at hL
    exact hL

end Go.Proofs.Ytpjhohmbifpogaa
