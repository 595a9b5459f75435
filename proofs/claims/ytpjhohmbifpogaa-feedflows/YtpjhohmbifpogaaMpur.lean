/-
  What is opened, acknowledged, closed and trimmed may be. Open, Ack, Close and Trim: what both sides tell. A box that turns: lists lie elsewhere.
-/
import Derived.Test.YtpjhohmbifpogaaMopg
import Derived.Test.YtpjhohmbifpogaaMtrm
import Derived.Test.YtpjhohmbifpogaaMalw
import Derived.Test.YtpjhohmbifpogaaMaca
import Derived.Test.YtpjhohmbifpogaaMdel
import Derived.Test.YtpjhohmbifpogaaRop
import Derived.Test.YtpjhohmbifpogaaMrcl
namespace Go.Proofs.Ytpjhohmbifpogaa
open Go.RowKit
attribute [local go_sem] cell?_more frozen?_more setCell_more size_more tape_more drew_more drewN_more more_drew more_drewN one_out plus_out plus_end lt_one le_p2 le_p3 le_p4 le_p5 le_p6 le_p7 le_p8 le_p9 le_p10 le_p11 le_p12 le_p13 le_p14 le_p15 le_p16 le_p17 le_p18 le_p19 le_p20 le_p21 le_p22 le_p23 le_p24 le_q0 le_q1 lt_q1 le_q2 lt_q2 le_q3 lt_q3 le_q4 lt_q4 le_q5 lt_q5 le_q6 lt_q6 le_q7 lt_q7 le_q8 lt_q8 le_q9 lt_q9 le_q10 lt_q10 le_q11 lt_q11 le_q12 lt_q12 le_q13 lt_q13 le_q14 lt_q14 le_q15 lt_q15 le_q16 lt_q16 le_q17 lt_q17 le_q18 lt_q18 le_q19 lt_q19 le_q20 lt_q20 le_q21 lt_q21 le_q22 lt_q22 le_q23 lt_q23 le_q24 lt_q24

theorem subsc_iff {sb : List Sb} {lo hi : Int} : Subsc sb lo hi ↔ sb.length ≤ 8 ∧ (∀ s ∈ sb, isKey s.name = true ∧ lo ≤ s.pos ∧ s.pos ≤ hi) ∧ (sb.map (·.name)).Pairwise (fun a b => lessP a b = true) := by
  constructor
  · intro h
    refine ⟨h.1, ?_, ?_⟩
    · intro s hs
      obtain ⟨k, hk, rfl⟩ := List.getElem_of_mem hs
      exact ⟨(h.2 k hk).1, (h.2 k hk).2.1, (h.2 k hk).2.2.1⟩
    · rw [List.pairwise_iff_getElem]
      intro i j hi hj hij
      simpa using subsc_less h i j (by simpa using hi) (by simpa using hj) hij
  · rintro ⟨h1, h2, h3⟩
    refine ⟨h1, fun k hk => ⟨(h2 _ (List.getElem_mem hk)).1, (h2 _ (List.getElem_mem hk)).2.1, (h2 _ (List.getElem_mem hk)).2.2, fun h0 => ?_⟩⟩
    rw [List.pairwise_iff_getElem] at h3
    have h4 := h3 (k - 1) k (by simp; omega) (by simpa using hk) (by omega)
    rw [List.getElem_map, List.getElem_map] at h4
    exact h4

theorem cutAt_take (p : ByteArray) (sb : List Sb) : ∀ s ∈ sb.take (cutAt p sb), lessP s.name p = true := by
  induction sb with
  | nil => intro s h; simp at h
  | cons f r ih =>
    intro s hs
    by_cases h : lessP f.name p = true
    · simp only [cutAt, h, if_true, List.take_succ_cons, List.mem_cons] at hs
      rcases hs with rfl | hs
      · exact h
      · exact ih s hs
    · simp [cutAt, h] at hs

theorem cutAt_not (p : ByteArray) (sb : List Sb) (h : cutAt p sb < sb.length) : lessP sb[cutAt p sb].name p = false := by
  induction sb with
  | nil => simp at h
  | cons f r ih =>
    by_cases hf : lessP f.name p = true
    · have e : cutAt p (f :: r) = cutAt p r + 1 := by simp [cutAt, hf]
      have h' : cutAt p r < r.length := by rw [e] at h; simpa using h
      simp only [e, List.getElem_cons_succ]
      exact ih h'
    · have e : cutAt p (f :: r) = 0 := by simp [cutAt, hf]
      simp only [e, List.getElem_cons_zero]
      simpa using hf

theorem cutAt_drop {p : ByteArray} {sb : List Sb} {lo hi : Int} (hS : Subsc sb lo hi) (hn : hasAt p sb = false) : ∀ s ∈ sb.drop (cutAt p sb), lessP p s.name = true := by
  intro s hs
  obtain ⟨j, hj, rfl⟩ := List.getElem_of_mem hs
  have hj' : cutAt p sb + j < sb.length := by simp at hj; omega
  have hc : cutAt p sb < sb.length := by omega
  have h0 := cutAt_not p sb hc
  have h1 : sb[cutAt p sb].name.toList ≠ p.toList := fun e => by
    unfold hasAt at hn
    exact of_decide_eq_false hn ⟨hc, e⟩
  have h2 : lessP p sb[cutAt p sb].name = true := Sh.lessP_total h0 h1
  rw [List.getElem_drop]
  by_cases e : j = 0
  · subst e
    simpa using h2
  · exact Sh.lessP_trans h2 (subsc_less hS _ _ hc hj' (by omega))

theorem subsc_ins {sb : List Sb} {lo hi pos : Int} {name : ByteArray} (hS : Subsc sb lo hi) (hk : isKey name = true) (hn : hasAt name sb = false) (h8 : sb.length < 8) (h0 : lo ≤ pos) (h1 : pos ≤ hi) : Subsc (insS name pos sb) lo hi := by
  have hd := cutAt_drop hS hn
  have ht := cutAt_take name sb
  rw [subsc_iff] at hS ⊢
  obtain ⟨s1, s2, s3⟩ := hS
  refine ⟨by rw [insS_length]; omega, ?_, ?_⟩
  · intro s hs
    simp only [insS, List.mem_append, List.mem_cons] at hs
    rcases hs with hs | rfl | hs
    · exact s2 s (List.mem_of_mem_take hs)
    · exact ⟨hk, h0, h1⟩
    · exact s2 s (List.mem_of_mem_drop hs)
  · have e : sb.map (·.name) = (sb.take (cutAt name sb)).map (·.name) ++ (sb.drop (cutAt name sb)).map (·.name) := by rw [← List.map_append, List.take_append_drop]
    rw [e, List.pairwise_append] at s3
    obtain ⟨p1, p2, p3⟩ := s3
    simp only [insS, List.map_append, List.map_cons]
    rw [List.pairwise_append, List.pairwise_cons]
    refine ⟨p1, ⟨?_, p2⟩, ?_⟩
    · intro b hb
      obtain ⟨s, hs, rfl⟩ := List.mem_map.1 hb
      exact hd s hs
    · intro a ha b hb
      rcases List.mem_cons.1 hb with rfl | hb
      · obtain ⟨s, hs, rfl⟩ := List.mem_map.1 ha
        exact ht s hs
      · exact p3 a ha b hb

theorem subsc_set {sb : List Sb} {lo hi pos : Int} (hS : Subsc sb lo hi) (c : Nat) (hc : c < sb.length) (h0 : lo ≤ pos) (h1 : pos ≤ hi) : Subsc (sb.set c ⟨sb[c].name, pos⟩) lo hi := by
  have hkc := (hS.2 c hc).1
  rw [subsc_iff] at hS ⊢
  obtain ⟨s1, s2, s3⟩ := hS
  refine ⟨by rw [List.length_set]; exact s1, ?_, ?_⟩
  · intro s hs
    rcases List.mem_or_eq_of_mem_set hs with hs | rfl
    · exact s2 s hs
    · exact ⟨hkc, h0, h1⟩
  · have e : (sb.set c ⟨sb[c].name, pos⟩).map (·.name) = sb.map (·.name) := by
      rw [List.map_set]
      apply List.ext_getElem
      · simp
      · intro i h1 h2
        rw [List.getElem_set]
        split
        · subst_vars; simp
        · rfl
    rw [e]
    exact s3

theorem subsc_del {sb : List Sb} {lo hi : Int} (hS : Subsc sb lo hi) (c : Nat) : Subsc (sb.take c ++ sb.drop (c + 1)) lo hi := by
  rw [subsc_iff] at hS ⊢
  obtain ⟨s1, s2, s3⟩ := hS
  have hsub : (sb.take c ++ sb.drop (c + 1)).Sublist sb := by
    have h := List.take_append_drop c sb
    have h2 : (sb.take c ++ sb.drop (c + 1)).Sublist (sb.take c ++ sb.drop c) := List.Sublist.append (List.Sublist.refl _) (by rw [← List.drop_drop]; exact List.drop_sublist _ _)
    rwa [h] at h2
  exact ⟨Nat.le_trans hsub.length_le s1, fun s hs => s2 s (hsub.subset hs), s3.sublist (hsub.map _)⟩

theorem follow_drop {ch : List Ch} {t : Int} (h : Follow ch t) (q : Nat) (hq : q ≤ ch.length) : Follow (ch.drop q) (t + q) := by
  have e := List.take_append_drop q ch
  rw [← e] at h
  have := (follow_append.1 h).2
  rw [List.length_take, Nat.min_eq_left hq] at this
  exact this

theorem mayF_trim {f : Fd} (h : MayF f) (pos : Int) : MayF (trimF f pos) := by
  unfold trimF
  split
  · rename_i hb
    have hle := trimB_le f pos
    obtain ⟨h1, h2, h3, h4, h5, h6⟩ := h
    have hq : (f.base + ((trimB f pos - f.base).toNat : Int)) = trimB f pos := by omega
    refine ⟨by show 0 ≤ trimB f pos; omega, hle, h3, ?_, ?_, ?_⟩
    · show ((f.ch.drop (trimB f pos - f.base).toNat).length : Int) = f.total - trimB f pos
      rw [List.length_drop]
      omega
    · show Follow (f.ch.drop (trimB f pos - f.base).toNat) (trimB f pos)
      have := follow_drop h5 (trimB f pos - f.base).toNat (by omega)
      rw [hq] at this
      exact this
    · show Subsc f.sb (trimB f pos) f.total
      rw [subsc_iff] at h6 ⊢
      exact ⟨h6.1, fun s hs => ⟨(h6.2.1 s hs).1, leastS_mem _ _ s hs, (h6.2.1 s hs).2.2⟩, h6.2.2⟩
  · exact h

theorem trimF_sb (f : Fd) (pos : Int) : (trimF f pos).sb = f.sb ∧ (trimF f pos).total = f.total := by
  unfold trimF
  split <;> exact ⟨rfl, rfl⟩

theorem trimF_ch (f : Fd) (pos : Int) : (∀ d ∈ (trimF f pos).ch, d ∈ f.ch) ∧ (trimF f pos).ch.length ≤ f.ch.length := by
  unfold trimF
  split
  · exact ⟨fun d hd => List.mem_of_mem_drop hd, by simp⟩
  · exact ⟨fun d hd => hd, Nat.le_refl _⟩

end Go.Proofs.Ytpjhohmbifpogaa

namespace Go.Proofs.Ytpjhohmbifpogaa
open Go.RowKit
attribute [local go_sem] cell?_more frozen?_more setCell_more size_more tape_more drew_more drewN_more more_drew more_drewN one_out plus_out plus_end lt_one le_p2 le_p3 le_p4 le_p5 le_p6 le_p7 le_p8 le_p9 le_p10 le_p11 le_p12 le_p13 le_p14 le_p15 le_p16 le_p17 le_p18 le_p19 le_p20 le_p21 le_p22 le_p23 le_p24 le_q0 le_q1 lt_q1 le_q2 lt_q2 le_q3 lt_q3 le_q4 lt_q4 le_q5 lt_q5 le_q6 lt_q6 le_q7 lt_q7 le_q8 lt_q8 le_q9 lt_q9 le_q10 lt_q10 le_q11 lt_q11 le_q12 lt_q12 le_q13 lt_q13 le_q14 lt_q14 le_q15 lt_q15 le_q16 lt_q16 le_q17 lt_q17 le_q18 lt_q18 le_q19 lt_q19 le_q20 lt_q20 le_q21 lt_q21 le_q22 lt_q22 le_q23 lt_q23 le_q24 lt_q24

/-- What either side tells of a feed, its lists' lengths spelled. -/
def TellsG (fn : FuncId) (args : Array Value) (g : Fd) (n m : Nat) (c : Int) (w : World) : Prop :=
  ∀ W, Adds w W → Calls Try.prog fn args W fun e w' => (∃ vo vc uo uc, e = .returned (.tuple #[.agg #[.int .i64 g.base, .int .i64 g.total, .slice vo n vc, .slice uo m uc], .int .i64 c]) ∧ Hid (LstF w' (.agg #[.int .i64 g.base, .int .i64 g.total, .slice vo n vc, .slice uo m uc]) g)) ∧ Adds W w'

structure BothF (p r : FuncId) (args : Array Value) (w : World) (g : Fd) (n m : Nat) (c : Int) : Prop where
  prog : TellsG p args g n m c w
  ref : TellsG r args g n m c w
  may : MayF g
  len : g.ch.length ≤ 1000
  doc : ∀ d ∈ g.ch, d.doc.length ≤ 1000

theorem tells_of {fn : FuncId} {args : Array Value} {g : Fd} {n m : Nat} {c : Int} {w : World}
    (h : ∀ W, Adds w W → Calls Try.prog fn args W fun e w' => (∃ vo vc uo uc, e = .returned (.tuple #[.agg #[.int .i64 g.base, .int .i64 g.total, .slice vo n vc, .slice uo m uc], .int .i64 c]) ∧ Hid (LstH w' (.slice vo n vc) g.ch ∧ LstS w' (.slice uo m uc) g.sb)) ∧ Adds W w') : TellsG fn args g n m c w := by
  intro W hA
  refine (h W hA).mono ?_
  rintro e w' ⟨⟨vo, vc, uo, uc, rfl, H⟩, hA'⟩
  exact ⟨⟨vo, vc, uo, uc, rfl, ⟨_, _, rfl, H.out.1, H.out.2⟩⟩, hA'⟩

/-- Where the reference hands the feed back as it is. -/
theorem tells_back {fn : FuncId} {args : Array Value} {g : Fd} {c : Int} {v : Value} {w : World} (hv : LstF w v g)
    (h : ∀ W, Adds w W → Calls Try.prog fn args W fun e w' => e = .returned (.tuple #[v, .int .i64 c]) ∧ Adds W w') : TellsG fn args g g.ch.length g.sb.length c w := by
  intro W hA
  refine (h W hA).mono ?_
  rintro e w' ⟨rfl, hA'⟩
  have hv' := (hv.adds hA).adds hA'
  obtain ⟨s, t, rfl, hs, ht⟩ := hv
  obtain ⟨so, sc, rfl, _, _⟩ := hs
  obtain ⟨uo, uc, rfl, _, _⟩ := ht
  exact ⟨⟨so, sc, uo, uc, rfl, hv'⟩, hA'⟩

/-- Where the reference has new subscriptions. -/
theorem tells_subs {fn : FuncId} {args : Array Value} {base total : Int} {ch : List Ch} {ss : List Sb} {m : Nat} {c : Int} {s : Value} {w : World} (hs : LstH w s ch)
    (h : ∀ W, Adds w W → Calls Try.prog fn args W fun e w' => (∃ uo uc, e = .returned (.tuple #[.agg #[.int .i64 base, .int .i64 total, s, .slice uo m uc], .int .i64 c]) ∧ Hid (LstS w' (.slice uo m uc) ss)) ∧ Adds W w') : TellsG fn args ⟨base, total, ch, ss⟩ ch.length m c w := by
  intro W hA
  refine (h W hA).mono ?_
  rintro e w' ⟨⟨uo, uc, rfl, H⟩, hA'⟩
  have hs' := (hs.adds hA).adds hA'
  obtain ⟨so, sc, rfl, _, _⟩ := hs
  exact ⟨⟨so, sc, uo, uc, rfl, ⟨_, _, rfl, hs', H.out⟩⟩, hA'⟩

theorem slice_of {w : World} {s : Value} {ch : List Ch} (h : LstH w s ch) : ∃ so n sc, s = .slice so n sc := by
  obtain ⟨so, sc, rfl, _, _⟩ := h
  exact ⟨_, _, _, rfl⟩

theorem opens_both (v : Value) (f : Fd) (name : ByteArray) (pos : Int) (w : World) (h : LstF w v f) (hM : MayF f) (hc : f.ch.length ≤ 1000) (hd : ∀ d ∈ f.ch, d.doc.length ≤ 1000) :
    ∃ g n m c, BothF 18 22 #[v, .string name, .int .i64 pos] w g n m c ∧ (c = 0 → isKey name = true ∧ f.base ≤ pos ∧ pos ≤ f.total ∧ hasAt name f.sb = false ∧ g = ⟨f.base, f.total, f.ch, insS name pos f.sb⟩) := by
  have hsl := subsc_less hM.2.2.2.2.2
  have h8 : f.sb.length ≤ 8 := hM.2.2.2.2.2.1
  have h8' : f.sb.length ≤ 1000 := by omega
  have hb0 : 0 ≤ f.base := hM.1
  obtain ⟨s, t, rfl, hs, ht⟩ := id h
  have hso := slice_of hs
  have back : ∀ c, c ≠ 0 → (TellsG 18 #[.agg #[.int .i64 f.base, .int .i64 f.total, s, t], .string name, .int .i64 pos] f f.ch.length f.sb.length c w) → (∀ W, Adds w W → Calls Try.prog 22 #[.agg #[.int .i64 f.base, .int .i64 f.total, s, t], .string name, .int .i64 pos] W fun e w' => e = .returned (.tuple #[.agg #[.int .i64 f.base, .int .i64 f.total, s, t], .int .i64 c]) ∧ Adds W w') →
      ∃ g n m c, BothF 18 22 #[.agg #[.int .i64 f.base, .int .i64 f.total, s, t], .string name, .int .i64 pos] w g n m c ∧ (c = 0 → isKey name = true ∧ f.base ≤ pos ∧ pos ≤ f.total ∧ hasAt name f.sb = false ∧ g = ⟨f.base, f.total, f.ch, insS name pos f.sb⟩) :=
    fun c hc0 h1 h2 => ⟨f, _, _, c, ⟨h1, tells_back h h2, hM, hc, hd⟩, fun e => absurd e hc0⟩
  by_cases h1 : isKey name = true
  rotate_left
  · have h1' : isKey name = false := by simpa using h1
    exact back 1 (by decide) (tells_of fun W hA => open_key _ f name pos W (h.adds hA) hM hc hd h1') (fun W hA => refOpen_err f.base f.total pos 1 s t f.sb name W hso (ht.adds hA) h8' hsl (.inl ⟨h1', rfl⟩))
  by_cases h2 : pos < 0
  · exact back 1 (by decide) (tells_of fun W hA => open_neg _ f name pos W (h.adds hA) hM hc hd h1 h2) (fun W hA => refOpen_err f.base f.total pos 1 s t f.sb name W hso (ht.adds hA) h8' hsl (.inr (.inl ⟨h1, h2, rfl⟩)))
  by_cases h3 : f.total < pos
  · exact back 1 (by decide) (tells_of fun W hA => open_far _ f name pos W (h.adds hA) hM hc hd h1 (by omega) h3) (fun W hA => refOpen_err f.base f.total pos 1 s t f.sb name W hso (ht.adds hA) h8' hsl (.inr (.inr (.inl ⟨h1, h2, h3, rfl⟩))))
  by_cases h4 : hasAt name f.sb = true
  · exact back 11 (by decide) (tells_of fun W hA => open_same _ f name pos W (h.adds hA) hM hc hd h1 (by omega) (by omega) h4) (fun W hA => refOpen_err f.base f.total pos 11 s t f.sb name W hso (ht.adds hA) h8' hsl (.inr (.inr (.inr (.inl ⟨h1, h2, h3, h4, rfl⟩)))))
  replace h4 : hasAt name f.sb = false := by simpa using h4
  by_cases h5 : f.sb.length = 8
  · exact back 2 (by decide) (tells_of fun W hA => open_full _ f name pos W (h.adds hA) hM hc hd h1 (by omega) (by omega) h4 h5) (fun W hA => refOpen_err f.base f.total pos 2 s t f.sb name W hso (ht.adds hA) h8' hsl (.inr (.inr (.inr (.inr (.inl ⟨h1, h2, h3, h4, h5, rfl⟩))))))
  by_cases h6 : pos < f.base
  · exact back 8 (by decide) (tells_of fun W hA => open_old _ f name pos W (h.adds hA) hM hc hd h1 (by omega) (by omega) h4 (by omega) h6) (fun W hA => refOpen_err f.base f.total pos 8 s t f.sb name W hso (ht.adds hA) h8' hsl (.inr (.inr (.inr (.inr (.inr ⟨h1, h2, h3, h4, h5, h6, rfl⟩))))))
  refine ⟨⟨f.base, f.total, f.ch, insS name pos f.sb⟩, f.ch.length, f.sb.length + 1, 0, ⟨?_, ?_, ?_, hc, hd⟩, fun _ => ⟨h1, by omega, by omega, h4, rfl⟩⟩
  · exact tells_of fun W hA => open_ok _ f name pos W (h.adds hA) hM hc hd h1 h4 (by omega) (by omega) (by omega)
  · exact tells_subs hs fun W hA => refOpen_ok f.base f.total pos s t f.sb name W hso (ht.adds hA) h8' hsl h1 h2 h3 h4 h5 h6
  · exact ⟨hM.1, hM.2.1, hM.2.2.1, hM.2.2.2.1, hM.2.2.2.2.1, subsc_ins hM.2.2.2.2.2 h1 h4 (by omega) (by show f.base ≤ pos; omega) (by show pos ≤ f.total; omega)⟩

theorem acks_both (v : Value) (f : Fd) (name : ByteArray) (pos : Int) (w : World) (h : LstF w v f) (hM : MayF f) (hc : f.ch.length ≤ 1000) (hd : ∀ d ∈ f.ch, d.doc.length ≤ 1000) :
    ∃ g n m c, BothF 19 23 #[v, .string name, .int .i64 pos] w g n m c := by
  have hsl := subsc_less hM.2.2.2.2.2
  have h8' : f.sb.length ≤ 1000 := Nat.le_trans hM.2.2.2.2.2.1 (by omega)
  obtain ⟨s, t, rfl, hs, ht⟩ := id h
  have hso := slice_of hs
  cases h4 : hasAt name f.sb
  · exact ⟨f, _, _, 4, tells_of fun W hA => ack_none _ f name pos W (h.adds hA) hM hc hd h4, tells_back h fun W hA => refAck_none f.base f.total pos s t f.sb name W hso (ht.adds hA) h8' hsl h4, hM, hc, hd⟩
  have hlt := hasAt_lt h4
  by_cases h1 : f.total < pos
  · exact ⟨f, _, _, 1, tells_of fun W hA => ack_far _ f name pos W (h.adds hA) hM hc hd h4 h1, tells_back h fun W hA => refAck_err f.base f.total pos 1 s t f.sb name W hso (ht.adds hA) h8' hsl _ rfl hlt h4 (.inl ⟨h1, rfl⟩), hM, hc, hd⟩
  by_cases h2 : pos < f.sb[cutAt name f.sb].pos
  · exact ⟨f, _, _, 8, tells_of fun W hA => ack_old _ f name pos W (h.adds hA) hM hc hd h4 _ rfl hlt (by omega) h2, tells_back h fun W hA => refAck_err f.base f.total pos 8 s t f.sb name W hso (ht.adds hA) h8' hsl _ rfl hlt h4 (.inr ⟨h1, h2, rfl⟩), hM, hc, hd⟩
  have hg := hM.2.2.2.2.2.2 _ hlt
  refine ⟨⟨f.base, f.total, f.ch, f.sb.set (cutAt name f.sb) ⟨f.sb[cutAt name f.sb].name, pos⟩⟩, f.ch.length, f.sb.length, 0, ?_, ?_, ?_, hc, hd⟩
  · exact tells_of fun W hA => ack_ok _ f name pos W (h.adds hA) hM hc hd h4 _ rfl hlt (by omega) (by omega)
  · exact tells_subs hs fun W hA => refAck_ok f.base f.total pos s t f.sb name W hso (ht.adds hA) h8' hsl _ rfl hlt h4 h1 h2
  · exact ⟨hM.1, hM.2.1, hM.2.2.1, hM.2.2.2.1, hM.2.2.2.2.1, subsc_set hM.2.2.2.2.2 _ hlt (by have := hg.2.1; show f.base ≤ pos; omega) (by show pos ≤ f.total; omega)⟩

theorem closes_both (v : Value) (f : Fd) (name : ByteArray) (w : World) (h : LstF w v f) (hM : MayF f) (hc : f.ch.length ≤ 1000) (hd : ∀ d ∈ f.ch, d.doc.length ≤ 1000) :
    ∃ g n m c, BothF 20 24 #[v, .string name] w g n m c := by
  have hsl := subsc_less hM.2.2.2.2.2
  have h8' : f.sb.length ≤ 1000 := Nat.le_trans hM.2.2.2.2.2.1 (by omega)
  obtain ⟨s, t, rfl, hs, ht⟩ := id h
  have hso := slice_of hs
  cases h4 : hasAt name f.sb
  · exact ⟨f, _, _, 4, tells_of fun W hA => close_none _ f name W (h.adds hA) hM hc hd h4, tells_back h fun W hA => refClose_none f.base f.total s t f.sb name W hso (ht.adds hA) h8' hsl h4, hM, hc, hd⟩
  have hlt := hasAt_lt h4
  refine ⟨⟨f.base, f.total, f.ch, f.sb.take (cutAt name f.sb) ++ f.sb.drop (cutAt name f.sb + 1)⟩, f.ch.length, f.sb.length - 1, 0, ?_, ?_, ?_, hc, hd⟩
  · exact tells_of fun W hA => close_ok _ f name W (h.adds hA) hM hc hd h4 _ rfl hlt
  · refine tells_subs hs fun W hA => ?_
    by_cases hl : cutAt name f.sb + 1 < f.sb.length
    · exact refClose_mid f.base f.total s t f.sb name W hso (ht.adds hA) h8' hsl _ rfl hl h4
    · exact refClose_last f.base f.total s t f.sb name W hso (ht.adds hA) h8' hsl _ rfl (by omega) h4
  · exact ⟨hM.1, hM.2.1, hM.2.2.1, hM.2.2.2.1, hM.2.2.2.2.1, subsc_del hM.2.2.2.2.2 _⟩

theorem trims_both (v : Value) (f : Fd) (pos : Int) (w : World) (h : LstF w v f) (hM : MayF f) (hc : f.ch.length ≤ 1000) (hd : ∀ d ∈ f.ch, d.doc.length ≤ 1000) :
    ∃ g n, TellsG 21 #[v, .int .i64 pos] g n f.sb.length 0 w ∧ (∀ W, Adds w W → Calls Try.prog 25 #[v, .int .i64 pos] W fun e w' => (∃ vo vc uo uc, e = .returned (.agg #[.int .i64 g.base, .int .i64 g.total, .slice vo n vc, .slice uo f.sb.length uc]) ∧ Hid (LstF w' (.agg #[.int .i64 g.base, .int .i64 g.total, .slice vo n vc, .slice uo f.sb.length uc]) g)) ∧ Adds W w') ∧ MayF g ∧ g.ch.length ≤ 1000 ∧ (∀ d ∈ g.ch, d.doc.length ≤ 1000) ∧ g.sb = f.sb ∧ g.total = f.total ∧ g = trimF f pos := by
  have hT := trimF_sb f pos
  have hC := trimF_ch f pos
  refine ⟨trimF f pos, (trimF f pos).ch.length, ?_, ?_, mayF_trim hM pos, Nat.le_trans hC.2 hc, fun d hm => hd d (hC.1 d hm), hT.1, hT.2, rfl⟩
  · refine tells_of fun W hA => ?_
    rw [hT.1, hT.2]
    obtain ⟨s, t, rfl, hs, ht⟩ := h
    obtain ⟨base, total, ch, sb⟩ := f
    by_cases hp : total < pos
    · exact trim_far base total pos s t ch sb W (hs.adds hA) (ht.adds hA) hM hc hd hp
    · exact trim_near base total pos s t ch sb W (hs.adds hA) (ht.adds hA) hM hc hd hp
  · intro W hA
    rw [hT.2]
    obtain ⟨s, t, rfl, hs, ht⟩ := h
    have ht' := ht
    obtain ⟨base, total, ch, sb⟩ := f
    obtain ⟨uo, uc, rfl, _, _⟩ := ht
    have key : Calls Try.prog 25 #[.agg #[.int .i64 base, .int .i64 total, s, .slice uo sb.length uc], .int .i64 pos] W fun e w' => (∃ vo vc, e = .returned (.agg #[.int .i64 (trimF ⟨base, total, ch, sb⟩ pos).base, .int .i64 total, .slice vo (trimF ⟨base, total, ch, sb⟩ pos).ch.length vc, .slice uo sb.length uc]) ∧ Hid (LstH w' (.slice vo (trimF ⟨base, total, ch, sb⟩ pos).ch.length vc) (trimF ⟨base, total, ch, sb⟩ pos).ch)) ∧ Adds W w' := by
      by_cases hp : total < pos
      · exact refTrim_far base total pos s _ ch sb W (hs.adds hA) (ht'.adds hA) hM hc hp
      · exact refTrim_near base total pos s _ ch sb W (hs.adds hA) (ht'.adds hA) hM hc hp
    refine key.mono ?_
    rintro e w' ⟨⟨vo, vc, rfl, H⟩, hA'⟩
    refine ⟨⟨vo, vc, uo, uc, rfl, ?_⟩, hA'⟩
    have hL : LstF w' (.agg #[.int .i64 (trimF ⟨base, total, ch, sb⟩ pos).base, .int .i64 (trimF ⟨base, total, ch, sb⟩ pos).total, .slice vo (trimF ⟨base, total, ch, sb⟩ pos).ch.length vc, .slice uo sb.length uc]) (trimF ⟨base, total, ch, sb⟩ pos) :=
      ⟨_, _, rfl, H.out, by rw [hT.1]; exact (ht'.adds hA).adds hA'⟩
    rw [hT.2] at hL
    exact hL

end Go.Proofs.Ytpjhohmbifpogaa

namespace Go.Proofs.Ytpjhohmbifpogaa
open Go.RowKit
attribute [local go_sem] cell?_more frozen?_more setCell_more size_more tape_more drew_more drewN_more more_drew more_drewN one_out plus_out plus_end lt_one le_p2 le_p3 le_p4 le_p5 le_p6 le_p7 le_p8 le_p9 le_p10 le_p11 le_p12 le_p13 le_p14 le_p15 le_p16 le_p17 le_p18 le_p19 le_p20 le_p21 le_p22 le_p23 le_p24 le_q0 le_q1 lt_q1 le_q2 lt_q2 le_q3 lt_q3 le_q4 lt_q4 le_q5 lt_q5 le_q6 lt_q6 le_q7 lt_q7 le_q8 lt_q8 le_q9 lt_q9 le_q10 lt_q10 le_q11 lt_q11 le_q12 lt_q12 le_q13 lt_q13 le_q14 lt_q14 le_q15 lt_q15 le_q16 lt_q16 le_q17 lt_q17 le_q18 lt_q18 le_q19 lt_q19 le_q20 lt_q20 le_q21 lt_q21 le_q22 lt_q22 le_q23 lt_q23 le_q24 lt_q24

/-- But for the block k, which is a feed's box, nothing has turned. -/
def But (k : Nat) (X X' : World) : Prop := X.heap.size ≤ X'.heap.size ∧ (∀ j, j ≠ k → j < X.heap.size → X'.heap[j]? = X.heap[j]?) ∧ (k < X.heap.size → ∃ a b c d e f g h, X.heap[k]? = some (.cells #[.int .i64 a, .int .i64 b, .slice c d e, .slice f g h] 25))

theorem But.refl {k : Nat} {X : World} (hk : X.heap.size ≤ k) : But k X X := ⟨Nat.le_refl _, fun _ _ _ => rfl, fun h => absurd h (by omega)⟩
theorem But.more {k : Nat} {X X' : World} (h : But k X X') (os : Array Obj) (d : Nat) : But k X (Ytpjhohmbifpogaa.more X' os d) :=
  ⟨by rw [size_more]; exact Nat.le_trans h.1 (Nat.le_add_right _ _), fun j hj hl => (more_block os d (Nat.lt_of_lt_of_le hl h.1)).trans (h.2.1 j hj hl), h.2.2⟩
theorem But.alloc {k : Nat} {X X' : World} (h : But k X X') (o : Obj) : But k X (X'.alloc o) :=
  ⟨by rw [alloc_size]; exact Nat.le_succ_of_le h.1, fun j hj hl => (alloc_at o (Nat.lt_of_lt_of_le hl h.1)).trans (h.2.1 j hj hl), h.2.2⟩
theorem But.mores {k : Nat} {X X' : World} (h : But k X X') (hs : X'.heap.size = X.heap.size) (hk : k < X.heap.size) (os : Array Obj) (d d' : Nat) : But k (Ytpjhohmbifpogaa.more X os d) (Ytpjhohmbifpogaa.more X' os d') := by
  refine ⟨by rw [size_more, size_more, hs]; exact Nat.le_refl _, fun j hj hl => ?_, fun _ => ?_⟩
  · by_cases hw : j < X.heap.size
    · rw [more_block os d' (by omega), more_block os d hw, h.2.1 j hj hw]
    · show (X'.heap ++ os)[j]? = (X.heap ++ os)[j]?
      rw [Array.getElem?_append_right (by omega), Array.getElem?_append_right (by omega), hs]
  · rw [more_block os d hk]
    exact h.2.2 hk
theorem But.allocs {k : Nat} {X X' : World} (h : But k X X') (hs : X'.heap.size = X.heap.size) (hk : k < X.heap.size) (o : Obj) : But k (X.alloc o) (X'.alloc o) := by
  refine ⟨by rw [alloc_size, alloc_size, hs]; exact Nat.le_refl _, fun j hj hl => ?_, fun _ => ?_⟩
  · by_cases hw : j < X.heap.size
    · rw [alloc_at o (by omega), alloc_at o hw, h.2.1 j hj hw]
    · rw [alloc_size] at hl
      obtain rfl : j = X.heap.size := by omega
      rw [new_block2, ← hs, new_block2]
  · rw [alloc_at o hk]
    exact h.2.2 hk
theorem But.box {X : World} (a b : Int) (c : Option Addr) (d e : Nat) (f : Option Addr) (g h : Nat) (o' : Obj) : But X.heap.size (X.alloc (.cells #[.int .i64 a, .int .i64 b, .slice c d e, .slice f g h] 25)) (X.alloc o') := by
  refine ⟨by rw [alloc_size, alloc_size]; exact Nat.le_refl _, fun j hj hl => ?_, fun _ => ⟨a, b, c, d, e, f, g, h, new_block2 _ _⟩⟩
  rw [alloc_size] at hl
  have hj' : j < X.heap.size := by omega
  rw [alloc_at _ hj', alloc_at _ hj']

theorem But.cell {k : Nat} {X X' : World} (h : But k X X') {b i : Nat} {v : Value} (hb : b ≠ k) (hc : X.cell? ⟨b, i, none⟩ = some v) : X'.cell? ⟨b, i, none⟩ = some v := by
  have hlt : b < X.heap.size := by
    by_cases hl : b < X.heap.size
    · exact hl
    · simp [World.cell?, Array.getElem?_eq_none (Nat.le_of_not_lt hl)] at hc
  rw [← hc]
  exact World.cell?_of_block (h.2.1 b hb hlt)

theorem But.ne {k : Nat} {X X' : World} (h : But k X X') {b i : Nat} {s : ByteArray} (hc : X.cell? ⟨b, i, none⟩ = some (.string s)) : b ≠ k := by
  rintro rfl
  have hlt : b < X.heap.size := by
    by_cases hl : b < X.heap.size
    · exact hl
    · simp [World.cell?, Array.getElem?_eq_none (Nat.le_of_not_lt hl)] at hc
  obtain ⟨a, b', c, d, e, f, g, h', hk⟩ := h.2.2 hlt
  rw [cell_of_row X b i _ _ _ hk] at hc
  have : i = 0 ∨ i = 1 ∨ i = 2 ∨ i = 3 ∨ 4 ≤ i := by omega
  rcases this with rfl | rfl | rfl | rfl | hi
  · simp at hc
  · simp at hc
  · simp at hc
  · simp at hc
  · rw [Array.getElem?_eq_none (by simpa using hi)] at hc
    cases hc

theorem LstS.but {k : Nat} {X X' : World} {v : Value} {ss : List Sb} (h : LstS X v ss) (hB : But k X X') : LstS X' v ss := by
  obtain ⟨ao, cap, rfl, hc, h | ⟨b, off, rfl, hlt, hl⟩⟩ := h
  · exact ⟨ao, cap, rfl, hc, .inl h⟩
  · refine ⟨_, cap, rfl, hc, .inr ⟨b, off, rfl, Nat.lt_of_lt_of_le hlt hB.1, fun j hj => ?_⟩⟩
    obtain ⟨h0, h1⟩ := hl j hj
    have hne := hB.ne h0
    exact ⟨hB.cell hne h0, hB.cell hne h1⟩

theorem Lst.but {k : Nat} {X X' : World} {v : Value} {fs : List F} (h : Lst X v fs) (hB : But k X X') : Lst X' v fs := by
  obtain ⟨ao, cap, rfl, hc, h | ⟨b, off, rfl, hlt, hl⟩⟩ := h
  · exact ⟨ao, cap, rfl, hc, .inl h⟩
  · refine ⟨_, cap, rfl, hc, .inr ⟨b, off, rfl, Nat.lt_of_lt_of_le hlt hB.1, fun j hj => ?_⟩⟩
    obtain ⟨h0, h1, h2, h3, h4, h5⟩ := hl j hj
    have hne := hB.ne h0
    exact ⟨hB.cell hne h0, hB.cell hne h1, hB.cell hne h2, hB.cell hne h3, hB.cell hne h4, hB.cell hne h5⟩

theorem LstH.but {k : Nat} {X X' : World} {v : Value} {ch : List Ch} (h : LstH X v ch) (hB : But k X X') : LstH X' v ch := by
  obtain ⟨ao, cap, rfl, hc, h | ⟨b, off, rfl, hlt, hl⟩⟩ := h
  · exact ⟨ao, cap, rfl, hc, .inl h⟩
  · refine ⟨_, cap, rfl, hc, .inr ⟨b, off, rfl, Nat.lt_of_lt_of_le hlt hB.1, fun j hj => ?_⟩⟩
    obtain ⟨u, h0, h1, h2, h3, h4⟩ := hl j hj
    have hne := hB.ne h1
    exact ⟨u, hB.cell hne h0, hB.cell hne h1, hB.cell hne h2, hB.cell hne h3, h4.but hB⟩

theorem LstF.but {k : Nat} {X X' : World} {v : Value} {f : Fd} (h : LstF X v f) (hB : But k X X') : LstF X' v f := by
  obtain ⟨s, t, e, hs, ht⟩ := h
  exact ⟨s, t, e, hs.but hB, ht.but hB⟩

/-- Calls by their contracts, as steps of a region that draws its order, whatever guards them. -/
theorem call_step2G {ops : Array Oper} {o : Oper} {a : Act} {w : World} {K : Act → World → Prop} {Q : Exit → Act → World → Prop} {E : Prop} (hw : Region.wanted o (yielded ops a.tmps) = true) (f : FuncId) (x y : Operand) (tx ty : TypeId)
    (_ho : o.op = .call { callee := .value (.func f), args := #[x, y], argTypes := #[tx, ty] }) (v1 v2 : Value) (hx : a.eval x = v1) (hy : a.eval y = v2) {R : Ending → World → Prop}
    (hc : Calls Try.prog f #[v1, v2] w R) (hR : ∀ e w', R e w' → ∃ u, e = .returned u) (hrun : (execOp a.eval o).run Try.prog w = .ok (.enter f #[a.eval x, a.eval y]) w) (hk : ∀ u w', R (.returned u) w' → K (a.put o.dst u) w') : if Region.wanted o (yielded ops a.tmps) = true then Oper.wp Try.prog o a w K Q else E := by
  rw [if_pos hw]
  unfold Oper.wp
  rw [hrun, hx, hy]
  simp only [Oper.upon]
  refine hc.mono ?_
  intro e w' h
  obtain ⟨u, rfl⟩ := hR e w' h
  exact hk u w' h

theorem call_step4G {ops : Array Oper} {o : Oper} {a : Act} {w : World} {K : Act → World → Prop} {Q : Exit → Act → World → Prop} {E : Prop} (hw : Region.wanted o (yielded ops a.tmps) = true) (f : FuncId) (x y z t : Operand) (tx ty tz tt : TypeId)
    (_ho : o.op = .call { callee := .value (.func f), args := #[x, y, z, t], argTypes := #[tx, ty, tz, tt] }) (v1 v2 v3 v4 : Value) (hx : a.eval x = v1) (hy : a.eval y = v2) (hz : a.eval z = v3) (ht : a.eval t = v4) {R : Ending → World → Prop}
    (hc : Calls Try.prog f #[v1, v2, v3, v4] w R) (hR : ∀ e w', R e w' → ∃ u, e = .returned u) (hrun : (execOp a.eval o).run Try.prog w = .ok (.enter f #[a.eval x, a.eval y, a.eval z, a.eval t]) w) (hk : ∀ u w', R (.returned u) w' → K (a.put o.dst u) w') : if Region.wanted o (yielded ops a.tmps) = true then Oper.wp Try.prog o a w K Q else E := by
  rw [if_pos hw]
  unfold Oper.wp
  rw [hrun, hx, hy, hz, ht]
  simp only [Oper.upon]
  refine hc.mono ?_
  intro e w' h
  obtain ⟨u, rfl⟩ := hR e w' h
  exact hk u w' h

/-- One box has turned, and nothing else. -/
def Turned (X X' : World) : Prop := ∃ k, k < X.heap.size ∧ But k X X'
theorem Turned.more {X X' : World} (h : Turned X X') (os : Array Obj) (d : Nat) : Turned X (Ytpjhohmbifpogaa.more X' os d) := by
  obtain ⟨k, hk, h⟩ := h
  exact ⟨k, hk, h.more os d⟩
theorem Turned.alloc {X X' : World} (h : Turned X X') (o : Obj) : Turned X (X'.alloc o) := by
  obtain ⟨k, hk, h⟩ := h
  exact ⟨k, hk, h.alloc o⟩
theorem Turned.mores {X X' : World} (h : Turned X X') (hs : X'.heap.size = X.heap.size) (os : Array Obj) (d d' : Nat) : Turned (Ytpjhohmbifpogaa.more X os d) (Ytpjhohmbifpogaa.more X' os d') := by
  obtain ⟨k, hk, h⟩ := h
  exact ⟨k, by rw [size_more]; omega, h.mores hs hk os d d'⟩
theorem Turned.allocs {X X' : World} (h : Turned X X') (hs : X'.heap.size = X.heap.size) (o : Obj) : Turned (X.alloc o) (X'.alloc o) := by
  obtain ⟨k, hk, h⟩ := h
  exact ⟨k, by rw [alloc_size]; omega, h.allocs hs hk o⟩
theorem Turned.box (X : World) (a b : Int) (c : Option Addr) (d e : Nat) (f : Option Addr) (g h : Nat) (o' : Obj) : Turned (X.alloc (.cells #[.int .i64 a, .int .i64 b, .slice c d e, .slice f g h] 25)) (X.alloc o') :=
  ⟨X.heap.size, by rw [alloc_size]; omega, But.box a b c d e f g h o'⟩
theorem LstF.turned {X X' : World} {v : Value} {f : Fd} (h : LstF X v f) (hB : Turned X X') : LstF X' v f := by
  obtain ⟨k, _, hB⟩ := hB
  exact h.but hB

end Go.Proofs.Ytpjhohmbifpogaa
