/-
  awake, by contract.
-/
import Derived.Test.YtpjhohmbifpogaaAdz
import Derived.Test.YtpjhohmbifpogaaOpf
import Derived.Test.YtpjhohmbifpogaaRdf
import Derived.Test.YtpjhohmbifpogaaRat
namespace Go.Proofs.Ytpjhohmbifpogaa
open Go.RowKit
attribute [local go_sem] cell?_more frozen?_more setCell_more size_more tape_more drew_more drewN_more more_drew more_drewN one_out plus_out plus_end lt_one le_p2 le_p3 le_p4 le_p5 le_p6 le_p7 le_p8 le_p9 le_p10 le_p11 le_p12 le_p13 le_p14 le_p15 le_p16 le_p17 le_p18 le_p19 le_p20 le_p21 le_p22 le_p23 le_p24 le_q0 le_q1 lt_q1 le_q2 lt_q2 le_q3 lt_q3 le_q4 lt_q4 le_q5 lt_q5 le_q6 lt_q6 le_q7 lt_q7 le_q8 lt_q8 le_q9 lt_q9 le_q10 lt_q10 le_q11 lt_q11 le_q12 lt_q12 le_q13 lt_q13 le_q14 lt_q14 le_q15 lt_q15 le_q16 lt_q16 le_q17 lt_q17 le_q18 lt_q18 le_q19 lt_q19 le_q20 lt_q20 le_q21 lt_q21 le_q22 lt_q22 le_q23 lt_q23 le_q24 lt_q24

def sx : ByteArray := ⟨#[120]⟩
def sy : ByteArray := ⟨#[121]⟩
def sa : ByteArray := ⟨#[97]⟩
def two : List Ch := [⟨1, sx, false, []⟩, ⟨2, sy, false, []⟩]

theorem may_nil : May [] := ⟨by simp, fun k h => absurd h (by simp)⟩
theorem two_doc : ∀ d ∈ two, d.doc.length ≤ 1000 := by
  intro d hd
  simp only [two, List.mem_cons, List.mem_nil_iff, or_false] at hd
  rcases hd with rfl | rfl <;> simp
theorem two_follow : Follow two 0 := by
  intro k hk
  have : k = 0 ∨ k = 1 := by simp [two] at hk; omega
  rcases this with rfl | rfl
  · exact ⟨rfl, rfl, may_nil, .inr rfl⟩
  · exact ⟨rfl, rfl, may_nil, .inr rfl⟩
theorem two_may : MayF ⟨0, 2, two, []⟩ := ⟨by decide, by decide, by decide, by decide, two_follow, by simp, fun k h => absurd h (by simp)⟩
theorem two_may1 : MayF ⟨0, 2, two, [⟨sa, 1⟩]⟩ := by
  refine ⟨by decide, by decide, by decide, by decide, two_follow, by simp, fun k h => ?_⟩
  have : k = 0 := by simpa using h
  subst this
  exact ⟨rfl, (by decide : (0 : Int) ≤ 1), (by decide : (1 : Int) ≤ 2), fun h => absurd h (by omega)⟩

theorem lstH_two (W : World) (T : TypeId) (b : Nat) (hb : b = W.heap.size) : LstH (W.alloc (.cells #[.int .i64 1, .string sx, .bool false, .slice none 0 0, .int .i64 2, .string sy, .bool false, .slice none 0 0] T)) (.slice (some ⟨b, 0, none⟩) 2 2) two := by
  subst hb
  refine ⟨_, 2, rfl, Nat.le_refl _, .inr ⟨W.heap.size, 0, rfl, by simp, ?_⟩⟩
  intro j hj
  have : j = 0 ∨ j = 1 := by simp [two] at hj; omega
  rcases this with rfl | rfl
  · exact ⟨.slice none 0 0, by simp [two], by simp [two], by simp [two], by simp, ⟨none, 0, rfl, Nat.le_refl _, .inl rfl⟩⟩
  · exact ⟨.slice none 0 0, by simp [two], by simp [two], by simp [two], by simp, ⟨none, 0, rfl, Nat.le_refl _, .inl rfl⟩⟩

theorem addA (x : Value) (w : World) (hx : LstH w x two) : Calls Try.prog 11 #[.agg #[.int .i64 0, .int .i64 0, .slice none 0 0, .slice none 0 0], x] w fun e w' => (∃ vo vc, e = .returned (.tuple #[.agg #[.int .i64 0, .int .i64 2, .slice vo 2 vc, .slice none 0 0], .int .i64 0]) ∧ Hid (LstH w' (.slice vo 2 vc) two)) ∧ Adds w w' :=
  (add_zero x two w hx two_follow (by decide) (by decide) two_doc).mono (by
    rintro e w' ⟨⟨vo, vc, rs, rfl, H⟩, hA⟩
    refine ⟨⟨vo, vc, rfl, ?_⟩, hA⟩
    have := H.out.1.lstH
    rw [H.out.2] at this
    exact this)

theorem openA (s : Value) (w : World) (hs : LstH w s two) : Calls Try.prog 18 #[.agg #[.int .i64 0, .int .i64 2, s, .slice none 0 0], .string sa, .int .i64 1] w fun e w' => (∃ vo vc uo uc rs, e = .returned (.tuple #[.agg #[.int .i64 0, .int .i64 2, .slice vo 2 vc, .slice uo 1 uc], .int .i64 0]) ∧ Hid (OwnH w.heap.size (.slice vo 2 vc) rs w' w' ∧ rs.map (·.1) = two ∧ OwnS w.heap.size (.slice uo 1 uc) [⟨sa, 1⟩] w' w')) ∧ Adds w w' :=
  open_first 0 2 1 s two sa w two_may hs (by decide) two_doc (by decide) (by decide) (by decide)

theorem lstF_far {B : Nat} {s t : Value} {rs : List Rh} {ss : List Sb} {ch : List Ch} {W0 W1 w w' : World} {base total : Int} (h : OwnH B s rs W0 w) (hm : rs.map (·.1) = ch) (h' : OwnS B t ss W1 w) (hf : Far B w w') : LstF w' (.agg #[.int .i64 base, .int .i64 total, s, t]) ⟨base, total, ch, ss⟩ := by
  subst hm
  exact ⟨_, _, rfl, (h.far hf (Nat.le_refl _)).lstH, (h'.far hf (Nat.le_refl _)).lst⟩

def lastY : List Ch := [⟨2, sy, false, []⟩]

theorem read_at (v : Value) (f : Fd) (name : ByteArray) (m : Nat) (w : World) (h : LstF w v f) (hc : f.ch.length ≤ 1000) (hd : ∀ d ∈ f.ch, d.doc.length ≤ 1000) (hM : MayF f) (c : Nat) (hcc : cutAt name f.sb = c) (hlt : c < f.sb.length) (hn : hasAt name f.sb = true) (hm1 : 1 ≤ m) (hm2 : m ≤ 16) (k : Nat) (hk : f.sb[c].pos - f.base = (k : Int)) :
    Calls Try.prog 26 #[v, .string name, .int .i64 (m : Int)] w fun e w' => (∃ vo vc rs, e = .returned (.tuple #[.slice vo (cutC f.ch k m).length vc, .int .i64 f.sb[c].pos, .int .i64 0]) ∧ Hid (OwnH w.heap.size (.slice vo (cutC f.ch k m).length vc) rs w' w' ∧ rs.map (·.1) = cutC f.ch k m)) ∧ Adds w w' := by
  subst hcc
  exact read_ok v f name m w h hc hd hM hlt hn hm1 hm2 k hk

theorem cut_sa : cutAt sa [⟨sa, 1⟩] = 0 ∧ hasAt sa [⟨sa, 1⟩] = true := cut_at (k := 0) (fun i j hi hj hij => absurd hij (by simp at hi hj; omega)) (by simp) rfl

theorem readA (v : Value) (w : World) (h : LstF w v ⟨0, 2, two, [⟨sa, 1⟩]⟩) : Calls Try.prog 26 #[v, .string sa, .int .i64 5] w fun e w' => (∃ b off vc, e = .returned (.tuple #[.slice (some ⟨b, off, none⟩) 1 vc, .int .i64 1, .int .i64 0]) ∧ b < w'.heap.size ∧ w'.cell? ⟨b, off + 1, none⟩ = some (.string sy)) ∧ Adds w w' :=
  (read_at v ⟨0, 2, two, [⟨sa, 1⟩]⟩ sa 5 w h (by decide) two_doc two_may1 0 cut_sa.1 (by decide) cut_sa.2 (by decide) (by decide) 1 rfl).mono (by
    rintro e w' ⟨⟨vo, vc, rs, rfl, H⟩, hA⟩
    have h1 := H.out.1.lstH
    rw [H.out.2] at h1
    obtain ⟨ao, cap, e, hc, h0 | ⟨b, off, rfl, hb, hl⟩⟩ := h1
    · exact absurd h0 (by simp [cutC, two])
    · simp only [Value.slice.injEq] at e
      obtain ⟨rfl, _, rfl⟩ := e
      obtain ⟨v, c0, c1, _⟩ := hl 0 (by decide)
      exact ⟨⟨b, off, vc, rfl, hb, by simpa [cutC, two] using c1⟩, hA⟩)

set_option maxHeartbeats 2000000 in
set_option maxRecDepth 20000 in
theorem awake_any (w : World) : Calls Try.prog 10 #[] w fun e w' => e = .returned (.bool true) ∧ Adds w w' := by
  have e1 : (⟨#[120]⟩ : ByteArray) = sx := rfl
  have e2 : (⟨#[121]⟩ : ByteArray) = sy := rfl
  have e3 : (⟨#[97]⟩ : ByteArray) = sa := rfl
  go_enter Try.func10, Try.ntmps10
  go_wp2_with (first
    | (go_at_call 11; refine (addA _ _ (lstH_two _ _ _ (by simp [go_sem]))).mono ?_; rintro e w1 ⟨⟨v1, c1, rfl, H1⟩, os1, n1, rfl⟩)
    | (go_at_call 18; refine (openA _ _ (LstH.adds H1.out (by repeat (first | with_reducible exact Adds.refl _ | with_reducible refine Adds.alloc ?_ _ | with_reducible refine Adds.more ?_ _ _ | with_reducible refine Adds.drew ?_ | with_reducible refine Adds.drewN ?_ _)))).mono ?_; rintro e w2 ⟨⟨v2, c2, u2, d2, r2, rfl, H2⟩, os2, n2, rfl⟩)
    | (go_at_call 26; refine (readA _ _ ?_).mono ?_; exact lstF_far H2.out.1 H2.out.2.1 H2.out.2.2 (by repeat (first | with_reducible exact Far.refl _ _ | with_reducible refine Far.mores ?_ (by simp [go_sem]) _ _ _ | with_reducible refine Far.allocs ?_ (by simp [go_sem]) _ | with_reducible refine Far.low ?_ (by simp [go_sem]) (by simp [go_sem] <;> omega) _ _ | with_reducible refine Far.more ?_ _ _ | with_reducible refine Far.alloc ?_ _)); rintro e w3 ⟨⟨b3, f3, c3, rfl, hb3, hc3⟩, os3, n3, rfl⟩))
  go_ret
  exact ⟨rfl, (by repeat (first | with_reducible exact Adds.refl _ | with_reducible refine Adds.alloc ?_ _ | with_reducible refine Adds.more ?_ _ _ | with_reducible refine Adds.drew ?_ | with_reducible refine Adds.drewN ?_ _))⟩

end Go.Proofs.Ytpjhohmbifpogaa
