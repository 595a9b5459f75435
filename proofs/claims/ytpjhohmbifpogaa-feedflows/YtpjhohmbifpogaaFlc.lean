/-
  The law of a subscription: its calls, by contract.
-/
import Derived.Test.YtpjhohmbifpogaaFla
import Derived.Test.YtpjhohmbifpogaaFow
import Derived.Test.YtpjhohmbifpogaaMfog
namespace Go.Proofs.Ytpjhohmbifpogaa
open Go.RowKit
attribute [local go_sem] cell?_more frozen?_more setCell_more size_more tape_more drew_more drewN_more more_drew more_drewN one_out plus_out plus_end lt_one le_p2 le_p3 le_p4 le_p5 le_p6 le_p7 le_p8 le_p9 le_p10 le_p11 le_p12 le_p13 le_p14 le_p15 le_p16 le_p17 le_p18 le_p19 le_p20 le_p21 le_p22 le_p23 le_p24 le_q0 le_q1 lt_q1 le_q2 lt_q2 le_q3 lt_q3 le_q4 lt_q4 le_q5 lt_q5 le_q6 lt_q6 le_q7 lt_q7 le_q8 lt_q8 le_q9 lt_q9 le_q10 lt_q10 le_q11 lt_q11 le_q12 lt_q12 le_q13 lt_q13 le_q14 lt_q14 le_q15 lt_q15 le_q16 lt_q16 le_q17 lt_q17 le_q18 lt_q18 le_q19 lt_q19 le_q20 lt_q20 le_q21 lt_q21 le_q22 lt_q22 le_q23 lt_q23 le_q24 lt_q24

def ss : ByteArray := ⟨#[115]⟩

/-- The feed of the changes cs, trimmed to b, with one subscription at a. -/
def fdOf (cs : List Ch) (b a : Nat) : Fd := ⟨b, cs.length, cs.drop b, [⟨ss, a⟩]⟩

theorem sub_one {a lo hi : Int} (h0 : lo ≤ a) (h1 : a ≤ hi) : Subsc [⟨ss, a⟩] lo hi := by
  refine ⟨by simp, fun k hk => ?_⟩
  obtain rfl : k = 0 := by simp at hk; omega
  exact ⟨rfl, h0, h1, fun h => absurd h (by omega)⟩

theorem fdOf_may {cs : List Ch} (h : Run cs) {b a : Nat} (hb : b ≤ a) (ha : a ≤ cs.length) (hl : cs.length ≤ 1000) : MayF (fdOf cs b a) :=
  ⟨by show (0 : Int) ≤ b; omega, by show (b : Int) ≤ cs.length; omega, by show (cs.length : Int) ≤ 2147483647; omega, by show ((cs.drop b).length : Int) = cs.length - b; rw [List.length_drop]; omega, h.follow b (by omega), sub_one (by show (b : Int) ≤ a; omega) (by show (a : Int) ≤ cs.length; omega)⟩

theorem cut_ss (a : Int) : cutAt ss [⟨ss, a⟩] = 0 ∧ hasAt ss [⟨ss, a⟩] = true := cut_at (k := 0) (fun i j hi hj hij => absurd hij (by simp at hi hj; omega)) (by simp) rfl

/-- What is told of a feed, spelled. -/
def TellsV (fn : FuncId) (args : Array Value) (g : Fd) (b t : Int) (n m : Nat) (W : World) : Prop :=
  Calls Try.prog fn args W fun e w' => (∃ vo vc uo uc, e = .returned (.tuple #[.agg #[.int .i64 b, .int .i64 t, .slice vo n vc, .slice uo m uc], .int .i64 0]) ∧ Hid (LstF w' (.agg #[.int .i64 b, .int .i64 t, .slice vo n vc, .slice uo m uc]) g)) ∧ Adds W w'

theorem addZ (x : Value) (cs : List Ch) (k : Nat) (W : World) (hx : LstH W x cs) (hR : Run cs) (hk : cs.length = k) (hk7 : k ≤ 100) :
    TellsV 11 #[.agg #[.int .i64 0, .int .i64 0, .slice none 0 0, .slice none 0 0], x] ⟨0, k, cs, []⟩ 0 k k 0 W := by
  have hF : Follow cs 0 := by simpa using hR.follow 0 (Nat.zero_le _)
  have hd : ∀ d ∈ cs, d.doc.length ≤ 1000 := by simpa using hR.doc 0
  subst hk
  refine (add_ok _ ⟨0, 0, [], []⟩ x cs W (lstF_zero W) hx mayF_zero hF (by simp; omega) (by simp) (by simp) (by omega) hd).mono ?_
  rintro e w' ⟨⟨vo, vc, uo, uc, rfl, H⟩, hA⟩
  simp only [List.length_nil, Nat.zero_add, Int.zero_add, List.nil_append] at H ⊢
  exact ⟨⟨vo, vc, uo, uc, rfl, ⟨_, _, rfl, H.out.1, H.out.2⟩⟩, hA⟩

theorem openZ (v : Value) (cs : List Ch) (k : Nat) (a : Nat) (ai : Int) (hai : ai = a) (W : World) (hv : LstF W v ⟨0, k, cs, []⟩) (hR : Run cs) (hk : cs.length = k) (hk7 : k ≤ 100) (ha : a ≤ k) :
    TellsV 18 #[v, .string ss, .int .i64 ai] (fdOf cs 0 a) 0 k k 1 W := by
  subst hai
  subst hk
  have hF : Follow cs 0 := by simpa using hR.follow 0 (Nat.zero_le _)
  have hd : ∀ d ∈ cs, d.doc.length ≤ 1000 := by simpa using hR.doc 0
  have hM : MayF ⟨0, cs.length, cs, []⟩ := ⟨Int.le_refl _, by show (0 : Int) ≤ cs.length; omega, by show (cs.length : Int) ≤ 2147483647; omega, by simp, hF, by simp, fun k h => absurd h (by simp)⟩
  refine (open_ok v ⟨0, cs.length, cs, []⟩ ss a W hv hM (by show cs.length ≤ 1000; omega) hd rfl rfl (by simp) (by show (0 : Int) ≤ a; omega) (by show (a : Int) ≤ cs.length; omega)).mono ?_
  rintro e w' ⟨⟨vo, vc, uo, uc, rfl, H⟩, hA⟩
  refine ⟨⟨vo, vc, uo, uc, rfl, ⟨_, _, rfl, by simpa [fdOf] using H.out.1, ?_⟩⟩, hA⟩
  have := H.out.2
  simpa [fdOf, insS, cutAt] using this

/-- The same, and that it lies in memory of its own. -/
def TellsW (fn : FuncId) (args : Array Value) (g : Fd) (b t : Int) (n m : Nat) (W : World) : Prop :=
  Calls Try.prog fn args W fun e w' => (∃ vo vc uo uc, e = .returned (.tuple #[.agg #[.int .i64 b, .int .i64 t, .slice vo n vc, .slice uo m uc], .int .i64 0]) ∧ Hid (LstF w' (.agg #[.int .i64 b, .int .i64 t, .slice vo n vc, .slice uo m uc]) g ∧ FromB W.heap.size (.slice vo n vc) ∧ FromB W.heap.size (.slice uo m uc))) ∧ Adds W w'

theorem addN (v x : Value) (cs : List Ch) (c : Ch) (b a : Nat) (bi ti : Int) (n : Nat) (W : World) (hv : LstF W v (fdOf cs b a)) (hx : LstH W x [c]) (hR : Run cs) (hR' : Run (cs ++ [c])) (hb : b ≤ a) (ha : a ≤ cs.length) (hl : cs.length ≤ 500) (hbi : bi = b) (hti : ti = (cs.length : Int) + 1) (hn : n = cs.length - b + 1) :
    TellsW 11 #[v, x] (fdOf (cs ++ [c]) b a) bi ti n 1 W := by
  subst hbi hti hn
  have hM := fdOf_may hR hb ha (by omega)
  have hF : Follow [c] (cs.length : Int) := by
    have := hR'.follow cs.length (by simp)
    rwa [List.drop_left] at this
  have hd : ∀ d ∈ [c], d.doc.length ≤ 1000 := by
    have := hR'.doc cs.length
    rwa [List.drop_left] at this
  refine (add_okO v (fdOf cs b a) x [c] W hv hx hM hF (by show (cs.length : Int) + 1 ≤ 2147483647; omega) (by show (cs.drop b).length ≤ 1000; rw [List.length_drop]; omega) (hR.doc b) (by simp) hd).mono ?_
  rintro e w' ⟨⟨vo, vc, uo, uc, rfl, H⟩, hA⟩
  have hl : (fdOf cs b a).ch.length + [c].length = cs.length - b + 1 := by show (cs.drop b).length + 1 = _; rw [List.length_drop]
  have hdr : (cs ++ [c]).drop b = cs.drop b ++ [c] := List.drop_append_of_le_length (by omega)
  rw [hl] at H ⊢
  refine ⟨⟨vo, vc, uo, uc, rfl, ⟨.slice vo (cs.length - b + 1) vc, .slice uo 1 uc, ?_, ?_, H.out.1.2⟩, H.out.2⟩, hA⟩
  · show Value.agg #[.int .i64 b, .int .i64 ((cs.length : Int) + 1), _, _] = Value.agg #[.int .i64 b, .int .i64 (((cs ++ [c]).length : Nat) : Int), _, _]
    rw [List.length_append]
    rfl
  · show LstH w' _ ((cs ++ [c]).drop b)
    rw [hdr]
    exact H.out.1.1

theorem ackN (v : Value) (cs : List Ch) (b a a' : Nat) (ai bi ti : Int) (n : Nat) (W : World) (hv : LstF W v (fdOf cs b a)) (hR : Run cs) (hb : b ≤ a) (ha : a ≤ a') (ha' : a' ≤ cs.length) (hl : cs.length ≤ 500) (hai : ai = a') (hbi : bi = b) (hti : ti = (cs.length : Int)) (hn : n = cs.length - b) :
    TellsW 19 #[v, .string ss, .int .i64 ai] (fdOf cs b a') bi ti n 1 W := by
  subst hai hbi hti hn
  have hM := fdOf_may hR hb (by omega) (by omega)
  refine (ack_okO v (fdOf cs b a) ss a' W hv hM (by show (cs.drop b).length ≤ 1000; rw [List.length_drop]; omega) (hR.doc b) (cut_ss a).2 0 (cut_ss a).1 (by simp [fdOf]) (by show (a' : Int) ≤ cs.length; omega) (by show (a : Int) ≤ a'; omega)).mono ?_
  rintro e w' ⟨⟨vo, vc, uo, uc, rfl, H⟩, hA⟩
  have hl : (fdOf cs b a).ch.length = cs.length - b := by show (cs.drop b).length = _; rw [List.length_drop]
  rw [hl] at H ⊢
  exact ⟨⟨vo, vc, uo, uc, rfl, ⟨_, _, rfl, H.out.1.1, H.out.1.2⟩, H.out.2⟩, hA⟩

theorem readN (v : Value) (cs : List Ch) (b a m : Nat) (mi ai : Int) (L : Nat) (W : World) (hv : LstF W v (fdOf cs b a)) (hR : Run cs) (hb : b ≤ a) (ha : a ≤ cs.length) (hl : cs.length ≤ 500) (hm1 : 1 ≤ m) (hm2 : m ≤ 16) (hmi : mi = m) (hai : ai = a) (hL : L = ((cs.drop a).take m).length) :
    Calls Try.prog 26 #[v, .string ss, .int .i64 mi] W fun e w' => (∃ vo vc, e = .returned (.tuple #[.slice vo L vc, .int .i64 ai, .int .i64 0]) ∧ Hid (LstH w' (.slice vo L vc) ((cs.drop a).take m))) ∧ Adds W w' := by
  subst hmi hai hL
  have hM := fdOf_may hR hb ha (by omega)
  have hr := read_at v (fdOf cs b a) ss m W hv (by show (cs.drop b).length ≤ 1000; rw [List.length_drop]; omega) (hR.doc b) hM 0 (cut_ss a).1 (by simp [fdOf]) (cut_ss a).2 hm1 hm2 (a - b) (by show (a : Int) - b = _; omega)
  have hc : cutC (fdOf cs b a).ch (a - b) m = (cs.drop a).take m := by
    show ((cs.drop b).drop (a - b)).take m = _
    rw [List.drop_drop, show b + (a - b) = a by omega]
  rw [hc] at hr
  refine hr.mono ?_
  rintro e w' ⟨⟨vo, vc, rs, rfl, H⟩, hA⟩
  refine ⟨⟨vo, vc, rfl, ?_⟩, hA⟩
  have h1 := H.out.1.lstH
  rw [H.out.2] at h1
  exact h1

theorem trimF_of {cs : List Ch} {b a : Nat} (hb : b ≤ a) (pos : Int) : ∃ b' : Nat, b' ≤ a ∧ trimF (fdOf cs b a) pos = fdOf cs b' a := by
  have hB : trimB (fdOf cs b a) pos ≤ a := by
    simp [trimB, fdOf, leastS]
    omega
  unfold trimF
  split
  · rename_i h
    have hb0 : (b : Int) < trimB (fdOf cs b a) pos := h
    refine ⟨(trimB (fdOf cs b a) pos).toNat, by omega, ?_⟩
    have e1 : (((trimB (fdOf cs b a) pos).toNat : Nat) : Int) = trimB (fdOf cs b a) pos := by omega
    have e2 : b + (trimB (fdOf cs b a) pos - (fdOf cs b a).base).toNat = (trimB (fdOf cs b a) pos).toNat := by show b + (_ - (b : Int)).toNat = _; omega
    unfold fdOf at e1 e2 ⊢
    simp only [List.drop_drop] at e1 e2 ⊢
    rw [e1, e2]
  · exact ⟨b, hb, rfl⟩

theorem trimN (v : Value) (cs : List Ch) (b a : Nat) (pos : Int) (W : World) (hv : LstF W v (fdOf cs b a)) (hR : Run cs) (hb : b ≤ a) (ha : a ≤ cs.length) (hl : cs.length ≤ 500) (b' : Nat) (bi ti : Int) (n : Nat) (hbi : bi = b') (hti : ti = (cs.length : Int)) (hn : n = cs.length - b') (e : trimF (fdOf cs b a) pos = fdOf cs b' a) :
    TellsW 21 #[v, .int .i64 pos] (fdOf cs b' a) bi ti n 1 W := by
  subst hbi hti hn
  have hM := fdOf_may hR hb ha (by omega)
  have hlen : (fdOf cs b a).ch.length ≤ 1000 := by show (cs.drop b).length ≤ 1000; rw [List.length_drop]; omega
  obtain ⟨s, t, rfl, hs, ht⟩ := hv
  have hTT : Calls Try.prog 21 #[.agg #[.int .i64 (fdOf cs b a).base, .int .i64 (fdOf cs b a).total, s, t], .int .i64 pos] W fun e w' => (∃ vo vc uo uc, e = .returned (.tuple #[.agg #[.int .i64 (trimF (fdOf cs b a) pos).base, .int .i64 (fdOf cs b a).total, .slice vo (trimF (fdOf cs b a) pos).ch.length vc, .slice uo (fdOf cs b a).sb.length uc], .int .i64 0]) ∧ Hid (LstG W.heap.size w' (.slice vo (trimF (fdOf cs b a) pos).ch.length vc) (trimF (fdOf cs b a) pos).ch (.slice uo (fdOf cs b a).sb.length uc) (fdOf cs b a).sb)) ∧ Adds W w' := by
    by_cases hp : (fdOf cs b a).total < pos
    · exact trim_farO _ _ pos s t _ _ W hs ht hM hlen (hR.doc b) hp
    · exact trim_nearO _ _ pos s t _ _ W hs ht hM hlen (hR.doc b) hp
  rw [e] at hTT
  refine hTT.mono ?_
  rintro e' w' ⟨⟨vo, vc, uo, uc, rfl, H⟩, hA⟩
  have hn : (fdOf cs b' a).ch.length = cs.length - b' := by show (cs.drop b').length = _; rw [List.length_drop]
  rw [hn] at H ⊢
  exact ⟨⟨vo, vc, uo, uc, rfl, ⟨_, _, rfl, H.out.1.1, H.out.1.2⟩, H.out.2⟩, hA⟩

end Go.Proofs.Ytpjhohmbifpogaa
