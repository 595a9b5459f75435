/-
  The method begin by contract.
-/
import Derived.Test.YtelkkpomehgcjaaTdrop
namespace Go.Proofs.Ytelkkpomehgcjaa
open Go.RowKit Go.Maps
attribute [local go_sem] cell?_more frozen?_more setCell_more size_more tape_more drew_more drewN_more more_drew more_drewN more_more one_out plus_out plus_end lt_one le_p2 le_p3 le_p4 le_p5 le_p6 le_p7 le_p8 le_p9 le_p10 le_p11 le_p12 le_p13 le_p14 le_p15 le_p16 le_p17 le_p18 le_p19 le_p20 le_p21 le_p22 le_p23 le_p24 le_q0 le_q1 lt_q1 le_q2 lt_q2 le_q3 lt_q3 le_q4 lt_q4 le_q5 lt_q5 le_q6 lt_q6 le_q7 lt_q7 le_q8 lt_q8 le_q9 lt_q9 le_q10 lt_q10 le_q11 lt_q11 le_q12 lt_q12 le_q13 lt_q13 le_q14 lt_q14 le_q15 lt_q15 le_q16 lt_q16 le_q17 lt_q17 le_q18 lt_q18 le_q19 lt_q19 le_q20 lt_q20 le_q21 lt_q21 le_q22 lt_q22 le_q23 lt_q23 le_q24 lt_q24

def nextK (K : Kf) : Int := match (keysK K).getLast? with | some k => k + 1 | none => 0

theorem getK_append (k : Int) (l m : Kf) : getK k (l ++ m) = (getK k l).or (getK k m) := by
  unfold getK
  rw [List.find?_append]
  cases List.find? (fun p => p.1 == k) l <;> rfl

theorem getK_none_of {k : Int} {l : Kf} (h : k ∉ keysK l) : getK k l = none := by
  unfold getK
  rw [List.find?_eq_none.2]
  · rfl
  · intro x hx
    simp
    intro e
    exact h (by rw [← e]; exact List.mem_map.2 ⟨x, hx, rfl⟩)

theorem next_above {K : Kf} (hK : SrtK K) : ∀ p ∈ K, p.1 < nextK K := by
  rcases List.eq_nil_or_concat K with rfl | ⟨r, q, rfl⟩
  · intro p hp
    simp at hp
  · rw [List.concat_eq_append] at hK ⊢
    have e : nextK (r ++ [q]) = q.1 + 1 := by simp [nextK, keysK]
    rw [e]
    intro p hp
    rcases List.mem_append.1 hp with hp | hp
    · have := (List.pairwise_append.1 hK).2.2 p hp q (by simp)
      omega
    · simp only [List.mem_singleton] at hp
      subst hp
      omega

theorem next_new {K : Kf} (hK : SrtK K) : nextK K ∉ keysK K := by
  intro hm
  obtain ⟨p, hp, e⟩ := List.mem_map.1 hm
  have := next_above hK p hp
  omega

theorem next_low {K : Kf} (h : ∀ k ∈ keysK K, 0 ≤ k ∧ k ≤ 1048576) : 0 ≤ nextK K := by
  unfold nextK
  cases hk : (keysK K).getLast? with
  | none => simp
  | some k =>
    have := h k (List.mem_of_getLast? hk)
    simp only
    omega

theorem srt_next {K : Kf} (hK : SrtK K) (b : List UInt8) : SrtK (K ++ [(nextK K, b)]) := by
  refine List.pairwise_append.2 ⟨hK, by simp, fun p hp q hq => ?_⟩
  simp only [List.mem_singleton] at hq
  subst hq
  exact next_above hK p hp

theorem files_next {K : Kf} (hK : SrtK K) (b : List UInt8) : filesK (K ++ [(nextK K, b)]) = (filesK K).set (nextK K) (some b) := by
  funext k
  show getK k _ = _
  rw [getK_append]
  unfold Fs.set
  by_cases e : k = nextK K
  · rw [if_pos e, e, getK_none_of (next_new hK)]
    simp [getK]
  · rw [if_neg e]
    show (getK k K).or _ = getK k K
    have : getK k [(nextK K, b)] = none := by
      rw [getK_cons, if_neg (fun h => e h.symm)]
      rfl
    rw [this]
    simp

theorem app_now (d : Dk) (k : Int) (m : List UInt8) : (d.app k m).now = d.now.set k (some ((d.now k).getD [] ++ m)) := by
  unfold Dk.now Dk.app
  simp only [replay_append, replay_one]
  simp [step]

theorem sync_now (d : Dk) : d.sync.now = d.now := by
  unfold Dk.sync
  split
  · rfl
  · rfl

/-- A segment is begun. -/
def Dk.begun (d : Dk) (K : Kf) (ls : List (List UInt8)) : Dk := ((d.app (nextK K) (seg ls.length ls)).sync).others (nextK K) (keysK K ++ [nextK K])

theorem begun_now {d : Dk} {K : Kf} (hK : SrtK K) (hf : filesK K = d.now) (b : List UInt8) : filesK (K ++ [(nextK K, b)]) = ((d.app (nextK K) b).sync).now := by
  rw [sync_now, app_now, files_next hK, hf]
  congr 2
  rw [← hf]
  show b = ((getK (nextK K) K).getD [] ++ b)
  rw [getK_none_of (next_new hK)]
  rfl

theorem set_tape {w : World} {p : Nat} {a b c v : Value} (x y : Value) (h : w.heap[p]? = some (.cells #[a, b, c, v] 69 (0, 0))) :
    ((w.setCell ⟨p, 1, none⟩ x).setCell ⟨p, 2, none⟩ y).heap[p]? = some (.cells #[a, x, y, v] 69 (0, 0)) := by
  rw [heap_setCell_at y (heap_setCell_at x h (by simp)) (by simp)]
  rfl

theorem above_keys (v : Value) (K : Kf) (w : World) {B : Nat} (h : w.ownsRow B 3 1 v (keysK K).length (cellsZ (keysK K))) (hl : ∀ k ∈ keysK K, 0 ≤ k ∧ k ≤ 1048576) :
    Calls Try.prog 52 #[v] w fun e w' => e = .returned (.int .i64 (nextK K)) ∧ Adds w w' := above_any v (keysK K) w h hl

/-- The blocks of a reel, and one more. -/
def with1 (R : Rw) (p i : Nat) : Prop := R.foot i ∨ i = p

theorem Moves.with1 {w w' : World} {R R' : Rw} (h : Moves w R w' R') (p : Nat) : Mv w (with1 R p) w' (with1 R' p) :=
  ⟨h.os, h.tape, h.output, h.size, fun i hi hn => by
    obtain ⟨e, hf⟩ := h.block i hi fun hf => hn (.inl hf)
    exact ⟨e, fun hc => hc.elim hf fun e => hn (.inr e)⟩⟩

theorem grown_with1 {w w' : World} {R : Rw} {p : Nat} (h : w.grownBy w' (some p)) : Mv w (with1 R p) w' (with1 R p) :=
  ⟨h.os, h.tape, h.output, h.size, fun i hi hn => ⟨h.block i hi fun e => hn (.inr (by simpa using e)), hn⟩⟩

theorem others_set {w : World} {B : Nat} {R : Rw} {d : Dk} {K : Kf} (h : St w B R d) (hK : SrtK K) (hf : filesK K = d.now) (p : Nat) (f0 b0 file base : Int) (v : Value)
    (hp : w.heap[p]? = some (.cells #[ptr R.p, .int .i64 f0, .int .i64 b0, v] 69 (0, 0))) (hb : R.bulk ≤ 137438953472) :
    Calls Try.prog 33 #[ptr p] ((w.setCell ⟨p, 1, none⟩ (.int .i64 file)).setCell ⟨p, 2, none⟩ (.int .i64 base)) fun e w' => e = .returned (.tuple #[]) ∧
      ∃ R', St w' B R' (d.others file (keysK K)) ∧ R'.p = R.p ∧ R'.room = R.room ∧ R'.bulk ≤ R.bulk + 2 * K.length ∧ w'.heap[p]? = some (.cells #[ptr R.p, .int .i64 file, .int .i64 base, v] 69 (0, 0)) ∧ Mv w (with1 R p) w' (with1 R' p) := by
  have hg : w.grownBy ((w.setCell ⟨p, 1, none⟩ (.int .i64 file)).setCell ⟨p, 2, none⟩ (.int .i64 base)) (some p) := (grown_set w p 1 _).trans (grown_set _ p 2 _)
  have hpn : ¬ R.foot p := tape_out h.live.mem hp odd69
  have hs2 : St ((w.setCell ⟨p, 1, none⟩ (.int .i64 file)).setCell ⟨p, 2, none⟩ (.int .i64 base)) B R d :=
    h.keep hg.size fun i hi => hg.block i (h.live.mem.lt hi).2 fun e => hpn (by simp at e; rw [← e]; exact hi)
  have hp2 := set_tape (.int .i64 file) (.int .i64 base) hp
  refine (others_any hs2 hK hf p file base v hp2 hb).mono ?_
  rintro e w' ⟨rfl, R', s', g'⟩
  refine ⟨rfl, R', s', g'.p, g'.room, g'.bulk, ?_, (grown_with1 hg).trans (g'.moves.with1 p)⟩
  exact (g'.moves.block p (Array.getElem?_eq_some_iff.1 hp2).1 hpn).1.trans hp2

theorem keys_next (K : Kf) (b : List UInt8) : keysK (K ++ [(nextK K, b)]) = keysK K ++ [nextK K] := by simp [keysK]

theorem begin_any {w : World} {B : Nat} {R : Rw} {d : Dk} {K : Kf} (h : St w B R d) (hK : SrtK K) (hf : filesK K = d.now) (p : Nat) (f0 b0 : Int) (v0 : Value)
    (hp : w.heap[p]? = some (.cells #[ptr R.p, .int .i64 f0, .int .i64 b0, v0] 69 (0, 0))) (hb : R.bulk ≤ 68719476736)
    (l : Value) (ls : List (List UInt8)) (hl : Rws w l ls) (hfit : fits ls) (hlen : segLen ls ≤ 1000000) (hroom : (segLen ls : Int) ≤ (R.room : Int) - (sizeK K : Int)) (hnext : nextK K ≤ 1048576) :
    Calls Try.prog 34 #[ptr p, l] w fun e w' => e = .returned (.int .i64 0) ∧ ∃ R', St w' B R' (d.begun K ls) ∧ R'.p = R.p ∧ R'.room = R.room ∧ R'.bulk ≤ R.bulk + 2 * segLen ls + 1 + 2 * (K.length + 1)
      ∧ w'.heap[p]? = some (.cells #[ptr R.p, .int .i64 (nextK K), .int .i64 (ls.length : Int), v0] 69 (0, 0)) ∧ Mv w (with1 R p) w' (with1 R' p) := by
  have c0 : ∀ W, Adds w W → W.cell? ⟨p, 0, none⟩ = some (ptr R.p) := fun W ha => cell_of_row W p 0 _ _ _ (ha.at hp)
  have c00 := c0 w (Adds.refl _)
  have kF := st_files h hK hf
  have hrng := h.range hK hf
  have hlow := next_low hrng
  have hfew := few_keys h hK hf
  have hln : ls.length ≤ 1000000 := by unfold segLen at hlen; omega
  have htl : tot ls ≤ 1000000 := by unfold segLen at hlen; omega
  obtain ⟨ao, cap, rfl, hcap⟩ := hl.slice
  have kG : ∀ W, Adds w W → Calls Try.prog 54 #[.slice ao ls.length cap] W fun e w' => ∃ r, e = .returned r ∧ Byt w' r (seg ls.length ls) ∧ Adds w w' := fun W hW => by
    refine (seg_any _ ls W (hl.adds hW) hfit hlen).mono ?_
    rintro e w' ⟨r, rfl, h1, h2⟩
    exact ⟨r, rfl, h1, hW.trans h2⟩
  have kP : ∀ W r, Adds w W → Byt W r (seg ls.length ls) → Calls Try.prog 46 #[ptr R.p, .int .i64 (nextK K), r] W fun e w' => e = .returned (.int .i64 0) ∧ ∃ R', St w' B R' (d.app (nextK K) (seg ls.length ls)) ∧ Goes w R w' R' (2 * segLen ls + 1) ∧ w'.heap[p]? = some (.cells #[ptr R.p, .int .i64 f0, .int .i64 b0, v0] 69 (0, 0)) := fun W r hW hr => by
    refine (st_append (h.adds hW) (nextK K) ⟨hlow, hnext⟩ r _ hr (by rw [h.total hK hf, seg_length]; exact hroom) (by omega)).mono ?_
    rintro e w' ⟨rfl, R', s', g'⟩
    rw [seg_length] at g'
    refine ⟨rfl, R', s', ((Goes.adds R hW).trans g').mono (by omega), ?_⟩
    exact (g'.moves.block p (Array.getElem?_eq_some_iff.1 (hW.at hp)).1 (tape_out (h.adds hW).live.mem (hW.at hp) odd69)).1.trans (hW.at hp)
  have kS : ∀ W R', St W B R' (d.app (nextK K) (seg ls.length ls)) → Goes w R W R' (2 * segLen ls + 1) → W.heap[p]? = some (.cells #[ptr R.p, .int .i64 f0, .int .i64 b0, v0] 69 (0, 0)) → Calls Try.prog 51 #[ptr R.p] W fun e w' => e = .returned (.tuple #[]) ∧ ∃ R'', St w' B R'' (d.app (nextK K) (seg ls.length ls)).sync ∧ Goes w R w' R'' (2 * segLen ls + 1) ∧ w'.heap[p]? = some (.cells #[ptr R.p, .int .i64 f0, .int .i64 b0, v0] 69 (0, 0)) := fun W R' s' g' hpw => by
    have k := st_sync s'
    rw [g'.p] at k
    refine k.mono ?_
    rintro e w' ⟨rfl, R'', s'', g''⟩
    refine ⟨rfl, R'', s'', g'.trans g'', ?_⟩
    exact (g''.moves.block p (Array.getElem?_eq_some_iff.1 hpw).1 (tape_out s'.live.mem hpw odd69)).1.trans hpw
  have kO : ∀ W R', St W B R' (d.app (nextK K) (seg ls.length ls)).sync → Goes w R W R' (2 * segLen ls + 1) → W.heap[p]? = some (.cells #[ptr R.p, .int .i64 f0, .int .i64 b0, v0] 69 (0, 0)) →
      Calls Try.prog 33 #[ptr p] ((W.setCell ⟨p, 1, none⟩ (.int .i64 (nextK K))).setCell ⟨p, 2, none⟩ (.int .i64 (ls.length : Int))) fun e w' => e = .returned (.tuple #[]) ∧ ∃ R', St w' B R' (d.begun K ls) ∧ R'.p = R.p ∧ R'.room = R.room ∧ R'.bulk ≤ R.bulk + 2 * segLen ls + 1 + 2 * (K.length + 1)
      ∧ w'.heap[p]? = some (.cells #[ptr R.p, .int .i64 (nextK K), .int .i64 (ls.length : Int), v0] 69 (0, 0)) ∧ Mv w (with1 R p) w' (with1 R' p) := fun W R' s' g' hpw => by
    have hb' := g'.bulk
    have k := others_set s' (srt_next hK (seg ls.length ls)) (begun_now hK hf _) p f0 b0 (nextK K) (ls.length : Int) v0 (by rw [g'.p]; exact hpw) (by omega)
    refine k.mono ?_
    rintro e w' ⟨rfl, R'', s'', p'', r'', b'', hp'', m''⟩
    rw [keys_next] at s''
    refine ⟨rfl, R'', s'', p''.trans g'.p, r''.trans g'.room, ?_, by rw [g'.p] at hp''; exact hp'', (g'.moves.with1 p).trans m''⟩
    have : (K ++ [(nextK K, seg ls.length ls)]).length = K.length + 1 := by simp
    rw [this] at b''
    omega
  have k6 : ∀ W, Adds w W → ∀ q, Calls Try.prog 53 #[.slice ao ls.length cap] (addTo W q) fun e w'' => e = .returned (.int .i64 (segLen ls : Nat)) ∧ ∃ p : Plus, w'' = addTo W p := fun W hW q =>
    Calls.adds_of (size_any _ ls _ (hl.adds (hW.trans ⟨q.os, q.draws, rfl⟩)) hln (by omega))
  have k5 : ∀ W, Adds w W → ∀ q, Calls Try.prog 43 #[ptr R.p] (addTo W q) fun e w'' => e = .returned (.int .i64 ((R.room : Int) - (sizeK K : Int))) ∧ ∃ p : Plus, w'' = addTo W p := fun W hW q =>
    Calls.adds_of (st_left (h.adds (hW.trans ⟨q.os, q.draws, rfl⟩)) hK hf (by omega))
  go_enter Try.func34, Try.ntmps34
  go_wp2_with (first
    | (go_at_call 44; refine kF.mono ?_; rintro e w1 ⟨v1, rfl, h1, a1⟩)
    | (go_at_call 52; refine (above_keys _ _ _ h1 hrng).mono ?_; rintro e w2 ⟨rfl, a2⟩; have c02 := c0 w2 (a1.trans a2)))
  have l6 := k6 w2 (a1.trans a2)
  have l5 := k5 w2 (a1.trans a2)
  have HA2 : Hid (Adds w w2) := a1.trans a2
  have hpl : p < w2.heap.size := Nat.lt_of_lt_of_le (Array.getElem?_eq_some_iff.1 hp).1 (a1.trans a2).below.size
  clear k6 k5 c00 kF h1 a1 a2 hrng
  have hgt : decide ((1048576 : Int) < nextK K) = false := by simp; omega
  have cA : ∀ q, (addTo w2 q).cell? ⟨p, 0, none⟩ = some (ptr R.p) := fun q => c0 _ (HA2.out.trans ⟨q.os, q.draws, rfl⟩)
  refine wp_region_adds (by kernel_rfl) (by kernel_rfl) ?_
  repeat (go_big_quiet_step ((first | (go_at_call 53; exact l6 _) | (go_at_call 43; exact l5 _))))
  refine wpQuiet_nil ?_
  rintro _ ⟨pl, rfl⟩
  obtain ⟨w3, hw3⟩ : ∃ w3, w3 = addTo w2 pl := ⟨_, rfl⟩
  have HA3 : Hid (Adds w w3) := by
    show Adds w w3
    rw [hw3]
    exact HA2.out.trans ⟨pl.os, pl.draws, rfl⟩
  have c03 := c0 w3 HA3.out
  rw [← hw3]
  clear hw3 l6 l5 c02 HA2 hpl cA
  go_wp2
  go_region_with (first
    | (go_at_call 54; refine (kG _ (HA3.out.trans (by repeat (first | with_reducible exact Adds.refl _ | with_reducible refine Adds.alloc ?_ _ | with_reducible refine Adds.more ?_ _ _ | with_reducible refine Adds.drew ?_ | with_reducible refine Adds.drewN ?_ _)))).mono ?_; rintro e w4 ⟨r4, rfl, hb4, a4⟩; have c04 := c0 w4 a4)
    | (go_at_call 46; refine (kP _ _ (a4.trans (by repeat (first | with_reducible exact Adds.refl _ | with_reducible refine Adds.alloc ?_ _ | with_reducible refine Adds.more ?_ _ _ | with_reducible refine Adds.drew ?_ | with_reducible refine Adds.drewN ?_ _))) (hb4.adds (by repeat (first | with_reducible exact Adds.refl _ | with_reducible refine Adds.alloc ?_ _ | with_reducible refine Adds.more ?_ _ _ | with_reducible refine Adds.drew ?_ | with_reducible refine Adds.drewN ?_ _)))).mono ?_; rintro e w5 ⟨rfl, R5, s5, g5, p5⟩))
  all_goals
    have c05 : w5.cell? ⟨p, 0, none⟩ = some (ptr R.p) := cell_of_row w5 p 0 _ _ _ p5
    have kS5 := kS w5 R5 s5 g5 p5
    clear kG kP kS c0 c03 c04 hb4 a4 s5 g5 p5
    go_wp2_with (first
      | (go_at_call 51; refine kS5.mono ?_; rintro e w6 ⟨rfl, R6, s6, g6, p6⟩; have z1 : w6.frozen? ⟨p, 1, none⟩ = false := frozen_of p6; have z2 : w6.frozen? ⟨p, 2, none⟩ = false := frozen_of p6; have x1 : w6.cell? ⟨p, 1, none⟩ = some (.int .i64 f0) := cell_of_row w6 p 1 _ _ _ p6; have x2 : w6.cell? ⟨p, 2, none⟩ = some (.int .i64 b0) := cell_of_row w6 p 2 _ _ _ p6; have kO6 := kO w6 R6 s6 g6 p6; clear s6 g6 p6)
      | (go_at_call 33; refine kO6.mono ?_; rintro e w7 ⟨rfl, R7, s7⟩))
    go_ret
    exact ⟨rfl, R7, s7⟩

end Go.Proofs.Ytelkkpomehgcjaa
