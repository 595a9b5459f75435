/-
  What the law KeepGrows wants: entries that are added one behind the other.
-/
import Derived.Test.YtelkkpomehgcjaaKnobody
namespace Go.Proofs.Ytelkkpomehgcjaa
open Go.RowKit Go.Maps
attribute [local go_sem] cell?_more frozen?_more setCell_more size_more tape_more drew_more drewN_more more_drew more_drewN more_more one_out plus_out plus_end lt_one le_p2 le_p3 le_p4 le_p5 le_p6 le_p7 le_p8 le_p9 le_p10 le_p11 le_p12 le_p13 le_p14 le_p15 le_p16 le_p17 le_p18 le_p19 le_p20 le_p21 le_p22 le_p23 le_p24 le_q0 le_q1 lt_q1 le_q2 lt_q2 le_q3 lt_q3 le_q4 lt_q4 le_q5 lt_q5 le_q6 lt_q6 le_q7 lt_q7 le_q8 lt_q8 le_q9 lt_q9 le_q10 lt_q10 le_q11 lt_q11 le_q12 lt_q12 le_q13 lt_q13 le_q14 lt_q14 le_q15 lt_q15 le_q16 lt_q16 le_q17 lt_q17 le_q18 lt_q18 le_q19 lt_q19 le_q20 lt_q20 le_q21 lt_q21 le_q22 lt_q22 le_q23 lt_q23 le_q24 lt_q24

/-- Others than the keep turn their blocks. -/
theorem Ke.other {w w' : World} {B : Nat} {F : Nat → Prop} {K : Kw} (h : Ke w B F K) {G G' : Nat → Prop} (m : Mv w G w' G') (hG : ∀ i, G i → ¬ K.own i) (htag : ∀ i, G i → ∃ C e z, w.heap[i]? = some (.cells C e z) ∧ e ≠ 5) : Ke w' B F K := by
  have hk : ∀ i, K.own i → w'.heap[i]? = w.heap[i]? := fun i hi => (m.block i (h.low i hi).2 fun hg => hG i hg hi).1
  have hb5 : ∀ b C z, w.heap[b]? = some (.cells C 5 z) → ¬ F b → w'.heap[b]? = w.heap[b]? ∧ ¬ F b := fun b C z hb hf => by
    refine ⟨(m.block b (Array.getElem?_eq_some_iff.1 hb).1 fun hg => ?_).1, hf⟩
    obtain ⟨C', e, z', h1, h2⟩ := htag b hg
    rw [hb] at h1
    simp only [Option.some.injEq, Obj.cells.injEq] at h1
    exact h2 h1.2.1.symm
  obtain ⟨xs, ho, he⟩ := h.row
  exact ⟨(hk K.p (.inl rfl)).trans h.hp, h.bp, h.note.keep hb5, ⟨xs, row_keep ho fun i hi => hk i (.inr hi), he.imp fun _ _ hx => hx.keep hb5⟩, h.out, h.apart⟩

theorem Kp.other {w w' : World} {B : Nat} {T : Tw} {K : Kw} {d : Dk} (h : Kp w B T K d) {G G' : Nat → Prop} (m : Mv w G w' G') (hG : ∀ i, G i → ¬ footK T K i) (htag : ∀ i, G i → ∃ C e z, w.heap[i]? = some (.cells C e z) ∧ e ≠ 5) : Kp w' B T K d :=
  ⟨h.tap.other m (fun i hi hf => hG i hi (.inl hf)) htag, h.ke.other m (fun i hi hf => hG i hi (.inr hf)) htag, h.tp⟩

theorem Kp.lt {w : World} {B : Nat} {T : Tw} {K : Kw} {d : Dk} (h : Kp w B T K d) : ∀ i, footK T K i → B ≤ i ∧ i < w.heap.size := by
  rintro i (hi | hi)
  · exact ⟨h.tap.low i hi, h.tap.lt i hi⟩
  · exact h.ke.low i hi

theorem mv_grown {w w' : World} {v : Value} (h : w.grownBy w' v.ownBlock) : Mv w (fun i => v.ownBlock = some i) w' (fun i => v.ownBlock = some i) :=
  ⟨h.os, h.tape, h.output, h.size, fun i hi hn => ⟨h.block i hi fun e => hn e.symm, hn⟩⟩

theorem CalK.mono {w W : World} {T : Tw} {K : Kw} {n : Int} {base : Nat} {ls : List (List UInt8)} {s : List (List UInt8) × List UInt8} {room bulk bulk' : Nat} (h : CalK w W T K n base ls s room bulk) (hb : bulk ≤ bulk') : CalK w W T K n base ls s room bulk' :=
  ⟨h.kp, h.file, h.base, h.ls, h.rp, h.room, Nat.le_trans h.bulk hb, h.adds, h.st⟩

/-- A list beside the keep grows by an element. -/
theorem CalK.pushed {w W W' : World} {T : Tw} {K : Kw} {n : Int} {base : Nat} {ls : List (List UInt8)} {s : List (List UInt8) × List UInt8} {room bulk : Nat} (h : CalK w W T K n base ls s room bulk) {v : Value} {B : Nat} {xs : List Value} (ho : W.ownsRow B 22 1 v xs.length xs) (hB : w.heap.size ≤ B) (hf : ∀ i, v.ownBlock = some i → ¬ footK T K i) (hg : W.grownBy W' v.ownBlock) : CalK w W' T K n base ls s room bulk := by
  refine ⟨h.kp.other (mv_grown hg) hf fun i hi => ?_, h.file, h.base, h.ls, h.rp, h.room, h.bulk, adds_mv h.adds (mv_grown hg) fun i hi => Nat.le_trans hB (ho.lt i hi).1, h.st⟩
  obtain ⟨C, hC⟩ := row_block ho hi
  exact ⟨_, _, _, hC, by decide⟩

def zeroed (l : List (List UInt8)) : List (List UInt8) := l.map fun b => 0 :: b

theorem zeroed_snoc (l : List (List UInt8)) (b : List UInt8) : zeroed (l ++ [b]) = zeroed l ++ [0 :: b] := by simp [zeroed]
theorem zeroed_length (l : List (List UInt8)) : (zeroed l).length = l.length := by simp [zeroed]
theorem zeroed_drop (l : List (List UInt8)) : (zeroed l).map (List.drop 1) = l := by
  unfold zeroed
  rw [List.map_map]
  exact List.map_id _

theorem zeroed_known (l : List (List UInt8)) : (zeroed l).all knownK = true := by
  rw [List.all_eq_true]
  intro x hx
  obtain ⟨b, _, rfl⟩ := List.mem_map.1 hx
  rfl

theorem zeroed_fold (l : List (List UInt8)) : foldT (zeroed l) = (zeroed l, []) := by
  have : ∀ (l : List (List UInt8)) (es : List (List UInt8)), (zeroed l).foldl turnK (es, []) = (es ++ zeroed l, []) := by
    intro l
    induction l with
    | nil => intro es; simp [zeroed]
    | cons b r ih =>
      intro es
      have e : zeroed (b :: r) = (0 :: b) :: zeroed r := rfl
      rw [e, List.foldl_cons, turnK_cons, if_pos rfl, ih]
      simp
  have h := this l []
  simpa [foldT] using h

theorem zeroed_weight {l : List (List UInt8)} (h : ∀ b ∈ l, b.length ≤ 100) : segLen (zeroed l) ≤ 13 + 110 * l.length := by
  have : ∀ l : List (List UInt8), (∀ b ∈ l, b.length ≤ 100) → tot (zeroed l) ≤ 101 * l.length := by
    intro l
    induction l with
    | nil => intro _; simp [zeroed, tot]
    | cons b r ih =>
      intro h
      have h1 := h b (by simp)
      have h2 := ih fun x hx => h x (by simp [hx])
      have e : tot (zeroed (b :: r)) = (b.length + 1) + tot (zeroed r) := rfl
      rw [e, List.length_cons]
      omega
  have h1 := this l h
  unfold segLen
  rw [zeroed_length]
  omega

theorem zeroed_fits {l : List (List UInt8)} (h : ∀ b ∈ l, b.length ≤ 100) : fits (zeroed l) := by
  intro x hx
  obtain ⟨b, hb, rfl⟩ := List.mem_map.1 hx
  have := h b hb
  simp
  omega

theorem turn_zero (l : List (List UInt8)) (b : List UInt8) : turnK (zeroed l, []) (0 :: b) = (zeroed (l ++ [b]), []) := by
  rw [turnK_cons, if_pos rfl, zeroed_snoc]

theorem anew_none (es : List (List UInt8)) : anew es [] = es := rfl

/-- One more of the keep's entries. -/
theorem calK_add {w W : World} {T : Tw} {K : Kw} {n : Int} {base : Nat} {l : List (List UInt8)} {bulk : Nat} (h : CalK w W T K n base (zeroed l) (zeroed l, []) 60000 bulk) (hl : ∀ b ∈ l, b.length ≤ 100) (hn : 0 ≤ n ∧ n ≤ (l.length : Int)) (hk : l.length < 255) (hbase : base ≤ l.length) (hb : bulk ≤ 1000000 * (l.length + 1)) (x : Value) (b : List UInt8) (hx : Byt W x b) (hlen : b.length ≤ 100) :
    Calls Try.prog 13 #[ptr K.p, x] W fun e w' => e = .returned (.int .i64 0) ∧ ∃ T' K' n' base', K'.p = K.p ∧ CalK w w' T' K' n' base' (zeroed (l ++ [b])) (zeroed (l ++ [b]), []) 60000 (1000000 * ((l ++ [b]).length + 1)) ∧ (0 ≤ n' ∧ n' ≤ ((l ++ [b]).length : Int)) ∧ base' ≤ (l ++ [b]).length ∧ Mv W (footK T K) w' (footK T' K') := by
  have hw := zeroed_weight hl
  have hzl := zeroed_length l
  have hl' : ∀ c ∈ l ++ [b], c.length ≤ 100 := by
    intro c hc
    simp only [List.mem_append, List.mem_singleton] at hc
    rcases hc with hc | rfl
    · exact hl c hc
    · exact hlen
  have hw' := zeroed_weight hl'
  have hlb : (l ++ [b]).length = l.length + 1 := by simp
  rw [hlb] at hw' ⊢
  by_cases hf : l.length + 1 - base < 64
  · refine add_of ((calK_few h (by omega) (by omega) (by decide) 0 x b hx (by omega) rfl (by omega) (by show (zeroed l).length ≤ _; omega) (by omega) (by omega)).mono ?_)
    rintro e w' ⟨rfl, T', K', hp, k, m⟩
    rw [turn_zero, ← zeroed_snoc] at k
    exact ⟨rfl, T', K', n, base, hp, k.mono (by omega), by omega, by omega, m⟩
  · have k0 := calK_many h (by omega) (by omega) (by decide) 0 x b hx (by omega) rfl (by show (zeroed l).length ≤ _; omega) (by omega) (by omega) (by rw [turn_zero]; exact zeroed_fits hl') (by rw [turn_zero]; show segLen (zeroed (l ++ [b])) + _ ≤ _; omega)
    rw [turn_zero] at k0
    refine add_of (k0.mono ?_)
    rintro e w' ⟨rfl, T', K', hp, k, m⟩
    have k' : CalK w w' T' K' (n + 1) (zeroed (l ++ [b])).length (zeroed (l ++ [b])) (zeroed (l ++ [b]), []) 60000 _ := k
    rw [zeroed_length, hlb] at k'
    exact ⟨rfl, T', K', n + 1, l.length + 1, hp, k'.mono (by omega), by omega, by omega, m⟩

end Go.Proofs.Ytelkkpomehgcjaa
