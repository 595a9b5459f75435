/-
  The checker of package cell: look, by contract, of any tree.
-/
import Derived.Test.YtccddgohagakoaaLpu
namespace Go.Proofs.Ytccddgohagakoaa
open Go.RowKit
attribute [local go_sem] cell?_more frozen?_more setCell_more size_more tape_more drew_more drewN_more more_drew more_drewN one_out plus_out plus_end lt_one le_p2 le_p3 le_p4 le_p5 le_p6 le_p7 le_p8 le_p9 le_p10 le_p11 le_p12 le_p13 le_p14 le_p15 le_p16 le_p17 le_p18 le_p19 le_p20 le_p21 le_p22 le_p23 le_p24 le_q0 le_q1 lt_q1 le_q2 lt_q2 le_q3 lt_q3 le_q4 lt_q4 le_q5 lt_q5 le_q6 lt_q6 le_q7 lt_q7 le_q8 lt_q8 le_q9 lt_q9 le_q10 lt_q10 le_q11 lt_q11 le_q12 lt_q12 le_q13 lt_q13 le_q14 lt_q14 le_q15 lt_q15 le_q16 lt_q16 le_q17 lt_q17 le_q18 lt_q18 le_q19 lt_q19 le_q20 lt_q20 le_q21 lt_q21 le_q22 lt_q22 le_q23 lt_q23 le_q24 lt_q24

/-- The checker at block P. -/
def Chk (P : Nat) (w : World) (c : Nat) (odd long : Bool) : Prop := w.heap[P]? = some (.cells #[.int .i64 (c : Int), .bool odd, .bool long, .map none] 98 (0, 0))

theorem again_few (P : Nat) (c level : Nat) (odd long : Bool) (v : Value) (w : World) (h : Chk P w c odd long) (hc : c ≤ 4096) :
    Calls Try.prog 65 #[.pointer (some ⟨P, 0, none⟩), v, .int .i64 (level : Int)] w fun e w' => e = .returned (.bool false) ∧ w' = w := by
  have q0 : w.cell? ⟨P, 0, none⟩ = some (.int .i64 (c : Int)) := by unfold Chk at h; simp [World.cell?, h]
  go_enter Try.func65, Try.ntmps65
  go_wp2
  go_ret
  exact ⟨rfl, rfl⟩

theorem chk_step {P c : Nat} {w w' : World} (h : Chk P w c false false) (hP : P < w.heap.size) (ha : Adds (((w.setCell ⟨P, 0, none⟩ (.int .i64 ((c : Int) + 1))).setCell ⟨P, 1, none⟩ (.bool false)).setCell ⟨P, 2, none⟩ (.bool false)) w') :
    Chk P w' (c + 1) false false ∧ w.grownBy w' (some P) := by
  have h0 := heap_setCell_same w P 0 _ 98 (.int .i64 ((c : Int) + 1)) h
  have h1 := heap_setCell_same _ P 1 _ 98 (.bool false) h0
  have h2 := heap_setCell_same _ P 2 _ 98 (.bool false) h1
  constructor
  · unfold Chk
    rw [ha.below.block P (by simpa using hP), h2]
    simp
  · refine grownBy_adds ?_ ha
    refine ⟨rfl, rfl, rfl, by simp, fun j _ hj => ?_⟩
    have hne : j ≠ P := fun e => hj (by rw [e])
    rw [heap_setCell_other _ ⟨P, 2, none⟩ j _ hne, heap_setCell_other _ ⟨P, 1, none⟩ j _ hne, heap_setCell_other _ ⟨P, 0, none⟩ j _ hne]

set_option maxRecDepth 20000 in
set_option maxHeartbeats 1000000 in
theorem look_num (P : Nat) (c level : Nat) (n : Int) (ao : Option Addr) (cap : Nat) (w : World) (h : Chk P w c false false) (hP : P < w.heap.size) (hn : -9007199254740992 ≤ n ∧ n ≤ 9007199254740992) (hc : c ≤ 4096) (hl : level ≤ 12) :
    Calls Try.prog 51 #[.pointer (some ⟨P, 0, none⟩), .agg #[.int .i64 1, .int .i64 n, .string ⟨#[]⟩, .slice ao 0 cap], .int .i64 (level : Int)] w fun e w' => e = .returned (.bool true) ∧ Chk P w' (c + 1) false false ∧ w.grownBy w' (some P) := by
  have q0 : w.cell? ⟨P, 0, none⟩ = some (.int .i64 (c : Int)) := by unfold Chk at h; simp [World.cell?, h]
  have q1 : w.cell? ⟨P, 1, none⟩ = some (.bool false) := by unfold Chk at h; simp [World.cell?, h]
  have q2 : w.cell? ⟨P, 2, none⟩ = some (.bool false) := by unfold Chk at h; simp [World.cell?, h]
  have f0 : w.frozen? ⟨P, 0, none⟩ = false := by unfold Chk at h; simp [World.frozen?, h]
  have f1 : w.frozen? ⟨P, 1, none⟩ = false := by unfold Chk at h; simp [World.frozen?, h]
  have f2 : w.frozen? ⟨P, 2, none⟩ = false := by unfold Chk at h; simp [World.frozen?, h]
  go_enter Try.func51, Try.ntmps51
  go_wp2_with (go_at_call 64; refine (fitc_num n _ _ _ hn).mono ?_; rintro e w1 ⟨rfl, os1, n1, rfl⟩)
  go_ret
  exact ⟨rfl, chk_step h hP (by repeat (first | with_reducible exact Adds.refl _ | with_reducible refine Adds.alloc ?_ _ | with_reducible refine Adds.more ?_ _ _ | with_reducible refine Adds.drew ?_ | with_reducible refine Adds.drewN ?_ _))⟩

set_option maxRecDepth 20000 in
set_option maxHeartbeats 1000000 in
theorem look_text (P : Nat) (c level : Nat) (x : ByteArray) (ao : Option Addr) (cap : Nat) (w : World) (h : Chk P w c false false) (hP : P < w.heap.size) (hm : x.size ≤ 65536) (hc : c ≤ 4096) (hl : level ≤ 12) :
    Calls Try.prog 51 #[.pointer (some ⟨P, 0, none⟩), .agg #[.int .i64 2, .int .i64 0, .string x, .slice ao 0 cap], .int .i64 (level : Int)] w fun e w' => e = .returned (.bool true) ∧ Chk P w' (c + 1) false false ∧ w.grownBy w' (some P) := by
  have hlg : decide ((65536 : Int) < (x.size : Int)) = false := by simp; omega
  have q0 : w.cell? ⟨P, 0, none⟩ = some (.int .i64 (c : Int)) := by unfold Chk at h; simp [World.cell?, h]
  have q1 : w.cell? ⟨P, 1, none⟩ = some (.bool false) := by unfold Chk at h; simp [World.cell?, h]
  have q2 : w.cell? ⟨P, 2, none⟩ = some (.bool false) := by unfold Chk at h; simp [World.cell?, h]
  have f0 : w.frozen? ⟨P, 0, none⟩ = false := by unfold Chk at h; simp [World.frozen?, h]
  have f1 : w.frozen? ⟨P, 1, none⟩ = false := by unfold Chk at h; simp [World.frozen?, h]
  have f2 : w.frozen? ⟨P, 2, none⟩ = false := by unfold Chk at h; simp [World.frozen?, h]
  go_enter Try.func51, Try.ntmps51
  go_wp2_with (go_at_call 64; refine (fitc_text _ _ _ _).mono ?_; rintro e w1 ⟨rfl, os1, n1, rfl⟩)
  go_ret
  exact ⟨rfl, chk_step h hP (by repeat (first | with_reducible exact Adds.refl _ | with_reducible refine Adds.alloc ?_ _ | with_reducible refine Adds.more ?_ _ _ | with_reducible refine Adds.drew ?_ | with_reducible refine Adds.drewN ?_ _))⟩


theorem Chk.adds {P c : Nat} {a b : Bool} {w w' : World} (h : Chk P w c a b) (hA : Adds w w') : Chk P w' c a b := by
  unfold Chk at h ⊢
  rw [hA.below.block P (Array.getElem?_eq_some_iff.1 h).1]
  exact h


theorem grownBy_trans {w w1 w2 : World} {r : Option Nat} (h : w.grownBy w1 r) (h' : w1.grownBy w2 r) : w.grownBy w2 r :=
  ⟨h'.os.trans h.os, h'.tape.trans h.tape, h'.output.trans h.output, Nat.le_trans h.size h'.size, fun k hk hr => (h'.block k (Nat.lt_of_lt_of_le hk h.size) hr).trans (h.block k hk hr)⟩


/-- How many cells the first i of some have. -/
def sumT (d : Nat) (ts : List T) (i : Nat) : Nat := ((ts.take i).map (sizeT d)).sum

theorem sumT_next {d : Nat} {ts : List T} {i : Nat} (h : i < ts.length) : sumT d ts (i + 1) = sumT d ts i + sizeT d ts[i] := by
  unfold sumT
  have e := List.take_succ_eq_append_getElem h
  rw [e, List.map_append, List.sum_append]
  simp

theorem sumT_le (d : Nat) (ts : List T) (i : Nat) : sumT d ts i ≤ (ts.map (sizeT d)).sum := by
  unfold sumT
  have h : (ts.map (sizeT d)).sum = ((ts.take i).map (sizeT d)).sum + ((ts.drop i).map (sizeT d)).sum := by
    rw [← List.sum_append, ← List.map_append, List.take_append_drop]
  omega

theorem len_le_sum (d : Nat) (ts : List T) : ts.length ≤ (ts.map (sizeT d)).sum := by
  induction ts with
  | nil => simp
  | cons x r ih =>
    have : 0 < sizeT d x := by
      cases d <;> simp [sizeT]
      omega
    simp only [List.map_cons, List.sum_cons, List.length_cons]
    omega

theorem sizeT_pos (d : Nat) (t : T) : 0 < sizeT d t := by
  cases d <;> simp [sizeT]
  omega

theorem Tr.kept {P d : Nat} {w w' : World} {s : Value} {ts : List T} (h : Tr (fun b => b ≠ P) d w s ts) (hg : w.grownBy w' (some P)) : Tr (fun b => b ≠ P) d w' s ts :=
  h.frame hg.size (fun b hb hlt => hg.block b hlt (fun e => hb (by simpa using e))) (fun _ h => h)

/-- What look tells of a cell. -/
def LookOk (P d : Nat) : Prop := ∀ (t : T) (s : Value) (level c : Nat) (w : World), Chk P w c false false → P < w.heap.size → Tr (fun b => b ≠ P) d w s t.list → okT (d + 1) t → level + d ≤ 12 → c + sizeT (d + 1) t ≤ 4096 →
  Calls Try.prog 51 #[.pointer (some ⟨P, 0, none⟩), .agg #[.int .i64 t.kind, .int .i64 t.num, .string t.text, s], .int .i64 (level : Int)] w fun e w' => e = .returned (.bool true) ∧ Chk P w' (c + sizeT (d + 1) t) false false ∧ w.grownBy w' (some P)

set_option maxRecDepth 20000 in
set_option maxHeartbeats 2000000 in
theorem look_list (P d : Nat) (ts : List T) (s : Value) (level c : Nat) (w : World) (h : Chk P w c false false) (hP : P < w.heap.size) (ht : Tr (fun b => b ≠ P) d w s ts) (hok : ∀ x ∈ ts, okT d x) (hl : level + d ≤ 12) (hc : c + 1 + (ts.map (sizeT d)).sum ≤ 4096)
    (ih : ∀ d', d = d' + 1 → LookOk P d') :
    Calls Try.prog 51 #[.pointer (some ⟨P, 0, none⟩), .agg #[.int .i64 3, .int .i64 0, .string ⟨#[]⟩, s], .int .i64 (level : Int)] w fun e w' => e = .returned (.bool true) ∧ Chk P w' (c + (1 + (ts.map (sizeT d)).sum)) false false ∧ w.grownBy w' (some P) := by
  have q0 : w.cell? ⟨P, 0, none⟩ = some (.int .i64 (c : Int)) := by unfold Chk at h; simp [World.cell?, h]
  have q1 : w.cell? ⟨P, 1, none⟩ = some (.bool false) := by unfold Chk at h; simp [World.cell?, h]
  have q2 : w.cell? ⟨P, 2, none⟩ = some (.bool false) := by unfold Chk at h; simp [World.cell?, h]
  have f0 : w.frozen? ⟨P, 0, none⟩ = false := by unfold Chk at h; simp [World.frozen?, h]
  have f1 : w.frozen? ⟨P, 1, none⟩ = false := by unfold Chk at h; simp [World.frozen?, h]
  have f2 : w.frozen? ⟨P, 2, none⟩ = false := by unfold Chk at h; simp [World.frozen?, h]
  have HH : Hid (Chk P w c false false) := h
  have HT : Hid _ := ht
  obtain ⟨ao, cap, rfl⟩ := ht.shape
  have hl12 : ¬ (12 : Int) < (level : Int) := by omega
  have HOK : Hid (∀ x ∈ ts, okT d x) := hok
  have HI : Hid _ := ih
  have hcc : c + 1 ≤ 4096 := by omega
  have hlen : ts.length ≤ 4096 := by have := len_le_sum d ts; omega
  clear ht hok ih
  go_enter Try.func51, Try.ntmps51
  go_wp2_with (first
    | (go_at_call 64; refine (fitc_list _ _).mono ?_; rintro e w1 ⟨rfl, os1, n1, rfl⟩)
    | (go_at_call 65; refine (again_few P (c + 1) level false false _ _ (chk_step h hP (by repeat (first | with_reducible exact Adds.refl _ | with_reducible refine Adds.alloc ?_ _ | with_reducible refine Adds.more ?_ _ _ | with_reducible refine Adds.drew ?_ | with_reducible refine Adds.drewN ?_ _))).1 hcc).mono ?_; rintro e w2 ⟨rfl, rfl⟩))
  go_loopw [56] (fun iv wr => ∃ i : Nat, i ≤ ts.length ∧ iv = .int .i64 (i : Int) ∧ Hid (Chk P wr (c + 1 + sumT d ts i) false false) ∧ Hid (w.grownBy wr (some P))) (fun iv _ => ts.length - (intOf iv).toNat)
  case atStart => exact ⟨0, by omega, rfl, (chk_step HH.out hP (by repeat (first | with_reducible exact Adds.refl _ | with_reducible refine Adds.alloc ?_ _ | with_reducible refine Adds.more ?_ _ _ | with_reducible refine Adds.drew ?_ | with_reducible refine Adds.drewN ?_ _))).1, (chk_step HH.out hP (by repeat (first | with_reducible exact Adds.refl _ | with_reducible refine Adds.alloc ?_ _ | with_reducible refine Adds.more ?_ _ _ | with_reducible refine Adds.drew ?_ | with_reducible refine Adds.drewN ?_ _))).2⟩
  case round =>
    obtain ⟨i, hi, rfl, hC, hGr⟩ := hrel
    clear h q0 q1 q2 f0 f1 f2
    by_cases hlt : i < ts.length
    · have hT := HT.out.kept hGr.out
      cases d with
      | zero =>
        obtain ⟨rfl, _⟩ := hT
        simp at hlt
      | succ d =>
        obtain ⟨ao', cap', he, _, hx⟩ := hT
        simp only [Value.slice.injEq] at he
        obtain ⟨rfl, _, rfl⟩ := he
        rcases hx with rfl | ⟨b, off, rfl, hb, hbP, hx⟩
        · simp at hlt
        obtain ⟨x, ⟨c0, c1, c2, c3⟩, _, hTx⟩ := hx i hlt
        have hn := sumT_next (d := d + 1) hlt
        have hs := sumT_le (d + 1) ts (i + 1)
        have hkT := HOK.out _ (List.getElem_mem hlt)
        have HN : Hid (c + 1 + sumT (d + 1) ts (i + 1) = c + 1 + sumT (d + 1) ts i + sizeT (d + 1) ts[i]) := by
          show _ = _
          omega
        have HX : Hid (∀ W, Adds wr W → Calls Try.prog 51 #[.pointer (some ⟨P, 0, none⟩), .agg #[.int .i64 ts[i].kind, .int .i64 ts[i].num, .string ts[i].text, x], .int .i64 ((level : Int) + 1)] W fun e w' => e = .returned (.bool true) ∧ Chk P w' (c + 1 + sumT (d + 1) ts i + sizeT (d + 1) ts[i]) false false ∧ W.grownBy w' (some P)) :=
          fun W hA => HI.out d rfl ts[i] x (level + 1) _ W (hC.out.adds hA) (by have := hA.below.size; have := hGr.out.size; omega) (hTx.adds hA) hkT (by omega) (by omega)
        obtain ⟨xo, xc, rfl⟩ := hTx.shape
        clear hn hs hkT hTx hx
        generalize ts[i] = t at *
        go_wp2_with (go_at_call 51; refine (HX.out _ (by repeat (first | with_reducible exact Adds.refl _ | with_reducible refine Adds.alloc ?_ _ | with_reducible refine Adds.more ?_ _ _ | with_reducible refine Adds.drew ?_ | with_reducible refine Adds.drewN ?_ _))).mono ?_; rintro e w3 ⟨rfl, h3, hg3⟩)
        go_roundw
        case rel => exact ⟨i + 1, by omega, by go_num, by rw [HN.out]; exact h3, grownBy_trans (grownBy_adds hGr.out (by repeat (first | with_reducible exact Adds.refl _ | with_reducible refine Adds.alloc ?_ _ | with_reducible refine Adds.more ?_ _ _ | with_reducible refine Adds.drew ?_ | with_reducible refine Adds.drewN ?_ _))) hg3⟩
        case measure => simp [intOf]; omega
    · have : i = ts.length := by omega
      subst this
      have HE : Hid (c + (1 + (ts.map (sizeT d)).sum) = c + 1 + sumT d ts ts.length) := by
        show _ = _
        unfold sumT
        rw [List.take_length]
        omega
      go_wp2
      go_ret
      exact ⟨rfl, by rw [HE.out]; exact hC.out, hGr.out⟩

theorem look_ok (P : Nat) : ∀ d, LookOk P d := by
  intro d
  induction d with
  | zero =>
    intro t s level c w h hP hT hok hl hc
    obtain ⟨k, n, x, l⟩ := t
    simp only [T.kind, T.num, T.text, T.list] at *
    obtain ⟨rfl, ao, cap, rfl⟩ := hT
    rcases hok with ⟨rfl, h1, h2, rfl, _⟩ | ⟨rfl, rfl, h1, _⟩ | ⟨rfl, rfl, rfl, h1⟩
    · exact look_num P c level n ao cap w h hP ⟨h1, h2⟩ (by simp [sizeT, T.list] at hc; omega) (by omega)
    · exact look_text P c level x ao cap w h hP h1 (by simp [sizeT, T.list] at hc; omega) (by omega)
    · have := look_list P 0 [] (.slice ao 0 cap) level c w h hP ⟨rfl, ao, cap, rfl⟩ (by simp) hl (by simpa [sizeT, T.list, Nat.add_assoc] using hc) (fun d' e => by omega)
      simpa [sizeT, T.list] using this
  | succ d ih =>
    intro t s level c w h hP hT hok hl hc
    obtain ⟨k, n, x, l⟩ := t
    simp only [T.kind, T.num, T.text, T.list] at *
    rcases hok with ⟨rfl, h1, h2, rfl, hls⟩ | ⟨rfl, rfl, h1, hls⟩ | ⟨rfl, rfl, rfl, h1⟩
    · simp only [T.list] at hls
      subst hls
      obtain ⟨ao, cap, rfl⟩ := hT.shape
      exact look_num P c level n ao cap w h hP ⟨h1, h2⟩ (by simp [sizeT, T.list] at hc; omega) (by omega)
    · simp only [T.list] at hls
      subst hls
      obtain ⟨ao, cap, rfl⟩ := hT.shape
      exact look_text P c level x ao cap w h hP h1 (by simp [sizeT, T.list] at hc; omega) (by omega)
    · simp only [T.list] at h1
      have := look_list P (d + 1) l s level c w h hP hT h1 hl (by simpa [sizeT, T.list, Nat.add_assoc] using hc) (fun d' e => by cases e; exact ih)
      simpa [sizeT, T.list] using this

end Go.Proofs.Ytccddgohagakoaa
