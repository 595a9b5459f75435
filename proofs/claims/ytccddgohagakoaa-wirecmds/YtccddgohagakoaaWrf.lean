/-
  The reference's cells of a command, by contracts: numbers, texts, lists of numbers.
-/
import Derived.Test.YtccddgohagakoaaWre
import Derived.Deep.RegionLaw
import Derived.Lib.AppendZeros
namespace Go.Proofs.Ytccddgohagakoaa
open Go.RowKit
attribute [local go_sem] cell?_more frozen?_more setCell_more size_more tape_more drew_more drewN_more more_drew more_drewN one_out plus_out plus_end lt_one le_p2 le_p3 le_p4 le_p5 le_p6 le_p7 le_p8 le_p9 le_p10 le_p11 le_p12 le_p13 le_p14 le_p15 le_p16 le_p17 le_p18 le_p19 le_p20 le_p21 le_p22 le_p23 le_p24 le_q0 le_q1 lt_q1 le_q2 lt_q2 le_q3 lt_q3 le_q4 lt_q4 le_q5 lt_q5 le_q6 lt_q6 le_q7 lt_q7 le_q8 lt_q8 le_q9 lt_q9 le_q10 lt_q10 le_q11 lt_q11 le_q12 lt_q12 le_q13 lt_q13 le_q14 lt_q14 le_q15 lt_q15 le_q16 lt_q16 le_q17 lt_q17 le_q18 lt_q18 le_q19 lt_q19 le_q20 lt_q20 le_q21 lt_q21 le_q22 lt_q22 le_q23 lt_q23 le_q24 lt_q24

theorem rnum_any (n : Int) (w : World) :
    Calls Try.prog 25 #[.int .i64 n] w fun e w' => e = .returned (.agg #[.int .i64 1, .int .i64 n, .string ⟨#[]⟩, .slice none 0 0]) ∧ Adds w w' := by
  go_enter Try.func25, Try.ntmps25
  go_wp2
  refine bodyPost_ret (v := .agg #[.int .i64 1, .int .i64 n, .string ⟨#[]⟩, .slice none 0 0]) (by simp [results, Try.results25, go_sem]) rfl ⟨rfl, ?_⟩
  repeat (first | with_reducible exact Adds.refl _ | with_reducible refine Adds.alloc ?_ _ | with_reducible refine Adds.more ?_ _ _ | with_reducible refine Adds.drew ?_ | with_reducible refine Adds.drewN ?_ _)

theorem rtext_any (s : ByteArray) (w : World) :
    Calls Try.prog 26 #[.string s] w fun e w' => e = .returned (.agg #[.int .i64 2, .int .i64 0, .string s, .slice none 0 0]) ∧ Adds w w' := by
  go_enter Try.func26, Try.ntmps26
  go_wp2
  refine bodyPost_ret (v := .agg #[.int .i64 2, .int .i64 0, .string s, .slice none 0 0]) (by simp [results, Try.results26, go_sem]) rfl ⟨rfl, ?_⟩
  repeat (first | with_reducible exact Adds.refl _ | with_reducible refine Adds.alloc ?_ _ | with_reducible refine Adds.more ?_ _ _ | with_reducible refine Adds.drew ?_ | with_reducible refine Adds.drewN ?_ _)

theorem rlist_c (ao : Option Addr) (n cap : Nat) (w : World) : Calls Try.prog 24 #[.slice ao n cap] w fun e w' => e = .returned (.agg #[.int .i64 3, .int .i64 0, .string ⟨#[]⟩, .slice ao n cap]) ∧ Adds w w' := by
  go_enter Try.func24, Try.ntmps24
  go_wp2
  refine bodyPost_ret (v := .agg #[.int .i64 3, .int .i64 0, .string ⟨#[]⟩, .slice ao n cap]) (by simp [results, Try.results24, go_sem]) rfl ⟨rfl, ?_⟩
  repeat (first | with_reducible exact Adds.refl _ | with_reducible refine Adds.alloc ?_ _ | with_reducible refine Adds.more ?_ _ _ | with_reducible refine Adds.drew ?_ | with_reducible refine Adds.drewN ?_ _)

def cellsN (ns : List Int) : List Value := ns.flatMap (fun n => [.int .i64 1, .int .i64 n, .string ⟨#[]⟩, .slice none 0 0])

theorem cellsN_length (ns : List Int) : (cellsN ns).length = ns.length * 4 := by
  induction ns with
  | nil => rfl
  | cons n r ih =>
    have : cellsN (n :: r) = [.int .i64 1, .int .i64 n, .string ⟨#[]⟩, .slice none 0 0] ++ cellsN r := rfl
    rw [this, List.length_append, ih]
    simp
    omega

theorem cellsN_append (l t : List Int) : cellsN (l ++ t) = cellsN l ++ cellsN t := by simp [cellsN]

theorem cellsN_get (ss : List Int) (i : Nat) (hi : i < ss.length) (r : Nat) (hr : r < 4) : (cellsN ss)[i * 4 + r]? = ([.int .i64 1, .int .i64 ss[i], .string ⟨#[]⟩, .slice none 0 0] : List Value)[r]? := by
  induction ss generalizing i with
  | nil => simp at hi
  | cons f t ih =>
    cases i with
    | zero =>
      simp only [cellsN, List.flatMap_cons, Nat.zero_mul, Nat.zero_add, List.getElem_cons_zero]
      rw [List.getElem?_append_left (by simp; omega)]
    | succ i =>
      have hi' : i < t.length := by simpa using hi
      simp only [cellsN, List.flatMap_cons, List.getElem_cons_succ]
      rw [List.getElem?_append_right (by simp; omega)]
      have := ih i hi'
      simp only [cellsN] at this
      rw [← this]
      congr 1
      simp
      omega

/-- A row of numbers' cells that the call owns. -/
def OwnN (B : Nat) (v : Value) (ns : List Int) (W0 w : World) : Prop := w.ownsRow B 43 4 v ns.length (cellsN ns) ∧ Below B W0 w ∧ B ≤ w.heap.size

theorem OwnN.shape {B : Nat} {v : Value} {ns : List Int} {W0 w : World} (h : OwnN B v ns W0 w) : ∃ a c, v = .slice a ns.length c := by
  rcases h.1.2 with ⟨rfl, hn⟩ | ⟨g, cap, cur, rfl, _⟩
  · exact ⟨none, 0, by rw [hn]⟩
  · exact ⟨_, _, rfl⟩

theorem OwnN.adds {B : Nat} {v : Value} {ns : List Int} {W0 w w' : World} (h : OwnN B v ns W0 w) (ha : Adds w w') : OwnN B v ns W0 w' := by
  refine ⟨⟨h.1.1, ?_⟩, h.2.1.trans (ha.below.mono h.2.2), Nat.le_trans h.2.2 ha.below.size⟩
  rcases h.1.2 with h1 | ⟨g, cap, cur, e, hb, hg, r⟩
  · exact .inl h1
  · exact .inr ⟨g, cap, cur, e, hb, (ha.below.block g (Array.getElem?_eq_some_iff.1 hg).1).trans hg, r⟩

theorem push_num (w : World) (B : Nat) (ty : TypeId) (v : Value) (ns : List Int) (W0 : World) (h : OwnN B v ns W0 w) (m : Int)
    (k c : Nat) (hc : w.cell? ⟨k, 0, none⟩ = some (.int .i64 1) ∧ w.cell? ⟨k, 1, none⟩ = some (.int .i64 m) ∧ w.cell? ⟨k, 2, none⟩ = some (.string ⟨#[]⟩) ∧ w.cell? ⟨k, 3, none⟩ = some (.slice none 0 0)) (hlen : ns.length ≤ 10000) :
    ∃ v' w', (Builtin.append_ #[41, 41] ty #[v, .slice (some ⟨k, 0, none⟩) 1 c]).run Try.prog w = .ok v' w' ∧ OwnN B v' (ns ++ [m]) W0 w' := by
  obtain ⟨i0, hi, hz0, hz1, hz2⟩ := info_parts Try.info43
  have hnews : ∀ j u, ([.int .i64 1, .int .i64 m, .string ⟨#[]⟩, Value.slice none 0 0] : List Value)[j]? = some u → w.cell? ((⟨k, 0, none⟩ : Addr).add j) = some u := by
    intro j u hj
    rw [Addr.add_lit, Nat.zero_add]
    match j, hj with
    | 0, hj => simp at hj; subst hj; exact hc.1
    | 1, hj => simp at hj; subst hj; exact hc.2.1
    | 2, hj => simp at hj; subst hj; exact hc.2.2.1
    | 3, hj => simp at hj; subst hj; exact hc.2.2.2
    | (j + 4), hj => simp at hj
  have hone : ∀ u ∈ ([.int .i64 1, .int .i64 m, .string ⟨#[]⟩, Value.slice none 0 0] : List Value), u.oneCell' = true := by
    intro u hu
    simp only [List.mem_cons, List.mem_nil_iff, or_false] at hu
    rcases hu with rfl | rfl | rfl | rfl <;> rfl
  obtain ⟨v', w', h1, h2, h3, _⟩ := run_append_own (P := Try.prog) w B 41 ty 43 i0 _ 4 56 Try.underlying41 hi hz0 hz1 hz2 rfl (by decide) v ns.length (cellsN ns) h.1 ⟨k, 0, none⟩ 1 c _ rfl hnews hone (by unfold maxLen; omega) (by omega) h.2.2
  refine ⟨v', w', h1, by rw [cellsN_append, List.length_append]; exact h2, h.2.1.trans ?_, Nat.le_trans h.2.2 h3.size⟩
  refine ⟨h3.os, h3.tape, h3.output, Nat.le_trans h.2.2 (Nat.le_refl _) |> fun _ => h3.size, fun j hj => h3.block j (Nat.lt_of_lt_of_le hj h.2.2) ?_⟩
  rcases h.1.2 with ⟨rfl, _⟩ | ⟨g, cap, cur, rfl, hb, _⟩
  · simp [Value.ownBlock]
  · simp [Value.ownBlock]
    omega

end Go.Proofs.Ytccddgohagakoaa
