/-
  The reference's functions fresh and unit by contracts.
-/
import Derived.Test.YtelkkpomehgcjaaGreatRefm
namespace Go.Proofs.YtelkkpomehgcjaaGreat
open Go.RowKit Go.Maps

def Un.val (u : Un) : Value := .agg #[.int .i64 u.n, .int .u8 (u.c.toNat : Int), .bool u.drop, .bool u.empty]

theorem fresh_any (u : Un) (w : World) :
    Calls Tryz.prog 89 #[.agg #[.int .i64 u.n, .int .u8 (u.c.toNat : Int), .bool u.drop, .bool u.empty]] w fun e w' => ∃ v, e = .returned (.agg #[.int .i64 u.n, v]) ∧ w'.ownsRow w.heap.size 5 1 v u.new.2.length (cellsB u.new.2) ∧ Adds w w' := by
  cases hu : u.empty
  · go_enter Tryz.func89, Tryz.ntmps89
    go_wp2
    refine bodyPost_ret (v := .agg #[.int .i64 u.n, .slice (some ⟨w.heap.size + 1 + 1, 0, none⟩) 1 1]) (by simp [results, Tryz.results89, go_sem]) rfl ⟨_, rfl, ?_, ?_⟩
    · simp only [Un.new, hu, Bool.false_eq_true, if_false]
      refine ⟨rfl, .inr ⟨_, 1, #[.int .u8 (u.c.toNat : Int)], rfl, by omega, ?_, Nat.le_refl _, by decide, rfl, rfl⟩⟩
      have := new_block ((w.alloc (.cells #[.int .i64 u.n, .int .u8 (u.c.toNat : Int), .bool u.drop, .bool false] 83)).alloc (.cells #[.int .i64 u.n, .slice (some ⟨w.heap.size + 1 + 1, 0, none⟩) 1 1] 62)) (.cells #[.int .u8 (u.c.toNat : Int)] 5)
      simpa using this
    · repeat (first | with_reducible exact Adds.refl _ | with_reducible refine Adds.alloc ?_ _ | with_reducible refine Adds.drew ?_)
  · go_enter Tryz.func89, Tryz.ntmps89
    go_wp2
    refine bodyPost_ret (v := .agg #[.int .i64 u.n, .slice none 0 0]) (by simp [results, Tryz.results89, go_sem]) rfl ⟨_, rfl, ?_, ?_⟩
    · simp only [Un.new, hu, if_true]
      exact World.ownsRow_nil _ _ _ _
    · repeat (first | with_reducible exact Adds.refl _ | with_reducible refine Adds.alloc ?_ _ | with_reducible refine Adds.drew ?_)

def kf (l : List Fl) : Kf := l.map fun p => (p.1, p.2.2)

/-- append of one file. -/
theorem file_append (w : World) (B : Nat) (ty : TypeId) (v : Value) (l : List Fl) (h : w.ownsRow B 62 2 v l.length (cellsK l)) (hB : B ≤ w.heap.size) (p : Fl) (hp : p.2.1.oneCell' = true) (g c : Nat) (hg0 : w.cell? ⟨g, 0, none⟩ = some (.int .i64 p.1)) (hg1 : w.cell? ⟨g, 1, none⟩ = some p.2.1) (hlen : l.length ≤ 1000000000) :
    ∃ v' w', (Builtin.append_ #[33, 33] ty #[v, .slice (some ⟨g, 0, none⟩) 1 c]).run Tryz.prog w = .ok v' w' ∧ w'.ownsRow B 62 2 v' (l ++ [p]).length (cellsK (l ++ [p])) ∧ w.grownBy w' v.ownBlock := by
  obtain ⟨i0, hi, hz0, hz1, hz2⟩ := info_parts Tryz.info62
  obtain ⟨v', w', h1, h2, h3, _⟩ := run_append_own_at (P := Tryz.prog) w B 33 ty 62 i0 _ 2 32 Tryz.underlying33 hi hz0 hz1 hz2 rfl (by decide) v l.length (cellsK l) h ⟨g, 0, none⟩ 1 c [.int .i64 p.1, p.2.1] (by simp)
    (fun j u hu => by
      have hj : j < 2 := by
        have := (List.getElem?_eq_some_iff.1 hu).1
        simpa using this
      rw [add_at, Nat.zero_add]
      match j, hj with
      | 0, _ => simp at hu; subst hu; exact hg0
      | 1, _ => simp at hu; subst hu; exact hg1)
    (by intro u hu; simp at hu; rcases hu with rfl | rfl; rfl; exact hp) (by unfold maxLen; omega) (by omega) hB
  refine ⟨v', w', h1, ?_, h3⟩
  rw [cellsK_append, List.length_append]
  exact h2

theorem file_app {ops : Array Oper} {rest : List Oper} {o : Oper} {a : Act} {w : World} {Q : Exit → Act → World → Prop} (hgd : o.guard = none) (s x : Operand) (ho : o.op = .call { callee := .builtin .append, args := #[s, x], argTypes := #[33, 33] })
    {B : Nat} {v : Value} {l : List Fl} (h : w.ownsRow B 62 2 v l.length (cellsK l)) (hB : B ≤ w.heap.size) (hs : a.eval s = v) (p : Fl) (hp : p.2.1.oneCell' = true) (g c : Nat) (hx : a.eval x = .slice (some ⟨g, 0, none⟩) 1 c) (hg0 : w.cell? ⟨g, 0, none⟩ = some (.int .i64 p.1)) (hg1 : w.cell? ⟨g, 1, none⟩ = some p.2.1) (hlen : l.length ≤ 1000000000)
    (hk : ∀ v' w', w'.ownsRow B 62 2 v' (l ++ [p]).length (cellsK (l ++ [p])) → w.grownBy w' v.ownBlock → wpList Tryz.prog ops Q rest (a.put o.dst v') w') : wpList Tryz.prog ops Q (o :: rest) a w := by
  obtain ⟨v', w', hr, h2, h3⟩ := file_append w B o.type v l h hB p hp g c hg0 hg1 hlen
  exact Lib.wpList_append_run w hgd s x 33 33 ho v _ hs hx v' w' hr (hk v' w' h2 h3)

end Go.Proofs.YtelkkpomehgcjaaGreat
