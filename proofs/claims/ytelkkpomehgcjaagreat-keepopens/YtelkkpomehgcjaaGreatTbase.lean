/-
  A new reel; a tape that is opened over nothing.
-/
import Derived.Test.YtelkkpomehgcjaaGreatTwrite
import Derived.Test.YtelkkpomehgcjaaGreatCalm
namespace Go.Proofs.YtelkkpomehgcjaaGreat
open Go.RowKit Go.Maps

theorem adds_mv {w W w' : World} {F F' : Nat → Prop} (ha : Adds w W) (m : Mv W F w' F') (hF : ∀ i, F i → w.heap.size ≤ i) : Adds w w' := by
  have hb := ha.below
  exact Adds.of (hb.trans (m.below hF hb.size))

theorem Opened.tapW {w w' : World} {B : Nat} {R : Rw} {d : Dk} {K : Kf} {T : Tw} (h : Opened w B R d K w' T) (hn : newK K = none) : TapW w' B T (d.opened K).d := by
  have hv := h.nil hn
  have hl : T.ls = [] := by
    rw [h.ls]
    unfold Dk.opened
    rw [hn]
  refine ⟨h.tap.st, h.tap.hp, h.tap.bp, [], ?_, ?_⟩
  · rw [hv]
    exact World.ownsRow_nil _ _ _ _
  · rw [hl]
    exact eachA_nil _ _

theorem st_new (room : Nat) (hr : room ≤ 1048576) (w : World) :
    Calls Tryz.prog 6 #[.int .i64 (room : Int)] w fun e w' => e = .returned (.tuple #[ptr (w.heap.size + 1), .int .i64 0]) ∧ ∃ R, R.p = w.heap.size + 1 ∧ St w' w.heap.size R (calm [] 0) ∧ R.room = room ∧ R.bulk = 0 ∧ Adds w w' := by
  refine (live_new room hr w).mono ?_
  rintro e w1 ⟨rfl, R, hp, L, hd, _, hroom, hpw, hb, ha⟩
  refine ⟨rfl, R, hp, ⟨?_, hd, hpw⟩, hroom, hb, ha⟩
  exact L

theorem row_mono {w : World} {B B' : Nat} {e : TypeId} {k n : Nat} {v : Value} {xs : List Value} (h : w.ownsRow B e k v n xs) (hB : B' ≤ B) : w.ownsRow B' e k v n xs := by
  refine ⟨h.1, ?_⟩
  rcases h.2 with hn | ⟨g, cap, cur, rfl, hb, hg, rest⟩
  · exact .inl hn
  · exact .inr ⟨g, cap, cur, rfl, Nat.le_trans hB hb, hg, rest⟩

end Go.Proofs.YtelkkpomehgcjaaGreat
