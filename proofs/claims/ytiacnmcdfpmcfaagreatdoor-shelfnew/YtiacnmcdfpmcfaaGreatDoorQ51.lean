/-
  Apply of shelves, by contract: asked for entries, to be ready, or for nothing.
  From a walk to a row: a call that returns true and leaves all old memory alone keeps every argument's reading.
-/
import Derived.Test.YtiacnmcdfpmcfaaGreatDoorQ50
import Derived.Test.YtiacnmcdfpmcfaaGreatDoorRows
import Derived.ProofKit
import Derived.Lib.SmallJoins
namespace Go.Proofs.YtiacnmcdfpmcfaaGreatDoor
open Go.RowKit
attribute [local go_sem] cell?_more frozen?_more setCell_more size_more tape_more drew_more drewN_more more_drew more_drewN one_out plus_out plus_end lt_one le_p2 le_p3 le_p4 le_p5 le_p6 le_p7 le_p8 le_p9 le_p10 le_p11 le_p12 le_p13 le_p14 le_p15 le_p16 le_p17 le_p18 le_p19 le_p20 le_p21 le_p22 le_p23 le_p24 le_q0 le_q1 lt_q1 le_q2 lt_q2 le_q3 lt_q3 le_q4 lt_q4 le_q5 lt_q5 le_q6 lt_q6 le_q7 lt_q7 le_q8 lt_q8 le_q9 lt_q9 le_q10 lt_q10 le_q11 lt_q11 le_q12 lt_q12 le_q13 lt_q13 le_q14 lt_q14 le_q15 lt_q15 le_q16 lt_q16 le_q17 lt_q17 le_q18 lt_q18 le_q19 lt_q19 le_q20 lt_q20 le_q21 lt_q21 le_q22 lt_q22 le_q23 lt_q23 le_q24 lt_q24

theorem stepT_stays (s : Shl) (o : Ov) : Stays (fun s' ans W w' => StepT W s o s' ans w' ∧ ∃ c m ko kn kc, ans = ansV c m (.slice ko kn kc)) where
  adds := by
    rintro s' a W w w' ⟨h, hs⟩ hA
    refine ⟨?_, hs⟩
    rcases h with ⟨h1, h2, h3⟩ | h | h
    · exact .inl ⟨h1, h2, h3.adds hA⟩
    · exact .inr (.inl h)
    · exact .inr (.inr h)
  oth := by
    rintro s' a W w w' k ⟨h, hs⟩ hk ho
    refine ⟨?_, hs⟩
    rcases h with ⟨h1, h2, h3⟩ | h | h
    · exact .inl ⟨h1, h2, h3.oth ho hk (Nat.le_refl _)⟩
    · exact .inr (.inl h)
    · exact .inr (.inr h)

theorem stepT_low {w W : World} {s s' : Shl} {o : Ov} {ans : Value} {w' : World} (h : StepT W s o s' ans w') (hs : w.heap.size ≤ W.heap.size) : StepT w s o s' ans w' := by
  rcases h with ⟨h1, h2, h3 | h3 | ⟨h3, h4, kv, h5, B, W0, hB, ho⟩⟩ | h | h
  · exact .inl ⟨h1, h2, .inl h3⟩
  · exact .inl ⟨h1, h2, .inr (.inl h3)⟩
  · exact .inl ⟨h1, h2, .inr (.inr ⟨h3, h4, kv, h5, B, W0, Nat.le_trans hs hB, ho⟩)⟩
  · exact .inr (.inl h)
  · exact .inr (.inr h)

theorem apply_ok : ApplyOk := by
  intro s v o w h1 h2 hv ho hm k1 k2
  refine (apply_gen s v o w _ (by omega) (by omega) hv ho hm (stepT_stays s o) (fun W g u hA hg hb hu => ?_)).mono ?_
  · refine (ask_small s u g o W hb hu ho (by omega) hm.2.1 k1 k2).mono ?_
    rintro e w' ⟨s', c, m, ko, kn, kc, rfl, hS, hB⟩
    exact ⟨s', c, m, ko, kn, kc, rfl, ⟨hS, c, m, ko, kn, kc, rfl⟩, hB⟩
  · rintro e w' ⟨s', v', ans, W, hA, rfl, hl, ⟨hS, _⟩, hA'⟩
    refine ⟨⟨s', v', ans, rfl, hl, ?_⟩, hA'⟩
    exact stepT_low hS hA.below.size

end Go.Proofs.YtiacnmcdfpmcfaaGreatDoor

namespace Go.Proofs.YtiacnmcdfpmcfaaGreatDoor
open Go.ChangeShapes Go.WideShapes Go.ChangeAt Go.RowKit

theorem Tryz.own : ownKnob Tryz.prog.godebug = none := by kernel_rfl
theorem Tryz.laidOut : laidOutB Tryz.prog = true := by kernel_rfl

theorem trodAll_below {H : Type} {enc : TypeId × Value → H} {P : Program} (hl : laidOutB P = true) {W W' : World} (hb : Below W.heap.size W W') :
    ∀ (ts : List TypeId) (vs : List Value) (ds : List (DataW H)) (ps : List MemPlace), (∀ t ∈ ts, P.readableRec t = true ∧ t < P.types.size) → (∀ x ∈ ps, x.block < W.heap.size) →
      DataW.TrodAll enc P W 0 (fun _ => true) true ts vs ds ps → DataW.TrodAll enc P W' 0 (fun b => decide (b < W.heap.size)) true ts vs ds ps
  | [], [], [], ps, _, _, h => h
  | t :: ts, v :: vs, d :: ds, ps, hr, hlt, h => by
    obtain ⟨p, q, h1, h2, rfl⟩ := h
    have ht := hr t (by simp)
    exact ⟨p, q, Below.trod hl ht.1 ht.2 h1 hb (fun x hx => hlt x (by simp [hx])), trodAll_below hl hb ts vs ds q (fun t ht => hr t (by simp [ht])) (fun x hx => hlt x (by simp [hx])) h2, rfl⟩
  | [], [], _ :: _, _, _, _, h => h.elim
  | [], _ :: _, _, _, _, _, h => h.elim
  | _ :: _, [], _, _, _, _, h => h.elim
  | _ :: _, _ :: _, [], _, _, _, h => h.elim

theorem law_post {H : Type} {enc : TypeId × Value → H} {P : Program} {fn : Func} {s : ChangeSpec} {W W' : World} {args : Array Value} {ds : List (DataW H)} {before : List MemPlace} {tb : TypeId}
    (hl : laidOutB P = true) (hvars : s.vars = []) (hW : DataW.Whole enc P fn.params.toList s.vars false W args.toList ds [] before) (hres : fn.resultTypes = #[tb]) (htb : P.underlying tb = some .bool)
    (hr : ∀ t ∈ fn.params.toList, P.readableRec t = true ∧ t < P.types.size) (hfn : s.fn H (ds ++ []) = { results := [.lit (.bool true)], args := ds }) (hb : Below W.heap.size W W') :
    s.post enc P fn false true false false W args (.bool true) W' := by
  have hW' := hW
  obtain ⟨p, q, hA, hV, rfl, _, _⟩ := hW
  refine ⟨ds, [], _, [], p, [], hW', ?_, ?_, ?_, hb.frame _, fun h => by cases h⟩
  · rw [hfn, hres]
    exact trodAll_mk1 (shut_bool htb true)
  · rw [hfn]
    exact trodAll_below hl hb _ _ _ _ hr (fun x hx => by simpa using hW'.lt x (by simp [hx])) hA
  · rw [hfn, hvars]
    rfl

end Go.Proofs.YtiacnmcdfpmcfaaGreatDoor
