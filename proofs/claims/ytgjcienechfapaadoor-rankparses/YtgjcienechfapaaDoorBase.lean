/-
  The small functions of package rank and of cmp, by contracts: Num, Text, Point, within, cmp.Compare of ints and of strings; and the class of worlds 'later than w' for regions that draw their order.
-/
import Derived.Test.YtgjcienechfapaaDoorRows
import Derived.WalkKit
import Derived.WalkSpells
import Derived.WalkLawsBesides
import Derived.Deep.QuietTactic
import Derived.BigQuiet
import Derived.Deep.RegionWith
namespace Go.Proofs.YtgjcienechfapaaDoor
open Go.RowKit

/-- A world later than w: below w's heap nothing has turned. -/
structure Later (w : World) where
  world : World
  below : Below w.heap.size w world

instance (w : World) : Nonempty (Later w) := ⟨⟨w, Below.refl _ _⟩⟩

theorem wp_region_quiet_later {P : Program} {id : Nat} {Q : Exit → Act → World → Prop} {a : Act} {w : World} {l : List Oper} (hm : P.follows .mixedOrders = true) (hB : Region.lexB .any l.toArray = true)
    (h : wpQuiet P l.toArray (fun w' => ∃ p : Later w, w' = p.world) (fun a' => ∀ w', (∃ p : Later w, w' = p.world) → Q .normal a' w') l a) : (Code.region id l.toArray true).wp P Q a w :=
  wp_region_quiet (C := fun w' => ∃ p : Later w, w' = p.world) hm hB ⟨⟨w.drew, (Below.refl _ _).drew⟩, rfl⟩ (by simpa using h)

theorem Calls.later_of {P : Program} {f : FuncId} {args : Array Value} {w : World} {p : Later w} {v : Value}
    (h : Calls P f args p.world fun e w' => e = .returned v ∧ Below p.world.heap.size p.world w') : Calls P f args p.world fun e w'' => e = .returned v ∧ ∃ p : Later w, w'' = p.world :=
  h.mono fun _ _ ⟨he, hb⟩ => ⟨he, ⟨_, p.below.trans (hb.mono p.below.size)⟩, rfl⟩

/-- A value of package api, as the model holds it. -/
structure V where
  kind : Int
  num : Int
  text : ByteArray
  re : Int
  im : Int

def V.val (v : V) : Value := .agg #[.int .i64 v.kind, .int .i64 v.num, .string v.text, .int .i64 v.re, .int .i64 v.im]

def V.mkNum (n : Int) : V := ⟨1, n, ⟨#[]⟩, 0, 0⟩
def V.mkText (s : ByteArray) : V := ⟨2, 0, s, 0, 0⟩
def V.mkPoint (re im : Int) : V := ⟨3, 0, ⟨#[]⟩, re, im⟩

theorem num_any (n : Int) (w : World) :
    Calls Tryd.prog 15 #[.int .i64 n] w fun e w' => e = .returned (.agg #[.int .i64 1, .int .i64 n, .string ⟨#[]⟩, .int .i64 0, .int .i64 0]) ∧ Below w.heap.size w w' := by
  go_enter Tryd.func15, Tryd.ntmps15
  go_wp2
  exact bodyPost_ret (v := (V.mkNum n).val) (by simp [results, Tryd.results15, go_sem, V.val, V.mkNum]) rfl ⟨rfl, (Below.refl _ _).alloc (Nat.le_refl _) _⟩

theorem text_any (s : ByteArray) (w : World) :
    Calls Tryd.prog 13 #[.string s] w fun e w' => e = .returned (.agg #[.int .i64 2, .int .i64 0, .string s, .int .i64 0, .int .i64 0]) ∧ Below w.heap.size w w' := by
  go_enter Tryd.func13, Tryd.ntmps13
  go_wp2
  exact bodyPost_ret (v := (V.mkText s).val) (by simp [results, Tryd.results13, go_sem, V.val, V.mkText]) rfl ⟨rfl, (Below.refl _ _).alloc (Nat.le_refl _) _⟩

theorem point_any (x y : Int) (w : World) :
    Calls Tryd.prog 28 #[.int .i64 x, .int .i64 y] w fun e w' => e = .returned (.agg #[.int .i64 3, .int .i64 0, .string ⟨#[]⟩, .int .i64 x, .int .i64 y]) ∧ Below w.heap.size w w' := by
  go_enter Tryd.func28, Tryd.ntmps28
  go_wp2
  exact bodyPost_ret (v := (V.mkPoint x y).val) (by simp [results, Tryd.results28, go_sem, V.val, V.mkPoint]) rfl ⟨rfl, (Below.refl _ _).alloc (Nat.le_refl _) _⟩

def cmpInt (x y : Int) : Int := if x < y then -1 else if y < x then 1 else 0

theorem cmpInt_any (x y : Int) (w : World) :
    Calls Tryd.prog 21 #[.int .i64 x, .int .i64 y] w fun e w' => e = .returned (.int .i64 (cmpInt x y)) ∧ w' = w := by
  unfold cmpInt
  go_enter Tryd.func21, Tryd.ntmps21
  go_wp2
  all_goals (go_ret; exact ⟨rfl, rfl⟩)

theorem within_any (n m : Int) (hm : 0 ≤ m) (hm' : m ≤ 9223372036854775807) (w : World) :
    Calls Tryd.prog 27 #[.int .i64 n, .int .i64 m] w fun e w' => e = .returned (.bool (decide (-m ≤ n ∧ n ≤ m))) ∧ w' = w := by
  go_enter Tryd.func27, Tryd.ntmps27
  go_wp2
  all_goals (go_ret; refine ⟨?_, rfl⟩)
  · have h : -m ≤ n := by assumption
    simp [h]
  · have h : n < -m := by assumption
    have h' : ¬ -m ≤ n := by omega
    simp [h']

def cmpStr (x y : ByteArray) : Int := if Op.bytesLess x.toList y.toList then -1 else if x.toList == y.toList then 0 else 1

theorem cmpStr_any (x y : ByteArray) (w : World) :
    Calls Tryd.prog 22 #[.string x, .string y] w fun e w' => e = .returned (.int .i64 (cmpStr x y)) ∧ w' = w := by
  go_enter Tryd.func22, Tryd.ntmps22
  go_wp2
  all_goals (go_ret; refine ⟨?_, rfl⟩)
  · have h : Op.bytesLess x.toList y.toList = true := by assumption
    simp [cmpStr, h]
  · have h : Op.bytesLess x.toList y.toList = false := by assumption
    have h2 : (!x.toList == y.toList) = true := by assumption
    simp only [Bool.not_eq_true'] at h2
    simp [cmpStr, h, h2]
  · have h : Op.bytesLess x.toList y.toList = false := by assumption
    have h2 : (!x.toList == y.toList) = false := by assumption
    simp only [Bool.not_eq_false'] at h2
    simp [cmpStr, h, h2]


end Go.Proofs.YtgjcienechfapaaDoor
