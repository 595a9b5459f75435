/-
  The small functions of package rank by contracts: Num, Text, Point, within; values of package api.
-/
import Derived.Test.YtgnhkpihlghbmaaGrow
namespace Go.Proofs.Ytgnhkpihlghbmaa
open Go.RowKit
attribute [local go_sem] cell?_more frozen?_more setCell_more size_more tape_more drew_more drewN_more more_drew more_drewN more_more one_out plus_out lt_one le_p2 le_p3 le_p4 le_p5 le_p6 le_p7 le_p8 le_p9 le_p10 le_p11 le_p12

/-- A value of package api, as the model holds it. -/
structure V where
  kind : Int
  num : Int
  text : ByteArray
  re : Int
  im : Int

def V.val (v : V) : Value := .agg #[.int .i64 v.kind, .int .i64 v.num, .string v.text, .int .i64 v.re, .int .i64 v.im]

def V.mkNum (n : Int) : V := ⟨1, n, ⟨#[]⟩, 0, 0⟩
def V.mkText (s : ByteArray) : V := ⟨2, 0, s, 0, 0⟩
def V.mkPoint (re im : Int) : V := ⟨3, 0, ⟨#[]⟩, re, im⟩

theorem num_any (n : Int) (w : World) :
    Calls Try.prog 80 #[.int .i64 n] w fun e w' => e = .returned (.agg #[.int .i64 1, .int .i64 n, .string ⟨#[]⟩, .int .i64 0, .int .i64 0]) ∧ Adds w w' := by
  go_enter Try.func80, Try.ntmps80
  go_wp2
  exact bodyPost_ret (v := (V.mkNum n).val) (by simp [results, Try.results80, go_sem, V.val, V.mkNum]) rfl ⟨rfl, (Adds.refl _).alloc _⟩

theorem text_any (s : ByteArray) (w : World) :
    Calls Try.prog 82 #[.string s] w fun e w' => e = .returned (.agg #[.int .i64 2, .int .i64 0, .string s, .int .i64 0, .int .i64 0]) ∧ Adds w w' := by
  go_enter Try.func82, Try.ntmps82
  go_wp2
  exact bodyPost_ret (v := (V.mkText s).val) (by simp [results, Try.results82, go_sem, V.val, V.mkText]) rfl ⟨rfl, (Adds.refl _).alloc _⟩

theorem point_any (x y : Int) (w : World) :
    Calls Try.prog 83 #[.int .i64 x, .int .i64 y] w fun e w' => e = .returned (.agg #[.int .i64 3, .int .i64 0, .string ⟨#[]⟩, .int .i64 x, .int .i64 y]) ∧ Adds w w' := by
  go_enter Try.func83, Try.ntmps83
  go_wp2
  exact bodyPost_ret (v := (V.mkPoint x y).val) (by simp [results, Try.results83, go_sem, V.val, V.mkPoint]) rfl ⟨rfl, (Adds.refl _).alloc _⟩

theorem within_any (n m : Int) (hm : 0 ≤ m) (hm' : m ≤ 9223372036854775807) (w : World) :
    Calls Try.prog 81 #[.int .i64 n, .int .i64 m] w fun e w' => e = .returned (.bool (decide (-m ≤ n ∧ n ≤ m))) ∧ Adds w w' := by
  go_enter Try.func81, Try.ntmps81
  go_wp2
  all_goals (go_ret; refine ⟨?_, Adds.refl _⟩)
  · have h : -m ≤ n := by assumption
    simp [h]
  · have h : n < -m := by assumption
    have h' : ¬ -m ≤ n := by omega
    simp [h']

end Go.Proofs.Ytgnhkpihlghbmaa
