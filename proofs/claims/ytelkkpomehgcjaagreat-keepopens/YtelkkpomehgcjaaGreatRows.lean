/-
  No cell of these rows narrows 'for every input' (looked for: loops, veiled, ifaces, maps, wideKeys, modest, calm, conditions, laid).
  DERIVED. THE GIVEN ROWS OF THIS SEAT. 3 by the template 'for every input the law returns true; each argument reads behind the call as it read before'; 0 by the template 'total and deterministic' (their statements: YtelkkpomehgcjaaGreatTotals.lean).
  GIVEN WITH THE SEED: the statements are not yours to turn. If you find one false, say at which input.
  Laid BY PROGRAM, IN A SANDBOX (cutbox-rows.mjs): the forced cells as the released guide's own fill.sh prints them over the translation 8fa32c2c643e0b15… (all of the seat's roots in one cut). By AI agents, Wed Nov 11 2026. No macro, syntax, notation, axiom, sorry.
-/
import Derived.Test.YtelkkpomehgcjaaGreatChecked
import GoSem.Claim
import GoSem.ClaimJoined
import GoSem.ClaimMapViews
import Derived.JoinedTies
import Derived.KernelRfl
namespace Go.Proofs.YtelkkpomehgcjaaGreat
/- THE CELL 'sum', in the pinned program and in every row, IS THE sha256 OF THE DUMP (.gsa) THAT YtelkkpomehgcjaaGreatProg.lean LOADS. Nothing in Lean hashes anything: it is a label: what it is worth is what the hold of that sum in a sandbox is worth. -/
noncomputable def Tryz.pinned : Pinned := { name := "ytelkkpomehgcjaagreat", sum := "8fa32c2c643e0b1529e1e01862c996fe33941cc828d70a174a648e1e140860c5", checked := Tryz.checked }
namespace Rows
def none {H : Type} : Left H := { results := [], args := [] }

/-- 'tailracelaw09.KeepActs': WHATEVER THE INPUT: true; the input reads as it did. -/
def keepActsSpec : ChangeSpec := { name := "keepActs", fn := fun _ => fun
  | [d1, d2] => { results := [.lit (.bool true)], args := [d1, d2] }
  | _ => none }
def keepActsRow : OpenClaim := { program := "ytelkkpomehgcjaagreat", sum := "8fa32c2c643e0b1529e1e01862c996fe33941cc828d70a174a648e1e140860c5", func := "tailrace/tailracelaw09.KeepActs", spec := "keepActs", recurses := true, apart := false }
def KeepActsSaid : Prop := keepActsRow.holds Tryz.pinned (OpenSpec.ofChange keepActsSpec)

/-- ITS FALSE NEIGHBOUR: 'it returns false'. Refute it at one input. -/
def keepActsWrong : ChangeSpec := { name := "keepActs", fn := fun _ => fun
  | [d1, d2] => { results := [.lit (.bool false)], args := [d1, d2] }
  | _ => none }
def KeepActsWrongFalsely : Prop := keepActsRow.holds Tryz.pinned (OpenSpec.ofChange keepActsWrong)

/-- 'tailracelaw09.KeepWhole': WHATEVER THE INPUT: true; the input reads as it did. -/
def keepWholeSpec : ChangeSpec := { name := "keepWhole", fn := fun _ => fun
  | [d1, d2, d3] => { results := [.lit (.bool true)], args := [d1, d2, d3] }
  | _ => none }
def keepWholeRow : OpenClaim := { program := "ytelkkpomehgcjaagreat", sum := "8fa32c2c643e0b1529e1e01862c996fe33941cc828d70a174a648e1e140860c5", func := "tailrace/tailracelaw09.KeepWhole", spec := "keepWhole", recurses := true, apart := false }
def KeepWholeSaid : Prop := keepWholeRow.holds Tryz.pinned (OpenSpec.ofChange keepWholeSpec)

/-- ITS FALSE NEIGHBOUR: 'it returns false'. Refute it at one input. -/
def keepWholeWrong : ChangeSpec := { name := "keepWhole", fn := fun _ => fun
  | [d1, d2, d3] => { results := [.lit (.bool false)], args := [d1, d2, d3] }
  | _ => none }
def KeepWholeWrongFalsely : Prop := keepWholeRow.holds Tryz.pinned (OpenSpec.ofChange keepWholeWrong)

/-- 'tailracelaw09.KeepOpens': WHATEVER THE INPUT: true; the input reads as it did. -/
def keepOpensSpec : ChangeSpec := { name := "keepOpens", fn := fun _ => fun
  | [d] => { results := [.lit (.bool true)], args := [d] }
  | _ => none }
def keepOpensRow : OpenClaim := { program := "ytelkkpomehgcjaagreat", sum := "8fa32c2c643e0b1529e1e01862c996fe33941cc828d70a174a648e1e140860c5", func := "tailrace/tailracelaw09.KeepOpens", spec := "keepOpens", recurses := true, apart := false }
def KeepOpensSaid : Prop := keepOpensRow.holds Tryz.pinned (OpenSpec.ofChange keepOpensSpec)

/-- ITS FALSE NEIGHBOUR: 'it returns false'. Refute it at one input. -/
def keepOpensWrong : ChangeSpec := { name := "keepOpens", fn := fun _ => fun
  | [d] => { results := [.lit (.bool false)], args := [d] }
  | _ => none }
def KeepOpensWrongFalsely : Prop := keepOpensRow.holds Tryz.pinned (OpenSpec.ofChange keepOpensWrong)

/- THE SECOND FORM. 'bulk': how many values and letters a reading holds, each counted each time it is reached (what is shared counts as often as it is met; a slice's spare places count too). A statement '..UptoSaid' is the law's where the arguments, and the package variables that the reading takes, are together of bulk at most 1048576: NARROWER than '..Said'. Prove '..Said' where nothing that the law and all that it calls make is longer than what came in: it says more and counts as full. Else prove '..UptoSaid'. A law counts once. -/
mutual
def uptoBulk {H : Type} : DataW H → Nat
  | .lit (.string bytes) => bytes.length + 1
  | .lit _ => 1
  | .nil => 1
  | .ptr d => uptoBulk d + 1
  | .slice elems spare => uptoBulkAll elems + uptoBulkAll spare + 1
  | .agg parts => uptoBulkAll parts + 1
  | .iface _ d => uptoBulk d + 1
  | .map entries => uptoBulkEntries entries + 1
  | .held _ => 1
def uptoBulkAll {H : Type} : List (DataW H) → Nat
  | [] => 0
  | d :: r => uptoBulk d + uptoBulkAll r
def uptoBulkEntries {H : Type} : List (Lit × DataW H) → Nat
  | [] => 0
  | x :: r => uptoBulkEntry x + uptoBulkEntries r
def uptoBulkEntry {H : Type} : Lit × DataW H → Nat
  | (.string bytes, d) => bytes.length + uptoBulk d + 1
  | (_, d) => uptoBulk d + 1
 end
def uptoSmall : (H : Type) → List (DataW H) → Bool := fun _ ds => decide (uptoBulkAll ds ≤ 1048576)
def OpenSpec.upto (s : _root_.Go.ChangeSpec) : _root_.Go.OpenSpec := { _root_.Go.OpenSpec.ofChange s with cond := some uptoSmall }

/-- 'tailracelaw09.KeepActs', WHERE WHAT IT READS IS OF BULK AT MOST 1048576: true; the input reads as it did. -/
def keepActsUptoRow : OpenClaim := { program := "ytelkkpomehgcjaagreat", sum := "8fa32c2c643e0b1529e1e01862c996fe33941cc828d70a174a648e1e140860c5", func := "tailrace/tailracelaw09.KeepActs", spec := "keepActs", recurses := true, apart := false, narrowed := true }
def KeepActsUptoSaid : Prop := keepActsUptoRow.holds Tryz.pinned (OpenSpec.upto keepActsSpec)

/-- 'tailracelaw09.KeepWhole', WHERE WHAT IT READS IS OF BULK AT MOST 1048576: true; the input reads as it did. -/
def keepWholeUptoRow : OpenClaim := { program := "ytelkkpomehgcjaagreat", sum := "8fa32c2c643e0b1529e1e01862c996fe33941cc828d70a174a648e1e140860c5", func := "tailrace/tailracelaw09.KeepWhole", spec := "keepWhole", recurses := true, apart := false, narrowed := true }
def KeepWholeUptoSaid : Prop := keepWholeUptoRow.holds Tryz.pinned (OpenSpec.upto keepWholeSpec)

/-- 'tailracelaw09.KeepOpens', WHERE WHAT IT READS IS OF BULK AT MOST 1048576: true; the input reads as it did. -/
def keepOpensUptoRow : OpenClaim := { program := "ytelkkpomehgcjaagreat", sum := "8fa32c2c643e0b1529e1e01862c996fe33941cc828d70a174a648e1e140860c5", func := "tailrace/tailracelaw09.KeepOpens", spec := "keepOpens", recurses := true, apart := false, narrowed := true }
def KeepOpensUptoSaid : Prop := keepOpensUptoRow.holds Tryz.pinned (OpenSpec.upto keepOpensSpec)

end Rows
end Go.Proofs.YtelkkpomehgcjaaGreat
