/-
  No cell of these rows narrows 'for every input' (looked for: loops, veiled, ifaces, maps, wideKeys, modest, calm, conditions, laid).
  DERIVED. THE GIVEN ROWS OF THIS SEAT. 3 by the template 'for every input the law returns true; each argument reads behind the call as it read before'; 0 by the template 'total and deterministic' (their statements: YtinfoblgojnjfaaTotals.lean).
  GIVEN WITH THE SEED: the statements are not yours to turn. If you find one false, say at which input.
  Laid BY PROGRAM, IN A SANDBOX (cutbox-rows.mjs): the forced cells as the released guide's own fill.sh prints them over the translation 11652cd9e7b96af3… (all of the seat's roots in one cut). By AI agents, Wed Nov 11 2026. No macro, syntax, notation, axiom, sorry.
-/
import Derived.Test.YtinfoblgojnjfaaChecked
import GoSem.Claim
import GoSem.ClaimJoined
import GoSem.ClaimMapViews
import Derived.JoinedTies
import Derived.KernelRfl
namespace Go.Proofs.Ytinfoblgojnjfaa
/- THE CELL 'sum', in the pinned program and in every row, IS THE sha256 OF THE DUMP (.gsa) THAT YtinfoblgojnjfaaProg.lean LOADS. Nothing in Lean hashes anything: it is a label: what it is worth is what the hold of that sum in a sandbox is worth. -/
noncomputable def Try.pinned : Pinned := { name := "ytinfoblgojnjfaa", sum := "11652cd9e7b96af39013a83f2bff3cc240ec812a83f8efaa121bbece4c23580d", checked := Try.checked }
namespace Rows
def none {H : Type} : Left H := { results := [], args := [] }

/-- 'tailracelaw06.ReelActs': WHATEVER THE INPUT: true; the input reads as it did. -/
def reelActsSpec : ChangeSpec := { name := "reelActs", fn := fun _ => fun
  | [d1, d2] => { results := [.lit (.bool true)], args := [d1, d2] }
  | _ => none }
def reelActsRow : OpenClaim := { program := "ytinfoblgojnjfaa", sum := "11652cd9e7b96af39013a83f2bff3cc240ec812a83f8efaa121bbece4c23580d", func := "tailrace/tailracelaw06.ReelActs", spec := "reelActs", recurses := true, apart := false }
def ReelActsSaid : Prop := reelActsRow.holds Try.pinned (OpenSpec.ofChange reelActsSpec)

/-- ITS FALSE NEIGHBOUR: 'it returns false'. Refute it at one input. -/
def reelActsWrong : ChangeSpec := { name := "reelActs", fn := fun _ => fun
  | [d1, d2] => { results := [.lit (.bool false)], args := [d1, d2] }
  | _ => none }
def ReelActsWrongFalsely : Prop := reelActsRow.holds Try.pinned (OpenSpec.ofChange reelActsWrong)

/-- 'tailracelaw06.ReelKeeps': WHATEVER THE INPUT: true; the input reads as it did. -/
def reelKeepsSpec : ChangeSpec := { name := "reelKeeps", fn := fun _ => fun
  | [d1, d2, d3] => { results := [.lit (.bool true)], args := [d1, d2, d3] }
  | _ => none }
def reelKeepsRow : OpenClaim := { program := "ytinfoblgojnjfaa", sum := "11652cd9e7b96af39013a83f2bff3cc240ec812a83f8efaa121bbece4c23580d", func := "tailrace/tailracelaw06.ReelKeeps", spec := "reelKeeps", recurses := true, apart := false }
def ReelKeepsSaid : Prop := reelKeepsRow.holds Try.pinned (OpenSpec.ofChange reelKeepsSpec)

/-- ITS FALSE NEIGHBOUR: 'it returns false'. Refute it at one input. -/
def reelKeepsWrong : ChangeSpec := { name := "reelKeeps", fn := fun _ => fun
  | [d1, d2, d3] => { results := [.lit (.bool false)], args := [d1, d2, d3] }
  | _ => none }
def ReelKeepsWrongFalsely : Prop := reelKeepsRow.holds Try.pinned (OpenSpec.ofChange reelKeepsWrong)

/-- 'tailracelaw06.ReelNobody': WHATEVER THE INPUT: true; the input reads as it did. -/
def reelNobodySpec : ChangeSpec := { name := "reelNobody", fn := fun _ => fun
  | [d] => { results := [.lit (.bool true)], args := [d] }
  | _ => none }
def reelNobodyRow : OpenClaim := { program := "ytinfoblgojnjfaa", sum := "11652cd9e7b96af39013a83f2bff3cc240ec812a83f8efaa121bbece4c23580d", func := "tailrace/tailracelaw06.ReelNobody", spec := "reelNobody", recurses := true, apart := false }
def ReelNobodySaid : Prop := reelNobodyRow.holds Try.pinned (OpenSpec.ofChange reelNobodySpec)

/-- ITS FALSE NEIGHBOUR: 'it returns false'. Refute it at one input. -/
def reelNobodyWrong : ChangeSpec := { name := "reelNobody", fn := fun _ => fun
  | [d] => { results := [.lit (.bool false)], args := [d] }
  | _ => none }
def ReelNobodyWrongFalsely : Prop := reelNobodyRow.holds Try.pinned (OpenSpec.ofChange reelNobodyWrong)

/- THE SECOND FORM. 'bulk': how many values and letters a reading holds, each counted each time it is reached (what is shared counts as often as it is met; a slice's spare places count too). A statement '..UptoSaid' is the law's where the arguments, and the package variables that the reading takes, are together of bulk at most 1048576: NARROWER than '..Said'. Prove '..Said' where nothing that the law and all that it calls make is longer than what came in: it says more and counts as full. Else prove '..UptoSaid'. A law counts once. -/
mutual
def uptoBulk {H : Type} : DataW H → Nat
  | .lit (.string bytes) => bytes.length + 1
  | .lit _ => 1
  | .nil => 1
  | .ptr d => uptoBulk d + 1
  | .slice elems spare => uptoBulkAll elems + uptoBulkAll spare + 1
  | .agg parts => uptoBulkAll parts + 1
  | .iface _ d => uptoBulk d + 1
  | .map entries => uptoBulkEntries entries + 1
  | .held _ => 1
def uptoBulkAll {H : Type} : List (DataW H) → Nat
  | [] => 0
  | d :: r => uptoBulk d + uptoBulkAll r
def uptoBulkEntries {H : Type} : List (Lit × DataW H) → Nat
  | [] => 0
  | x :: r => uptoBulkEntry x + uptoBulkEntries r
def uptoBulkEntry {H : Type} : Lit × DataW H → Nat
  | (.string bytes, d) => bytes.length + uptoBulk d + 1
  | (_, d) => uptoBulk d + 1
 end
def uptoSmall : (H : Type) → List (DataW H) → Bool := fun _ ds => decide (uptoBulkAll ds ≤ 1048576)
def OpenSpec.upto (s : _root_.Go.ChangeSpec) : _root_.Go.OpenSpec := { _root_.Go.OpenSpec.ofChange s with cond := some uptoSmall }

/-- 'tailracelaw06.ReelActs', WHERE WHAT IT READS IS OF BULK AT MOST 1048576: true; the input reads as it did. -/
def reelActsUptoRow : OpenClaim := { program := "ytinfoblgojnjfaa", sum := "11652cd9e7b96af39013a83f2bff3cc240ec812a83f8efaa121bbece4c23580d", func := "tailrace/tailracelaw06.ReelActs", spec := "reelActs", recurses := true, apart := false, narrowed := true }
def ReelActsUptoSaid : Prop := reelActsUptoRow.holds Try.pinned (OpenSpec.upto reelActsSpec)

/-- 'tailracelaw06.ReelKeeps', WHERE WHAT IT READS IS OF BULK AT MOST 1048576: true; the input reads as it did. -/
def reelKeepsUptoRow : OpenClaim := { program := "ytinfoblgojnjfaa", sum := "11652cd9e7b96af39013a83f2bff3cc240ec812a83f8efaa121bbece4c23580d", func := "tailrace/tailracelaw06.ReelKeeps", spec := "reelKeeps", recurses := true, apart := false, narrowed := true }
def ReelKeepsUptoSaid : Prop := reelKeepsUptoRow.holds Try.pinned (OpenSpec.upto reelKeepsSpec)

/-- 'tailracelaw06.ReelNobody', WHERE WHAT IT READS IS OF BULK AT MOST 1048576: true; the input reads as it did. -/
def reelNobodyUptoRow : OpenClaim := { program := "ytinfoblgojnjfaa", sum := "11652cd9e7b96af39013a83f2bff3cc240ec812a83f8efaa121bbece4c23580d", func := "tailrace/tailracelaw06.ReelNobody", spec := "reelNobody", recurses := true, apart := false, narrowed := true }
def ReelNobodyUptoSaid : Prop := reelNobodyUptoRow.holds Try.pinned (OpenSpec.upto reelNobodySpec)

end Rows
end Go.Proofs.Ytinfoblgojnjfaa
