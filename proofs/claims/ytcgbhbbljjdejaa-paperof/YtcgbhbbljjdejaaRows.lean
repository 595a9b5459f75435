/-
  NARROWER THAN 'FOR EVERY INPUT', by the rows' own cells (each row's printed sentence says how): PaperOf: loops.
  DERIVED. THE GIVEN ROWS OF THIS SEAT. 5 by the template 'for every input the law returns true; each argument reads behind the call as it read before'; 0 by the template 'total and deterministic' (their statements: YtcgbhbbljjdejaaTotals.lean).
  GIVEN WITH THE SEED: the statements are not yours to turn. If you find one false, say at which input.
  Laid BY PROGRAM, IN A SANDBOX (cutbox-rows.mjs): the forced cells as the released guide's own fill.sh prints them over the translation fa64c75e21b28f07… (all of the seat's roots in one cut). By AI agents, Wed Nov 11 2026. No macro, syntax, notation, axiom, sorry.
-/
import Derived.Test.YtcgbhbbljjdejaaChecked
import GoSem.Claim
import GoSem.ClaimJoined
import GoSem.ClaimMapViews
import Derived.JoinedTies
import Derived.KernelRfl
namespace Go.Proofs.Ytcgbhbbljjdejaa
/- THE CELL 'sum', in the pinned program and in every row, IS THE sha256 OF THE DUMP (.gsa) THAT YtcgbhbbljjdejaaProg.lean LOADS. Nothing in Lean hashes anything: it is a label: what it is worth is what the hold of that sum in a sandbox is worth. -/
noncomputable def Try.pinned : Pinned := { name := "ytcgbhbbljjdejaa", sum := "fa64c75e21b28f0749f90e077b0ad573618d6d9caea38fd21e00196dcb6bf8f3", checked := Try.checked }
namespace Rows
def none {H : Type} : Left H := { results := [], args := [] }

/-- 'tailracelaw04.PaperPaths': WHATEVER THE INPUT: true; the input reads as it did. -/
def paperPathsSpec : ChangeSpec := { name := "paperPaths", fn := fun _ => fun
  | [d1, d2, d3] => { results := [.lit (.bool true)], args := [d1, d2, d3] }
  | _ => none }
def paperPathsRow : OpenClaim := { program := "ytcgbhbbljjdejaa", sum := "fa64c75e21b28f0749f90e077b0ad573618d6d9caea38fd21e00196dcb6bf8f3", func := "tailrace/tailracelaw04.PaperPaths", spec := "paperPaths", inPlace := ["internal/bytealg.abigen_runtime_cmpstring"], unfollowed := true, recurses := true, plainKeys := false, apart := false }
def PaperPathsSaid : Prop := paperPathsRow.holds Try.pinned (OpenSpec.ofChange paperPathsSpec)

/-- ITS FALSE NEIGHBOUR: 'it returns false'. Refute it at one input. -/
def paperPathsWrong : ChangeSpec := { name := "paperPaths", fn := fun _ => fun
  | [d1, d2, d3] => { results := [.lit (.bool false)], args := [d1, d2, d3] }
  | _ => none }
def PaperPathsWrongFalsely : Prop := paperPathsRow.holds Try.pinned (OpenSpec.ofChange paperPathsWrong)

/-- 'tailracelaw04.PaperSets': WHATEVER THE INPUT: true; the input reads as it did. -/
def paperSetsSpec : ChangeSpec := { name := "paperSets", fn := fun _ => fun
  | [d1, d2, d3] => { results := [.lit (.bool true)], args := [d1, d2, d3] }
  | _ => none }
def paperSetsRow : OpenClaim := { program := "ytcgbhbbljjdejaa", sum := "fa64c75e21b28f0749f90e077b0ad573618d6d9caea38fd21e00196dcb6bf8f3", func := "tailrace/tailracelaw04.PaperSets", spec := "paperSets", inPlace := ["internal/bytealg.abigen_runtime_cmpstring"], unfollowed := true, recurses := true, plainKeys := false, apart := false }
def PaperSetsSaid : Prop := paperSetsRow.holds Try.pinned (OpenSpec.ofChange paperSetsSpec)

/-- ITS FALSE NEIGHBOUR: 'it returns false'. Refute it at one input. -/
def paperSetsWrong : ChangeSpec := { name := "paperSets", fn := fun _ => fun
  | [d1, d2, d3] => { results := [.lit (.bool false)], args := [d1, d2, d3] }
  | _ => none }
def PaperSetsWrongFalsely : Prop := paperSetsRow.holds Try.pinned (OpenSpec.ofChange paperSetsWrong)

/-- 'tailracelaw04.PaperCells': WHATEVER THE INPUT: true; the input reads as it did. -/
def paperCellsSpec : ChangeSpec := { name := "paperCells", fn := fun _ => fun
  | [d] => { results := [.lit (.bool true)], args := [d] }
  | _ => none }
def paperCellsRow : OpenClaim := { program := "ytcgbhbbljjdejaa", sum := "fa64c75e21b28f0749f90e077b0ad573618d6d9caea38fd21e00196dcb6bf8f3", func := "tailrace/tailracelaw04.PaperCells", spec := "paperCells", inPlace := ["internal/bytealg.abigen_runtime_cmpstring"], unfollowed := true, recurses := true, plainKeys := false, apart := false }
def PaperCellsSaid : Prop := paperCellsRow.holds Try.pinned (OpenSpec.ofChange paperCellsSpec)

/-- ITS FALSE NEIGHBOUR: 'it returns false'. Refute it at one input. -/
def paperCellsWrong : ChangeSpec := { name := "paperCells", fn := fun _ => fun
  | [d] => { results := [.lit (.bool false)], args := [d] }
  | _ => none }
def PaperCellsWrongFalsely : Prop := paperCellsRow.holds Try.pinned (OpenSpec.ofChange paperCellsWrong)

/-- 'tailracelaw04.PaperOf': WHATEVER THE INPUT: true; the input reads as it did. -/
def paperOfSpec : ChangeSpec := { name := "paperOf", fn := fun _ => fun
  | [d] => { results := [.lit (.bool true)], args := [d] }
  | _ => none }
def paperOfRow : OpenClaim := { program := "ytcgbhbbljjdejaa", sum := "fa64c75e21b28f0749f90e077b0ad573618d6d9caea38fd21e00196dcb6bf8f3", func := "tailrace/tailracelaw04.PaperOf", spec := "paperOf", inPlace := ["internal/bytealg.abigen_runtime_cmpstring"], unfollowed := true, recurses := true, loops := true, plainKeys := false, apart := false }
def PaperOfSaid : Prop := paperOfRow.holds Try.pinned (OpenSpec.ofChange paperOfSpec)

/-- ITS FALSE NEIGHBOUR: 'it returns false'. Refute it at one input. -/
def paperOfWrong : ChangeSpec := { name := "paperOf", fn := fun _ => fun
  | [d] => { results := [.lit (.bool false)], args := [d] }
  | _ => none }
def PaperOfWrongFalsely : Prop := paperOfRow.holds Try.pinned (OpenSpec.ofChange paperOfWrong)

/-- 'tailracelaw04.PaperOrders': WHATEVER THE INPUT: true; the input reads as it did. -/
def paperOrdersSpec : ChangeSpec := { name := "paperOrders", fn := fun _ => fun
  | [d1, d2] => { results := [.lit (.bool true)], args := [d1, d2] }
  | _ => none }
def paperOrdersRow : OpenClaim := { program := "ytcgbhbbljjdejaa", sum := "fa64c75e21b28f0749f90e077b0ad573618d6d9caea38fd21e00196dcb6bf8f3", func := "tailrace/tailracelaw04.PaperOrders", spec := "paperOrders", inPlace := ["internal/bytealg.abigen_runtime_cmpstring"], unfollowed := true, recurses := true, plainKeys := false, apart := false }
def PaperOrdersSaid : Prop := paperOrdersRow.holds Try.pinned (OpenSpec.ofChange paperOrdersSpec)

/-- ITS FALSE NEIGHBOUR: 'it returns false'. Refute it at one input. -/
def paperOrdersWrong : ChangeSpec := { name := "paperOrders", fn := fun _ => fun
  | [d1, d2] => { results := [.lit (.bool false)], args := [d1, d2] }
  | _ => none }
def PaperOrdersWrongFalsely : Prop := paperOrdersRow.holds Try.pinned (OpenSpec.ofChange paperOrdersWrong)

/- THE SECOND FORM. 'bulk': how many values and letters a reading holds, each counted each time it is reached (what is shared counts as often as it is met; a slice's spare places count too). A statement '..UptoSaid' is the law's where the arguments, and the package variables that the reading takes, are together of bulk at most 1048576: NARROWER than '..Said'. Prove '..Said' where nothing that the law and all that it calls make is longer than what came in: it says more and counts as full. Else prove '..UptoSaid'. A law counts once. -/
mutual
def uptoBulk {H : Type} : DataW H → Nat
  | .lit (.string bytes) => bytes.length + 1
  | .lit _ => 1
  | .nil => 1
  | .ptr d => uptoBulk d + 1
  | .slice elems spare => uptoBulkAll elems + uptoBulkAll spare + 1
  | .agg parts => uptoBulkAll parts + 1
  | .iface _ d => uptoBulk d + 1
  | .map entries => uptoBulkEntries entries + 1
  | .held _ => 1
def uptoBulkAll {H : Type} : List (DataW H) → Nat
  | [] => 0
  | d :: r => uptoBulk d + uptoBulkAll r
def uptoBulkEntries {H : Type} : List (Lit × DataW H) → Nat
  | [] => 0
  | x :: r => uptoBulkEntry x + uptoBulkEntries r
def uptoBulkEntry {H : Type} : Lit × DataW H → Nat
  | (.string bytes, d) => bytes.length + uptoBulk d + 1
  | (_, d) => uptoBulk d + 1
 end
def uptoSmall : (H : Type) → List (DataW H) → Bool := fun _ ds => decide (uptoBulkAll ds ≤ 1048576)
def OpenSpec.upto (s : _root_.Go.ChangeSpec) : _root_.Go.OpenSpec := { _root_.Go.OpenSpec.ofChange s with cond := some uptoSmall }

/-- 'tailracelaw04.PaperPaths', WHERE WHAT IT READS IS OF BULK AT MOST 1048576: true; the input reads as it did. -/
def paperPathsUptoRow : OpenClaim := { program := "ytcgbhbbljjdejaa", sum := "fa64c75e21b28f0749f90e077b0ad573618d6d9caea38fd21e00196dcb6bf8f3", func := "tailrace/tailracelaw04.PaperPaths", spec := "paperPaths", inPlace := ["internal/bytealg.abigen_runtime_cmpstring"], unfollowed := true, recurses := true, plainKeys := false, apart := false, narrowed := true }
def PaperPathsUptoSaid : Prop := paperPathsUptoRow.holds Try.pinned (OpenSpec.upto paperPathsSpec)

/-- 'tailracelaw04.PaperSets', WHERE WHAT IT READS IS OF BULK AT MOST 1048576: true; the input reads as it did. -/
def paperSetsUptoRow : OpenClaim := { program := "ytcgbhbbljjdejaa", sum := "fa64c75e21b28f0749f90e077b0ad573618d6d9caea38fd21e00196dcb6bf8f3", func := "tailrace/tailracelaw04.PaperSets", spec := "paperSets", inPlace := ["internal/bytealg.abigen_runtime_cmpstring"], unfollowed := true, recurses := true, plainKeys := false, apart := false, narrowed := true }
def PaperSetsUptoSaid : Prop := paperSetsUptoRow.holds Try.pinned (OpenSpec.upto paperSetsSpec)

/-- 'tailracelaw04.PaperCells', WHERE WHAT IT READS IS OF BULK AT MOST 1048576: true; the input reads as it did. -/
def paperCellsUptoRow : OpenClaim := { program := "ytcgbhbbljjdejaa", sum := "fa64c75e21b28f0749f90e077b0ad573618d6d9caea38fd21e00196dcb6bf8f3", func := "tailrace/tailracelaw04.PaperCells", spec := "paperCells", inPlace := ["internal/bytealg.abigen_runtime_cmpstring"], unfollowed := true, recurses := true, plainKeys := false, apart := false, narrowed := true }
def PaperCellsUptoSaid : Prop := paperCellsUptoRow.holds Try.pinned (OpenSpec.upto paperCellsSpec)

/-- 'tailracelaw04.PaperOf', WHERE WHAT IT READS IS OF BULK AT MOST 1048576: true; the input reads as it did. -/
def paperOfUptoRow : OpenClaim := { program := "ytcgbhbbljjdejaa", sum := "fa64c75e21b28f0749f90e077b0ad573618d6d9caea38fd21e00196dcb6bf8f3", func := "tailrace/tailracelaw04.PaperOf", spec := "paperOf", inPlace := ["internal/bytealg.abigen_runtime_cmpstring"], unfollowed := true, recurses := true, loops := true, plainKeys := false, apart := false, narrowed := true }
def PaperOfUptoSaid : Prop := paperOfUptoRow.holds Try.pinned (OpenSpec.upto paperOfSpec)

/-- 'tailracelaw04.PaperOrders', WHERE WHAT IT READS IS OF BULK AT MOST 1048576: true; the input reads as it did. -/
def paperOrdersUptoRow : OpenClaim := { program := "ytcgbhbbljjdejaa", sum := "fa64c75e21b28f0749f90e077b0ad573618d6d9caea38fd21e00196dcb6bf8f3", func := "tailrace/tailracelaw04.PaperOrders", spec := "paperOrders", inPlace := ["internal/bytealg.abigen_runtime_cmpstring"], unfollowed := true, recurses := true, plainKeys := false, apart := false, narrowed := true }
def PaperOrdersUptoSaid : Prop := paperOrdersUptoRow.holds Try.pinned (OpenSpec.upto paperOrdersSpec)

end Rows
end Go.Proofs.Ytcgbhbbljjdejaa
