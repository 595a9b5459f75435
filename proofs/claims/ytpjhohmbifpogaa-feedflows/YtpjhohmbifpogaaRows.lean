/-
  No cell of these rows narrows 'for every input' (looked for: loops, veiled, ifaces, maps, wideKeys, modest, calm, conditions, laid).
  DERIVED. THE GIVEN ROWS OF THIS SEAT. 5 by the template 'for every input the law returns true; each argument reads behind the call as it read before'; 0 by the template 'total and deterministic' (their statements: YtpjhohmbifpogaaTotals.lean).
  GIVEN WITH THE SEED: the statements are not yours to turn. If you find one false, say at which input.
  Laid BY PROGRAM, IN A SANDBOX (cutbox-rows.mjs): the forced cells as the released guide's own fill.sh prints them over the translation ca328e93d8f2eb0c… (all of the seat's roots in one cut). By AI agents, Wed Nov 11 2026. No macro, syntax, notation, axiom, sorry.
-/
import Derived.Test.YtpjhohmbifpogaaChecked
import GoSem.Claim
import GoSem.ClaimJoined
import GoSem.ClaimMapViews
import Derived.JoinedTies
import Derived.KernelRfl
namespace Go.Proofs.Ytpjhohmbifpogaa
/- THE CELL 'sum', in the pinned program and in every row, IS THE sha256 OF THE DUMP (.gsa) THAT YtpjhohmbifpogaaProg.lean LOADS. Nothing in Lean hashes anything: it is a label: what it is worth is what the hold of that sum in a sandbox is worth. -/
noncomputable def Try.pinned : Pinned := { name := "ytpjhohmbifpogaa", sum := "ca328e93d8f2eb0ca495db2a17f90450ffb88ac5d22065c0f2b3399ca36519de", checked := Try.checked }
namespace Rows
def none {H : Type} : Left H := { results := [], args := [] }

/-- 'tailracelaw13.FeedAdds': WHATEVER THE INPUT: true; the input reads as it did. -/
def feedAddsSpec : ChangeSpec := { name := "feedAdds", fn := fun _ => fun
  | [d1, d2] => { results := [.lit (.bool true)], args := [d1, d2] }
  | _ => none }
def feedAddsRow : OpenClaim := { program := "ytpjhohmbifpogaa", sum := "ca328e93d8f2eb0ca495db2a17f90450ffb88ac5d22065c0f2b3399ca36519de", func := "tailrace/tailracelaw13.FeedAdds", spec := "feedAdds", inPlace := ["internal/bytealg.abigen_runtime_cmpstring", "slices.overlaps[tailrace/api.Sub]"], unfollowed := true, recurses := true, apart := false }
def FeedAddsSaid : Prop := feedAddsRow.holds Try.pinned (OpenSpec.ofChange feedAddsSpec)

/-- ITS FALSE NEIGHBOUR: 'it returns false'. Refute it at one input. -/
def feedAddsWrong : ChangeSpec := { name := "feedAdds", fn := fun _ => fun
  | [d1, d2] => { results := [.lit (.bool false)], args := [d1, d2] }
  | _ => none }
def FeedAddsWrongFalsely : Prop := feedAddsRow.holds Try.pinned (OpenSpec.ofChange feedAddsWrong)

/-- 'tailracelaw13.FeedSubs': WHATEVER THE INPUT: true; the input reads as it did. -/
def feedSubsSpec : ChangeSpec := { name := "feedSubs", fn := fun _ => fun
  | [d1, d2, d3] => { results := [.lit (.bool true)], args := [d1, d2, d3] }
  | _ => none }
def feedSubsRow : OpenClaim := { program := "ytpjhohmbifpogaa", sum := "ca328e93d8f2eb0ca495db2a17f90450ffb88ac5d22065c0f2b3399ca36519de", func := "tailrace/tailracelaw13.FeedSubs", spec := "feedSubs", inPlace := ["internal/bytealg.abigen_runtime_cmpstring", "slices.overlaps[tailrace/api.Sub]"], unfollowed := true, recurses := true, apart := false }
def FeedSubsSaid : Prop := feedSubsRow.holds Try.pinned (OpenSpec.ofChange feedSubsSpec)

/-- ITS FALSE NEIGHBOUR: 'it returns false'. Refute it at one input. -/
def feedSubsWrong : ChangeSpec := { name := "feedSubs", fn := fun _ => fun
  | [d1, d2, d3] => { results := [.lit (.bool false)], args := [d1, d2, d3] }
  | _ => none }
def FeedSubsWrongFalsely : Prop := feedSubsRow.holds Try.pinned (OpenSpec.ofChange feedSubsWrong)

/-- 'tailracelaw13.FeedReads': WHATEVER THE INPUT: true; the input reads as it did. -/
def feedReadsSpec : ChangeSpec := { name := "feedReads", fn := fun _ => fun
  | [d1, d2, d3] => { results := [.lit (.bool true)], args := [d1, d2, d3] }
  | _ => none }
def feedReadsRow : OpenClaim := { program := "ytpjhohmbifpogaa", sum := "ca328e93d8f2eb0ca495db2a17f90450ffb88ac5d22065c0f2b3399ca36519de", func := "tailrace/tailracelaw13.FeedReads", spec := "feedReads", inPlace := ["internal/bytealg.abigen_runtime_cmpstring", "slices.overlaps[tailrace/api.Sub]"], unfollowed := true, recurses := true, apart := false }
def FeedReadsSaid : Prop := feedReadsRow.holds Try.pinned (OpenSpec.ofChange feedReadsSpec)

/-- ITS FALSE NEIGHBOUR: 'it returns false'. Refute it at one input. -/
def feedReadsWrong : ChangeSpec := { name := "feedReads", fn := fun _ => fun
  | [d1, d2, d3] => { results := [.lit (.bool false)], args := [d1, d2, d3] }
  | _ => none }
def FeedReadsWrongFalsely : Prop := feedReadsRow.holds Try.pinned (OpenSpec.ofChange feedReadsWrong)

/-- 'tailracelaw13.FeedFlows': WHATEVER THE INPUT: true; the input reads as it did. -/
def feedFlowsSpec : ChangeSpec := { name := "feedFlows", fn := fun _ => fun
  | [d1, d2, d3] => { results := [.lit (.bool true)], args := [d1, d2, d3] }
  | _ => none }
def feedFlowsRow : OpenClaim := { program := "ytpjhohmbifpogaa", sum := "ca328e93d8f2eb0ca495db2a17f90450ffb88ac5d22065c0f2b3399ca36519de", func := "tailrace/tailracelaw13.FeedFlows", spec := "feedFlows", inPlace := ["internal/bytealg.abigen_runtime_cmpstring", "slices.overlaps[tailrace/api.Sub]"], unfollowed := true, recurses := true, apart := false }
def FeedFlowsSaid : Prop := feedFlowsRow.holds Try.pinned (OpenSpec.ofChange feedFlowsSpec)

/-- ITS FALSE NEIGHBOUR: 'it returns false'. Refute it at one input. -/
def feedFlowsWrong : ChangeSpec := { name := "feedFlows", fn := fun _ => fun
  | [d1, d2, d3] => { results := [.lit (.bool false)], args := [d1, d2, d3] }
  | _ => none }
def FeedFlowsWrongFalsely : Prop := feedFlowsRow.holds Try.pinned (OpenSpec.ofChange feedFlowsWrong)

/-- 'tailracelaw13.FeedOpens': WHATEVER THE INPUT: true; the input reads as it did. -/
def feedOpensSpec : ChangeSpec := { name := "feedOpens", fn := fun _ => fun
  | [d1, d2, d3] => { results := [.lit (.bool true)], args := [d1, d2, d3] }
  | _ => none }
def feedOpensRow : OpenClaim := { program := "ytpjhohmbifpogaa", sum := "ca328e93d8f2eb0ca495db2a17f90450ffb88ac5d22065c0f2b3399ca36519de", func := "tailrace/tailracelaw13.FeedOpens", spec := "feedOpens", inPlace := ["internal/bytealg.abigen_runtime_cmpstring", "slices.overlaps[tailrace/api.Sub]"], unfollowed := true, recurses := true, apart := false }
def FeedOpensSaid : Prop := feedOpensRow.holds Try.pinned (OpenSpec.ofChange feedOpensSpec)

/-- ITS FALSE NEIGHBOUR: 'it returns false'. Refute it at one input. -/
def feedOpensWrong : ChangeSpec := { name := "feedOpens", fn := fun _ => fun
  | [d1, d2, d3] => { results := [.lit (.bool false)], args := [d1, d2, d3] }
  | _ => none }
def FeedOpensWrongFalsely : Prop := feedOpensRow.holds Try.pinned (OpenSpec.ofChange feedOpensWrong)

/- THE SECOND FORM. 'bulk': how many values and letters a reading holds, each counted each time it is reached (what is shared counts as often as it is met; a slice's spare places count too). A statement '..UptoSaid' is the law's where the arguments, and the package variables that the reading takes, are together of bulk at most 1048576: NARROWER than '..Said'. Prove '..Said' where nothing that the law and all that it calls make is longer than what came in: it says more and counts as full. Else prove '..UptoSaid'. A law counts once. -/
mutual
def uptoBulk {H : Type} : DataW H → Nat
  | .lit (.string bytes) => bytes.length + 1
  | .lit _ => 1
  | .nil => 1
  | .ptr d => uptoBulk d + 1
  | .slice elems spare => uptoBulkAll elems + uptoBulkAll spare + 1
  | .agg parts => uptoBulkAll parts + 1
  | .iface _ d => uptoBulk d + 1
  | .map entries => uptoBulkEntries entries + 1
  | .held _ => 1
def uptoBulkAll {H : Type} : List (DataW H) → Nat
  | [] => 0
  | d :: r => uptoBulk d + uptoBulkAll r
def uptoBulkEntries {H : Type} : List (Lit × DataW H) → Nat
  | [] => 0
  | x :: r => uptoBulkEntry x + uptoBulkEntries r
def uptoBulkEntry {H : Type} : Lit × DataW H → Nat
  | (.string bytes, d) => bytes.length + uptoBulk d + 1
  | (_, d) => uptoBulk d + 1
 end
def uptoSmall : (H : Type) → List (DataW H) → Bool := fun _ ds => decide (uptoBulkAll ds ≤ 1048576)
def OpenSpec.upto (s : _root_.Go.ChangeSpec) : _root_.Go.OpenSpec := { _root_.Go.OpenSpec.ofChange s with cond := some uptoSmall }

/-- 'tailracelaw13.FeedAdds', WHERE WHAT IT READS IS OF BULK AT MOST 1048576: true; the input reads as it did. -/
def feedAddsUptoRow : OpenClaim := { program := "ytpjhohmbifpogaa", sum := "ca328e93d8f2eb0ca495db2a17f90450ffb88ac5d22065c0f2b3399ca36519de", func := "tailrace/tailracelaw13.FeedAdds", spec := "feedAdds", inPlace := ["internal/bytealg.abigen_runtime_cmpstring", "slices.overlaps[tailrace/api.Sub]"], unfollowed := true, recurses := true, apart := false, narrowed := true }
def FeedAddsUptoSaid : Prop := feedAddsUptoRow.holds Try.pinned (OpenSpec.upto feedAddsSpec)

/-- 'tailracelaw13.FeedSubs', WHERE WHAT IT READS IS OF BULK AT MOST 1048576: true; the input reads as it did. -/
def feedSubsUptoRow : OpenClaim := { program := "ytpjhohmbifpogaa", sum := "ca328e93d8f2eb0ca495db2a17f90450ffb88ac5d22065c0f2b3399ca36519de", func := "tailrace/tailracelaw13.FeedSubs", spec := "feedSubs", inPlace := ["internal/bytealg.abigen_runtime_cmpstring", "slices.overlaps[tailrace/api.Sub]"], unfollowed := true, recurses := true, apart := false, narrowed := true }
def FeedSubsUptoSaid : Prop := feedSubsUptoRow.holds Try.pinned (OpenSpec.upto feedSubsSpec)

/-- 'tailracelaw13.FeedReads', WHERE WHAT IT READS IS OF BULK AT MOST 1048576: true; the input reads as it did. -/
def feedReadsUptoRow : OpenClaim := { program := "ytpjhohmbifpogaa", sum := "ca328e93d8f2eb0ca495db2a17f90450ffb88ac5d22065c0f2b3399ca36519de", func := "tailrace/tailracelaw13.FeedReads", spec := "feedReads", inPlace := ["internal/bytealg.abigen_runtime_cmpstring", "slices.overlaps[tailrace/api.Sub]"], unfollowed := true, recurses := true, apart := false, narrowed := true }
def FeedReadsUptoSaid : Prop := feedReadsUptoRow.holds Try.pinned (OpenSpec.upto feedReadsSpec)

/-- 'tailracelaw13.FeedFlows', WHERE WHAT IT READS IS OF BULK AT MOST 1048576: true; the input reads as it did. -/
def feedFlowsUptoRow : OpenClaim := { program := "ytpjhohmbifpogaa", sum := "ca328e93d8f2eb0ca495db2a17f90450ffb88ac5d22065c0f2b3399ca36519de", func := "tailrace/tailracelaw13.FeedFlows", spec := "feedFlows", inPlace := ["internal/bytealg.abigen_runtime_cmpstring", "slices.overlaps[tailrace/api.Sub]"], unfollowed := true, recurses := true, apart := false, narrowed := true }
def FeedFlowsUptoSaid : Prop := feedFlowsUptoRow.holds Try.pinned (OpenSpec.upto feedFlowsSpec)

/-- 'tailracelaw13.FeedOpens', WHERE WHAT IT READS IS OF BULK AT MOST 1048576: true; the input reads as it did. -/
def feedOpensUptoRow : OpenClaim := { program := "ytpjhohmbifpogaa", sum := "ca328e93d8f2eb0ca495db2a17f90450ffb88ac5d22065c0f2b3399ca36519de", func := "tailrace/tailracelaw13.FeedOpens", spec := "feedOpens", inPlace := ["internal/bytealg.abigen_runtime_cmpstring", "slices.overlaps[tailrace/api.Sub]"], unfollowed := true, recurses := true, apart := false, narrowed := true }
def FeedOpensUptoSaid : Prop := feedOpensUptoRow.holds Try.pinned (OpenSpec.upto feedOpensSpec)

end Rows
end Go.Proofs.Ytpjhohmbifpogaa
