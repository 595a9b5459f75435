/-
  NARROWER THAN 'FOR EVERY INPUT', by the rows' own cells (each row's printed sentence says how): ShelfApplies: loops, laid · ShelfNew: laid · ShelfTrue: loops, laid · ShelfWaits: loops, laid.
  DERIVED. THE GIVEN ROWS OF THIS SEAT. 4 by the template 'for every input the law returns true; each argument reads behind the call as it read before'; 0 by the template 'total and deterministic' (their statements: YtiacnmcdfpmcfaaGreatDoorTotals.lean).
  GIVEN WITH THE SEED: the statements are not yours to turn. If you find one false, say at which input.
  Laid BY PROGRAM, IN A SANDBOX (cutbox-rows.mjs): the forced cells as the released guide's own fill.sh prints them over the translation fa9fddd013596764… (all of the seat's roots in one cut). By AI agents, Wed Nov 11 2026. No macro, syntax, notation, axiom, sorry.
-/
import Derived.Test.YtiacnmcdfpmcfaaGreatDoorChecked
import GoSem.PinnedTables
import GoSem.Claim
import GoSem.ClaimJoined
import GoSem.ClaimMapViews
import Derived.JoinedTies
import Derived.KernelRfl
namespace Go.Proofs.YtiacnmcdfpmcfaaGreatDoor
/- THE CELL 'sum', in the pinned program and in every row, IS THE sha256 OF THE DUMP (.gsa) THAT YtiacnmcdfpmcfaaGreatDoorProg.lean LOADS. Nothing in Lean hashes anything: it is a label: what it is worth is what the hold of that sum in a sandbox is worth. -/
noncomputable def Tryz.pinned : Pinned := { name := "ytiacnmcdfpmcfaagreatdoor", sum := "fa9fddd0135967649e80706bc4908f5cd049b20e551938e520fd68f5a7ad2fb3", checked := Tryz.checked }
namespace Rows
def none {H : Type} : Left H := { results := [], args := [] }

/- WHAT THE LISTED PACKAGE-LEVEL VARIABLES READ AS WHEN THE CALL BEGINS. Each datum BY PROGRAM (the guide's laid-datum.mjs) off the statement by which the dump's own 'gosem.cut.vars' lays the variable. In a bare row this is a premise. The card (YtiacnmcdfpmcfaaGreatDoorCards.lean) ties it to the program's text. -/
def laid_unicode_utf8_acceptRanges {H : Type} : DataW H := .agg [.agg [.lit (.int .u8 128), .lit (.int .u8 191)], .agg [.lit (.int .u8 160), .lit (.int .u8 191)], .agg [.lit (.int .u8 128), .lit (.int .u8 159)], .agg [.lit (.int .u8 144), .lit (.int .u8 191)], .agg [.lit (.int .u8 128), .lit (.int .u8 143)], .agg [.lit (.int .u8 0), .lit (.int .u8 0)], .agg [.lit (.int .u8 0), .lit (.int .u8 0)], .agg [.lit (.int .u8 0), .lit (.int .u8 0)], .agg [.lit (.int .u8 0), .lit (.int .u8 0)], .agg [.lit (.int .u8 0), .lit (.int .u8 0)], .agg [.lit (.int .u8 0), .lit (.int .u8 0)], .agg [.lit (.int .u8 0), .lit (.int .u8 0)], .agg [.lit (.int .u8 0), .lit (.int .u8 0)], .agg [.lit (.int .u8 0), .lit (.int .u8 0)], .agg [.lit (.int .u8 0), .lit (.int .u8 0)], .agg [.lit (.int .u8 0), .lit (.int .u8 0)]]
/-- One of Go's own tables, pinned by name: the form's constant. -/
def laid_unicode_utf8_first : DataW Unit := Go.Pinned.utf8First

/-- 'tailracelaw15.ShelfApplies': WHATEVER THE INPUT: true; the input reads as it did. -/
def shelfAppliesSpec : ChangeSpec := { name := "shelfApplies", fn := fun _ => fun
  | [d1, d2] => { results := [.lit (.bool true)], args := [d1, d2] }
  | _ => none }
def shelfAppliesRow : OpenClaim := { program := "ytiacnmcdfpmcfaagreatdoor", sum := "fa9fddd0135967649e80706bc4908f5cd049b20e551938e520fd68f5a7ad2fb3", func := "tailrace/tailracelaw15.ShelfApplies", spec := "shelfApplies", inPlace := ["internal/bytealg.CountString", "internal/bytealg.IndexByteString", "internal/bytealg.IndexString", "internal/bytealg.abigen_runtime_cmpstring", "slices.overlaps[tailrace/api.Pair]"], unfollowed := true, recurses := true, named := ["internal/bytealg.MaxLen", "unicode/utf8.first", "unicode/utf8.acceptRanges"], loops := true, plainKeys := false, apart := false, laid := [("unicode/utf8.acceptRanges", laid_unicode_utf8_acceptRanges), ("unicode/utf8.first", laid_unicode_utf8_first)] }
def ShelfAppliesSaid : Prop := shelfAppliesRow.holds Tryz.pinned (OpenSpec.ofChange shelfAppliesSpec)

/-- ITS FALSE NEIGHBOUR: 'it returns false'. Refute it at one input. -/
def shelfAppliesWrong : ChangeSpec := { name := "shelfApplies", fn := fun _ => fun
  | [d1, d2] => { results := [.lit (.bool false)], args := [d1, d2] }
  | _ => none }
def ShelfAppliesWrongFalsely : Prop := shelfAppliesRow.holds Tryz.pinned (OpenSpec.ofChange shelfAppliesWrong)

/-- 'tailracelaw15.ShelfNew': WHATEVER THE INPUT: true; the input reads as it did. -/
def shelfNewSpec : ChangeSpec := { name := "shelfNew", fn := fun _ => fun
  | [d] => { results := [.lit (.bool true)], args := [d] }
  | _ => none }
def shelfNewRow : OpenClaim := { program := "ytiacnmcdfpmcfaagreatdoor", sum := "fa9fddd0135967649e80706bc4908f5cd049b20e551938e520fd68f5a7ad2fb3", func := "tailrace/tailracelaw15.ShelfNew", spec := "shelfNew", inPlace := ["internal/bytealg.CountString", "internal/bytealg.IndexByteString", "internal/bytealg.IndexString", "internal/bytealg.abigen_runtime_cmpstring", "slices.overlaps[tailrace/api.Pair]"], unfollowed := true, recurses := true, named := ["internal/bytealg.MaxLen", "unicode/utf8.first", "unicode/utf8.acceptRanges"], plainKeys := false, apart := false, laid := [("unicode/utf8.acceptRanges", laid_unicode_utf8_acceptRanges), ("unicode/utf8.first", laid_unicode_utf8_first)] }
def ShelfNewSaid : Prop := shelfNewRow.holds Tryz.pinned (OpenSpec.ofChange shelfNewSpec)

/-- ITS FALSE NEIGHBOUR: 'it returns false'. Refute it at one input. -/
def shelfNewWrong : ChangeSpec := { name := "shelfNew", fn := fun _ => fun
  | [d] => { results := [.lit (.bool false)], args := [d] }
  | _ => none }
def ShelfNewWrongFalsely : Prop := shelfNewRow.holds Tryz.pinned (OpenSpec.ofChange shelfNewWrong)

/-- 'tailracelaw15.ShelfTrue': WHATEVER THE INPUT: true; the input reads as it did. -/
def shelfTrueSpec : ChangeSpec := { name := "shelfTrue", fn := fun _ => fun
  | [d1, d2, d3] => { results := [.lit (.bool true)], args := [d1, d2, d3] }
  | _ => none }
def shelfTrueRow : OpenClaim := { program := "ytiacnmcdfpmcfaagreatdoor", sum := "fa9fddd0135967649e80706bc4908f5cd049b20e551938e520fd68f5a7ad2fb3", func := "tailrace/tailracelaw15.ShelfTrue", spec := "shelfTrue", inPlace := ["internal/bytealg.CountString", "internal/bytealg.IndexByteString", "internal/bytealg.IndexString", "internal/bytealg.abigen_runtime_cmpstring", "slices.overlaps[tailrace/api.Pair]"], unfollowed := true, recurses := true, named := ["internal/bytealg.MaxLen", "unicode/utf8.first", "unicode/utf8.acceptRanges"], loops := true, plainKeys := false, apart := false, laid := [("unicode/utf8.acceptRanges", laid_unicode_utf8_acceptRanges), ("unicode/utf8.first", laid_unicode_utf8_first)] }
def ShelfTrueSaid : Prop := shelfTrueRow.holds Tryz.pinned (OpenSpec.ofChange shelfTrueSpec)

/-- ITS FALSE NEIGHBOUR: 'it returns false'. Refute it at one input. -/
def shelfTrueWrong : ChangeSpec := { name := "shelfTrue", fn := fun _ => fun
  | [d1, d2, d3] => { results := [.lit (.bool false)], args := [d1, d2, d3] }
  | _ => none }
def ShelfTrueWrongFalsely : Prop := shelfTrueRow.holds Tryz.pinned (OpenSpec.ofChange shelfTrueWrong)

/-- 'tailracelaw15.ShelfWaits': WHATEVER THE INPUT: true; the input reads as it did. -/
def shelfWaitsSpec : ChangeSpec := { name := "shelfWaits", fn := fun _ => fun
  | [d1, d2] => { results := [.lit (.bool true)], args := [d1, d2] }
  | _ => none }
def shelfWaitsRow : OpenClaim := { program := "ytiacnmcdfpmcfaagreatdoor", sum := "fa9fddd0135967649e80706bc4908f5cd049b20e551938e520fd68f5a7ad2fb3", func := "tailrace/tailracelaw15.ShelfWaits", spec := "shelfWaits", inPlace := ["internal/bytealg.CountString", "internal/bytealg.IndexByteString", "internal/bytealg.IndexString", "internal/bytealg.abigen_runtime_cmpstring", "slices.overlaps[tailrace/api.Pair]"], unfollowed := true, recurses := true, named := ["internal/bytealg.MaxLen", "unicode/utf8.first", "unicode/utf8.acceptRanges"], loops := true, plainKeys := false, apart := false, laid := [("unicode/utf8.acceptRanges", laid_unicode_utf8_acceptRanges), ("unicode/utf8.first", laid_unicode_utf8_first)] }
def ShelfWaitsSaid : Prop := shelfWaitsRow.holds Tryz.pinned (OpenSpec.ofChange shelfWaitsSpec)

/-- ITS FALSE NEIGHBOUR: 'it returns false'. Refute it at one input. -/
def shelfWaitsWrong : ChangeSpec := { name := "shelfWaits", fn := fun _ => fun
  | [d1, d2] => { results := [.lit (.bool false)], args := [d1, d2] }
  | _ => none }
def ShelfWaitsWrongFalsely : Prop := shelfWaitsRow.holds Tryz.pinned (OpenSpec.ofChange shelfWaitsWrong)

/- THE SECOND FORM. 'bulk': how many values and letters a reading holds, each counted each time it is reached (what is shared counts as often as it is met; a slice's spare places count too). A statement '..UptoSaid' is the law's where the arguments, and the package variables that the reading takes, are together of bulk at most 1048576: NARROWER than '..Said'. Prove '..Said' where nothing that the law and all that it calls make is longer than what came in: it says more and counts as full. Else prove '..UptoSaid'. A law counts once. -/
mutual
def uptoBulk {H : Type} : DataW H → Nat
  | .lit (.string bytes) => bytes.length + 1
  | .lit _ => 1
  | .nil => 1
  | .ptr d => uptoBulk d + 1
  | .slice elems spare => uptoBulkAll elems + uptoBulkAll spare + 1
  | .agg parts => uptoBulkAll parts + 1
  | .iface _ d => uptoBulk d + 1
  | .map entries => uptoBulkEntries entries + 1
  | .held _ => 1
def uptoBulkAll {H : Type} : List (DataW H) → Nat
  | [] => 0
  | d :: r => uptoBulk d + uptoBulkAll r
def uptoBulkEntries {H : Type} : List (Lit × DataW H) → Nat
  | [] => 0
  | x :: r => uptoBulkEntry x + uptoBulkEntries r
def uptoBulkEntry {H : Type} : Lit × DataW H → Nat
  | (.string bytes, d) => bytes.length + uptoBulk d + 1
  | (_, d) => uptoBulk d + 1
 end
def uptoSmall : (H : Type) → List (DataW H) → Bool := fun _ ds => decide (uptoBulkAll ds ≤ 1048576)
def OpenSpec.upto (s : _root_.Go.ChangeSpec) : _root_.Go.OpenSpec := { _root_.Go.OpenSpec.ofChange s with cond := some uptoSmall }

/-- 'tailracelaw15.ShelfApplies', WHERE WHAT IT READS IS OF BULK AT MOST 1048576: true; the input reads as it did. -/
def shelfAppliesUptoRow : OpenClaim := { program := "ytiacnmcdfpmcfaagreatdoor", sum := "fa9fddd0135967649e80706bc4908f5cd049b20e551938e520fd68f5a7ad2fb3", func := "tailrace/tailracelaw15.ShelfApplies", spec := "shelfApplies", inPlace := ["internal/bytealg.CountString", "internal/bytealg.IndexByteString", "internal/bytealg.IndexString", "internal/bytealg.abigen_runtime_cmpstring", "slices.overlaps[tailrace/api.Pair]"], unfollowed := true, recurses := true, named := ["internal/bytealg.MaxLen", "unicode/utf8.first", "unicode/utf8.acceptRanges"], loops := true, plainKeys := false, apart := false, laid := [("unicode/utf8.acceptRanges", laid_unicode_utf8_acceptRanges), ("unicode/utf8.first", laid_unicode_utf8_first)], narrowed := true }
def ShelfAppliesUptoSaid : Prop := shelfAppliesUptoRow.holds Tryz.pinned (OpenSpec.upto shelfAppliesSpec)

/-- 'tailracelaw15.ShelfNew', WHERE WHAT IT READS IS OF BULK AT MOST 1048576: true; the input reads as it did. -/
def shelfNewUptoRow : OpenClaim := { program := "ytiacnmcdfpmcfaagreatdoor", sum := "fa9fddd0135967649e80706bc4908f5cd049b20e551938e520fd68f5a7ad2fb3", func := "tailrace/tailracelaw15.ShelfNew", spec := "shelfNew", inPlace := ["internal/bytealg.CountString", "internal/bytealg.IndexByteString", "internal/bytealg.IndexString", "internal/bytealg.abigen_runtime_cmpstring", "slices.overlaps[tailrace/api.Pair]"], unfollowed := true, recurses := true, named := ["internal/bytealg.MaxLen", "unicode/utf8.first", "unicode/utf8.acceptRanges"], plainKeys := false, apart := false, laid := [("unicode/utf8.acceptRanges", laid_unicode_utf8_acceptRanges), ("unicode/utf8.first", laid_unicode_utf8_first)], narrowed := true }
def ShelfNewUptoSaid : Prop := shelfNewUptoRow.holds Tryz.pinned (OpenSpec.upto shelfNewSpec)

/-- 'tailracelaw15.ShelfTrue', WHERE WHAT IT READS IS OF BULK AT MOST 1048576: true; the input reads as it did. -/
def shelfTrueUptoRow : OpenClaim := { program := "ytiacnmcdfpmcfaagreatdoor", sum := "fa9fddd0135967649e80706bc4908f5cd049b20e551938e520fd68f5a7ad2fb3", func := "tailrace/tailracelaw15.ShelfTrue", spec := "shelfTrue", inPlace := ["internal/bytealg.CountString", "internal/bytealg.IndexByteString", "internal/bytealg.IndexString", "internal/bytealg.abigen_runtime_cmpstring", "slices.overlaps[tailrace/api.Pair]"], unfollowed := true, recurses := true, named := ["internal/bytealg.MaxLen", "unicode/utf8.first", "unicode/utf8.acceptRanges"], loops := true, plainKeys := false, apart := false, laid := [("unicode/utf8.acceptRanges", laid_unicode_utf8_acceptRanges), ("unicode/utf8.first", laid_unicode_utf8_first)], narrowed := true }
def ShelfTrueUptoSaid : Prop := shelfTrueUptoRow.holds Tryz.pinned (OpenSpec.upto shelfTrueSpec)

/-- 'tailracelaw15.ShelfWaits', WHERE WHAT IT READS IS OF BULK AT MOST 1048576: true; the input reads as it did. -/
def shelfWaitsUptoRow : OpenClaim := { program := "ytiacnmcdfpmcfaagreatdoor", sum := "fa9fddd0135967649e80706bc4908f5cd049b20e551938e520fd68f5a7ad2fb3", func := "tailrace/tailracelaw15.ShelfWaits", spec := "shelfWaits", inPlace := ["internal/bytealg.CountString", "internal/bytealg.IndexByteString", "internal/bytealg.IndexString", "internal/bytealg.abigen_runtime_cmpstring", "slices.overlaps[tailrace/api.Pair]"], unfollowed := true, recurses := true, named := ["internal/bytealg.MaxLen", "unicode/utf8.first", "unicode/utf8.acceptRanges"], loops := true, plainKeys := false, apart := false, laid := [("unicode/utf8.acceptRanges", laid_unicode_utf8_acceptRanges), ("unicode/utf8.first", laid_unicode_utf8_first)], narrowed := true }
def ShelfWaitsUptoSaid : Prop := shelfWaitsUptoRow.holds Tryz.pinned (OpenSpec.upto shelfWaitsSpec)

end Rows
end Go.Proofs.YtiacnmcdfpmcfaaGreatDoor
