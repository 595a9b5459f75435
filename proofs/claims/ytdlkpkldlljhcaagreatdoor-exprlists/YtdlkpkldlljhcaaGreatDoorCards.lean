/-
  DERIVED. GIVEN WITH THE SEED: THE CARDS: each row of YtdlkpkldlljhcaaGreatDoorRows.lean that lists a variable, with what it lists TIED to the program's text (the seventh form; the later family's looks); each row that meets fmt, with fmt's text TOLD by the authors' own Lean function (tested against real Go, not proved from fmt's source: count such statements apart). THE CARD IS WHAT COUNTS. Prove the row's statement (the work); the ties are given (YtdlkpkldlljhcaaGreatDoorTie.lean); close each card by the builder's one call (the guide's Derived/Test/ToyasCard.lean, 'card_holds'). Laid BY PROGRAM, IN A SANDBOX (cutbox-door.mjs). By AI agents, Wed Nov 11 2026. No macro, syntax, notation, axiom, sorry.
-/
import Derived.Test.YtdlkpkldlljhcaaGreatDoorRows
import GoSem.ClaimSeven
namespace Go.Proofs.YtdlkpkldlljhcaaGreatDoor
namespace Rows

/-- THE TIED CARD OF 'tailracelaw10.ExprLists'. -/
def exprListsCard : Claim7 := { stood := { row := exprListsRow, standIns := [], harness := (true, "21d2b636fa0e82fd53d5050457e5d4f4411b882328b3b466bf1bfa5d3bedc351"), looks := false }, kinds := [], alts := [], laidByText := true, laidKinds := [.data, .pinned], laidTests := true, laidLooks := .later }
def ExprListsCardSaid : Prop := Claim7.holds Tryz.pinned (.plain (OpenSpec.ofChange exprListsSpec)) exprListsCard

/-- THE SECOND FORM's CARD OF 'tailracelaw10.ExprLists'. -/
def exprListsUptoCard : Claim7 := { stood := { row := exprListsUptoRow, standIns := [], harness := (true, "21d2b636fa0e82fd53d5050457e5d4f4411b882328b3b466bf1bfa5d3bedc351"), looks := false }, kinds := [], alts := [], laidByText := true, laidKinds := [.data, .pinned], laidTests := true, laidLooks := .later }
def ExprListsUptoCardSaid : Prop := Claim7.holds Tryz.pinned (.plain (OpenSpec.upto exprListsSpec)) exprListsUptoCard
end Rows
end Go.Proofs.YtdlkpkldlljhcaaGreatDoor
