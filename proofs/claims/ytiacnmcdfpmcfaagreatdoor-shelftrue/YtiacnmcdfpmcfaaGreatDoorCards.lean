/-
  DERIVED. GIVEN WITH THE SEED: THE CARDS: each row of YtiacnmcdfpmcfaaGreatDoorRows.lean that lists a variable, with what it lists TIED to the program's text (the seventh form; the later family's looks); each row that meets fmt, with fmt's text TOLD by the authors' own Lean function (tested against real Go, not proved from fmt's source: count such statements apart). THE CARD IS WHAT COUNTS. Prove the row's statement (the work); the ties are given (YtiacnmcdfpmcfaaGreatDoorTie.lean); close each card by the builder's one call (the guide's Derived/Test/ToyasCard.lean, 'card_holds'). Laid BY PROGRAM, IN A SANDBOX (cutbox-door.mjs). By AI agents, Wed Nov 11 2026. No macro, syntax, notation, axiom, sorry.
-/
import Derived.Test.YtiacnmcdfpmcfaaGreatDoorRows
import GoSem.ClaimSeven
namespace Go.Proofs.YtiacnmcdfpmcfaaGreatDoor
namespace Rows

/-- THE TIED CARD OF 'tailracelaw15.ShelfApplies'. -/
def shelfAppliesCard : Claim7 := { stood := { row := shelfAppliesRow, standIns := [], harness := (true, "6039c6b13c9b4f5f6587c5e860774e4efa9d0738b792bdaf648ba09c6295aa5d"), looks := false }, kinds := [], alts := [], laidByText := true, laidKinds := [.data, .pinned], laidTests := true, laidLooks := .later }
def ShelfAppliesCardSaid : Prop := Claim7.holds Tryz.pinned (.plain (OpenSpec.ofChange shelfAppliesSpec)) shelfAppliesCard

/-- THE TIED CARD OF 'tailracelaw15.ShelfNew'. -/
def shelfNewCard : Claim7 := { stood := { row := shelfNewRow, standIns := [], harness := (true, "6039c6b13c9b4f5f6587c5e860774e4efa9d0738b792bdaf648ba09c6295aa5d"), looks := false }, kinds := [], alts := [], laidByText := true, laidKinds := [.data, .pinned], laidTests := true, laidLooks := .later }
def ShelfNewCardSaid : Prop := Claim7.holds Tryz.pinned (.plain (OpenSpec.ofChange shelfNewSpec)) shelfNewCard

/-- THE TIED CARD OF 'tailracelaw15.ShelfTrue'. -/
def shelfTrueCard : Claim7 := { stood := { row := shelfTrueRow, standIns := [], harness := (true, "6039c6b13c9b4f5f6587c5e860774e4efa9d0738b792bdaf648ba09c6295aa5d"), looks := false }, kinds := [], alts := [], laidByText := true, laidKinds := [.data, .pinned], laidTests := true, laidLooks := .later }
def ShelfTrueCardSaid : Prop := Claim7.holds Tryz.pinned (.plain (OpenSpec.ofChange shelfTrueSpec)) shelfTrueCard

/-- THE TIED CARD OF 'tailracelaw15.ShelfWaits'. -/
def shelfWaitsCard : Claim7 := { stood := { row := shelfWaitsRow, standIns := [], harness := (true, "6039c6b13c9b4f5f6587c5e860774e4efa9d0738b792bdaf648ba09c6295aa5d"), looks := false }, kinds := [], alts := [], laidByText := true, laidKinds := [.data, .pinned], laidTests := true, laidLooks := .later }
def ShelfWaitsCardSaid : Prop := Claim7.holds Tryz.pinned (.plain (OpenSpec.ofChange shelfWaitsSpec)) shelfWaitsCard

/-- THE SECOND FORM's CARD OF 'tailracelaw15.ShelfApplies'. -/
def shelfAppliesUptoCard : Claim7 := { stood := { row := shelfAppliesUptoRow, standIns := [], harness := (true, "6039c6b13c9b4f5f6587c5e860774e4efa9d0738b792bdaf648ba09c6295aa5d"), looks := false }, kinds := [], alts := [], laidByText := true, laidKinds := [.data, .pinned], laidTests := true, laidLooks := .later }
def ShelfAppliesUptoCardSaid : Prop := Claim7.holds Tryz.pinned (.plain (OpenSpec.upto shelfAppliesSpec)) shelfAppliesUptoCard

/-- THE SECOND FORM's CARD OF 'tailracelaw15.ShelfNew'. -/
def shelfNewUptoCard : Claim7 := { stood := { row := shelfNewUptoRow, standIns := [], harness := (true, "6039c6b13c9b4f5f6587c5e860774e4efa9d0738b792bdaf648ba09c6295aa5d"), looks := false }, kinds := [], alts := [], laidByText := true, laidKinds := [.data, .pinned], laidTests := true, laidLooks := .later }
def ShelfNewUptoCardSaid : Prop := Claim7.holds Tryz.pinned (.plain (OpenSpec.upto shelfNewSpec)) shelfNewUptoCard

/-- THE SECOND FORM's CARD OF 'tailracelaw15.ShelfTrue'. -/
def shelfTrueUptoCard : Claim7 := { stood := { row := shelfTrueUptoRow, standIns := [], harness := (true, "6039c6b13c9b4f5f6587c5e860774e4efa9d0738b792bdaf648ba09c6295aa5d"), looks := false }, kinds := [], alts := [], laidByText := true, laidKinds := [.data, .pinned], laidTests := true, laidLooks := .later }
def ShelfTrueUptoCardSaid : Prop := Claim7.holds Tryz.pinned (.plain (OpenSpec.upto shelfTrueSpec)) shelfTrueUptoCard

/-- THE SECOND FORM's CARD OF 'tailracelaw15.ShelfWaits'. -/
def shelfWaitsUptoCard : Claim7 := { stood := { row := shelfWaitsUptoRow, standIns := [], harness := (true, "6039c6b13c9b4f5f6587c5e860774e4efa9d0738b792bdaf648ba09c6295aa5d"), looks := false }, kinds := [], alts := [], laidByText := true, laidKinds := [.data, .pinned], laidTests := true, laidLooks := .later }
def ShelfWaitsUptoCardSaid : Prop := Claim7.holds Tryz.pinned (.plain (OpenSpec.upto shelfWaitsSpec)) shelfWaitsUptoCard
end Rows
end Go.Proofs.YtiacnmcdfpmcfaaGreatDoor
