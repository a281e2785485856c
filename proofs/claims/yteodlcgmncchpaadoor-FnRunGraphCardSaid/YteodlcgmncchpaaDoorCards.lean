/-
  DERIVED. GIVEN WITH THE SEED: THE CARDS: each row of YteodlcgmncchpaaDoorRows.lean that lists a variable, with what it lists TIED to the program's text (the seventh form; the later family's looks); each row that meets fmt, with fmt's text TOLD by the authors' own Lean function (tested against real Go, not proved from fmt's source: count such statements apart). THE CARD IS WHAT COUNTS. Prove the row's statement (the work); the ties are given (YteodlcgmncchpaaDoorTie.lean); close each card by the builder's one call (the guide's Derived/Test/ToyasCard.lean, 'card_holds'). Laid BY PROGRAM, IN A SANDBOX (cutbox-door.mjs). By AI agents, Wed Nov 11 2026. No macro, syntax, notation, axiom, sorry.
-/
import Derived.Test.YteodlcgmncchpaaDoorRows
import GoSem.ClaimSeven
namespace Go.Proofs.YteodlcgmncchpaaDoor
namespace Rows

/-- THE TIED CARD OF 'laws.FnExactNameOfEnd'. -/
def fnExactNameOfEndCard : Claim7 := { stood := { row := fnExactNameOfEndRow, standIns := [], harness := (true, "d2f7497799d9e5f403412336e3e379e7b14c22845b9a38b428a9f4711b4a1bb0"), looks := true }, kinds := [], alts := [], laidByText := true, laidKinds := [.data], laidTests := true, laidLooks := .later }
def FnExactNameOfEndCardSaid : Prop := Claim7.holds Tryd.pinned (.plain (OpenSpec.ofChange fnExactNameOfEndSpec)) fnExactNameOfEndCard

/-- THE TIED CARD OF 'laws.FnRunGraph'. -/
def fnRunGraphCard : Claim7 := { stood := { row := fnRunGraphRow, standIns := [], harness := (true, "d2f7497799d9e5f403412336e3e379e7b14c22845b9a38b428a9f4711b4a1bb0"), looks := true }, kinds := [], alts := [], laidByText := true, laidKinds := [.data], laidTests := true, laidLooks := .later }
def FnRunGraphCardSaid : Prop := Claim7.holds Tryd.pinned (.plain (OpenSpec.ofChange fnRunGraphSpec)) fnRunGraphCard

/-- THE SECOND FORM's CARD OF 'laws.FnExactNameOfEnd'. -/
def fnExactNameOfEndUptoCard : Claim7 := { stood := { row := fnExactNameOfEndUptoRow, standIns := [], harness := (true, "d2f7497799d9e5f403412336e3e379e7b14c22845b9a38b428a9f4711b4a1bb0"), looks := true }, kinds := [], alts := [], laidByText := true, laidKinds := [.data], laidTests := true, laidLooks := .later }
def FnExactNameOfEndUptoCardSaid : Prop := Claim7.holds Tryd.pinned (.plain (OpenSpec.upto fnExactNameOfEndSpec)) fnExactNameOfEndUptoCard

/-- THE SECOND FORM's CARD OF 'laws.FnRunGraph'. -/
def fnRunGraphUptoCard : Claim7 := { stood := { row := fnRunGraphUptoRow, standIns := [], harness := (true, "d2f7497799d9e5f403412336e3e379e7b14c22845b9a38b428a9f4711b4a1bb0"), looks := true }, kinds := [], alts := [], laidByText := true, laidKinds := [.data], laidTests := true, laidLooks := .later }
def FnRunGraphUptoCardSaid : Prop := Claim7.holds Tryd.pinned (.plain (OpenSpec.upto fnRunGraphSpec)) fnRunGraphUptoCard
end Rows
end Go.Proofs.YteodlcgmncchpaaDoor
