/-
  DERIVED. GIVEN WITH THE SEED: THE CARDS: each row of YtgebedbankibmaaGreatDoorRows.lean that lists a variable, with what it lists TIED to the program's text (the seventh form; the later family's looks); each row that meets fmt, with fmt's text TOLD by the authors' own Lean function (tested against real Go, not proved from fmt's source: count such statements apart). THE CARD IS WHAT COUNTS. Prove the row's statement (the work); the ties are given (YtgebedbankibmaaGreatDoorTie.lean); close each card by the builder's one call (the guide's Derived/Test/ToyasCard.lean, 'card_holds'). Laid BY PROGRAM, IN A SANDBOX (cutbox-door.mjs). By AI agents, Wed Nov 11 2026. No macro, syntax, notation, axiom, sorry.
-/
import Derived.Test.YtgebedbankibmaaGreatDoorRows
import GoSem.ClaimSeven
namespace Go.Proofs.YtgebedbankibmaaGreatDoor
namespace Rows

/-- THE TIED CARD OF 'laws.FnMadePrune'. -/
def fnMadePruneCard : Claim7 := { stood := { row := fnMadePruneRow, standIns := [], harness := (true, "ef6a49c3c58cb4c735fb9b448124137818d3b5850cf1f15af9ef80e1befb6736"), looks := true }, kinds := [], alts := [], laidByText := true, laidKinds := [.data, .data, .data, .data, .pinned, .pinned], laidTests := true, laidLooks := .later }
def FnMadePruneCardSaid : Prop := Claim7.holds Tryz.pinned (.plain (OpenSpec.ofChange fnMadePruneSpec)) fnMadePruneCard

/-- THE TIED CARD OF 'laws.FnExactMakeText'. -/
def fnExactMakeTextCard : Claim7 := { stood := { row := fnExactMakeTextRow, standIns := [], harness := (true, "ef6a49c3c58cb4c735fb9b448124137818d3b5850cf1f15af9ef80e1befb6736"), looks := true }, kinds := [], alts := [], laidByText := true, laidKinds := [.data, .data, .data, .data, .pinned, .pinned], laidTests := true, laidLooks := .later }
def FnExactMakeTextCardSaid : Prop := Claim7.holds Tryz.pinned (.plain (OpenSpec.ofChange fnExactMakeTextSpec)) fnExactMakeTextCard

/-- THE TIED CARD OF 'laws.FnExactMakeLength'. -/
def fnExactMakeLengthCard : Claim7 := { stood := { row := fnExactMakeLengthRow, standIns := [], harness := (true, "ef6a49c3c58cb4c735fb9b448124137818d3b5850cf1f15af9ef80e1befb6736"), looks := true }, kinds := [], alts := [], laidByText := true, laidKinds := [.data, .data, .data, .data, .pinned, .pinned], laidTests := true, laidLooks := .later }
def FnExactMakeLengthCardSaid : Prop := Claim7.holds Tryz.pinned (.plain (OpenSpec.ofChange fnExactMakeLengthSpec)) fnExactMakeLengthCard

/-- THE TIED CARD OF 'laws.FnExactCountNeeded'. -/
def fnExactCountNeededCard : Claim7 := { stood := { row := fnExactCountNeededRow, standIns := [], harness := (true, "ef6a49c3c58cb4c735fb9b448124137818d3b5850cf1f15af9ef80e1befb6736"), looks := true }, kinds := [], alts := [], laidByText := true, laidKinds := [.data, .data, .data, .data, .pinned, .pinned], laidTests := true, laidLooks := .later }
def FnExactCountNeededCardSaid : Prop := Claim7.holds Tryz.pinned (.plain (OpenSpec.ofChange fnExactCountNeededSpec)) fnExactCountNeededCard

/-- THE TIED CARD OF 'laws.FnExactFramesAt'. -/
def fnExactFramesAtCard : Claim7 := { stood := { row := fnExactFramesAtRow, standIns := [], harness := (true, "ef6a49c3c58cb4c735fb9b448124137818d3b5850cf1f15af9ef80e1befb6736"), looks := true }, kinds := [], alts := [], laidByText := true, laidKinds := [.data, .data, .data, .data, .pinned, .pinned], laidTests := true, laidLooks := .later }
def FnExactFramesAtCardSaid : Prop := Claim7.holds Tryz.pinned (.plain (OpenSpec.ofChange fnExactFramesAtSpec)) fnExactFramesAtCard

/-- THE TIED CARD OF 'laws.FnExactTextFrom'. -/
def fnExactTextFromCard : Claim7 := { stood := { row := fnExactTextFromRow, standIns := [], harness := (true, "ef6a49c3c58cb4c735fb9b448124137818d3b5850cf1f15af9ef80e1befb6736"), looks := true }, kinds := [], alts := [], laidByText := true, laidKinds := [.data, .data, .data, .data, .pinned, .pinned], laidTests := true, laidLooks := .later }
def FnExactTextFromCardSaid : Prop := Claim7.holds Tryz.pinned (.plain (OpenSpec.ofChange fnExactTextFromSpec)) fnExactTextFromCard

/-- THE TIED CARD OF 'laws.FnExactCanMake'. -/
def fnExactCanMakeCard : Claim7 := { stood := { row := fnExactCanMakeRow, standIns := [], harness := (true, "ef6a49c3c58cb4c735fb9b448124137818d3b5850cf1f15af9ef80e1befb6736"), looks := true }, kinds := [], alts := [], laidByText := true, laidKinds := [.data, .data, .data, .data, .pinned, .pinned], laidTests := true, laidLooks := .later }
def FnExactCanMakeCardSaid : Prop := Claim7.holds Tryz.pinned (.plain (OpenSpec.ofChange fnExactCanMakeSpec)) fnExactCanMakeCard

/-- THE SECOND FORM's CARD OF 'laws.FnMadePrune'. -/
def fnMadePruneUptoCard : Claim7 := { stood := { row := fnMadePruneUptoRow, standIns := [], harness := (true, "ef6a49c3c58cb4c735fb9b448124137818d3b5850cf1f15af9ef80e1befb6736"), looks := true }, kinds := [], alts := [], laidByText := true, laidKinds := [.data, .data, .data, .data, .pinned, .pinned], laidTests := true, laidLooks := .later }
def FnMadePruneUptoCardSaid : Prop := Claim7.holds Tryz.pinned (.plain (OpenSpec.upto fnMadePruneSpec)) fnMadePruneUptoCard

/-- THE SECOND FORM's CARD OF 'laws.FnExactMakeText'. -/
def fnExactMakeTextUptoCard : Claim7 := { stood := { row := fnExactMakeTextUptoRow, standIns := [], harness := (true, "ef6a49c3c58cb4c735fb9b448124137818d3b5850cf1f15af9ef80e1befb6736"), looks := true }, kinds := [], alts := [], laidByText := true, laidKinds := [.data, .data, .data, .data, .pinned, .pinned], laidTests := true, laidLooks := .later }
def FnExactMakeTextUptoCardSaid : Prop := Claim7.holds Tryz.pinned (.plain (OpenSpec.upto fnExactMakeTextSpec)) fnExactMakeTextUptoCard

/-- THE SECOND FORM's CARD OF 'laws.FnExactMakeLength'. -/
def fnExactMakeLengthUptoCard : Claim7 := { stood := { row := fnExactMakeLengthUptoRow, standIns := [], harness := (true, "ef6a49c3c58cb4c735fb9b448124137818d3b5850cf1f15af9ef80e1befb6736"), looks := true }, kinds := [], alts := [], laidByText := true, laidKinds := [.data, .data, .data, .data, .pinned, .pinned], laidTests := true, laidLooks := .later }
def FnExactMakeLengthUptoCardSaid : Prop := Claim7.holds Tryz.pinned (.plain (OpenSpec.upto fnExactMakeLengthSpec)) fnExactMakeLengthUptoCard

/-- THE SECOND FORM's CARD OF 'laws.FnExactCountNeeded'. -/
def fnExactCountNeededUptoCard : Claim7 := { stood := { row := fnExactCountNeededUptoRow, standIns := [], harness := (true, "ef6a49c3c58cb4c735fb9b448124137818d3b5850cf1f15af9ef80e1befb6736"), looks := true }, kinds := [], alts := [], laidByText := true, laidKinds := [.data, .data, .data, .data, .pinned, .pinned], laidTests := true, laidLooks := .later }
def FnExactCountNeededUptoCardSaid : Prop := Claim7.holds Tryz.pinned (.plain (OpenSpec.upto fnExactCountNeededSpec)) fnExactCountNeededUptoCard

/-- THE SECOND FORM's CARD OF 'laws.FnExactFramesAt'. -/
def fnExactFramesAtUptoCard : Claim7 := { stood := { row := fnExactFramesAtUptoRow, standIns := [], harness := (true, "ef6a49c3c58cb4c735fb9b448124137818d3b5850cf1f15af9ef80e1befb6736"), looks := true }, kinds := [], alts := [], laidByText := true, laidKinds := [.data, .data, .data, .data, .pinned, .pinned], laidTests := true, laidLooks := .later }
def FnExactFramesAtUptoCardSaid : Prop := Claim7.holds Tryz.pinned (.plain (OpenSpec.upto fnExactFramesAtSpec)) fnExactFramesAtUptoCard

/-- THE SECOND FORM's CARD OF 'laws.FnExactTextFrom'. -/
def fnExactTextFromUptoCard : Claim7 := { stood := { row := fnExactTextFromUptoRow, standIns := [], harness := (true, "ef6a49c3c58cb4c735fb9b448124137818d3b5850cf1f15af9ef80e1befb6736"), looks := true }, kinds := [], alts := [], laidByText := true, laidKinds := [.data, .data, .data, .data, .pinned, .pinned], laidTests := true, laidLooks := .later }
def FnExactTextFromUptoCardSaid : Prop := Claim7.holds Tryz.pinned (.plain (OpenSpec.upto fnExactTextFromSpec)) fnExactTextFromUptoCard

/-- THE SECOND FORM's CARD OF 'laws.FnExactCanMake'. -/
def fnExactCanMakeUptoCard : Claim7 := { stood := { row := fnExactCanMakeUptoRow, standIns := [], harness := (true, "ef6a49c3c58cb4c735fb9b448124137818d3b5850cf1f15af9ef80e1befb6736"), looks := true }, kinds := [], alts := [], laidByText := true, laidKinds := [.data, .data, .data, .data, .pinned, .pinned], laidTests := true, laidLooks := .later }
def FnExactCanMakeUptoCardSaid : Prop := Claim7.holds Tryz.pinned (.plain (OpenSpec.upto fnExactCanMakeSpec)) fnExactCanMakeUptoCard
end Rows
end Go.Proofs.YtgebedbankibmaaGreatDoor
