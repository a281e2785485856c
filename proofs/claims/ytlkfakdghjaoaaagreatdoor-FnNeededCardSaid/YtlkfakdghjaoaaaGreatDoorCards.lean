/-
  DERIVED. GIVEN WITH THE SEED: THE CARDS: each row of YtlkfakdghjaoaaaGreatDoorRows.lean that lists a variable, with what it lists TIED to the program's text (the seventh form; the later family's looks); each row that meets fmt, with fmt's text TOLD by the authors' own Lean function (tested against real Go, not proved from fmt's source: count such statements apart). THE CARD IS WHAT COUNTS. Prove the row's statement (the work); the ties are given (YtlkfakdghjaoaaaGreatDoorTie.lean); close each card by the builder's one call (the guide's Derived/Test/ToyasCard.lean, 'card_holds'). Laid BY PROGRAM, IN A SANDBOX (cutbox-door.mjs). By AI agents, Wed Nov 11 2026. No macro, syntax, notation, axiom, sorry.
-/
import Derived.Test.YtlkfakdghjaoaaaGreatDoorRows
import GoSem.ClaimSeven
namespace Go.Proofs.YtlkfakdghjaoaaaGreatDoor
namespace Rows

/-- THE TIED CARD OF 'laws.FnMakeText'. -/
def fnMakeTextCard : Claim7 := { stood := { row := fnMakeTextRow, standIns := [], harness := (true, "682aa73f483dfbcef54b00b817d41bab30158f2293d3f5176bf03d1493592178"), looks := true }, kinds := [], alts := [], goes := true, laidByText := true, laidKinds := [.data, .data, .data, .data, .pinned, .pinned], laidTests := true, laidLooks := .later }
def FnMakeTextCardSaid : Prop := Claim7.holds Tryz.pinned (.plain (OpenSpec.ofChange fnMakeTextSpec)) fnMakeTextCard

/-- THE TIED CARD OF 'laws.FnNeeded'. -/
def fnNeededCard : Claim7 := { stood := { row := fnNeededRow, standIns := [], harness := (true, "682aa73f483dfbcef54b00b817d41bab30158f2293d3f5176bf03d1493592178"), looks := true }, kinds := [], alts := [], goes := true, laidByText := true, laidKinds := [.data, .data, .data, .data, .pinned, .pinned], laidTests := true, laidLooks := .later }
def FnNeededCardSaid : Prop := Claim7.holds Tryz.pinned (.plain (OpenSpec.ofChange fnNeededSpec)) fnNeededCard

/-- THE TIED CARD OF 'laws.FnTextFrom'. -/
def fnTextFromCard : Claim7 := { stood := { row := fnTextFromRow, standIns := [], harness := (true, "682aa73f483dfbcef54b00b817d41bab30158f2293d3f5176bf03d1493592178"), looks := true }, kinds := [], alts := [], goes := true, laidByText := true, laidKinds := [.data, .data, .data, .data, .pinned, .pinned], laidTests := true, laidLooks := .later }
def FnTextFromCardSaid : Prop := Claim7.holds Tryz.pinned (.plain (OpenSpec.ofChange fnTextFromSpec)) fnTextFromCard

/-- THE TIED CARD OF 'laws.FnMadeLength'. -/
def fnMadeLengthCard : Claim7 := { stood := { row := fnMadeLengthRow, standIns := [], harness := (true, "682aa73f483dfbcef54b00b817d41bab30158f2293d3f5176bf03d1493592178"), looks := true }, kinds := [], alts := [], goes := true, laidByText := true, laidKinds := [.data, .data, .data, .data, .pinned, .pinned], laidTests := true, laidLooks := .later }
def FnMadeLengthCardSaid : Prop := Claim7.holds Tryz.pinned (.plain (OpenSpec.ofChange fnMadeLengthSpec)) fnMadeLengthCard

/-- THE TIED CARD OF 'laws.FnSmallFrames'. -/
def fnSmallFramesCard : Claim7 := { stood := { row := fnSmallFramesRow, standIns := [], harness := (true, "682aa73f483dfbcef54b00b817d41bab30158f2293d3f5176bf03d1493592178"), looks := true }, kinds := [], alts := [], goes := true, laidByText := true, laidKinds := [.data, .data, .data, .data, .pinned, .pinned], laidTests := true, laidLooks := .later }
def FnSmallFramesCardSaid : Prop := Claim7.holds Tryz.pinned (.plain (OpenSpec.ofChange fnSmallFramesSpec)) fnSmallFramesCard

/-- THE TIED CARD OF 'laws.FnBigFrames'. -/
def fnBigFramesCard : Claim7 := { stood := { row := fnBigFramesRow, standIns := [], harness := (true, "682aa73f483dfbcef54b00b817d41bab30158f2293d3f5176bf03d1493592178"), looks := true }, kinds := [], alts := [], goes := true, laidByText := true, laidKinds := [.data, .data, .data, .data, .pinned, .pinned], laidTests := true, laidLooks := .later }
def FnBigFramesCardSaid : Prop := Claim7.holds Tryz.pinned (.plain (OpenSpec.ofChange fnBigFramesSpec)) fnBigFramesCard

/-- THE TIED CARD OF 'laws.FnMadeEnds'. -/
def fnMadeEndsCard : Claim7 := { stood := { row := fnMadeEndsRow, standIns := [], harness := (true, "682aa73f483dfbcef54b00b817d41bab30158f2293d3f5176bf03d1493592178"), looks := true }, kinds := [], alts := [], goes := true, laidByText := true, laidKinds := [.data, .data, .data, .data, .pinned, .pinned], laidTests := true, laidLooks := .later }
def FnMadeEndsCardSaid : Prop := Claim7.holds Tryz.pinned (.plain (OpenSpec.ofChange fnMadeEndsSpec)) fnMadeEndsCard

/-- THE TIED CARD OF 'laws.FnLongRuns'. -/
def fnLongRunsCard : Claim7 := { stood := { row := fnLongRunsRow, standIns := [], harness := (true, "682aa73f483dfbcef54b00b817d41bab30158f2293d3f5176bf03d1493592178"), looks := true }, kinds := [], alts := [], goes := true, laidByText := true, laidKinds := [.data, .data, .data, .data, .pinned, .pinned], laidTests := true, laidLooks := .later }
def FnLongRunsCardSaid : Prop := Claim7.holds Tryz.pinned (.plain (OpenSpec.ofChange fnLongRunsSpec)) fnLongRunsCard

/-- THE SECOND FORM's CARD OF 'laws.FnMakeText'. -/
def fnMakeTextUptoCard : Claim7 := { stood := { row := fnMakeTextUptoRow, standIns := [], harness := (true, "682aa73f483dfbcef54b00b817d41bab30158f2293d3f5176bf03d1493592178"), looks := true }, kinds := [], alts := [], goes := true, laidByText := true, laidKinds := [.data, .data, .data, .data, .pinned, .pinned], laidTests := true, laidLooks := .later }
def FnMakeTextUptoCardSaid : Prop := Claim7.holds Tryz.pinned (.plain (OpenSpec.upto fnMakeTextSpec)) fnMakeTextUptoCard

/-- THE SECOND FORM's CARD OF 'laws.FnNeeded'. -/
def fnNeededUptoCard : Claim7 := { stood := { row := fnNeededUptoRow, standIns := [], harness := (true, "682aa73f483dfbcef54b00b817d41bab30158f2293d3f5176bf03d1493592178"), looks := true }, kinds := [], alts := [], goes := true, laidByText := true, laidKinds := [.data, .data, .data, .data, .pinned, .pinned], laidTests := true, laidLooks := .later }
def FnNeededUptoCardSaid : Prop := Claim7.holds Tryz.pinned (.plain (OpenSpec.upto fnNeededSpec)) fnNeededUptoCard

/-- THE SECOND FORM's CARD OF 'laws.FnTextFrom'. -/
def fnTextFromUptoCard : Claim7 := { stood := { row := fnTextFromUptoRow, standIns := [], harness := (true, "682aa73f483dfbcef54b00b817d41bab30158f2293d3f5176bf03d1493592178"), looks := true }, kinds := [], alts := [], goes := true, laidByText := true, laidKinds := [.data, .data, .data, .data, .pinned, .pinned], laidTests := true, laidLooks := .later }
def FnTextFromUptoCardSaid : Prop := Claim7.holds Tryz.pinned (.plain (OpenSpec.upto fnTextFromSpec)) fnTextFromUptoCard

/-- THE SECOND FORM's CARD OF 'laws.FnMadeLength'. -/
def fnMadeLengthUptoCard : Claim7 := { stood := { row := fnMadeLengthUptoRow, standIns := [], harness := (true, "682aa73f483dfbcef54b00b817d41bab30158f2293d3f5176bf03d1493592178"), looks := true }, kinds := [], alts := [], goes := true, laidByText := true, laidKinds := [.data, .data, .data, .data, .pinned, .pinned], laidTests := true, laidLooks := .later }
def FnMadeLengthUptoCardSaid : Prop := Claim7.holds Tryz.pinned (.plain (OpenSpec.upto fnMadeLengthSpec)) fnMadeLengthUptoCard

/-- THE SECOND FORM's CARD OF 'laws.FnSmallFrames'. -/
def fnSmallFramesUptoCard : Claim7 := { stood := { row := fnSmallFramesUptoRow, standIns := [], harness := (true, "682aa73f483dfbcef54b00b817d41bab30158f2293d3f5176bf03d1493592178"), looks := true }, kinds := [], alts := [], goes := true, laidByText := true, laidKinds := [.data, .data, .data, .data, .pinned, .pinned], laidTests := true, laidLooks := .later }
def FnSmallFramesUptoCardSaid : Prop := Claim7.holds Tryz.pinned (.plain (OpenSpec.upto fnSmallFramesSpec)) fnSmallFramesUptoCard

/-- THE SECOND FORM's CARD OF 'laws.FnBigFrames'. -/
def fnBigFramesUptoCard : Claim7 := { stood := { row := fnBigFramesUptoRow, standIns := [], harness := (true, "682aa73f483dfbcef54b00b817d41bab30158f2293d3f5176bf03d1493592178"), looks := true }, kinds := [], alts := [], goes := true, laidByText := true, laidKinds := [.data, .data, .data, .data, .pinned, .pinned], laidTests := true, laidLooks := .later }
def FnBigFramesUptoCardSaid : Prop := Claim7.holds Tryz.pinned (.plain (OpenSpec.upto fnBigFramesSpec)) fnBigFramesUptoCard

/-- THE SECOND FORM's CARD OF 'laws.FnMadeEnds'. -/
def fnMadeEndsUptoCard : Claim7 := { stood := { row := fnMadeEndsUptoRow, standIns := [], harness := (true, "682aa73f483dfbcef54b00b817d41bab30158f2293d3f5176bf03d1493592178"), looks := true }, kinds := [], alts := [], goes := true, laidByText := true, laidKinds := [.data, .data, .data, .data, .pinned, .pinned], laidTests := true, laidLooks := .later }
def FnMadeEndsUptoCardSaid : Prop := Claim7.holds Tryz.pinned (.plain (OpenSpec.upto fnMadeEndsSpec)) fnMadeEndsUptoCard

/-- THE SECOND FORM's CARD OF 'laws.FnLongRuns'. -/
def fnLongRunsUptoCard : Claim7 := { stood := { row := fnLongRunsUptoRow, standIns := [], harness := (true, "682aa73f483dfbcef54b00b817d41bab30158f2293d3f5176bf03d1493592178"), looks := true }, kinds := [], alts := [], goes := true, laidByText := true, laidKinds := [.data, .data, .data, .data, .pinned, .pinned], laidTests := true, laidLooks := .later }
def FnLongRunsUptoCardSaid : Prop := Claim7.holds Tryz.pinned (.plain (OpenSpec.upto fnLongRunsSpec)) fnLongRunsUptoCard
end Rows
end Go.Proofs.YtlkfakdghjaoaaaGreatDoor
