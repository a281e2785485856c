/-
  No cell of these rows narrows 'for every input' (looked for: loops, veiled, ifaces, maps, wideKeys, modest, calm, conditions, laid).
  DERIVED. THE GIVEN ROWS OF THIS SEAT. 10 by the template 'for every input the law returns true; each argument reads behind the call as it read before'; 0 by the template 'total and deterministic' (their statements: YteodlcgmncchpaaTotals.lean).
  GIVEN WITH THE SEED: the statements are not yours to turn. If you find one false, say at which input.
  Laid BY PROGRAM, IN A SANDBOX (cutbox-rows.mjs): the forced cells as the released guide's own fill.sh prints them over the translation cb5b5b789919b5d0… (all of the seat's roots in one cut). By AI agents, Wed Nov 11 2026. No macro, syntax, notation, axiom, sorry.
-/
import Derived.Test.YteodlcgmncchpaaChecked
import GoSem.Claim
import GoSem.ClaimJoined
import GoSem.ClaimMapViews
import Derived.JoinedTies
import Derived.KernelRfl
namespace Go.Proofs.Yteodlcgmncchpaa
/- THE CELL 'sum', in the pinned program and in every row, IS THE sha256 OF THE DUMP (.gsa) THAT YteodlcgmncchpaaProg.lean LOADS. Nothing in Lean hashes anything: it is a label: what it is worth is what the hold of that sum in a sandbox is worth. -/
noncomputable def Try.pinned : Pinned := { name := "yteodlcgmncchpaa", sum := "cb5b5b789919b5d0aa5d65fc099378338489707d6c6961202f37ee97a0781572", checked := Try.checked }
namespace Rows
def none {H : Type} : Left H := { results := [], args := [] }

/-- 'laws.FnExactStopsWith': WHATEVER THE INPUT: true; the input reads as it did. -/
def fnExactStopsWithSpec : ChangeSpec := { name := "fnExactStopsWith", fn := fun _ => fun
  | [d] => { results := [.lit (.bool true)], args := [d] }
  | _ => none }
def fnExactStopsWithRow : OpenClaim := { program := "yteodlcgmncchpaa", sum := "cb5b5b789919b5d0aa5d65fc099378338489707d6c6961202f37ee97a0781572", func := "loop.example/structuredjumps/laws.FnExactStopsWith", spec := "fnExactStopsWith", inPlace := ["internal/bytealg.IndexByteString", "internal/bytealg.IndexString"], unfollowed := true, recurses := true, named := ["internal/bytealg.MaxLen"], apart := false }
def FnExactStopsWithSaid : Prop := fnExactStopsWithRow.holds Try.pinned (OpenSpec.ofChange fnExactStopsWithSpec)

/-- ITS FALSE NEIGHBOUR: 'it returns false'. Refute it at one input. -/
def fnExactStopsWithWrong : ChangeSpec := { name := "fnExactStopsWith", fn := fun _ => fun
  | [d] => { results := [.lit (.bool false)], args := [d] }
  | _ => none }
def FnExactStopsWithWrongFalsely : Prop := fnExactStopsWithRow.holds Try.pinned (OpenSpec.ofChange fnExactStopsWithWrong)

/-- 'laws.FnExactCanStop': WHATEVER THE INPUT: true; the input reads as it did. -/
def fnExactCanStopSpec : ChangeSpec := { name := "fnExactCanStop", fn := fun _ => fun
  | [d] => { results := [.lit (.bool true)], args := [d] }
  | _ => none }
def fnExactCanStopRow : OpenClaim := { program := "yteodlcgmncchpaa", sum := "cb5b5b789919b5d0aa5d65fc099378338489707d6c6961202f37ee97a0781572", func := "loop.example/structuredjumps/laws.FnExactCanStop", spec := "fnExactCanStop", inPlace := ["internal/bytealg.IndexByteString", "internal/bytealg.IndexString"], unfollowed := true, recurses := true, named := ["internal/bytealg.MaxLen"], apart := false }
def FnExactCanStopSaid : Prop := fnExactCanStopRow.holds Try.pinned (OpenSpec.ofChange fnExactCanStopSpec)

/-- ITS FALSE NEIGHBOUR: 'it returns false'. Refute it at one input. -/
def fnExactCanStopWrong : ChangeSpec := { name := "fnExactCanStop", fn := fun _ => fun
  | [d] => { results := [.lit (.bool false)], args := [d] }
  | _ => none }
def FnExactCanStopWrongFalsely : Prop := fnExactCanStopRow.holds Try.pinned (OpenSpec.ofChange fnExactCanStopWrong)

/-- 'laws.FnExactWayTo': WHATEVER THE INPUT: true; the input reads as it did. -/
def fnExactWayToSpec : ChangeSpec := { name := "fnExactWayTo", fn := fun _ => fun
  | [d1, d2] => { results := [.lit (.bool true)], args := [d1, d2] }
  | _ => none }
def fnExactWayToRow : OpenClaim := { program := "yteodlcgmncchpaa", sum := "cb5b5b789919b5d0aa5d65fc099378338489707d6c6961202f37ee97a0781572", func := "loop.example/structuredjumps/laws.FnExactWayTo", spec := "fnExactWayTo", inPlace := ["internal/bytealg.IndexByteString", "internal/bytealg.IndexString"], unfollowed := true, recurses := true, named := ["internal/bytealg.MaxLen"], apart := false }
def FnExactWayToSaid : Prop := fnExactWayToRow.holds Try.pinned (OpenSpec.ofChange fnExactWayToSpec)

/-- ITS FALSE NEIGHBOUR: 'it returns false'. Refute it at one input. -/
def fnExactWayToWrong : ChangeSpec := { name := "fnExactWayTo", fn := fun _ => fun
  | [d1, d2] => { results := [.lit (.bool false)], args := [d1, d2] }
  | _ => none }
def FnExactWayToWrongFalsely : Prop := fnExactWayToRow.holds Try.pinned (OpenSpec.ofChange fnExactWayToWrong)

/-- 'laws.FnExactAvoidsIn': WHATEVER THE INPUT: true; the input reads as it did. -/
def fnExactAvoidsInSpec : ChangeSpec := { name := "fnExactAvoidsIn", fn := fun _ => fun
  | [d1, d2, d3] => { results := [.lit (.bool true)], args := [d1, d2, d3] }
  | _ => none }
def fnExactAvoidsInRow : OpenClaim := { program := "yteodlcgmncchpaa", sum := "cb5b5b789919b5d0aa5d65fc099378338489707d6c6961202f37ee97a0781572", func := "loop.example/structuredjumps/laws.FnExactAvoidsIn", spec := "fnExactAvoidsIn", inPlace := ["internal/bytealg.IndexByteString", "internal/bytealg.IndexString"], unfollowed := true, recurses := true, named := ["internal/bytealg.MaxLen"], apart := false }
def FnExactAvoidsInSaid : Prop := fnExactAvoidsInRow.holds Try.pinned (OpenSpec.ofChange fnExactAvoidsInSpec)

/-- ITS FALSE NEIGHBOUR: 'it returns false'. Refute it at one input. -/
def fnExactAvoidsInWrong : ChangeSpec := { name := "fnExactAvoidsIn", fn := fun _ => fun
  | [d1, d2, d3] => { results := [.lit (.bool false)], args := [d1, d2, d3] }
  | _ => none }
def FnExactAvoidsInWrongFalsely : Prop := fnExactAvoidsInRow.holds Try.pinned (OpenSpec.ofChange fnExactAvoidsInWrong)

/-- 'laws.FnReached': WHATEVER THE INPUT: true; the input reads as it did. -/
def fnReachedSpec : ChangeSpec := { name := "fnReached", fn := fun _ => fun
  | [d] => { results := [.lit (.bool true)], args := [d] }
  | _ => none }
def fnReachedRow : OpenClaim := { program := "yteodlcgmncchpaa", sum := "cb5b5b789919b5d0aa5d65fc099378338489707d6c6961202f37ee97a0781572", func := "loop.example/structuredjumps/laws.FnReached", spec := "fnReached", inPlace := ["internal/bytealg.IndexByteString", "internal/bytealg.IndexString", "internal/abi.NoEscape"], unfollowed := true, recurses := true, named := ["internal/bytealg.MaxLen"], apart := false }
def FnReachedSaid : Prop := fnReachedRow.holds Try.pinned (OpenSpec.ofChange fnReachedSpec)

/-- ITS FALSE NEIGHBOUR: 'it returns false'. Refute it at one input. -/
def fnReachedWrong : ChangeSpec := { name := "fnReached", fn := fun _ => fun
  | [d] => { results := [.lit (.bool false)], args := [d] }
  | _ => none }
def FnReachedWrongFalsely : Prop := fnReachedRow.holds Try.pinned (OpenSpec.ofChange fnReachedWrong)

/-- 'laws.FnWayTo': WHATEVER THE INPUT: true; the input reads as it did. -/
def fnWayToSpec : ChangeSpec := { name := "fnWayTo", fn := fun _ => fun
  | [d] => { results := [.lit (.bool true)], args := [d] }
  | _ => none }
def fnWayToRow : OpenClaim := { program := "yteodlcgmncchpaa", sum := "cb5b5b789919b5d0aa5d65fc099378338489707d6c6961202f37ee97a0781572", func := "loop.example/structuredjumps/laws.FnWayTo", spec := "fnWayTo", inPlace := ["internal/bytealg.IndexByteString", "internal/bytealg.IndexString", "internal/abi.NoEscape"], unfollowed := true, recurses := true, named := ["internal/bytealg.MaxLen"], apart := false }
def FnWayToSaid : Prop := fnWayToRow.holds Try.pinned (OpenSpec.ofChange fnWayToSpec)

/-- ITS FALSE NEIGHBOUR: 'it returns false'. Refute it at one input. -/
def fnWayToWrong : ChangeSpec := { name := "fnWayTo", fn := fun _ => fun
  | [d] => { results := [.lit (.bool false)], args := [d] }
  | _ => none }
def FnWayToWrongFalsely : Prop := fnWayToRow.holds Try.pinned (OpenSpec.ofChange fnWayToWrong)

/-- 'laws.FnStops': WHATEVER THE INPUT: true; the input reads as it did. -/
def fnStopsSpec : ChangeSpec := { name := "fnStops", fn := fun _ => fun
  | [d1, d2] => { results := [.lit (.bool true)], args := [d1, d2] }
  | _ => none }
def fnStopsRow : OpenClaim := { program := "yteodlcgmncchpaa", sum := "cb5b5b789919b5d0aa5d65fc099378338489707d6c6961202f37ee97a0781572", func := "loop.example/structuredjumps/laws.FnStops", spec := "fnStops", inPlace := ["internal/bytealg.IndexByteString", "internal/bytealg.IndexString", "internal/abi.NoEscape"], unfollowed := true, recurses := true, named := ["internal/bytealg.MaxLen"], apart := false }
def FnStopsSaid : Prop := fnStopsRow.holds Try.pinned (OpenSpec.ofChange fnStopsSpec)

/-- ITS FALSE NEIGHBOUR: 'it returns false'. Refute it at one input. -/
def fnStopsWrong : ChangeSpec := { name := "fnStops", fn := fun _ => fun
  | [d1, d2] => { results := [.lit (.bool false)], args := [d1, d2] }
  | _ => none }
def FnStopsWrongFalsely : Prop := fnStopsRow.holds Try.pinned (OpenSpec.ofChange fnStopsWrong)

/-- 'laws.FnWayReached': WHATEVER THE INPUT: true; the input reads as it did. -/
def fnWayReachedSpec : ChangeSpec := { name := "fnWayReached", fn := fun _ => fun
  | [d] => { results := [.lit (.bool true)], args := [d] }
  | _ => none }
def fnWayReachedRow : OpenClaim := { program := "yteodlcgmncchpaa", sum := "cb5b5b789919b5d0aa5d65fc099378338489707d6c6961202f37ee97a0781572", func := "loop.example/structuredjumps/laws.FnWayReached", spec := "fnWayReached", inPlace := ["internal/bytealg.IndexByteString", "internal/bytealg.IndexString", "internal/abi.NoEscape"], unfollowed := true, recurses := true, named := ["internal/bytealg.MaxLen"], apart := false }
def FnWayReachedSaid : Prop := fnWayReachedRow.holds Try.pinned (OpenSpec.ofChange fnWayReachedSpec)

/-- ITS FALSE NEIGHBOUR: 'it returns false'. Refute it at one input. -/
def fnWayReachedWrong : ChangeSpec := { name := "fnWayReached", fn := fun _ => fun
  | [d] => { results := [.lit (.bool false)], args := [d] }
  | _ => none }
def FnWayReachedWrongFalsely : Prop := fnWayReachedRow.holds Try.pinned (OpenSpec.ofChange fnWayReachedWrong)

/-- 'laws.FnStopsFirst': WHATEVER THE INPUT: true; the input reads as it did. -/
def fnStopsFirstSpec : ChangeSpec := { name := "fnStopsFirst", fn := fun _ => fun
  | [d1, d2] => { results := [.lit (.bool true)], args := [d1, d2] }
  | _ => none }
def fnStopsFirstRow : OpenClaim := { program := "yteodlcgmncchpaa", sum := "cb5b5b789919b5d0aa5d65fc099378338489707d6c6961202f37ee97a0781572", func := "loop.example/structuredjumps/laws.FnStopsFirst", spec := "fnStopsFirst", inPlace := ["internal/bytealg.IndexByteString", "internal/bytealg.IndexString", "internal/abi.NoEscape"], unfollowed := true, recurses := true, named := ["internal/bytealg.MaxLen"], apart := false }
def FnStopsFirstSaid : Prop := fnStopsFirstRow.holds Try.pinned (OpenSpec.ofChange fnStopsFirstSpec)

/-- ITS FALSE NEIGHBOUR: 'it returns false'. Refute it at one input. -/
def fnStopsFirstWrong : ChangeSpec := { name := "fnStopsFirst", fn := fun _ => fun
  | [d1, d2] => { results := [.lit (.bool false)], args := [d1, d2] }
  | _ => none }
def FnStopsFirstWrongFalsely : Prop := fnStopsFirstRow.holds Try.pinned (OpenSpec.ofChange fnStopsFirstWrong)

/-- 'laws.FnPruneRuns': WHATEVER THE INPUT: true; the input reads as it did. -/
def fnPruneRunsSpec : ChangeSpec := { name := "fnPruneRuns", fn := fun _ => fun
  | [d] => { results := [.lit (.bool true)], args := [d] }
  | _ => none }
def fnPruneRunsRow : OpenClaim := { program := "yteodlcgmncchpaa", sum := "cb5b5b789919b5d0aa5d65fc099378338489707d6c6961202f37ee97a0781572", func := "loop.example/structuredjumps/laws.FnPruneRuns", spec := "fnPruneRuns", inPlace := ["internal/bytealg.IndexByteString", "internal/bytealg.IndexString"], unfollowed := true, recurses := true, named := ["internal/bytealg.MaxLen"], apart := false }
def FnPruneRunsSaid : Prop := fnPruneRunsRow.holds Try.pinned (OpenSpec.ofChange fnPruneRunsSpec)

/-- ITS FALSE NEIGHBOUR: 'it returns false'. Refute it at one input. -/
def fnPruneRunsWrong : ChangeSpec := { name := "fnPruneRuns", fn := fun _ => fun
  | [d] => { results := [.lit (.bool false)], args := [d] }
  | _ => none }
def FnPruneRunsWrongFalsely : Prop := fnPruneRunsRow.holds Try.pinned (OpenSpec.ofChange fnPruneRunsWrong)

/- THE SECOND FORM. 'bulk': how many values and letters a reading holds, each counted each time it is reached (what is shared counts as often as it is met; a slice's spare places count too). A statement '..UptoSaid' is the law's where the arguments, and the package variables that the reading takes, are together of bulk at most 1048576: NARROWER than '..Said'. Prove '..Said' where nothing that the law and all that it calls make is longer than what came in: it says more and counts as full. Else prove '..UptoSaid'. A law counts once. -/
mutual
def uptoBulk {H : Type} : DataW H → Nat
  | .lit (.string bytes) => bytes.length + 1
  | .lit _ => 1
  | .nil => 1
  | .ptr d => uptoBulk d + 1
  | .slice elems spare => uptoBulkAll elems + uptoBulkAll spare + 1
  | .agg parts => uptoBulkAll parts + 1
  | .iface _ d => uptoBulk d + 1
  | .map entries => uptoBulkEntries entries + 1
  | .held _ => 1
def uptoBulkAll {H : Type} : List (DataW H) → Nat
  | [] => 0
  | d :: r => uptoBulk d + uptoBulkAll r
def uptoBulkEntries {H : Type} : List (Lit × DataW H) → Nat
  | [] => 0
  | x :: r => uptoBulkEntry x + uptoBulkEntries r
def uptoBulkEntry {H : Type} : Lit × DataW H → Nat
  | (.string bytes, d) => bytes.length + uptoBulk d + 1
  | (_, d) => uptoBulk d + 1
 end
def uptoSmall : (H : Type) → List (DataW H) → Bool := fun _ ds => decide (uptoBulkAll ds ≤ 1048576)
def OpenSpec.upto (s : _root_.Go.ChangeSpec) : _root_.Go.OpenSpec := { _root_.Go.OpenSpec.ofChange s with cond := some uptoSmall }

/-- 'laws.FnExactStopsWith', WHERE WHAT IT READS IS OF BULK AT MOST 1048576: true; the input reads as it did. -/
def fnExactStopsWithUptoRow : OpenClaim := { program := "yteodlcgmncchpaa", sum := "cb5b5b789919b5d0aa5d65fc099378338489707d6c6961202f37ee97a0781572", func := "loop.example/structuredjumps/laws.FnExactStopsWith", spec := "fnExactStopsWith", inPlace := ["internal/bytealg.IndexByteString", "internal/bytealg.IndexString"], unfollowed := true, recurses := true, named := ["internal/bytealg.MaxLen"], apart := false, narrowed := true }
def FnExactStopsWithUptoSaid : Prop := fnExactStopsWithUptoRow.holds Try.pinned (OpenSpec.upto fnExactStopsWithSpec)

/-- 'laws.FnExactCanStop', WHERE WHAT IT READS IS OF BULK AT MOST 1048576: true; the input reads as it did. -/
def fnExactCanStopUptoRow : OpenClaim := { program := "yteodlcgmncchpaa", sum := "cb5b5b789919b5d0aa5d65fc099378338489707d6c6961202f37ee97a0781572", func := "loop.example/structuredjumps/laws.FnExactCanStop", spec := "fnExactCanStop", inPlace := ["internal/bytealg.IndexByteString", "internal/bytealg.IndexString"], unfollowed := true, recurses := true, named := ["internal/bytealg.MaxLen"], apart := false, narrowed := true }
def FnExactCanStopUptoSaid : Prop := fnExactCanStopUptoRow.holds Try.pinned (OpenSpec.upto fnExactCanStopSpec)

/-- 'laws.FnExactWayTo', WHERE WHAT IT READS IS OF BULK AT MOST 1048576: true; the input reads as it did. -/
def fnExactWayToUptoRow : OpenClaim := { program := "yteodlcgmncchpaa", sum := "cb5b5b789919b5d0aa5d65fc099378338489707d6c6961202f37ee97a0781572", func := "loop.example/structuredjumps/laws.FnExactWayTo", spec := "fnExactWayTo", inPlace := ["internal/bytealg.IndexByteString", "internal/bytealg.IndexString"], unfollowed := true, recurses := true, named := ["internal/bytealg.MaxLen"], apart := false, narrowed := true }
def FnExactWayToUptoSaid : Prop := fnExactWayToUptoRow.holds Try.pinned (OpenSpec.upto fnExactWayToSpec)

/-- 'laws.FnExactAvoidsIn', WHERE WHAT IT READS IS OF BULK AT MOST 1048576: true; the input reads as it did. -/
def fnExactAvoidsInUptoRow : OpenClaim := { program := "yteodlcgmncchpaa", sum := "cb5b5b789919b5d0aa5d65fc099378338489707d6c6961202f37ee97a0781572", func := "loop.example/structuredjumps/laws.FnExactAvoidsIn", spec := "fnExactAvoidsIn", inPlace := ["internal/bytealg.IndexByteString", "internal/bytealg.IndexString"], unfollowed := true, recurses := true, named := ["internal/bytealg.MaxLen"], apart := false, narrowed := true }
def FnExactAvoidsInUptoSaid : Prop := fnExactAvoidsInUptoRow.holds Try.pinned (OpenSpec.upto fnExactAvoidsInSpec)

/-- 'laws.FnReached', WHERE WHAT IT READS IS OF BULK AT MOST 1048576: true; the input reads as it did. -/
def fnReachedUptoRow : OpenClaim := { program := "yteodlcgmncchpaa", sum := "cb5b5b789919b5d0aa5d65fc099378338489707d6c6961202f37ee97a0781572", func := "loop.example/structuredjumps/laws.FnReached", spec := "fnReached", inPlace := ["internal/bytealg.IndexByteString", "internal/bytealg.IndexString", "internal/abi.NoEscape"], unfollowed := true, recurses := true, named := ["internal/bytealg.MaxLen"], apart := false, narrowed := true }
def FnReachedUptoSaid : Prop := fnReachedUptoRow.holds Try.pinned (OpenSpec.upto fnReachedSpec)

/-- 'laws.FnWayTo', WHERE WHAT IT READS IS OF BULK AT MOST 1048576: true; the input reads as it did. -/
def fnWayToUptoRow : OpenClaim := { program := "yteodlcgmncchpaa", sum := "cb5b5b789919b5d0aa5d65fc099378338489707d6c6961202f37ee97a0781572", func := "loop.example/structuredjumps/laws.FnWayTo", spec := "fnWayTo", inPlace := ["internal/bytealg.IndexByteString", "internal/bytealg.IndexString", "internal/abi.NoEscape"], unfollowed := true, recurses := true, named := ["internal/bytealg.MaxLen"], apart := false, narrowed := true }
def FnWayToUptoSaid : Prop := fnWayToUptoRow.holds Try.pinned (OpenSpec.upto fnWayToSpec)

/-- 'laws.FnStops', WHERE WHAT IT READS IS OF BULK AT MOST 1048576: true; the input reads as it did. -/
def fnStopsUptoRow : OpenClaim := { program := "yteodlcgmncchpaa", sum := "cb5b5b789919b5d0aa5d65fc099378338489707d6c6961202f37ee97a0781572", func := "loop.example/structuredjumps/laws.FnStops", spec := "fnStops", inPlace := ["internal/bytealg.IndexByteString", "internal/bytealg.IndexString", "internal/abi.NoEscape"], unfollowed := true, recurses := true, named := ["internal/bytealg.MaxLen"], apart := false, narrowed := true }
def FnStopsUptoSaid : Prop := fnStopsUptoRow.holds Try.pinned (OpenSpec.upto fnStopsSpec)

/-- 'laws.FnWayReached', WHERE WHAT IT READS IS OF BULK AT MOST 1048576: true; the input reads as it did. -/
def fnWayReachedUptoRow : OpenClaim := { program := "yteodlcgmncchpaa", sum := "cb5b5b789919b5d0aa5d65fc099378338489707d6c6961202f37ee97a0781572", func := "loop.example/structuredjumps/laws.FnWayReached", spec := "fnWayReached", inPlace := ["internal/bytealg.IndexByteString", "internal/bytealg.IndexString", "internal/abi.NoEscape"], unfollowed := true, recurses := true, named := ["internal/bytealg.MaxLen"], apart := false, narrowed := true }
def FnWayReachedUptoSaid : Prop := fnWayReachedUptoRow.holds Try.pinned (OpenSpec.upto fnWayReachedSpec)

/-- 'laws.FnStopsFirst', WHERE WHAT IT READS IS OF BULK AT MOST 1048576: true; the input reads as it did. -/
def fnStopsFirstUptoRow : OpenClaim := { program := "yteodlcgmncchpaa", sum := "cb5b5b789919b5d0aa5d65fc099378338489707d6c6961202f37ee97a0781572", func := "loop.example/structuredjumps/laws.FnStopsFirst", spec := "fnStopsFirst", inPlace := ["internal/bytealg.IndexByteString", "internal/bytealg.IndexString", "internal/abi.NoEscape"], unfollowed := true, recurses := true, named := ["internal/bytealg.MaxLen"], apart := false, narrowed := true }
def FnStopsFirstUptoSaid : Prop := fnStopsFirstUptoRow.holds Try.pinned (OpenSpec.upto fnStopsFirstSpec)

/-- 'laws.FnPruneRuns', WHERE WHAT IT READS IS OF BULK AT MOST 1048576: true; the input reads as it did. -/
def fnPruneRunsUptoRow : OpenClaim := { program := "yteodlcgmncchpaa", sum := "cb5b5b789919b5d0aa5d65fc099378338489707d6c6961202f37ee97a0781572", func := "loop.example/structuredjumps/laws.FnPruneRuns", spec := "fnPruneRuns", inPlace := ["internal/bytealg.IndexByteString", "internal/bytealg.IndexString"], unfollowed := true, recurses := true, named := ["internal/bytealg.MaxLen"], apart := false, narrowed := true }
def FnPruneRunsUptoSaid : Prop := fnPruneRunsUptoRow.holds Try.pinned (OpenSpec.upto fnPruneRunsSpec)

end Rows
end Go.Proofs.Yteodlcgmncchpaa
