/-
  No cell of these rows narrows 'for every input' (looked for: loops, veiled, ifaces, maps, wideKeys, modest, calm, conditions, laid).
  DERIVED. THE GIVEN ROWS OF THIS SEAT. 11 by the template 'for every input the law returns true; each argument reads behind the call as it read before'; 0 by the template 'total and deterministic' (their statements: YtimgkjlhahapnabTotals.lean).
  GIVEN WITH THE SEED: the statements are not yours to turn. If you find one false, say at which input.
  Laid BY PROGRAM, IN A SANDBOX (cutbox-rows.mjs): the forced cells as the released guide's own fill.sh prints them over the translation 49f55f893ecac6c8… (all of the seat's roots in one cut). By AI agents, Wed Nov 11 2026. No macro, syntax, notation, axiom, sorry.
-/
import Derived.Test.YtimgkjlhahapnabChecked
import GoSem.Claim
import GoSem.ClaimJoined
import GoSem.ClaimMapViews
import Derived.JoinedTies
import Derived.KernelRfl
namespace Go.Proofs.Ytimgkjlhahapnab
/- THE CELL 'sum', in the pinned program and in every row, IS THE sha256 OF THE DUMP (.gsa) THAT YtimgkjlhahapnabProg.lean LOADS. Nothing in Lean hashes anything: it is a label: what it is worth is what the hold of that sum in a sandbox is worth. -/
noncomputable def Try.pinned : Pinned := { name := "ytimgkjlhahapnab", sum := "49f55f893ecac6c816d1d48b2723290232c407b7ed266b4378fc59a0ca6ce230", checked := Try.checked }
namespace Rows
def none {H : Type} : Left H := { results := [], args := [] }

/-- 'laws.FnReached': WHATEVER THE INPUT: true; the input reads as it did. -/
def fnReachedSpec : ChangeSpec := { name := "fnReached", fn := fun _ => fun
  | [d] => { results := [.lit (.bool true)], args := [d] }
  | _ => none }
def fnReachedRow : OpenClaim := { program := "ytimgkjlhahapnab", sum := "49f55f893ecac6c816d1d48b2723290232c407b7ed266b4378fc59a0ca6ce230", func := "loop.example/structuredjumps/laws.FnReached", spec := "fnReached", inPlace := ["internal/bytealg.IndexByteString", "internal/bytealg.IndexString", "internal/abi.NoEscape"], unfollowed := true, recurses := true, named := ["internal/bytealg.MaxLen"], apart := false }
def FnReachedSaid : Prop := fnReachedRow.holds Try.pinned (OpenSpec.ofChange fnReachedSpec)

/-- ITS FALSE NEIGHBOUR: 'it returns false'. Refute it at one input. -/
def fnReachedWrong : ChangeSpec := { name := "fnReached", fn := fun _ => fun
  | [d] => { results := [.lit (.bool false)], args := [d] }
  | _ => none }
def FnReachedWrongFalsely : Prop := fnReachedRow.holds Try.pinned (OpenSpec.ofChange fnReachedWrong)

/-- 'laws.FnPruneTwice': WHATEVER THE INPUT: true; the input reads as it did. -/
def fnPruneTwiceSpec : ChangeSpec := { name := "fnPruneTwice", fn := fun _ => fun
  | [d] => { results := [.lit (.bool true)], args := [d] }
  | _ => none }
def fnPruneTwiceRow : OpenClaim := { program := "ytimgkjlhahapnab", sum := "49f55f893ecac6c816d1d48b2723290232c407b7ed266b4378fc59a0ca6ce230", func := "loop.example/structuredjumps/laws.FnPruneTwice", spec := "fnPruneTwice", inPlace := ["internal/bytealg.IndexByteString", "internal/bytealg.IndexString", "internal/abi.NoEscape"], unfollowed := true, recurses := true, named := ["internal/bytealg.MaxLen"], apart := false }
def FnPruneTwiceSaid : Prop := fnPruneTwiceRow.holds Try.pinned (OpenSpec.ofChange fnPruneTwiceSpec)

/-- ITS FALSE NEIGHBOUR: 'it returns false'. Refute it at one input. -/
def fnPruneTwiceWrong : ChangeSpec := { name := "fnPruneTwice", fn := fun _ => fun
  | [d] => { results := [.lit (.bool false)], args := [d] }
  | _ => none }
def FnPruneTwiceWrongFalsely : Prop := fnPruneTwiceRow.holds Try.pinned (OpenSpec.ofChange fnPruneTwiceWrong)

/-- 'laws.FnLeastReached': WHATEVER THE INPUT: true; the input reads as it did. -/
def fnLeastReachedSpec : ChangeSpec := { name := "fnLeastReached", fn := fun _ => fun
  | [d1, d2] => { results := [.lit (.bool true)], args := [d1, d2] }
  | _ => none }
def fnLeastReachedRow : OpenClaim := { program := "ytimgkjlhahapnab", sum := "49f55f893ecac6c816d1d48b2723290232c407b7ed266b4378fc59a0ca6ce230", func := "loop.example/structuredjumps/laws.FnLeastReached", spec := "fnLeastReached", inPlace := ["internal/bytealg.IndexByteString", "internal/bytealg.IndexString", "internal/abi.NoEscape"], unfollowed := true, recurses := true, named := ["internal/bytealg.MaxLen"], apart := false }
def FnLeastReachedSaid : Prop := fnLeastReachedRow.holds Try.pinned (OpenSpec.ofChange fnLeastReachedSpec)

/-- ITS FALSE NEIGHBOUR: 'it returns false'. Refute it at one input. -/
def fnLeastReachedWrong : ChangeSpec := { name := "fnLeastReached", fn := fun _ => fun
  | [d1, d2] => { results := [.lit (.bool false)], args := [d1, d2] }
  | _ => none }
def FnLeastReachedWrongFalsely : Prop := fnLeastReachedRow.holds Try.pinned (OpenSpec.ofChange fnLeastReachedWrong)

/-- 'laws.FnWayTo': WHATEVER THE INPUT: true; the input reads as it did. -/
def fnWayToSpec : ChangeSpec := { name := "fnWayTo", fn := fun _ => fun
  | [d] => { results := [.lit (.bool true)], args := [d] }
  | _ => none }
def fnWayToRow : OpenClaim := { program := "ytimgkjlhahapnab", sum := "49f55f893ecac6c816d1d48b2723290232c407b7ed266b4378fc59a0ca6ce230", func := "loop.example/structuredjumps/laws.FnWayTo", spec := "fnWayTo", inPlace := ["internal/bytealg.IndexByteString", "internal/bytealg.IndexString", "internal/abi.NoEscape"], unfollowed := true, recurses := true, named := ["internal/bytealg.MaxLen"], apart := false }
def FnWayToSaid : Prop := fnWayToRow.holds Try.pinned (OpenSpec.ofChange fnWayToSpec)

/-- ITS FALSE NEIGHBOUR: 'it returns false'. Refute it at one input. -/
def fnWayToWrong : ChangeSpec := { name := "fnWayTo", fn := fun _ => fun
  | [d] => { results := [.lit (.bool false)], args := [d] }
  | _ => none }
def FnWayToWrongFalsely : Prop := fnWayToRow.holds Try.pinned (OpenSpec.ofChange fnWayToWrong)

/-- 'laws.FnStops': WHATEVER THE INPUT: true; the input reads as it did. -/
def fnStopsSpec : ChangeSpec := { name := "fnStops", fn := fun _ => fun
  | [d1, d2] => { results := [.lit (.bool true)], args := [d1, d2] }
  | _ => none }
def fnStopsRow : OpenClaim := { program := "ytimgkjlhahapnab", sum := "49f55f893ecac6c816d1d48b2723290232c407b7ed266b4378fc59a0ca6ce230", func := "loop.example/structuredjumps/laws.FnStops", spec := "fnStops", inPlace := ["internal/bytealg.IndexByteString", "internal/bytealg.IndexString", "internal/abi.NoEscape"], unfollowed := true, recurses := true, named := ["internal/bytealg.MaxLen"], apart := false }
def FnStopsSaid : Prop := fnStopsRow.holds Try.pinned (OpenSpec.ofChange fnStopsSpec)

/-- ITS FALSE NEIGHBOUR: 'it returns false'. Refute it at one input. -/
def fnStopsWrong : ChangeSpec := { name := "fnStops", fn := fun _ => fun
  | [d1, d2] => { results := [.lit (.bool false)], args := [d1, d2] }
  | _ => none }
def FnStopsWrongFalsely : Prop := fnStopsRow.holds Try.pinned (OpenSpec.ofChange fnStopsWrong)

/-- 'laws.FnRunOn': WHATEVER THE INPUT: true; the input reads as it did. -/
def fnRunOnSpec : ChangeSpec := { name := "fnRunOn", fn := fun _ => fun
  | [d] => { results := [.lit (.bool true)], args := [d] }
  | _ => none }
def fnRunOnRow : OpenClaim := { program := "ytimgkjlhahapnab", sum := "49f55f893ecac6c816d1d48b2723290232c407b7ed266b4378fc59a0ca6ce230", func := "loop.example/structuredjumps/laws.FnRunOn", spec := "fnRunOn", inPlace := ["internal/bytealg.IndexByteString", "internal/bytealg.IndexString"], unfollowed := true, recurses := true, named := ["internal/bytealg.MaxLen"], apart := false }
def FnRunOnSaid : Prop := fnRunOnRow.holds Try.pinned (OpenSpec.ofChange fnRunOnSpec)

/-- ITS FALSE NEIGHBOUR: 'it returns false'. Refute it at one input. -/
def fnRunOnWrong : ChangeSpec := { name := "fnRunOn", fn := fun _ => fun
  | [d] => { results := [.lit (.bool false)], args := [d] }
  | _ => none }
def FnRunOnWrongFalsely : Prop := fnRunOnRow.holds Try.pinned (OpenSpec.ofChange fnRunOnWrong)

/-- 'laws.FnPruneRuns': WHATEVER THE INPUT: true; the input reads as it did. -/
def fnPruneRunsSpec : ChangeSpec := { name := "fnPruneRuns", fn := fun _ => fun
  | [d] => { results := [.lit (.bool true)], args := [d] }
  | _ => none }
def fnPruneRunsRow : OpenClaim := { program := "ytimgkjlhahapnab", sum := "49f55f893ecac6c816d1d48b2723290232c407b7ed266b4378fc59a0ca6ce230", func := "loop.example/structuredjumps/laws.FnPruneRuns", spec := "fnPruneRuns", inPlace := ["internal/bytealg.IndexByteString", "internal/bytealg.IndexString"], unfollowed := true, recurses := true, named := ["internal/bytealg.MaxLen"], apart := false }
def FnPruneRunsSaid : Prop := fnPruneRunsRow.holds Try.pinned (OpenSpec.ofChange fnPruneRunsSpec)

/-- ITS FALSE NEIGHBOUR: 'it returns false'. Refute it at one input. -/
def fnPruneRunsWrong : ChangeSpec := { name := "fnPruneRuns", fn := fun _ => fun
  | [d] => { results := [.lit (.bool false)], args := [d] }
  | _ => none }
def FnPruneRunsWrongFalsely : Prop := fnPruneRunsRow.holds Try.pinned (OpenSpec.ofChange fnPruneRunsWrong)

/-- 'laws.FnWayReached': WHATEVER THE INPUT: true; the input reads as it did. -/
def fnWayReachedSpec : ChangeSpec := { name := "fnWayReached", fn := fun _ => fun
  | [d] => { results := [.lit (.bool true)], args := [d] }
  | _ => none }
def fnWayReachedRow : OpenClaim := { program := "ytimgkjlhahapnab", sum := "49f55f893ecac6c816d1d48b2723290232c407b7ed266b4378fc59a0ca6ce230", func := "loop.example/structuredjumps/laws.FnWayReached", spec := "fnWayReached", inPlace := ["internal/bytealg.IndexByteString", "internal/bytealg.IndexString", "internal/abi.NoEscape"], unfollowed := true, recurses := true, named := ["internal/bytealg.MaxLen"], apart := false }
def FnWayReachedSaid : Prop := fnWayReachedRow.holds Try.pinned (OpenSpec.ofChange fnWayReachedSpec)

/-- ITS FALSE NEIGHBOUR: 'it returns false'. Refute it at one input. -/
def fnWayReachedWrong : ChangeSpec := { name := "fnWayReached", fn := fun _ => fun
  | [d] => { results := [.lit (.bool false)], args := [d] }
  | _ => none }
def FnWayReachedWrongFalsely : Prop := fnWayReachedRow.holds Try.pinned (OpenSpec.ofChange fnWayReachedWrong)

/-- 'laws.FnStopsFirst': WHATEVER THE INPUT: true; the input reads as it did. -/
def fnStopsFirstSpec : ChangeSpec := { name := "fnStopsFirst", fn := fun _ => fun
  | [d1, d2] => { results := [.lit (.bool true)], args := [d1, d2] }
  | _ => none }
def fnStopsFirstRow : OpenClaim := { program := "ytimgkjlhahapnab", sum := "49f55f893ecac6c816d1d48b2723290232c407b7ed266b4378fc59a0ca6ce230", func := "loop.example/structuredjumps/laws.FnStopsFirst", spec := "fnStopsFirst", inPlace := ["internal/bytealg.IndexByteString", "internal/bytealg.IndexString", "internal/abi.NoEscape"], unfollowed := true, recurses := true, named := ["internal/bytealg.MaxLen"], apart := false }
def FnStopsFirstSaid : Prop := fnStopsFirstRow.holds Try.pinned (OpenSpec.ofChange fnStopsFirstSpec)

/-- ITS FALSE NEIGHBOUR: 'it returns false'. Refute it at one input. -/
def fnStopsFirstWrong : ChangeSpec := { name := "fnStopsFirst", fn := fun _ => fun
  | [d1, d2] => { results := [.lit (.bool false)], args := [d1, d2] }
  | _ => none }
def FnStopsFirstWrongFalsely : Prop := fnStopsFirstRow.holds Try.pinned (OpenSpec.ofChange fnStopsFirstWrong)

/-- 'laws.FnIsTrace': WHATEVER THE INPUT: true; the input reads as it did. -/
def fnIsTraceSpec : ChangeSpec := { name := "fnIsTrace", fn := fun _ => fun
  | [d] => { results := [.lit (.bool true)], args := [d] }
  | _ => none }
def fnIsTraceRow : OpenClaim := { program := "ytimgkjlhahapnab", sum := "49f55f893ecac6c816d1d48b2723290232c407b7ed266b4378fc59a0ca6ce230", func := "loop.example/structuredjumps/laws.FnIsTrace", spec := "fnIsTrace", inPlace := ["internal/bytealg.IndexByteString", "internal/bytealg.IndexString", "internal/abi.NoEscape"], unfollowed := true, recurses := true, named := ["internal/bytealg.MaxLen"], apart := false }
def FnIsTraceSaid : Prop := fnIsTraceRow.holds Try.pinned (OpenSpec.ofChange fnIsTraceSpec)

/-- ITS FALSE NEIGHBOUR: 'it returns false'. Refute it at one input. -/
def fnIsTraceWrong : ChangeSpec := { name := "fnIsTrace", fn := fun _ => fun
  | [d] => { results := [.lit (.bool false)], args := [d] }
  | _ => none }
def FnIsTraceWrongFalsely : Prop := fnIsTraceRow.holds Try.pinned (OpenSpec.ofChange fnIsTraceWrong)

/-- 'laws.FnLeftOver': WHATEVER THE INPUT: true; the input reads as it did. -/
def fnLeftOverSpec : ChangeSpec := { name := "fnLeftOver", fn := fun _ => fun
  | [d] => { results := [.lit (.bool true)], args := [d] }
  | _ => none }
def fnLeftOverRow : OpenClaim := { program := "ytimgkjlhahapnab", sum := "49f55f893ecac6c816d1d48b2723290232c407b7ed266b4378fc59a0ca6ce230", func := "loop.example/structuredjumps/laws.FnLeftOver", spec := "fnLeftOver", inPlace := ["internal/bytealg.IndexByteString", "internal/bytealg.IndexString"], unfollowed := true, recurses := true, named := ["internal/bytealg.MaxLen"], apart := false }
def FnLeftOverSaid : Prop := fnLeftOverRow.holds Try.pinned (OpenSpec.ofChange fnLeftOverSpec)

/-- ITS FALSE NEIGHBOUR: 'it returns false'. Refute it at one input. -/
def fnLeftOverWrong : ChangeSpec := { name := "fnLeftOver", fn := fun _ => fun
  | [d] => { results := [.lit (.bool false)], args := [d] }
  | _ => none }
def FnLeftOverWrongFalsely : Prop := fnLeftOverRow.holds Try.pinned (OpenSpec.ofChange fnLeftOverWrong)

/- THE SECOND FORM. 'bulk': how many values and letters a reading holds, each counted each time it is reached (what is shared counts as often as it is met; a slice's spare places count too). A statement '..UptoSaid' is the law's where the arguments, and the package variables that the reading takes, are together of bulk at most 1048576: NARROWER than '..Said'. Prove '..Said' where nothing that the law and all that it calls make is longer than what came in: it says more and counts as full. Else prove '..UptoSaid'. A law counts once. -/
mutual
def uptoBulk {H : Type} : DataW H → Nat
  | .lit (.string bytes) => bytes.length + 1
  | .lit _ => 1
  | .nil => 1
  | .ptr d => uptoBulk d + 1
  | .slice elems spare => uptoBulkAll elems + uptoBulkAll spare + 1
  | .agg parts => uptoBulkAll parts + 1
  | .iface _ d => uptoBulk d + 1
  | .map entries => uptoBulkEntries entries + 1
  | .held _ => 1
def uptoBulkAll {H : Type} : List (DataW H) → Nat
  | [] => 0
  | d :: r => uptoBulk d + uptoBulkAll r
def uptoBulkEntries {H : Type} : List (Lit × DataW H) → Nat
  | [] => 0
  | x :: r => uptoBulkEntry x + uptoBulkEntries r
def uptoBulkEntry {H : Type} : Lit × DataW H → Nat
  | (.string bytes, d) => bytes.length + uptoBulk d + 1
  | (_, d) => uptoBulk d + 1
 end
def uptoSmall : (H : Type) → List (DataW H) → Bool := fun _ ds => decide (uptoBulkAll ds ≤ 1048576)
def OpenSpec.upto (s : _root_.Go.ChangeSpec) : _root_.Go.OpenSpec := { _root_.Go.OpenSpec.ofChange s with cond := some uptoSmall }

/-- 'laws.FnReached', WHERE WHAT IT READS IS OF BULK AT MOST 1048576: true; the input reads as it did. -/
def fnReachedUptoRow : OpenClaim := { program := "ytimgkjlhahapnab", sum := "49f55f893ecac6c816d1d48b2723290232c407b7ed266b4378fc59a0ca6ce230", func := "loop.example/structuredjumps/laws.FnReached", spec := "fnReached", inPlace := ["internal/bytealg.IndexByteString", "internal/bytealg.IndexString", "internal/abi.NoEscape"], unfollowed := true, recurses := true, named := ["internal/bytealg.MaxLen"], apart := false, narrowed := true }
def FnReachedUptoSaid : Prop := fnReachedUptoRow.holds Try.pinned (OpenSpec.upto fnReachedSpec)

/-- 'laws.FnPruneTwice', WHERE WHAT IT READS IS OF BULK AT MOST 1048576: true; the input reads as it did. -/
def fnPruneTwiceUptoRow : OpenClaim := { program := "ytimgkjlhahapnab", sum := "49f55f893ecac6c816d1d48b2723290232c407b7ed266b4378fc59a0ca6ce230", func := "loop.example/structuredjumps/laws.FnPruneTwice", spec := "fnPruneTwice", inPlace := ["internal/bytealg.IndexByteString", "internal/bytealg.IndexString", "internal/abi.NoEscape"], unfollowed := true, recurses := true, named := ["internal/bytealg.MaxLen"], apart := false, narrowed := true }
def FnPruneTwiceUptoSaid : Prop := fnPruneTwiceUptoRow.holds Try.pinned (OpenSpec.upto fnPruneTwiceSpec)

/-- 'laws.FnLeastReached', WHERE WHAT IT READS IS OF BULK AT MOST 1048576: true; the input reads as it did. -/
def fnLeastReachedUptoRow : OpenClaim := { program := "ytimgkjlhahapnab", sum := "49f55f893ecac6c816d1d48b2723290232c407b7ed266b4378fc59a0ca6ce230", func := "loop.example/structuredjumps/laws.FnLeastReached", spec := "fnLeastReached", inPlace := ["internal/bytealg.IndexByteString", "internal/bytealg.IndexString", "internal/abi.NoEscape"], unfollowed := true, recurses := true, named := ["internal/bytealg.MaxLen"], apart := false, narrowed := true }
def FnLeastReachedUptoSaid : Prop := fnLeastReachedUptoRow.holds Try.pinned (OpenSpec.upto fnLeastReachedSpec)

/-- 'laws.FnWayTo', WHERE WHAT IT READS IS OF BULK AT MOST 1048576: true; the input reads as it did. -/
def fnWayToUptoRow : OpenClaim := { program := "ytimgkjlhahapnab", sum := "49f55f893ecac6c816d1d48b2723290232c407b7ed266b4378fc59a0ca6ce230", func := "loop.example/structuredjumps/laws.FnWayTo", spec := "fnWayTo", inPlace := ["internal/bytealg.IndexByteString", "internal/bytealg.IndexString", "internal/abi.NoEscape"], unfollowed := true, recurses := true, named := ["internal/bytealg.MaxLen"], apart := false, narrowed := true }
def FnWayToUptoSaid : Prop := fnWayToUptoRow.holds Try.pinned (OpenSpec.upto fnWayToSpec)

/-- 'laws.FnStops', WHERE WHAT IT READS IS OF BULK AT MOST 1048576: true; the input reads as it did. -/
def fnStopsUptoRow : OpenClaim := { program := "ytimgkjlhahapnab", sum := "49f55f893ecac6c816d1d48b2723290232c407b7ed266b4378fc59a0ca6ce230", func := "loop.example/structuredjumps/laws.FnStops", spec := "fnStops", inPlace := ["internal/bytealg.IndexByteString", "internal/bytealg.IndexString", "internal/abi.NoEscape"], unfollowed := true, recurses := true, named := ["internal/bytealg.MaxLen"], apart := false, narrowed := true }
def FnStopsUptoSaid : Prop := fnStopsUptoRow.holds Try.pinned (OpenSpec.upto fnStopsSpec)

/-- 'laws.FnRunOn', WHERE WHAT IT READS IS OF BULK AT MOST 1048576: true; the input reads as it did. -/
def fnRunOnUptoRow : OpenClaim := { program := "ytimgkjlhahapnab", sum := "49f55f893ecac6c816d1d48b2723290232c407b7ed266b4378fc59a0ca6ce230", func := "loop.example/structuredjumps/laws.FnRunOn", spec := "fnRunOn", inPlace := ["internal/bytealg.IndexByteString", "internal/bytealg.IndexString"], unfollowed := true, recurses := true, named := ["internal/bytealg.MaxLen"], apart := false, narrowed := true }
def FnRunOnUptoSaid : Prop := fnRunOnUptoRow.holds Try.pinned (OpenSpec.upto fnRunOnSpec)

/-- 'laws.FnPruneRuns', WHERE WHAT IT READS IS OF BULK AT MOST 1048576: true; the input reads as it did. -/
def fnPruneRunsUptoRow : OpenClaim := { program := "ytimgkjlhahapnab", sum := "49f55f893ecac6c816d1d48b2723290232c407b7ed266b4378fc59a0ca6ce230", func := "loop.example/structuredjumps/laws.FnPruneRuns", spec := "fnPruneRuns", inPlace := ["internal/bytealg.IndexByteString", "internal/bytealg.IndexString"], unfollowed := true, recurses := true, named := ["internal/bytealg.MaxLen"], apart := false, narrowed := true }
def FnPruneRunsUptoSaid : Prop := fnPruneRunsUptoRow.holds Try.pinned (OpenSpec.upto fnPruneRunsSpec)

/-- 'laws.FnWayReached', WHERE WHAT IT READS IS OF BULK AT MOST 1048576: true; the input reads as it did. -/
def fnWayReachedUptoRow : OpenClaim := { program := "ytimgkjlhahapnab", sum := "49f55f893ecac6c816d1d48b2723290232c407b7ed266b4378fc59a0ca6ce230", func := "loop.example/structuredjumps/laws.FnWayReached", spec := "fnWayReached", inPlace := ["internal/bytealg.IndexByteString", "internal/bytealg.IndexString", "internal/abi.NoEscape"], unfollowed := true, recurses := true, named := ["internal/bytealg.MaxLen"], apart := false, narrowed := true }
def FnWayReachedUptoSaid : Prop := fnWayReachedUptoRow.holds Try.pinned (OpenSpec.upto fnWayReachedSpec)

/-- 'laws.FnStopsFirst', WHERE WHAT IT READS IS OF BULK AT MOST 1048576: true; the input reads as it did. -/
def fnStopsFirstUptoRow : OpenClaim := { program := "ytimgkjlhahapnab", sum := "49f55f893ecac6c816d1d48b2723290232c407b7ed266b4378fc59a0ca6ce230", func := "loop.example/structuredjumps/laws.FnStopsFirst", spec := "fnStopsFirst", inPlace := ["internal/bytealg.IndexByteString", "internal/bytealg.IndexString", "internal/abi.NoEscape"], unfollowed := true, recurses := true, named := ["internal/bytealg.MaxLen"], apart := false, narrowed := true }
def FnStopsFirstUptoSaid : Prop := fnStopsFirstUptoRow.holds Try.pinned (OpenSpec.upto fnStopsFirstSpec)

/-- 'laws.FnIsTrace', WHERE WHAT IT READS IS OF BULK AT MOST 1048576: true; the input reads as it did. -/
def fnIsTraceUptoRow : OpenClaim := { program := "ytimgkjlhahapnab", sum := "49f55f893ecac6c816d1d48b2723290232c407b7ed266b4378fc59a0ca6ce230", func := "loop.example/structuredjumps/laws.FnIsTrace", spec := "fnIsTrace", inPlace := ["internal/bytealg.IndexByteString", "internal/bytealg.IndexString", "internal/abi.NoEscape"], unfollowed := true, recurses := true, named := ["internal/bytealg.MaxLen"], apart := false, narrowed := true }
def FnIsTraceUptoSaid : Prop := fnIsTraceUptoRow.holds Try.pinned (OpenSpec.upto fnIsTraceSpec)

/-- 'laws.FnLeftOver', WHERE WHAT IT READS IS OF BULK AT MOST 1048576: true; the input reads as it did. -/
def fnLeftOverUptoRow : OpenClaim := { program := "ytimgkjlhahapnab", sum := "49f55f893ecac6c816d1d48b2723290232c407b7ed266b4378fc59a0ca6ce230", func := "loop.example/structuredjumps/laws.FnLeftOver", spec := "fnLeftOver", inPlace := ["internal/bytealg.IndexByteString", "internal/bytealg.IndexString"], unfollowed := true, recurses := true, named := ["internal/bytealg.MaxLen"], apart := false, narrowed := true }
def FnLeftOverUptoSaid : Prop := fnLeftOverUptoRow.holds Try.pinned (OpenSpec.upto fnLeftOverSpec)

end Rows
end Go.Proofs.Ytimgkjlhahapnab
